/- A loop over an iterator that keeps what is left in a box of its own (strings.SplitSeq): the loop's law, what the iterator hands out, for every text. -/
import Derived.Test.YtiakbmllpnabnaaGreatDoorGa
import Derived.RangeFuncNested
import Derived.RangeFuncBound
import Derived.RangeFuncCalls
import Derived.RangeFuncLeaves
import Derived.Shelf.Abstract
import Derived.Shelf.RegionOpen
import Derived.OwnWalkIn
import Derived.TacticsInMore
import Derived.LoopNIn
import Derived.LoopIn
namespace Go.Proofs.YtiakbmllpnabnaaGreatDoor
open Go Go.RowKit Go.Shelf
attribute [local go_sem] Oper.semAt_some

/-- What an iterator with a box b tells a loop that lets it write that box between two rounds, and else keeps what lay ahead of the loop. -/
def SeqBox {α : Type} (n : Nat) (P : Program) (gf : Nat) (lb : Array Value) (encs : α → Array Value) (ok : α → Prop) (b : Nat) (S Sp : List α → Prop) (w : World) : Prop :=
  ∀ (l : Nat) (J Jx : List α → World → Prop) (W : World), Below w.heap.size w W → (∀ pre A v, J pre A → J pre (A.setCell ⟨b, 0, none⟩ v)) →
    (∀ pre x A, ok x → J pre A → YieldAt Fence.wide (n - 1) P l (encs x) A fun e A' => (e = .returned (.bool true) ∧ J (pre ++ [x]) A' ∧ Below w.heap.size A A') ∨ (e = .returned (.bool false) ∧ Jx (pre ++ [x]) A')) →
    J [] W →
    CallsIn Fence.wide n P gf (#[.func (.yield l) #[] #[]] ++ lb) W fun e A => (∃ v, e = .returned v) ∧ ((∃ xs, S xs ∧ J xs A) ∨ (∃ pre, Sp pre ∧ Jx pre A))

/-- How a round's body may be left. -/
def boxPost (B : Nat) (G Gx : World → Prop) (p q : Prop) (W : World) : Exit → Act → World → Prop
  | .normal, _, W' => KeepsFrom B W W' ∧ Below B W W' ∧ G W' ∧ p
  | .ret, _, W' => KeepsFrom B W W' ∧ Gx W' ∧ q
  | _, _, _ => False

theorem range_box {n : Nat} {P : Program} {g : Operand} {ps : Array Tmp} {assign body : Code} {Q : Exit → Act → World → Prop} {a : Act} {w : World} {α : Type}
    (h1 : 1 ≤ n) {gf b : Nat} {lb : Array Value} (hg : a.eval g = .func (.func gf) #[] lb) (eg : ∀ args w, (callFunc gf args).run P w = .ok (.enter gf args) w) (hbw : b < w.heap.size)
    {encs : α → Array Value} (hps : ∀ x, (encs x).size = ps.size) {S Sp : List α → Prop} {ok : α → Prop} (hseq : SeqBox (n - 1) P gf lb encs ok b S Sp w)
    (G Gx : World → Prop) (hGa : ∀ W o, G W → G (W.alloc o)) (hGp : ∀ (W : World) (l : Nat) (o o' : Obj), w.heap.size ≤ l → W.heap[l]? = some o → o.isCells = false → o.isWalk = false → G W → G (W.putObj l o'))
    (hGs : ∀ W v, G W → G (W.setCell ⟨b, 0, none⟩ v)) (hGxp : ∀ (W : World) (l : Nat) (o o' : Obj), w.heap.size ≤ l → W.heap[l]? = some o → o.isCells = false → o.isWalk = false → Gx W → Gx (W.putObj l o'))
    (hG0 : G w) (p q : List α → Prop) (hp0 : p []) (a₁ : α → Act)
    (hassign : ∀ (l : Nat) (x : α) (W : World) (K : Act → World → Prop), K (a₁ x) W →
      assign.wpIn (Fence.wide.inRound l) (n - 1 - 1) P (Exit.then K (fun _ _ _ => False)) { tmps := (ps.zip (encs x)).foldl (fun t (k, v) => t.setIfInBounds k v) a.tmps, defers := [] } W)
    (hbody : ∀ (l : Nat) (pre : List α) (x : α) (W : World), ok x → G W → p pre → body.wpIn (Fence.wide.inRound l) (n - 1 - 1) P (boxPost w.heap.size G Gx (p (pre ++ [x])) (q (pre ++ [x])) W) (a₁ x) W)
    (hdone : ∀ (D : Nat) (xs : List α) (W : World), w.heap.size ≤ D → S xs → p xs → G W → W.heap[D]? = some (.deferred (some [])) → Q .normal { a with defers := { target := .collected D, args := #[] } :: a.defers } W)
    (hstop : ∀ (D : Nat) (pre : List α) (W : World), w.heap.size ≤ D → Sp pre → q pre → Gx W → W.heap[D]? = some (.deferred (some [])) → Code.ret.wpIn Fence.wide n P Q { a with defers := { target := .collected D, args := #[] } :: a.defers } W) :
    (Code.rangeFunc g ps assign body).wpIn Fence.wide n P Q a w := by
  refine wpIn_rangeFunc fun fn hfn => ?_
  -- the record of the loop, in each of its states
  obtain ⟨rc, hrc⟩ : ∃ rc : LoopState → Option Code → Loop, rc = fun st pe => { state := st, pending := pe, fn, tmps := a.tmps, params := ps, assign, body, defers := w.heap.size } := ⟨_, rfl⟩
  obtain ⟨V, hV⟩ : ∃ V, (w.alloc (.deferred (some []))).alloc (.loop (rc .ready none)) = V := ⟨_, rfl⟩
  have bV : Below w.heap.size w V := by rw [← hV]; exact ((Below.refl _ w).alloc (Nat.le_refl _) _).alloc (by simp) _
  have gV : G V := by rw [← hV]; exact hGa _ _ (hGa _ _ hG0)
  have lV : V.heap[w.heap.size + 1]? = some (.loop (rc .ready none)) := by
    have := World.alloc_heap_new (w.alloc (.deferred (some []))) (.loop (rc .ready none))
    rw [World.size_alloc, hV] at this
    exact this
  have dV : V.heap[w.heap.size]? = some (.deferred (some [])) := by
    rw [← hV]; exact (Below.heap_alloc _ _ _ (by simp)).trans (World.alloc_heap_new w _)
  refine ⟨w.heap.size + 1, [{ target := .collected w.heap.size, args := #[] }], V, { target := .fn (.func gf) lb, args := #[.func (.yield (w.heap.size + 1)) #[] #[]] }, V, gf,
    #[.func (.yield (w.heap.size + 1)) #[] #[]] ++ lb, V, by rw [← hV, hrc]; exact run_enterLoop_outer _ _ _ _ _, by simp only [resolve, hg]; simp [go_sem], fun _ _ => trivial, by simp [invoke, go_sem, eg], fun _ => h1, ?_⟩
  refine (hseq (w.heap.size + 1)
    (fun pre W => (G W ∧ p pre) ∧ W.heap[w.heap.size + 1]? = some (.loop (rc .ready none)) ∧ W.heap[w.heap.size]? = some (.deferred (some [])))
    (fun pre W => (Gx W ∧ q pre) ∧ W.heap[w.heap.size + 1]? = some (.loop (rc .done (some .ret))) ∧ W.heap[w.heap.size]? = some (.deferred (some []))) V bV ?own ?round ⟨⟨gV, hp0⟩, lV, dV⟩).mono ?behind
  case own =>
    rintro pre A v ⟨⟨hA, hp⟩, hl, hd⟩
    exact ⟨⟨hGs A v hA, hp⟩, (Below.heap_setCell _ _ _ _ (by simp; omega)).trans hl, (Below.heap_setCell _ _ _ _ (by simp; omega)).trans hd⟩
  case round =>
    rintro pre x A hx ⟨⟨hA, hp⟩, hl, hd⟩
    have hy := run_yield (P := P) (args := encs x) hl (by rw [hrc]; exact hps x)
    rw [hrc] at hy
    obtain ⟨A1, hA1⟩ : ∃ A1, A.putObj (w.heap.size + 1) (.loop (rc .busy none)) = A1 := ⟨_, rfl⟩
    have hlt : w.heap.size + 1 < A.heap.size := (Array.getElem?_eq_some_iff.1 hl).1
    have l1 : A1.heap[w.heap.size + 1]? = some (.loop (rc .busy none)) := by rw [← hA1]; exact World.putObj_heap_same hlt
    have d1 : A1.heap[w.heap.size]? = some (.deferred (some [])) := by rw [← hA1]; exact (World.putObj_heap_other (by omega)).trans hd
    have b1 : Below w.heap.size A A1 := by rw [← hA1]; exact belowK_b (w := w) (Nat.le_refl _) A _ _ _ (by omega) hl rfl rfl
    refine ⟨fn, _, assign, body, hy, roundIn_of_wpIn hfn (hassign _ x A _ ⟨A1, ?_, ?_⟩)⟩
    · rw [← hA1]
      have := run_beginRound (P := P) hl (by rw [hrc])
      rw [hrc] at this ⊢
      exact this
    · refine wpIn_mono (hbody _ pre x A1 hx (by rw [← hA1]; exact hGp _ _ _ _ (by omega) hl rfl rfl hA) hp) ?_
      intro e _ A2 hpost
      -- the record behind the round
      have leave : ∀ jump : Option Code, KeepsFrom w.heap.size A1 A2 → ∃ A3, (Instr.endRound (w.heap.size + 1) jump).run P A2 = .ok (.bool jump.isNone) A3 ∧ A3 = A2.putObj (w.heap.size + 1) (.loop (rc (if jump.isNone then .ready else .done) jump)) ∧
          A2.heap[w.heap.size + 1]? = some (.loop (rc .busy none)) ∧ A3.heap[w.heap.size + 1]? = some (.loop (rc (if jump.isNone then .ready else .done) jump)) ∧ A3.heap[w.heap.size]? = some (.deferred (some [])) := by
        intro jump hk
        have l2 := hk.same _ _ (by omega) l1 rfl
        have d2 := hk.same _ _ (Nat.le_refl _) d1 rfl
        have hr := run_endRound (P := P) jump l2
        refine ⟨_, hr, by rw [hrc], l2, ?_, (World.putObj_heap_other (by omega)).trans d2⟩
        rw [World.putObj_heap_same (Array.getElem?_eq_some_iff.1 l2).1, hrc]
      match e, hpost with
      | .normal, ⟨hk, hb, hG, hp'⟩ =>
        obtain ⟨A3, hr, rfl, l2, l3, d3⟩ := leave none hk
        exact ⟨_, _, hr, .inl ⟨rfl, ⟨⟨hGp _ _ _ _ (by omega) l2 rfl rfl hG, hp'⟩, l3, d3⟩, (b1.trans hb).trans (belowK_b (w := w) (Nat.le_refl _) A2 _ _ _ (by omega) l2 rfl rfl)⟩⟩
      | .ret, ⟨hk, hG, hq⟩ =>
        obtain ⟨A3, hr, rfl, l2, l3, d3⟩ := leave (some .ret) hk
        exact ⟨_, _, hr, .inr ⟨rfl, ⟨hGxp _ _ _ _ (by omega) l2 rfl rfl hG, hq⟩, l3, d3⟩⟩
  case behind =>
    rintro e A ⟨⟨v, rfl⟩, ⟨xs, hS, ⟨hG, hp⟩, hl, hd⟩ | ⟨pre, hS, ⟨hG, hq⟩, hl, hd⟩⟩
    · have := run_endLoop (P := P) hl (by rw [hrc]; simp)
      rw [hrc] at this
      exact ⟨none, _, this, hdone _ xs _ (Nat.le_refl _) hS hp (hGp _ _ _ _ (by omega) hl rfl rfl hG) ((World.putObj_heap_other (by omega)).trans hd)⟩
    · have := run_endLoop (P := P) hl (by rw [hrc]; simp)
      rw [hrc] at this
      exact ⟨some .ret, _, this, hstop _ pre _ (Nat.le_refl _) hS hq (hGxp _ _ _ _ (by omega) hl rfl rfl hG) ((World.putObj_heap_other (by omega)).trans hd)⟩

/-! ### strings.SplitSeq at one byte -/
def leftIn (B : Nat) (w : World) : Nat := match w.cell? ⟨B, 0, none⟩ with
  | some (.string s) => s.size
  | _ => 0
theorem leftIn_box {B : Nat} {w : World} {t : TypeId} {s : ByteArray} (h : Boxed w B t (.string s)) : leftIn B w = s.size := by unfold leftIn; rw [h.cell]

/-- The iterator's boxes: what is left, the separator, how much of it is kept. -/
structure Bx (w : World) (B : Nat) (c : UInt8) (S : ByteArray) : Prop where
  s : Boxed w B 9 (.string S)
  p : Boxed w (B + 1) 9 (.string ⟨#[c]⟩)
  k : Boxed w (B + 2) 3 (.int .i64 0)
theorem Boxed.low {w w' : World} {B n : Nat} {t : TypeId} {v : Value} (h : Boxed w B t v) (hb : Below n w w') (hn : B < n) : Boxed w' B t v := (hb.block B hn).trans h
theorem Bx.below {w w' : World} {B n : Nat} {c : UInt8} {S : ByteArray} (h : Bx w B c S) (hb : Below n w w') (hn : B + 2 < n) : Bx w' B c S :=
  ⟨Boxed.low h.s hb (by omega), Boxed.low h.p hb (by omega), Boxed.low h.k hb (by omega)⟩
theorem Bx.set {w : World} {B : Nat} {c : UInt8} {S : ByteArray} (h : Bx w B c S) (R : ByteArray) : Bx (w.setCell ⟨B, 0, none⟩ (.string R)) B c R :=
  ⟨h.s.set _, (Below.heap_setCell _ _ _ _ (by simp)).trans h.p, (Below.heap_setCell _ _ _ _ (by simp)).trans h.k⟩

set_option maxHeartbeats 1000000 in
theorem split1_in (n : Nat) (hn : 1 ≤ n) (c : UInt8) (F : List UInt8 → List (List UInt8)) (hy : ∀ l, c ∈ l → F l = hdC c l :: F (tlC c l)) (hno : ∀ l, c ∉ l → F l = [l])
    (l B n₀ : Nat) (hB : B + 2 < n₀) (t : ByteArray) (ht : t.size ≤ 1000000) (J Jx : List (List UInt8) → World → Prop) (hJ : ∀ pre A v, J pre A → J pre (A.setCell ⟨B, 0, none⟩ v))
    (hY : ∀ pre x A, x.length ≤ 1000000 → J pre A → YieldAt Fence.wide (n - 1) Tryz.prog l #[.string ⟨x.toArray⟩] A fun e A' => (e = .returned (.bool true) ∧ J (pre ++ [x]) A' ∧ Below n₀ A A') ∨ (e = .returned (.bool false) ∧ Jx (pre ++ [x]) A'))
    (W : World) (hX : Bx W B c t) (h0 : J [] W) :
    CallsIn Fence.wide n Tryz.prog 130 #[.func (.yield l) #[] #[], .pointer (some ⟨B + 1, 0, none⟩), .pointer (some ⟨B, 0, none⟩), .pointer (some ⟨B + 2, 0, none⟩)] W fun e A => (∃ v, e = .returned v) ∧
      ((∃ xs, xs = F t.data.toList ∧ J xs A) ∨ (∃ pre, pre <+: F t.data.toList ∧ Jx pre A)) := by
  refine callsIn_of_wp Tryz.func130 rfl trivial ?_ rfl
  simp only [Tryz.ntmps130, List.size_toArray, List.length_cons, List.length_nil, Nat.reduceAdd, Nat.reduceSub, Array.replicate_succ, Array.replicate_zero, List.push_toArray, List.append_toArray, List.nil_append, List.cons_append]
  have hcp := hX.p.cell
  gi_wp2
  clear hcp
  gi_loopw [] (fun wr => ∃ (pre : List (List UInt8)) (S : ByteArray), F t.data.toList = pre ++ F S.data.toList ∧ S.size ≤ t.size ∧ Bx wr B c S ∧ J pre wr) (fun wr => leftIn B wr)
  case atStart => exact ⟨[], t, rfl, Nat.le_refl _, hX, h0⟩
  case round =>
    obtain ⟨pre, S, hx, hr, hb, hJs⟩ := hrel
    have cs := hb.s.cell
    have cp := hb.p.cell
    have ck := hb.k.cell
    have hf := hb.s.frozen
    have HX := Lib.hid hx
    clear hx
    by_cases hc : c ∈ S.data.toList
    · have HF := Lib.hid (hy _ hc)
      have hix := Lib.hid (indexByteC c S.data.toList)
      rw [if_pos hc] at hix
      have hlt := hdC_lt hc
      rw [← Lib.size_eq] at hlt
      obtain ⟨fn, tmps, assign, body, hyy, hR⟩ := hY pre (hdC c S.data.toList) wr (by omega) hJs
      have hp := hdC_piece c S
      have HT := Lib.hid (tlC_piece c S)
      rw [← hp] at hyy
      have HB := Lib.hid hb
      have HJ := Lib.hid hJs
      clear hp hb hJs hc
      obtain ⟨k, hk⟩ : ∃ k, k = (hdC c S.data.toList).length := ⟨_, rfl⟩
      rw [← hk] at hix hlt hyy HT
      have HK := Lib.hid hk
      clear hk
      have c1 : (0 : Int) ≤ ↑k := by omega
      have c2 : (↑k : Int) ≤ ↑S.size := by omega
      have c3 : (0 : Int) ≤ ↑k + 1 := by omega
      have c4 : (↑k + 1 : Int) ≤ ↑S.size := by omega
      gi_wp2_with (((try refine ⟨trivial, ?_⟩); gi_at_call 132; refine (callsIn_wide.2 (Tryz.strings_Index_one _ _ _)).mono ?_; rintro e w' ⟨rfl, rfl⟩; rw [hix.out]))
      refine hR.mono ?_
      rintro e W3 (⟨rfl, hJ3, hk3⟩ | ⟨rfl, hJx3⟩)
      · have B3 := HB.out.below hk3 hB
        have cs3 := B3.s.cell
        have cp3 := B3.p.cell
        have hf3 := B3.s.frozen
        gi_wp2
        go_roundw
        case rel =>
          refine ⟨pre ++ [hdC c S.data.toList], S.extract (k + 1) S.size, ?_, ?_, B3.set _, hJ _ _ _ hJ3⟩
          · rw [HX.out, HF.out, HT.out]; simp
          · rw [ByteArray.size_extract]; omega
        case measure =>
          rw [leftIn_box (B3.set (S.extract (k + 1) S.size)).s, leftIn_box HB.out.s, ByteArray.size_extract]
          omega
      · gi_wp2
        refine bodyPost_ret (results_none rfl _ _ _) rfl ?_
        exact ⟨⟨_, rfl⟩, .inr ⟨pre ++ [hdC c S.data.toList], ⟨F (tlC c S.data.toList), by rw [HX.out, HF.out]; simp⟩, hJx3⟩⟩
    · have HF := Lib.hid (hno _ hc)
      have hix := Lib.hid (indexByteC c S.data.toList)
      rw [if_neg hc] at hix
      obtain ⟨fn, tmps, assign, body, hyy, hR⟩ := hY pre S.data.toList wr (by rw [← Lib.size_eq]; omega) hJs
      rw [mk_data] at hyy
      clear hc hJs hb
      gi_wp2_with (((try refine ⟨trivial, ?_⟩); gi_at_call 132; refine (callsIn_wide.2 (Tryz.strings_Index_one _ _ _)).mono ?_; rintro e w' ⟨rfl, rfl⟩; rw [hix.out]))
      refine hR.mono ?_
      rintro e W3 (⟨rfl, hJ3, hk3⟩ | ⟨rfl, hJx3⟩)
      all_goals
        gi_wp2
        go_end0
      · exact ⟨⟨_, rfl⟩, .inl ⟨_, by rw [HX.out, HF.out], hJ3⟩⟩
      · exact ⟨⟨_, rfl⟩, .inr ⟨_, by rw [HX.out, HF.out]; exact List.prefix_refl _, hJx3⟩⟩
/-- strings.SplitSeq at one byte: the pieces. -/
theorem split_stops (n : Nat) (hn : 1 ≤ n) (c : UInt8) (F : List UInt8 → List (List UInt8)) (hy : ∀ l, c ∈ l → F l = hdC c l :: F (tlC c l)) (hno : ∀ l, c ∉ l → F l = [l])
    (B : Nat) (t : ByteArray) (ht : t.size ≤ 1000000) (w : World) (hB : B + 2 < w.heap.size) (hX : Bx w B c t) :
    SeqBox n Tryz.prog 130 #[.pointer (some ⟨B + 1, 0, none⟩), .pointer (some ⟨B, 0, none⟩), .pointer (some ⟨B + 2, 0, none⟩)] (fun x : List UInt8 => #[Value.string ⟨x.toArray⟩]) (fun x => x.length ≤ 1000000) B (fun xs => xs = F t.data.toList) (fun pre => pre <+: F t.data.toList) w :=
  fun l J Jx W hb hJ hY h0 => split1_in n hn c F hy hno l B w.heap.size hB t ht J Jx hJ hY W (hX.below hb hB) h0

theorem splitSeq_any (s : ByteArray) (c : UInt8) (w : World) : Calls Tryz.prog 94 #[.string s, .string ⟨#[c]⟩] w fun e w' =>
    e = .returned (.func (.func 130) #[] #[.pointer (some ⟨w.heap.size + 1, 0, none⟩), .pointer (some ⟨w.heap.size, 0, none⟩), .pointer (some ⟨w.heap.size + 2, 0, none⟩)]) ∧ Bx w' w.heap.size c s ∧ Below w.heap.size w w' ∧ w.heap.size + 2 < w'.heap.size := by
  have b0 := Boxed.new w 9 (.string s)
  have b1 := Boxed.new (w.alloc (.cells #[.string s] 9)) 9 (.string ⟨#[c]⟩)
  have b2 := Boxed.new ((w.alloc (.cells #[.string s] 9)).alloc (.cells #[.string ⟨#[c]⟩] 9)) 3 (.int .i64 0)
  simp only [World.size_alloc] at b1 b2
  have hX : Bx (((w.alloc (.cells #[.string s] 9)).alloc (.cells #[.string ⟨#[c]⟩] 9)).alloc (.cells #[.int .i64 0] 3)) w.heap.size c s := ⟨(b0.alloc _).alloc _, b1.alloc _, b2⟩
  have hb : Below w.heap.size w (((w.alloc (.cells #[.string s] 9)).alloc (.cells #[.string ⟨#[c]⟩] 9)).alloc (.cells #[.int .i64 0] 3)) := (((Below.refl _ w).alloc (Nat.le_refl _) _).alloc (by simp) _).alloc (by simp; omega) _
  have HX := Lib.hid hX
  have HB := Lib.hid hb
  clear b0 b1 b2 hX hb
  go_enter Tryz.func94, Tryz.ntmps94
  go_wp2
  go_ret
  exact ⟨rfl, HX.out, HB.out, by simp⟩
end Go.Proofs.YtiakbmllpnabnaaGreatDoor
