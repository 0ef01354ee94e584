/- The chapter's examples: works. -/
import Derived.Test.YtajkbkllgbalkaaUt
namespace Go.Proofs.Ytajkbkllgbalkaa
open Go Go.RowKit

theorem psIn_bare {D : Nat} {w : World} {p : Psh} (hl : p.lines = []) (ht : p.text.length ≤ 1000000000) : PsIn D w p none 0 0 := ⟨by rw [hl]; rfl, by rw [hl]; exact Ts.empty _ _, by rw [hl]; exact Nat.zero_le _, (fun s h => by rw [hl] at h; cases h), ht⟩
theorem rb_lit (w : World) (b : Bs) (vs : Array Value) (h : vs = (Lib.byteCells b).toArray) : Rb (w.alloc (.cells vs 5)).heap.size (w.alloc (.cells vs 5)) (some ⟨w.heap.size, 0, none⟩) b.length b := by
  subst h
  refine ⟨Nat.le_refl _, (fun e => by cases e), fun i hi => ⟨w.heap.size, 0, rfl, by simp, ?_⟩⟩
  rw [Nat.zero_add, (box_new w 5 (Lib.byteCells b).toArray).cell]
  unfold Lib.byteCells
  simp [hi]
theorem wpList_pushK {ops : Array Oper} {rest : List Oper} {o : Oper} {a : Act} {Q : Exit → Act → World → Prop} (hgd : o.guard = none) (s x : Operand)
    (ho : o.op = .call { callee := .builtin .append, args := #[s, x], argTypes := #[22, 22] }) (w : World) (base : Nat) (v : Value) (ws : List (List UInt8)) (y : ByteArray)
    (hs : a.eval s = v) (hown : Own w base v ws) (hx : a.eval x = .slice (some ⟨w.heap.size, 0, none⟩) 1 1) (hbase : base ≤ w.heap.size) (hlen : ws.length ≤ 1000000000)
    (h : ∀ v' w', Own w' base v' (ws ++ [y.data.toList]) → w.heap.size ≤ w'.heap.size → (w'.os = w.os ∧ w'.tape = w.tape ∧ w'.output = w.output) → (∀ k, k < w.heap.size → v.ownBlock ≠ some k → w'.heap[k]? = w.heap[k]?) → wpList Try.prog ops Q rest (a.put o.dst v') w') :
    wpList Try.prog ops Q (o :: rest) a (w.alloc (.cells #[.string y] 9)) := by
  obtain ⟨i0, hi, hz0, hz1, hz2⟩ := info_parts info9
  refine wpList_append_own _ hgd s x 22 ho base 9 i0 (.string ⟨#[]⟩) 1 16 Try.underlying22 hi hz0 hz1 hz2 rfl (by decide) v ws.length (ws.map strV) hs (World.ownsRow.alloc hown _)
    ⟨w.heap.size, 0, none⟩ 1 1 [.string y] hx rfl ?_ ?_ (by unfold maxLen; omega) (by omega) (by simp; omega) ?_
  · intro j u hj
    match j, hj with
    | 0, hj => simp at hj; subst hj; simp [Addr.add]
    | j + 1, hj => simp at hj
  · intro u hu; simp at hu; subst hu; rfl
  · intro v' w' ho' hg _
    refine h v' w' ?_ ?_ ⟨hg.os, hg.tape, hg.output⟩ fun k hk hne => ?_
    · unfold Own; rw [List.map_append, List.length_append, List.map_cons, strV_data]; exact ho'
    · have := hg.size; simp at this; omega
    · exact (hg.block k (by simp; omega) (Ne.symm hne)).trans (heap_alloc_old w _ hk)
theorem Own.sliceN {w : World} {base : Nat} {v : Value} {l : List Bs} (h : Own w base v l) (n : Nat) (hn : l.length = n) : ∃ A c, v = .slice A n c := by
  obtain ⟨A, c, e⟩ := h.slice
  exact ⟨A, c, by rw [e, hn]⟩
theorem psIn_empty {w w' : World} {base n c : Nat} {A : Option Addr} {l : List Bs} {p : Psh} (h : Own w base (.slice A n c) l) (hl : p.lines = l) (ht : p.text.length ≤ 1000000000) (h0 : l = [] := by rfl) : PsIn w'.heap.size w' p A n c := by
  obtain ⟨A', c', e, ts⟩ := h.ts
  cases e
  subst h0
  rw [show ([] : List Bs).length = 0 from rfl]
  exact ⟨by rw [hl]; rfl, by rw [hl]; exact ⟨ts.cap, ts.nil, fun i hi => by simp at hi⟩, by rw [hl]; exact Nat.zero_le _, (fun s h => by rw [hl] at h; cases h), ht⟩
theorem Own.notBox {w : World} {base b : Nat} {v : Value} {l : List Bs} {vs : Array Value} (h : Own w base v l) (hb : Box w b 24 vs) : v.ownBlock ≠ some b := by
  rcases h.2 with ⟨rfl, h0⟩ | ⟨g, cap, cur, rfl, h2, h3, _⟩
  · simp [Value.ownBlock]
  · intro e
    have e : g = b := by simpa [Value.ownBlock] using e
    subst e
    have e2 := h3.symm.trans hb
    have e3 : 9 = 24 := by
      have := Option.some.inj e2
      injection this
    exact absurd e3 (by decide)
theorem Own.setBox {w : World} {base b j : Nat} {v x : Value} {l : List Bs} {vs : Array Value} (h : Own w base v l) (hb : Box w b 24 vs) : Own (w.setCell ⟨b, j, none⟩ x) base v l :=
  World.ownsRow.kept (row := some b) h ⟨rfl, rfl, rfl, by simp [World.setCell], fun k _ hne => Below.heap_setCell _ _ _ _ fun e => hne (by rw [e])⟩ (.inr (h.notBox hb))
theorem Box.setOther {w : World} {b g j : Nat} {x : Value} {t : TypeId} {vs : Array Value} (h : Box w g t vs) (hne : g ≠ b) : Box (w.setCell ⟨b, j, none⟩ x) g t vs := (Below.heap_setCell _ _ _ _ hne).trans h
def exP1 : Psh := ⟨3, 3, 0, 0, 258, 0, 0, [], []⟩
def exP2 : Psh := ⟨4, 2, 0, 1, 0, 0, 0, [], []⟩
theorem is_1 (w : World) : Calls Try.prog 53 #[.agg #[.int .i64 3, .int .i64 3, .int .i64 0, .int .i64 0, .int .i64 258, .int .i64 0, .int .i64 0, .string { data := #[] }, .slice none 0 0], .slice (some ⟨w.heap.size, 0, none⟩) 15 15] (w.alloc (.cells #[.int .u8 3, .int .u8 0, .int .u8 0, .int .u8 0, .int .u8 0, .int .u8 0, .int .u8 0, .int .u8 3, .int .u8 0, .int .u8 0, .int .u8 0, .int .u8 0, .int .u8 0, .int .u8 1, .int .u8 2] 5)) (TellsP true (w.alloc (.cells #[.int .u8 3, .int .u8 0, .int .u8 0, .int .u8 0, .int .u8 0, .int .u8 0, .int .u8 0, .int .u8 3, .int .u8 0, .int .u8 0, .int .u8 0, .int .u8 0, .int .u8 0, .int .u8 1, .int .u8 2] 5))) := by
  have hc : checkP exP1 = true := by kernel_rfl
  have hb : bytesP exP1 = [3, 0, 0, 0, 0, 0, 0, 3, 0, 0, 0, 0, 0, 1, 2] := by kernel_rfl
  exact is_yes (p := exP1) (b := [3, 0, 0, 0, 0, 0, 0, 3, 0, 0, 0, 0, 0, 1, 2]) (psIn_bare rfl (by decide)) (rb_lit w [3, 0, 0, 0, 0, 0, 0, 3, 0, 0, 0, 0, 0, 1, 2] _ rfl) rfl (by decide) hc hb (by rw [← hb]; exact parse_bytes hc)
theorem is_2 (w : World) : Calls Try.prog 53 #[.agg #[.int .i64 4, .int .i64 2, .int .i64 0, .int .i64 1, .int .i64 0, .int .i64 0, .int .i64 0, .string { data := #[] }, .slice none 0 0], .slice (some ⟨w.heap.size, 0, none⟩) 15 15] (w.alloc (.cells #[.int .u8 4, .int .u8 0, .int .u8 0, .int .u8 0, .int .u8 0, .int .u8 0, .int .u8 0, .int .u8 2, .int .u8 0, .int .u8 0, .int .u8 0, .int .u8 0, .int .u8 0, .int .u8 0, .int .u8 1] 5)) (TellsP true (w.alloc (.cells #[.int .u8 4, .int .u8 0, .int .u8 0, .int .u8 0, .int .u8 0, .int .u8 0, .int .u8 0, .int .u8 2, .int .u8 0, .int .u8 0, .int .u8 0, .int .u8 0, .int .u8 0, .int .u8 0, .int .u8 1] 5))) := by
  have hc : checkP exP2 = true := by kernel_rfl
  have hb : bytesP exP2 = [4, 0, 0, 0, 0, 0, 0, 2, 0, 0, 0, 0, 0, 0, 1] := by kernel_rfl
  exact is_yes (p := exP2) (b := [4, 0, 0, 0, 0, 0, 0, 2, 0, 0, 0, 0, 0, 0, 1]) (psIn_bare rfl (by decide)) (rb_lit w [4, 0, 0, 0, 0, 0, 0, 2, 0, 0, 0, 0, 0, 0, 1] _ rfl) rfl (by decide) hc hb (by rw [← hb]; exact parse_bytes hc)
theorem fails_6 (w : World) : Calls Try.prog 30 #[.int .i64 4, .slice (some ⟨w.heap.size, 0, none⟩) 1 1] (w.alloc (.cells #[.int .u8 6] 5)) (TellsP true (w.alloc (.cells #[.int .u8 6] 5))) :=
  fails_yes (b := [6]) (rb_lit w [6] _ rfl) rfl (by decide) (by kernel_rfl)
theorem fails_30 (w : World) : Calls Try.prog 30 #[.int .i64 3, .slice (some ⟨w.heap.size, 0, none⟩) 2 2] (w.alloc (.cells #[.int .u8 3, .int .u8 0] 5)) (TellsP true (w.alloc (.cells #[.int .u8 3, .int .u8 0] 5))) :=
  fails_yes (b := [3, 0]) (rb_lit w [3, 0] _ rfl) rfl (by decide) (by kernel_rfl)
theorem check_3 (w : World) : Calls Try.prog 15 #[.agg #[.int .i64 4, .int .i64 0, .int .i64 0, .int .i64 0, .int .i64 1, .int .i64 0, .int .i64 0, .string { data := #[] }, .slice none 0 0]] w fun e w' => e = .returned (.int .i64 2) ∧ Below w.heap.size w w' := by
  have hc : checkP ⟨4, 0, 0, 0, 1, 0, 0, [], []⟩ = false := by kernel_rfl
  have := check_any (D := w.heap.size) (w := w) (p := ⟨4, 0, 0, 0, 1, 0, 0, [], []⟩) (psIn_bare rfl (by decide)) (Nat.le_refl _)
  rw [hc] at this
  exact this
def exD1 : Psh := ⟨2, 2, 1, 0, 0, 1, 1, [], [[120]]⟩
def exD2 : Psh := ⟨2, 2, 1, 0, 0, 1, 0, [], []⟩
def exD3 : Psh := ⟨2, 2, 1, 0, 0, 1, 1, [], [[120], [121]]⟩
def exD4 : Psh := ⟨2, 2, 1, 0, 0, 3, 0, [], []⟩
theorem diff_1 (w : World) : Calls Try.prog 25 #[.string { data := #[97, 10, 98, 10, 99] }, .string { data := #[97, 10, 120, 10, 99] }] w (ParP (exD1, 0) w) := by
  have h : diffP [97, 10, 98, 10, 99] [97, 10, 120, 10, 99] = (exD1, 0) := by kernel_rfl
  rw [← h]
  exact diff_prog _ _ w (by decide) (by decide)
theorem diff_2 (w : World) : Calls Try.prog 25 #[.string { data := #[97, 10, 97] }, .string { data := #[97] }] w (ParP (exD2, 0) w) := by
  have h : diffP [97, 10, 97] [97] = (exD2, 0) := by kernel_rfl
  rw [← h]
  exact diff_prog _ _ w (by decide) (by decide)
theorem apply_1 {w : World} {B : Option Addr} {n d : Nat} (hp : PsIn w.heap.size w exD3 B n d) : Calls Try.prog 27 #[.string { data := #[97, 10, 98, 10, 99] }, .agg (pshA exD3 B n d)] w (AppP ([97, 10, 120, 10, 121, 10, 99, 10], 0) w) := by
  have h : applyP [97, 10, 98, 10, 99] exD3 = ([97, 10, 120, 10, 121, 10, 99, 10], 0) := by kernel_rfl
  rw [← h]
  exact apply_prog _ w (by decide) hp
theorem apply_2 {w : World} {B : Option Addr} {n d : Nat} (hp : PsIn w.heap.size w exD4 B n d) : Calls Try.prog 27 #[.string { data := #[97, 10, 97] }, .agg (pshA exD4 B n d)] w (AppP ([], 2) w) := by
  have h : applyP [97, 10, 97] exD4 = ([], 2) := by kernel_rfl
  rw [← h]
  exact apply_prog _ w (by decide) hp
set_option maxRecDepth 100000 in
set_option maxHeartbeats 400000 in
theorem works_any (w : World) : Calls Try.prog 21 #[] w (TellsP true w) := by
  have C1 := Lib.hid is_1
  have C2 := Lib.hid is_2
  have C3 := Lib.hid fails_6
  have C4 := Lib.hid fails_30
  have C5 := Lib.hid check_3
  have D1 := Lib.hid diff_1
  have D2 := Lib.hid diff_2
  unfold TellsP at *
  unfold ParP at D1 D2
  dsimp only at D1 D2
  go_enter Try.func21, Try.ntmps21
  go_wp2_with fail
  refine (C1.out _).mono ?_
  rintro E w1 ⟨rfl, hb1⟩
  have B1 := Lib.hid ((below_new w _).trans (hb1.mono (below_new w _).size))
  clear hb1 C1
  go_wp2_with fail
  refine (C2.out _).mono ?_
  rintro E w2 ⟨rfl, hb2⟩
  have B2 := Lib.hid (below_then B1.out (below_then (below_new w1 _) hb2))
  clear hb2 C2
  go_wp2_with fail
  refine (C5.out _).mono ?_
  rintro E w3 ⟨rfl, hb3⟩
  have B3 := Lib.hid (below_then B2.out hb3)
  clear hb3 C5
  go_wp2_with fail
  refine (C3.out _).mono ?_
  rintro E w4 ⟨rfl, hb4⟩
  have B4 := Lib.hid (below_then B3.out (below_then (below_new w3 _) hb4))
  clear hb4 C3
  go_wp2_with fail
  refine (C4.out _).mono ?_
  rintro E w5 ⟨rfl, hb5⟩
  have B5 := Lib.hid (below_then B4.out (below_then (below_new w4 _) hb5))
  clear hb5 C4 B1 B2 B3 B4
  go_wp2_with fail
  refine (D1.out _).mono ?_
  rintro E w6 ⟨A6, n6, c6, rfl, ho6, hb6⟩
  have O6 := Lib.hid ho6
  have B6 := Lib.hid (below_then B5.out hb6)
  have S6 := Lib.hid hb6.size
  clear ho6 hb6 D1
  go_upto_region 6 with (refine wpList_store_row rfl 24 (.tmp 1) (.tmp 34) rfl w6.heap.size (pshA exD1 A6 n6 c6) rfl rfl 24 _ (heap_alloc_new w6 _) pshInfo rfl (pshA_one _ _ _ _) ?_; rw [World.setRow_alloc_new])
  have BA := below_new w6 (.cells (pshA exD1 A6 n6 c6) 24)
  have X7 := Lib.hid (box_new w6 24 (pshA exD1 A6 n6 c6))
  have O7 := Lib.hid (O6.out.below BA)
  have B7 := Lib.hid (below_then B6.out BA)
  clear BA O6 B6
  generalize w6.alloc (.cells (pshA exD1 A6 n6 c6) 24) = w7 at *
  go_wp2_with fail
  refine (D2.out _).mono ?_
  rintro E w8 ⟨A8, n8, c8, rfl, ho8, hb8⟩
  have O8 := Lib.hid ho8
  have X8 := Lib.hid (X7.out.below hb8)
  have Q8 := Lib.hid (O7.out.below hb8)
  have B8 := Lib.hid (below_then B7.out hb8)
  have S8 := Lib.hid hb8.size
  have L7 := Lib.hid X7.out.lt
  clear ho8 hb8 D2 O7 B7 X7
  go_upto_region 7 with (refine wpList_store_row rfl 24 (.tmp 3) (.tmp 38) rfl w8.heap.size (pshA exD2 A8 n8 c8) rfl rfl 24 _ (heap_alloc_new w8 _) pshInfo rfl (pshA_one _ _ _ _) ?_; rw [World.setRow_alloc_new])
  have BA := below_new w8 (.cells (pshA exD2 A8 n8 c8) 24)
  have XB := Lib.hid (box_new w8 24 (pshA exD2 A8 n8 c8))
  have XA := Lib.hid (X8.out.below BA)
  have QA := Lib.hid (Q8.out.below BA)
  have QB := Lib.hid (O8.out.below BA)
  have B9 := Lib.hid (below_then B8.out BA)
  have HG : Hid (w6.heap.size ≠ w8.heap.size ∧ w6.heap.size < (w8.alloc (.cells (pshA exD2 A8 n8 c8) 24)).heap.size ∧ w8.heap.size < (w8.alloc (.cells (pshA exD2 A8 n8 c8) 24)).heap.size) := Lib.hid ⟨by have := L7.out; have := S8.out; omega, XA.out.lt, XB.out.lt⟩
  have H5 : Hid (w5.heap.size ≤ (w8.alloc (.cells (pshA exD2 A8 n8 c8) 24)).heap.size ∧ w.heap.size ≤ w5.heap.size ∧ w.heap.size ≤ w6.heap.size ∧ w.heap.size ≤ w8.heap.size ∧ w.heap.size ≤ w7.heap.size) := Lib.hid ⟨by have := S6.out; have := HG.out.2.1; omega, B5.out.size, Nat.le_trans B5.out.size S6.out, B8.out.size, by have := L7.out; have := S6.out; have := B5.out.size; omega⟩
  clear BA X8 Q8 O8 B8 B5
  generalize w8.alloc (.cells (pshA exD2 A8 n8 c8) 24) = w9 at *
  generalize w6.heap.size = g1 at *
  generalize w8.heap.size = g3 at *
  generalize w5.heap.size = base at *
  generalize w7.heap.size = base2 at *
  have d1 : w9.cell? ⟨g1, 8, none⟩ = some (.slice A6 n6 c6) := XA.out.cell 8
  have f1 := XA.out.frozen 8
  go_upto_region 8 with (at_builtin; refine wpList_pushK rfl (.tmp 41) (.tmp 42) rfl w9 base _ exD1.lines _ rfl QA.out rfl H5.out.1 (by decide) ?_; intro v2 w10 ho10 hs10 hm10 hk10; obtain ⟨AA, cc, rfl⟩ := ho10.sliceN 2 rfl; have O10 : Hid (Own w10 base (.slice AA 2 cc) exD3.lines) := Lib.hid ho10; have X10 := Lib.hid (show Box w10 g1 _ _ from (hk10 g1 HG.out.2.1 (QA.out.notBox XA.out)).trans XA.out); have Y10 := Lib.hid (show Box w10 g3 _ _ from (hk10 g3 HG.out.2.2 (QA.out.notBox XB.out)).trans XB.out); have f10 := X10.out.frozen 8; have d10 : w10.cell? ⟨g1, 8, none⟩ = some (.slice A6 n6 c6) := X10.out.cell 8; have M10 := Lib.hid (And.intro hs10 (And.intro hm10 hk10)); clear ho10 hs10 hm10 hk10)
  have XA1 : Hid (Box (w10.setCell ⟨g1, 8, none⟩ (.slice AA 2 cc)) g1 24 (pshA exD3 AA 2 cc)) := Lib.hid (X10.out.set 8 _)
  have XB1 : Hid (Box (w10.setCell ⟨g1, 8, none⟩ (.slice AA 2 cc)) g3 24 (pshA exD2 A8 n8 c8)) := Lib.hid (Y10.out.setOther (Ne.symm HG.out.1))
  have O11 := Lib.hid (O10.out.setBox (j := 8) (x := .slice AA 2 cc) X10.out)
  have S11 : Hid (w9.heap.size ≤ (w10.setCell ⟨g1, 8, none⟩ (.slice AA 2 cc)).heap.size) := Lib.hid (by rw [show (w10.setCell ⟨g1, 8, none⟩ (.slice AA 2 cc)).heap.size = w10.heap.size by simp [World.setCell]]; exact M10.out.1)
  have B11 : Hid (Below w.heap.size w (w10.setCell ⟨g1, 8, none⟩ (.slice AA 2 cc))) := Lib.hid (by
    obtain ⟨h1, ⟨h2, h3, h4⟩, h5⟩ := M10.out
    have hb : Below w.heap.size w9 w10 := ⟨h2, h3, h4, h1, fun k hk => h5 k (by have := B9.out.size; omega) (fun e => by have := (World.ownsRow.lt QA.out k e).1; have := H5.out.2.1; omega)⟩
    exact B9.out.trans (hb.trans ((Below.refl _ _).setCell (p := ⟨g1, 8, none⟩) H5.out.2.2.1 _)))
  have QB10 : Hid (∀ w', PsIn w'.heap.size w' exD4 A8 n8 c8) := Lib.hid fun w' => psIn_empty QB.out rfl (by decide)
  clear X10 Y10 O10 M10 XA XB QA f10 d10 d1 f1 B9
  generalize w10.setCell ⟨g1, 8, none⟩ (.slice AA 2 cc) = w11 at *
  have CA1 := Lib.hid (apply_1 (pIn O11.out ⟨by decide, by decide, by decide⟩))
  unfold AppP at CA1
  dsimp only at CA1
  go_upto_region 9 with (first
    | (refine wpList_load_row rfl 24 (.tmp 1) rfl g1 rfl 24 _ (0, 0) _ XA1.out Try.underlying24 rfl pshInfo ?_)
    | (go_at_call 27; refine CA1.out.mono ?_; rintro E w12 ⟨rfl, hb12⟩; have XA2 := Lib.hid (XA1.out.below hb12); have XB2 := Lib.hid (XB1.out.below hb12); have O12 := Lib.hid (O11.out.below hb12); have B12 := Lib.hid (B11.out.trans (hb12.mono B11.out.size)); clear hb12))
  have f12 := XB2.out.frozen 5
  have d12 : w12.cell? ⟨g3, 5, none⟩ = some (.int .i64 1) := XB2.out.cell 5
  go_upto_region 10 with fail
  have XB3 : Hid (Box (w12.setCell ⟨g3, 5, none⟩ (.int .i64 3)) g3 24 (pshA exD4 A8 n8 c8)) := Lib.hid (XB2.out.set 5 _)
  have XA3 : Hid (Box (w12.setCell ⟨g3, 5, none⟩ (.int .i64 3)) g1 24 (pshA exD3 AA 2 cc)) := Lib.hid (XA2.out.setOther HG.out.1)
  have O13 := Lib.hid (O12.out.setBox (j := 5) (x := .int .i64 3) XB2.out)
  have B13 : Hid (Below w.heap.size w (w12.setCell ⟨g3, 5, none⟩ (.int .i64 3))) := Lib.hid (B12.out.trans ((Below.refl _ _).setCell (p := ⟨g3, 5, none⟩) H5.out.2.2.2.1 _))
  clear XA2 XB2 O12 B12 XA1 XB1 O11 B11 d12 f12
  generalize w12.setCell ⟨g3, 5, none⟩ (.int .i64 3) = w13 at *
  have CA2 := Lib.hid (apply_2 (w := w13) (B := A8) (n := n8) (d := c8) (QB10.out _))
  unfold AppP at CA2
  dsimp only at CA2
  go_upto_region 11 with (first
    | (refine wpList_load_row rfl 24 (.tmp 3) rfl g3 rfl 24 _ (0, 0) _ XB3.out Try.underlying24 rfl pshInfo ?_)
    | (go_at_call 27; refine CA2.out.mono ?_; rintro E w14 ⟨rfl, hb14⟩; have XA4 := Lib.hid (XA3.out.below hb14); have XB4 := Lib.hid (XB3.out.below hb14); have O14 := Lib.hid (O13.out.below hb14); have B14 := Lib.hid (B13.out.trans (hb14.mono B13.out.size)); clear hb14))
  obtain ⟨AZ, cZ, eZ, tsZ⟩ := O14.out.ts
  have eZ : Value.slice AA 2 cc = .slice AZ 2 cZ := eZ
  obtain ⟨b0, o0, rfl, _, hc0⟩ := tsZ.rd 0 (by decide)
  cases eZ
  have hcap : 2 ≤ cc := tsZ.cap
  have hc0 : w14.cell? ⟨b0, o0, none⟩ = some (.string { data := #[120] }) := hc0
  have hn8 : n8 = 0 := (QB10.out w14).len
  subst hn8
  have d5 : w14.cell? ⟨g1, 5, none⟩ = some (.int .i64 1) := XA4.out.cell 5
  have d6 : w14.cell? ⟨g1, 6, none⟩ = some (.int .i64 1) := XA4.out.cell 6
  have d8 : w14.cell? ⟨g1, 8, none⟩ = some (.slice (some ⟨b0, o0, none⟩) 2 cc) := XA4.out.cell 8
  have e6 : w14.cell? ⟨g3, 6, none⟩ = some (.int .i64 0) := XB4.out.cell 6
  have e8 : w14.cell? ⟨g3, 8, none⟩ = some (.slice A8 0 c8) := XB4.out.cell 8
  clear XA4 XB4 O14 tsZ QB QB10 HG H5
  go_wp2_with fail
  go_ret
  exact ⟨rfl, B14.out⟩
end Go.Proofs.Ytajkbkllgbalkaa
