/- Walks of the chapter's own order: Add, Up, Down, below, covers, Covers. -/
import Derived.Test.YtaikhdmgcffflaaDoorWi
import Derived.Test.YtaikhdmgcffflaaDoorPf
import Derived.Maps.AppendAt
namespace Go.Proofs.YtaikhdmgcffflaaDoor
open Go Go.RowKit Go.Shelf

theorem info31 : (Tryd.prog.info? 41).map (fun i => (i.zero, i.size, i.bytes)) = some (some (.agg #[.int .i64 0, .int .i64 0]), 2, 16) := by kernel_rfl

/-- What is told of the chapter's order and what was said. -/
structure Fine (n : Nat) (L : List (Nat × Nat)) : Prop where
  pos : 1 ≤ n
  le16 : n ≤ 16
  mem : ∀ p ∈ L, p.1 < n ∧ p.2 < n
  len : L.length ≤ 1000
theorem Fine.good {n : Nat} {L : List (Nat × Nat)} (f : Fine n L) : Good n (ofL L) := ⟨f.pos, f.le16, fun _ _ h => (f.mem _ ((tb_ofL _ _ _).1 h)).1⟩

theorem refAtMost_any (base b n : Nat) (v : Value) (L : List (Nat × Nat)) (x y : Nat) (w : World) (h : Ref w base b n v L) (f : Fine n L) (hx : x < n) (hy : y < n) :
    Calls Tryd.prog 58 #[.pointer (some ⟨b, 0, none⟩), .int .i64 x, .int .i64 y] w fun e w' => e = .returned (.bool (le (ofL L) x y)) ∧ Below w.heap.size w w' :=
  refAtMost_yes base b n v L x y w h f.pos f.le16 f.mem f.len hx hy

/-- A row of numbers that grows. -/
theorem nv_filter_succ {p : Nat → Bool} {k : Nat} : nv ((List.range (k + 1)).filter p) = nv ((List.range k).filter p) ++ if p k then [.int .i64 (k : Nat)] else [] := by
  rw [List.range_succ, List.filter_append]
  cases h : p k <;> simp [nv, h]
theorem filter_len_succ {p : Nat → Bool} {k : Nat} : ((List.range (k + 1)).filter p).length = ((List.range k).filter p).length + if p k then 1 else 0 := by
  rw [List.range_succ, List.filter_append]
  cases h : p k <;> simp [h]
theorem filter_len_le {p : Nat → Bool} (k : Nat) : ((List.range k).filter p).length ≤ k := by
  have := List.length_filter_le p (List.range k)
  simpa using this
theorem filter_out {n : Nat} {p : Nat → Bool} (h : ∀ b, b < n → p b = false) : (List.range n).filter p = [] := by
  rw [List.filter_eq_nil_iff]
  intro b hb
  rw [h b (List.mem_range.1 hb)]
  simp

theorem own_grown {w W w2 : World} {base size n : Nat} {e : TypeId} {v : Value} {xs : List Value} {o : Obj} (hB : Below base w W) (hbase : base ≤ W.heap.size) (hown : W.ownsRow base e size v n xs) (hgrow : (W.alloc o).grownBy w2 v.ownBlock) : Below base w w2 := by
  refine (hB.alloc hbase o).grown hgrow (by simp; omega) (fun j ej => ?_)
  rcases hown.2 with ⟨rfl, _⟩ | ⟨g, cap, cur, rfl, hb, _⟩
  · cases ej
  · have ej' : some g = some j := ej
    injection ej' with ej'
    omega

set_option maxHeartbeats 1000000 in
theorem refDown_yes (base b n : Nat) (v : Value) (L : List (Nat × Nat)) (a : Nat) (w : World) (h : Ref w base b n v L) (f : Fine n L) (ha : a < n) :
    Calls Tryd.prog 61 #[.pointer (some ⟨b, 0, none⟩), .int .i64 a] w (NsPost (dnL n (ofL L) a) w) := by
  have hn := f.le16
  have hlt := h.lt
  have hm := h.many
  have HH := Lib.hid h
  clear h
  obtain ⟨i0, hi, hz0, hz1, hz2⟩ := info_parts info3
  go_enter Tryd.func61, Tryd.ntmps61
  go_wp2_with fail
  go_loopw [5, 6] (fun u i wr => ∃ k : Nat, k ≤ n ∧ i = .int .i64 k ∧ wr.ownsRow w.heap.size 3 1 u ((List.range k).filter fun c => le (ofL L) c a).length (nv ((List.range k).filter fun c => le (ofL L) c a)) ∧ Below w.heap.size w wr) (fun _ i _ => n - (intOf i).toNat)
  case atStart => exact ⟨0, Nat.zero_le _, rfl, World.ownsRow_nil _ _ _ _, Below.refl _ _⟩
  case round =>
    obtain ⟨k, hk, rfl, hown, hB⟩ := hrel
    have hm' := (hB.cell (p := ⟨b, 0, none⟩) hlt).trans hm
    have hfl := filter_len_le (p := fun c => le (ofL L) c a) k
    have HN := Lib.hid (nv_filter_succ (p := fun c => le (ofL L) c a) (k := k))
    have HLn := Lib.hid (filter_len_succ (p := fun c => le (ofL L) c a) (k := k))
    by_cases hkn : k < n
    · go_wp2_with fail
      refine (refAtMost_any base b n v L k a wr (HH.out.below (hB.mono (Nat.le_refl _))) f hkn ha).mono ?_
      cases hle : le (ofL L) k a with
      | true =>
        rintro e w1 ⟨rfl, hb1⟩
        have hown1 := hown.kept (grownBy_below hb1 none) (Classical.em _)
        have hB1 := hB.trans (hb1.mono hB.size)
        clear hown hB hb1 hm'
        go_wp2_with (at_builtin; refine wpList_append_own _ rfl _ _ 48 rfl w.heap.size 3 i0 (.int .i64 0) 1 8 Tryd.underlying48 hi hz0 hz1 hz2 rfl (by decide) _ _ _ rfl (hown1.alloc _) ⟨w1.heap.size, 0, none⟩ 1 1 [.int .i64 k] rfl rfl (cell_one_new _ _ _) (by simp [Value.oneCell']) (by unfold maxLen; omega) (by omega) (by have := hB1.size; simp; omega) ?_; intro v' w2 hown' hgrow _)
        go_roundw
        case rel =>
          refine ⟨k + 1, by omega, by go_num, ?_, ?_⟩
          · rw [HN.out, HLn.out]
            simpa [hle] using hown'
          · exact own_grown hB1 hB1.size hown1 hgrow
        case measure => simp [intOf]; omega
      | false =>
        rintro e w1 ⟨rfl, hb1⟩
        have hown1 := hown.kept (grownBy_below hb1 none) (Classical.em _)
        have hB1 := hB.trans (hb1.mono hB.size)
        clear hown hB hb1 hm'
        go_wp2_with fail
        go_roundw
        case rel =>
          refine ⟨k + 1, by omega, by go_num, ?_, hB1⟩
          rw [HN.out, HLn.out]
          simpa [hle] using hown1
        case measure => simp [intOf]; omega
    · obtain rfl : k = n := by omega
      go_wp2_with fail
      go_ret
      exact ⟨_, rfl, Ns.own hown, hB⟩
theorem refDown_no (b n : Nat) (a : Int) (w : World) (hm : w.cell? ⟨b, 0, none⟩ = some (.int .i64 n)) (hn : n ≤ 16) (ha : ¬ (0 ≤ a ∧ a < n)) :
    Calls Tryd.prog 61 #[.pointer (some ⟨b, 0, none⟩), .int .i64 a] w fun e w' => e = .returned (.slice none 0 0) ∧ w = w' := by
  go_enter Tryd.func61, Tryd.ntmps61
  go_wp2_with fail
  go_loop [5, 6] (fun u i => ∃ k : Nat, k ≤ n ∧ i = .int .i64 k ∧ u = .slice none 0 0) (fun _ i => n - (intOf i).toNat)
  case atStart => exact ⟨0, Nat.zero_le _, rfl, rfl⟩
  case round =>
    obtain ⟨k, hk, rfl, rfl⟩ := hrel
    by_cases hkn : k < n
    · go_wp2_with fail
      refine (refAtMost_no b n k a w hm (.inr ha)).mono ?_
      rintro e w' ⟨rfl, rfl⟩
      go_wp2_with fail
      go_round
      case rel => exact ⟨k + 1, by omega, by go_num, rfl⟩
      case measure => simp [intOf]; omega
    · obtain rfl : k = n := by omega
      go_wp2_with fail
      go_ret
      exact ⟨rfl, rfl⟩

/-- Lies below. -/
def lt_ (A : Nat → Nat) (a b : Nat) : Bool := a != b && le A a b
theorem covN {n : Nat} {A : Nat → Nat} {a b : Nat} : cov n A a b = (((List.range n).all fun c => !(lt_ A a c && lt_ A c b)) && lt_ A a b) := by
  unfold cov lt_
  rw [Bool.and_comm]
theorem cov_no {n : Nat} {A : Nat → Nat} {a b c : Nat} (hc : c < n) (h1 : lt_ A a c = true) (h2 : lt_ A c b = true) : cov n A a b = false := by
  rw [covN, Bool.and_eq_false_iff]
  refine .inl ?_
  rw [List.all_eq_false]
  exact ⟨c, List.mem_range.2 hc, by simp [h1, h2]⟩
theorem cov_yes {n : Nat} {A : Nat → Nat} {a b : Nat} (h : ∀ c, c < n → (lt_ A a c && lt_ A c b) = false) : cov n A a b = lt_ A a b := by
  rw [covN]
  have : ((List.range n).all fun c => !(lt_ A a c && lt_ A c b)) = true := by
    rw [List.all_eq_true]
    intro c hc
    rw [h c (List.mem_range.1 hc)]
    rfl
  rw [this, Bool.true_and]
end Go.Proofs.YtaikhdmgcffflaaDoor
