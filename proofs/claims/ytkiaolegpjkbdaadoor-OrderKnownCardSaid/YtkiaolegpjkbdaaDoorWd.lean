/- Walks of AtMost, Add, Copy, up and all. -/
import Derived.Test.YtkiaolegpjkbdaaDoorWc
import Derived.Test.YtkiaolegpjkbdaaDoorPc
namespace Go.Proofs.YtkiaolegpjkbdaaDoor
open Go Go.RowKit

theorem has_yes (b n : Nat) (A : Nat → Nat) (a : Nat) (w : World) (h : IsOrd w b n A) (ha : a < n) : Calls Tryd.prog 24 #[.pointer (some ⟨b, 0, none⟩), .int .i64 a] w fun e w' => e = .returned (.bool true) ∧ w = w' :=
  (has_any b n A a w h).mono fun _ _ ⟨he, hw⟩ => ⟨he.trans (ret_bool (by simp; omega)), hw⟩
theorem has_out (b n : Nat) (A : Nat → Nat) (a : Int) (w : World) (h : IsOrd w b n A) (ha : ¬ (0 ≤ a ∧ a < n)) : Calls Tryd.prog 24 #[.pointer (some ⟨b, 0, none⟩), .int .i64 a] w fun e w' => e = .returned (.bool false) ∧ w = w' :=
  (has_any b n A a w h).mono fun _ _ ⟨he, hw⟩ => ⟨he.trans (ret_bool (by simpa using ha)), hw⟩

theorem atMost_yes (b n : Nat) (A : Nat → Nat) (g : Good n A) (x y : Nat) (w : World) (hT : Tab w) (h : IsOrd w b n A) (hx : x < n) (hy : y < n) :
    Calls Tryd.prog 19 #[.pointer (some ⟨b, 0, none⟩), .int .i64 x, .int .i64 y] w fun e w' => e = .returned (.bool (le A x y)) ∧ Below w.heap.size w w' := by
  have hn := g.le16
  have ht := test_pw (clo_lt g.small (b := y) (by omega)) (x := x) (by omega)
  have HT := Lib.hid ht
  clear ht
  go_enter Tryd.func19, Tryd.ntmps19
  go_wp2_with (first
    | (go_at_call 24; refine (has_yes b n A _ _ h (by omega)).mono ?_; rintro e w' ⟨rfl, rfl⟩)
    | (go_at_call 36; refine (down_any b n A g.small y (by omega) _ hT h).mono ?_; rintro e w1 ⟨rfl, hb⟩)
    | (go_at_call 25; refine (only_any x (by omega) _).mono ?_; rintro e w' ⟨rfl, rfl⟩))
  go_ret
  exact ⟨ret_bool HT.out, hb⟩
theorem atMost_out (b n : Nat) (A : Nat → Nat) (x y : Int) (w : World) (h : IsOrd w b n A) (ho : ¬ (0 ≤ x ∧ x < n) ∨ ¬ (0 ≤ y ∧ y < n)) :
    Calls Tryd.prog 19 #[.pointer (some ⟨b, 0, none⟩), .int .i64 x, .int .i64 y] w fun e w' => e = .returned (.bool false) ∧ w = w' := by
  by_cases hx : 0 ≤ x ∧ x < n
  · have hy : ¬ (0 ≤ y ∧ y < n) := by rcases ho with ho | ho; exact absurd hx ho; exact ho
    obtain ⟨k, rfl⟩ : ∃ k : Nat, x = k := ⟨x.toNat, by omega⟩
    have hk : k < n := by omega
    clear hx ho
    go_enter Tryd.func19, Tryd.ntmps19
    go_wp2_with fail
    refine (has_yes b n A _ _ h hk).mono ?_
    rintro e w' ⟨rfl, rfl⟩
    go_wp2_with fail
    refine (has_out b n A _ _ h hy).mono ?_
    rintro e w' ⟨rfl, rfl⟩
    go_wp2_with fail
    go_ret
    exact ⟨rfl, rfl⟩
  · go_enter Tryd.func19, Tryd.ntmps19
    go_wp2_with fail
    refine (has_out b n A _ _ h hx).mono ?_
    rintro e w' ⟨rfl, rfl⟩
    go_wp2_with fail
    go_ret
    exact ⟨rfl, rfl⟩

theorem IsOrd.set {w : World} {b n : Nat} {A : Nat → Nat} (h : IsOrd w b n A) {i : Nat} (v : Nat) : IsOrd (w.setCell ⟨b, 1 + i, none⟩ (.int .u16 (v : Nat))) b n (fun j => if j = i then v else A j) := by
  obtain ⟨hlt, hk⟩ := Array.getElem?_eq_some_iff.1 h
  show (w.heap.modify b _)[b]? = _
  rw [Array.getElem?_eq_getElem (by rw [Array.size_modify]; exact hlt), Array.getElem_modify_self, hk]
  congr 1
  simp only [Option.isSome_none, Bool.false_eq_true, if_false]
  congr 1
  unfold ocells
  apply Array.ext
  · simp
  · intro j h1 h2
    simp only [List.setIfInBounds_toArray, List.getElem_toArray, List.getElem_set]
    cases j with
    | zero => simp
    | succ j =>
      simp only [List.getElem_cons_succ, List.getElem_map, List.getElem_range]
      by_cases e : j = i
      · subst e; simp [Nat.add_comm]
      · rw [if_neg (by omega), if_neg e]

theorem grownBy_below {w w' : World} (h : Below w.heap.size w w') (r : Option Nat) : w.grownBy w' r := ⟨h.os, h.tape, h.output, h.size, fun k hk _ => h.block k hk⟩

/-- What Add leaves of a pair that may be taken. -/
def AddPost (b n : Nat) (A : Nat → Nat) (l h : Nat) (w : World) (e : Ending) (w' : World) : Prop := e = .returned (.int .i64 0) ∧ w.grownBy w' (some b) ∧ IsOrd w' b n (upd A h l)

theorem upd_eq (A : Nat → Nat) (h l : Nat) : upd A h l = fun j => if j = h then A h ||| pw l else A j := by
  funext j
  unfold upd
  split
  · rename_i e; subst e; rfl
  · rfl
theorem add_end {b n : Nat} {A : Nat → Nat} {x y : Nat} {w w1 : World} (hA : A y < 65536) (hx : x < 16) (hb : Below w.heap.size w w1) (h1 : IsOrd w1 b n A) :
    AddPost b n A x y w (.returned (.int .i64 0)) (w1.setCell ⟨b, 1 + y, none⟩ (.int .u16 (bits BinOp.or IntKind.u16 (A y : Nat) (pw x : Nat)))).drew := by
  have k := World.grownBy.trans_set (W := w) (V := w1) (b := b) ⟨hb.os, hb.tape, hb.output, hb.size, fun k hk _ => hb.block k hk⟩ (.int .u16 (bits BinOp.or IntKind.u16 (A y : Nat) (pw x : Nat))) (1 + y)
  refine ⟨rfl, ⟨k.os, k.tape, k.output, k.size, k.block⟩, ?_⟩
  rw [upd_eq, or_pw hA hx]
  exact h1.set _
set_option maxHeartbeats 1000000 in
theorem add_ok (b n : Nat) (A : Nat → Nat) (g : Good n A) (x y : Nat) (w : World) (hT : Tab w) (h : IsOrd w b n A) (hx : x < n) (hy : y < n) (hl : le A y x = false) :
    Calls Tryd.prog 12 #[.pointer (some ⟨b, 0, none⟩), .int .i64 x, .int .i64 y] w (AddPost b n A x y w) := by
  have hn := g.le16
  have hp := g.pos
  have hz : ((n : Int) == 0) = false := by rw [beq_eq_false_iff_ne]; omega
  go_enter Tryd.func12, Tryd.ntmps12
  go_wp2_with (first
    | (go_at_call 18; refine (many_any b n A _ h).mono ?_; rintro e w' ⟨rfl, rfl⟩)
    | (go_at_call 24; refine (has_yes b n A _ _ h (by omega)).mono ?_; rintro e w' ⟨rfl, rfl⟩)
    | (go_at_call 19; refine (atMost_yes b n A g y x _ hT h hy hx).mono ?_; rw [hl]; rintro e w1 ⟨rfl, hb⟩))
  have h1 := h.below hb h.lt
  have hc := h1.at (i := y) (by omega)
  have hf := h1.free (1 + y)
  have hy1 : ((y : Int)).toNat = y := by omega
  go_region_with (go_at_call 25; refine (only_any x (by omega) _).mono ?_; rintro e w' ⟨rfl, rfl⟩)
  all_goals
    go_wp2_with fail
    go_ret
    exact add_end (g.small y) (by omega) hb h1
theorem add_cycle (b n : Nat) (A : Nat → Nat) (g : Good n A) (x y : Nat) (w : World) (hT : Tab w) (h : IsOrd w b n A) (hx : x < n) (hy : y < n) (hl : le A y x = true) :
    Calls Tryd.prog 12 #[.pointer (some ⟨b, 0, none⟩), .int .i64 x, .int .i64 y] w fun e w' => e = .returned (.int .i64 20) ∧ Below w.heap.size w w' := by
  have hn := g.le16
  have hp := g.pos
  have hz : ((n : Int) == 0) = false := by rw [beq_eq_false_iff_ne]; omega
  go_enter Tryd.func12, Tryd.ntmps12
  go_wp2_with (first
    | (go_at_call 18; refine (many_any b n A _ h).mono ?_; rintro e w' ⟨rfl, rfl⟩)
    | (go_at_call 24; refine (has_yes b n A _ _ h (by omega)).mono ?_; rintro e w' ⟨rfl, rfl⟩)
    | (go_at_call 19; refine (atMost_yes b n A g y x _ hT h hy hx).mono ?_; rw [hl]; rintro e w1 ⟨rfl, hb⟩))
  go_ret
  exact ⟨rfl, hb⟩
theorem add_range (b n : Nat) (A : Nat → Nat) (x y : Int) (w : World) (hp : 1 ≤ n) (h : IsOrd w b n A) (ho : ¬ (0 ≤ x ∧ x < n) ∨ ¬ (0 ≤ y ∧ y < n)) :
    Calls Tryd.prog 12 #[.pointer (some ⟨b, 0, none⟩), .int .i64 x, .int .i64 y] w fun e w' => e = .returned (.int .i64 9) ∧ w = w' := by
  have hz : ((n : Int) == 0) = false := by rw [beq_eq_false_iff_ne]; omega
  by_cases hx : 0 ≤ x ∧ x < n
  · have hy : ¬ (0 ≤ y ∧ y < n) := by rcases ho with ho | ho; exact absurd hx ho; exact ho
    obtain ⟨k, rfl⟩ : ∃ k : Nat, x = k := ⟨x.toNat, by omega⟩
    have hk : k < n := by omega
    clear hx ho
    go_enter Tryd.func12, Tryd.ntmps12
    go_wp2_with (go_at_call 18; refine (many_any b n A _ h).mono ?_; rintro e w' ⟨rfl, rfl⟩)
    refine (has_yes b n A _ _ h hk).mono ?_
    rintro e w' ⟨rfl, rfl⟩
    go_wp2_with fail
    refine (has_out b n A _ _ h hy).mono ?_
    rintro e w' ⟨rfl, rfl⟩
    go_wp2_with fail
    go_ret
    exact ⟨rfl, rfl⟩
  · go_enter Tryd.func12, Tryd.ntmps12
    go_wp2_with (go_at_call 18; refine (many_any b n A _ h).mono ?_; rintro e w' ⟨rfl, rfl⟩)
    refine (has_out b n A _ _ h hx).mono ?_
    rintro e w' ⟨rfl, rfl⟩
    go_wp2_with fail
    go_ret
    exact ⟨rfl, rfl⟩

theorem copy_any (b n : Nat) (A : Nat → Nat) (w : World) (hp : 1 ≤ n) (h : IsOrd w b n A) :
    Calls Tryd.prog 15 #[.pointer (some ⟨b, 0, none⟩)] w fun e w' => e = .returned (.pointer (some ⟨w.heap.size, 0, none⟩)) ∧ w' = w.alloc (.cells (ocells n A) 51) := by
  have hz : ((n : Int) == 0) = false := by rw [beq_eq_false_iff_ne]; omega
  have h0 := h.many
  have c0 := h.at (i := 0) (by omega); have c1 := h.at (i := 1) (by omega); have c2 := h.at (i := 2) (by omega); have c3 := h.at (i := 3) (by omega)
  have c4 := h.at (i := 4) (by omega); have c5 := h.at (i := 5) (by omega); have c6 := h.at (i := 6) (by omega); have c7 := h.at (i := 7) (by omega)
  have c8 := h.at (i := 8) (by omega); have c9 := h.at (i := 9) (by omega); have c10 := h.at (i := 10) (by omega); have c11 := h.at (i := 11) (by omega)
  have c12 := h.at (i := 12) (by omega); have c13 := h.at (i := 13) (by omega); have c14 := h.at (i := 14) (by omega); have c15 := h.at (i := 15) (by omega)
  simp only [Nat.reduceAdd] at c0 c1 c2 c3 c4 c5 c6 c7 c8 c9 c10 c11 c12 c13 c14 c15
  go_enter Tryd.func15, Tryd.ntmps15
  go_wp2_with (go_at_call 18; refine (many_any b n A _ h).mono ?_; rintro e w' ⟨rfl, rfl⟩)
  go_ret
  exact ⟨rfl, rfl⟩

theorem up_any (b n : Nat) (A : Nat → Nat) (g : Good n A) (a : Nat) (ha : a < n) (w : World) (hT : Tab w) (h : IsOrd w b n A) :
    Calls Tryd.prog 37 #[.pointer (some ⟨b, 0, none⟩), .int .i64 a] w fun e w' => e = .returned (.int .u16 (upS A a n : Nat)) ∧ Below w.heap.size w w' := by
  have hn := g.le16
  have HT := Lib.hid hT
  have HO := Lib.hid h
  go_enter Tryd.func37, Tryd.ntmps37
  go_wp2_with (go_at_call 18; refine (many_any b n A _ h).mono ?_; rintro e w' ⟨rfl, rfl⟩)
  clear hT h
  go_loopw [5, 9] (fun s i wr => ∃ k : Nat, k ≤ n ∧ i = .int .i64 k ∧ s = .int .u16 (upS A a k : Nat) ∧ Below w.heap.size w wr) (fun _ i _ => n - (intOf i).toNat)
  case atStart => exact ⟨0, Nat.zero_le _, rfl, rfl, Below.refl _ _⟩
  case round =>
    obtain ⟨k, hk, rfl, rfl, hb⟩ := hrel
    by_cases hlt : k < n
    · have ht := test_pw (clo_lt g.small (b := k) (by omega)) (x := a) (by omega)
      have hlt' := HO.out.lt
      have T1 := HT.out.below hb HT.out.lt
      have O1 := HO.out.below hb hlt'
      have hu := upS_lt A a k (by omega)
      have HU := Lib.hid (upS_succ A a k)
      have HOr := Lib.hid (or_pw hu (x := k) (by omega))
      cases hl : le A a k with
      | true =>
        rw [show (clo A k).testBit a = true from hl] at ht
        have HL := Lib.hid hl
        clear hl
        go_wp2_with (first
          | (go_at_call 36; refine (down_any b n A g.small k (by omega) _ T1 O1).mono ?_; rintro e w1 ⟨rfl, hb1⟩)
          | (go_at_call 25; refine (only_any _ (by omega) _).mono ?_; rintro e w' ⟨rfl, rfl⟩))
        go_roundw
        case rel => exact ⟨k + 1, by omega, by go_num, by rw [HU.out, if_pos HL.out, HOr.out]; rfl, hb.trans (hb1.mono hb.size)⟩
        case measure => simp [intOf]; omega
      | false =>
        rw [show (clo A k).testBit a = false from hl] at ht
        have HL := Lib.hid hl
        clear hl
        go_wp2_with (first
          | (go_at_call 36; refine (down_any b n A g.small k (by omega) _ T1 O1).mono ?_; rintro e w1 ⟨rfl, hb1⟩)
          | (go_at_call 25; refine (only_any _ (by omega) _).mono ?_; rintro e w' ⟨rfl, rfl⟩))
        go_roundw
        case rel => exact ⟨k + 1, by omega, by go_num, by rw [HU.out, if_neg (by rw [HL.out]; simp)], hb.trans (hb1.mono hb.size)⟩
        case measure => simp [intOf]; omega
    · obtain rfl : k = n := by omega
      go_wp2_with fail
      go_ret
      exact ⟨rfl, hb⟩

theorem all_any (b n : Nat) (A : Nat → Nat) (hn : n ≤ 16) (w : World) (h : IsOrd w b n A) :
    Calls Tryd.prog 39 #[.pointer (some ⟨b, 0, none⟩)] w fun e w' => e = .returned (.int .u16 (allS n : Nat)) ∧ w = w' := by
  go_enter Tryd.func39, Tryd.ntmps39
  go_wp2_with (go_at_call 18; refine (many_any b n A _ h).mono ?_; rintro e w' ⟨rfl, rfl⟩)
  clear h
  go_loop [3, 7] (fun s i => ∃ k : Nat, k ≤ n ∧ i = .int .i64 k ∧ s = .int .u16 (allS k : Nat)) (fun _ i => n - (intOf i).toNat)
  case atStart => exact ⟨0, Nat.zero_le _, rfl, rfl⟩
  case round =>
    obtain ⟨k, hk, rfl, rfl⟩ := hrel
    by_cases hlt : k < n
    · have HU := Lib.hid (allS_succ k)
      have HOr := Lib.hid (or_pw (allS_lt k (by omega)) (x := k) (by omega))
      go_wp2_with (go_at_call 25; refine (only_any _ (by omega) _).mono ?_; rintro e w' ⟨rfl, rfl⟩)
      go_round
      case rel => exact ⟨k + 1, by omega, by go_num, by rw [HU.out, HOr.out]; rfl⟩
      case measure => simp [intOf]; omega
    · obtain rfl : k = n := by omega
      go_wp2_with fail
      go_ret
      exact ⟨rfl, rfl⟩
end Go.Proofs.YtkiaolegpjkbdaaDoor
