/- Walks of AtMost, Add, Copy, up and all. -/
import Derived.Test.YtaikhdmgcffflaaDoorWc
import Derived.Test.YtaikhdmgcffflaaDoorPc
namespace Go.Proofs.YtaikhdmgcffflaaDoor
open Go Go.RowKit

theorem has_yes (b n : Nat) (A : Nat → Nat) (a : Nat) (w : World) (h : IsOrd w b n A) (ha : a < n) : Calls Tryd.prog 70 #[.pointer (some ⟨b, 0, none⟩), .int .i64 a] w fun e w' => e = .returned (.bool true) ∧ w = w' :=
  (has_any b n A a w h).mono fun _ _ ⟨he, hw⟩ => ⟨he.trans (ret_bool (by simp; omega)), hw⟩
theorem has_out (b n : Nat) (A : Nat → Nat) (a : Int) (w : World) (h : IsOrd w b n A) (ha : ¬ (0 ≤ a ∧ a < n)) : Calls Tryd.prog 70 #[.pointer (some ⟨b, 0, none⟩), .int .i64 a] w fun e w' => e = .returned (.bool false) ∧ w = w' :=
  (has_any b n A a w h).mono fun _ _ ⟨he, hw⟩ => ⟨he.trans (ret_bool (by simpa using ha)), hw⟩

theorem atMost_yes (b n : Nat) (A : Nat → Nat) (g : Good n A) (x y : Nat) (w : World) (hT : Tab w) (h : IsOrd w b n A) (hx : x < n) (hy : y < n) :
    Calls Tryd.prog 71 #[.pointer (some ⟨b, 0, none⟩), .int .i64 x, .int .i64 y] w fun e w' => e = .returned (.bool (le A x y)) ∧ Below w.heap.size w w' := by
  have hn := g.le16
  have ht := test_pw (clo_lt g.small (b := y) (by omega)) (x := x) (by omega)
  have HT := Lib.hid ht
  clear ht
  go_enter Tryd.func71, Tryd.ntmps71
  go_wp2_with (first
    | (go_at_call 70; refine (has_yes b n A _ _ h (by omega)).mono ?_; rintro e w' ⟨rfl, rfl⟩)
    | (go_at_call 76; refine (down_any b n A g.small y (by omega) _ hT h).mono ?_; rintro e w1 ⟨rfl, hb⟩)
    | (go_at_call 72; refine (only_any x (by omega) _).mono ?_; rintro e w' ⟨rfl, rfl⟩))
  go_ret
  exact ⟨ret_bool HT.out, hb⟩
theorem atMost_out (b n : Nat) (A : Nat → Nat) (x y : Int) (w : World) (h : IsOrd w b n A) (ho : ¬ (0 ≤ x ∧ x < n) ∨ ¬ (0 ≤ y ∧ y < n)) :
    Calls Tryd.prog 71 #[.pointer (some ⟨b, 0, none⟩), .int .i64 x, .int .i64 y] w fun e w' => e = .returned (.bool false) ∧ w = w' := by
  by_cases hx : 0 ≤ x ∧ x < n
  · have hy : ¬ (0 ≤ y ∧ y < n) := by rcases ho with ho | ho; exact absurd hx ho; exact ho
    obtain ⟨k, rfl⟩ : ∃ k : Nat, x = k := ⟨x.toNat, by omega⟩
    have hk : k < n := by omega
    clear hx ho
    go_enter Tryd.func71, Tryd.ntmps71
    go_wp2_with fail
    refine (has_yes b n A _ _ h hk).mono ?_
    rintro e w' ⟨rfl, rfl⟩
    go_wp2_with fail
    refine (has_out b n A _ _ h hy).mono ?_
    rintro e w' ⟨rfl, rfl⟩
    go_wp2_with fail
    go_ret
    exact ⟨rfl, rfl⟩
  · go_enter Tryd.func71, Tryd.ntmps71
    go_wp2_with fail
    refine (has_out b n A _ _ h hx).mono ?_
    rintro e w' ⟨rfl, rfl⟩
    go_wp2_with fail
    go_ret
    exact ⟨rfl, rfl⟩

theorem IsOrd.set {w : World} {b n : Nat} {A : Nat → Nat} (h : IsOrd w b n A) {i : Nat} (v : Nat) : IsOrd (w.setCell ⟨b, 1 + i, none⟩ (.int .u16 (v : Nat))) b n (fun j => if j = i then v else A j) := by
  obtain ⟨hlt, hk⟩ := Array.getElem?_eq_some_iff.1 h
  show (w.heap.modify b _)[b]? = _
  rw [Array.getElem?_eq_getElem (by rw [Array.size_modify]; exact hlt), Array.getElem_modify_self, hk]
  congr 1
  simp only [Option.isSome_none, Bool.false_eq_true, if_false]
  congr 1
  unfold ocells
  apply Array.ext
  · simp
  · intro j h1 h2
    simp only [List.setIfInBounds_toArray, List.getElem_toArray, List.getElem_set]
    cases j with
    | zero => simp
    | succ j =>
      simp only [List.getElem_cons_succ, List.getElem_map, List.getElem_range]
      by_cases e : j = i
      · subst e; simp [Nat.add_comm]
      · rw [if_neg (by omega), if_neg e]

theorem grownBy_below {w w' : World} (h : Below w.heap.size w w') (r : Option Nat) : w.grownBy w' r := ⟨h.os, h.tape, h.output, h.size, fun k hk _ => h.block k hk⟩

/-- What Add leaves of a pair that may be taken. -/
def AddPost (b n : Nat) (A : Nat → Nat) (l h : Nat) (w : World) (e : Ending) (w' : World) : Prop := e = .returned (.int .i64 0) ∧ w.grownBy w' (some b) ∧ IsOrd w' b n (upd A h l)

theorem upd_eq (A : Nat → Nat) (h l : Nat) : upd A h l = fun j => if j = h then A h ||| pw l else A j := by
  funext j
  unfold upd
  split
  · rename_i e; subst e; rfl
  · rfl
theorem add_end {b n : Nat} {A : Nat → Nat} {x y : Nat} {w w1 : World} (hA : A y < 65536) (hx : x < 16) (hb : Below w.heap.size w w1) (h1 : IsOrd w1 b n A) :
    AddPost b n A x y w (.returned (.int .i64 0)) (w1.setCell ⟨b, 1 + y, none⟩ (.int .u16 (bits BinOp.or IntKind.u16 (A y : Nat) (pw x : Nat)))).drew := by
  have k := World.grownBy.trans_set (W := w) (V := w1) (b := b) ⟨hb.os, hb.tape, hb.output, hb.size, fun k hk _ => hb.block k hk⟩ (.int .u16 (bits BinOp.or IntKind.u16 (A y : Nat) (pw x : Nat))) (1 + y)
  refine ⟨rfl, ⟨k.os, k.tape, k.output, k.size, k.block⟩, ?_⟩
  rw [upd_eq, or_pw hA hx]
  exact h1.set _
set_option maxHeartbeats 1000000 in
theorem add_ok (b n : Nat) (A : Nat → Nat) (g : Good n A) (x y : Nat) (w : World) (hT : Tab w) (h : IsOrd w b n A) (hx : x < n) (hy : y < n) (hl : le A y x = false) :
    Calls Tryd.prog 53 #[.pointer (some ⟨b, 0, none⟩), .int .i64 x, .int .i64 y] w (AddPost b n A x y w) := by
  have hn := g.le16
  have hp := g.pos
  have hz : ((n : Int) == 0) = false := by rw [beq_eq_false_iff_ne]; omega
  go_enter Tryd.func53, Tryd.ntmps53
  go_wp2_with (first
    | (go_at_call 69; refine (many_any b n A _ h).mono ?_; rintro e w' ⟨rfl, rfl⟩)
    | (go_at_call 70; refine (has_yes b n A _ _ h (by omega)).mono ?_; rintro e w' ⟨rfl, rfl⟩)
    | (go_at_call 71; refine (atMost_yes b n A g y x _ hT h hy hx).mono ?_; rw [hl]; rintro e w1 ⟨rfl, hb⟩))
  have h1 := h.below hb h.lt
  have hc := h1.at (i := y) (by omega)
  have hf := h1.free (1 + y)
  have hy1 : ((y : Int)).toNat = y := by omega
  go_region_with (go_at_call 72; refine (only_any x (by omega) _).mono ?_; rintro e w' ⟨rfl, rfl⟩)
  all_goals
    go_wp2_with fail
    go_ret
    exact add_end (g.small y) (by omega) hb h1
theorem add_cycle (b n : Nat) (A : Nat → Nat) (g : Good n A) (x y : Nat) (w : World) (hT : Tab w) (h : IsOrd w b n A) (hx : x < n) (hy : y < n) (hl : le A y x = true) :
    Calls Tryd.prog 53 #[.pointer (some ⟨b, 0, none⟩), .int .i64 x, .int .i64 y] w fun e w' => e = .returned (.int .i64 20) ∧ Below w.heap.size w w' := by
  have hn := g.le16
  have hp := g.pos
  have hz : ((n : Int) == 0) = false := by rw [beq_eq_false_iff_ne]; omega
  go_enter Tryd.func53, Tryd.ntmps53
  go_wp2_with (first
    | (go_at_call 69; refine (many_any b n A _ h).mono ?_; rintro e w' ⟨rfl, rfl⟩)
    | (go_at_call 70; refine (has_yes b n A _ _ h (by omega)).mono ?_; rintro e w' ⟨rfl, rfl⟩)
    | (go_at_call 71; refine (atMost_yes b n A g y x _ hT h hy hx).mono ?_; rw [hl]; rintro e w1 ⟨rfl, hb⟩))
  go_ret
  exact ⟨rfl, hb⟩
theorem add_range (b n : Nat) (A : Nat → Nat) (x y : Int) (w : World) (hp : 1 ≤ n) (h : IsOrd w b n A) (ho : ¬ (0 ≤ x ∧ x < n) ∨ ¬ (0 ≤ y ∧ y < n)) :
    Calls Tryd.prog 53 #[.pointer (some ⟨b, 0, none⟩), .int .i64 x, .int .i64 y] w fun e w' => e = .returned (.int .i64 9) ∧ w = w' := by
  have hz : ((n : Int) == 0) = false := by rw [beq_eq_false_iff_ne]; omega
  by_cases hx : 0 ≤ x ∧ x < n
  · have hy : ¬ (0 ≤ y ∧ y < n) := by rcases ho with ho | ho; exact absurd hx ho; exact ho
    obtain ⟨k, rfl⟩ : ∃ k : Nat, x = k := ⟨x.toNat, by omega⟩
    have hk : k < n := by omega
    clear hx ho
    go_enter Tryd.func53, Tryd.ntmps53
    go_wp2_with (go_at_call 69; refine (many_any b n A _ h).mono ?_; rintro e w' ⟨rfl, rfl⟩)
    refine (has_yes b n A _ _ h hk).mono ?_
    rintro e w' ⟨rfl, rfl⟩
    go_wp2_with fail
    refine (has_out b n A _ _ h hy).mono ?_
    rintro e w' ⟨rfl, rfl⟩
    go_wp2_with fail
    go_ret
    exact ⟨rfl, rfl⟩
  · go_enter Tryd.func53, Tryd.ntmps53
    go_wp2_with (go_at_call 69; refine (many_any b n A _ h).mono ?_; rintro e w' ⟨rfl, rfl⟩)
    refine (has_out b n A _ _ h hx).mono ?_
    rintro e w' ⟨rfl, rfl⟩
    go_wp2_with fail
    go_ret
    exact ⟨rfl, rfl⟩

theorem all_any (b n : Nat) (A : Nat → Nat) (hn : n ≤ 16) (w : World) (h : IsOrd w b n A) :
    Calls Tryd.prog 77 #[.pointer (some ⟨b, 0, none⟩)] w fun e w' => e = .returned (.int .u16 (allS n : Nat)) ∧ w = w' := by
  go_enter Tryd.func77, Tryd.ntmps77
  go_wp2_with (go_at_call 69; refine (many_any b n A _ h).mono ?_; rintro e w' ⟨rfl, rfl⟩)
  clear h
  go_loop [3, 7] (fun s i => ∃ k : Nat, k ≤ n ∧ i = .int .i64 k ∧ s = .int .u16 (allS k : Nat)) (fun _ i => n - (intOf i).toNat)
  case atStart => exact ⟨0, Nat.zero_le _, rfl, rfl⟩
  case round =>
    obtain ⟨k, hk, rfl, rfl⟩ := hrel
    by_cases hlt : k < n
    · have HU := Lib.hid (allS_succ k)
      have HOr := Lib.hid (or_pw (allS_lt k (by omega)) (x := k) (by omega))
      go_wp2_with (go_at_call 72; refine (only_any _ (by omega) _).mono ?_; rintro e w' ⟨rfl, rfl⟩)
      go_round
      case rel => exact ⟨k + 1, by omega, by go_num, by rw [HU.out, HOr.out]; rfl⟩
      case measure => simp [intOf]; omega
    · obtain rfl : k = n := by omega
      go_wp2_with fail
      go_ret
      exact ⟨rfl, rfl⟩
end Go.Proofs.YtaikhdmgcffflaaDoor
