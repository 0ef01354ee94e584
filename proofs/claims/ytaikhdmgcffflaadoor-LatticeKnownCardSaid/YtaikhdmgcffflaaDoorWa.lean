/- Walks of the small functions of layer 2. -/
import Derived.Test.YtaikhdmgcffflaaDoorProg
import Derived.Test.YtaikhdmgcffflaaDoorPa
import Derived.WalkKit
import Derived.Lib.Hide
import Derived.Deep.QuietTactic
import Derived.BigQuiet
import Derived.WalkSpells
import Derived.WalkLawsBesides
import Derived.Lib.LaidTab
import Derived.RangeFuncBox
import Derived.Laws.BitsAllLaws
namespace Go.Proofs.YtaikhdmgcffflaaDoor
open Go Go.RowKit

theorem ret_int {k : IntKind} {a b : Int} (h : a = b) : Ending.returned (.int k a) = .returned (.int k b) := by rw [h]
theorem ret_bool {a b : Bool} (h : a = b) : Ending.returned (.bool a) = .returned (.bool b) := by rw [h]

/-- The cells of an order: how many elements, and what was added below each. -/
def ocells (n : Nat) (A : Nat → Nat) : Array Value := (Value.int .i64 n :: (List.range 16).map fun i => Value.int .u16 (A i)).toArray
/-- Block b is an order. -/
def IsOrd (w : World) (b n : Nat) (A : Nat → Nat) : Prop := w.heap[b]? = some (.cells (ocells n A) 113 (0, 0))

theorem IsOrd.lt {w : World} {b n : Nat} {A : Nat → Nat} (h : IsOrd w b n A) : b < w.heap.size := (Array.getElem?_eq_some_iff.1 h).1
theorem IsOrd.below {w w' : World} {b n : Nat} {A : Nat → Nat} (h : IsOrd w b n A) {B : Nat} (hb : Below B w w') (hB : b < B) : IsOrd w' b n A := (hb.block b hB).trans h
theorem IsOrd.kept {w w' : World} {b n : Nat} {A : Nat → Nat} (h : IsOrd w b n A) {row : Option Nat} (hg : w.grownBy w' row) (hne : some b ≠ row) : IsOrd w' b n A := (hg.block b h.lt hne).trans h
theorem IsOrd.many {w : World} {b n : Nat} {A : Nat → Nat} (h : IsOrd w b n A) : w.cell? ⟨b, 0, none⟩ = some (.int .i64 n) := by
  simp [World.cell?, show w.heap[b]? = _ from h, ocells]
theorem IsOrd.at {w : World} {b n : Nat} {A : Nat → Nat} (h : IsOrd w b n A) {i : Nat} (hi : i < 16) : w.cell? ⟨b, 1 + i, none⟩ = some (.int .u16 (A i)) := by
  simp [World.cell?, show w.heap[b]? = _ from h, ocells, Nat.add_comm 1 i, hi]
theorem IsOrd.free {w : World} {b n : Nat} {A : Nat → Nat} (h : IsOrd w b n A) (i : Nat) : w.frozen? ⟨b, i, none⟩ = false := by
  simp [World.frozen?, show w.heap[b]? = _ from h]

theorem many_nil (w : World) : Calls Tryd.prog 69 #[.pointer none] w fun e w' => e = .returned (.int .i64 0) ∧ w = w' := by
  go_enter Tryd.func69, Tryd.ntmps69
  go_wp2
  go_ret
  exact ⟨rfl, rfl⟩
theorem many_any (b n : Nat) (A : Nat → Nat) (w : World) (h : IsOrd w b n A) : Calls Tryd.prog 69 #[.pointer (some ⟨b, 0, none⟩)] w fun e w' => e = .returned (.int .i64 n) ∧ w = w' := by
  have h1 := h.many
  clear h
  go_enter Tryd.func69, Tryd.ntmps69
  go_wp2
  go_ret
  exact ⟨rfl, rfl⟩

theorem pow_le16 {a : Nat} (ha : a < 16) : (2 : Nat) ^ a ≤ 32768 := by
  have := Nat.pow_le_pow_right (n := 2) (by omega) (show a ≤ 15 by omega)
  simpa using this
/-- The set of one element. -/
def pw (a : Nat) : Nat := 2 ^ a
theorem pw_lt {a : Nat} (ha : a < 16) : pw a < 65536 := by have := pow_le16 ha; unfold pw; omega
theorem only_any (a : Nat) (ha : a < 16) (w : World) : Calls Tryd.prog 72 #[.int .i64 a] w fun e w' => e = .returned (.int .u16 (pw a : Nat)) ∧ w = w' := by
  go_enter Tryd.func72, Tryd.ntmps72
  go_wp2
  go_ret
  refine ⟨ret_int ?_, rfl⟩
  have h1 := pow_le16 ha
  have h2 : ((2 ^ a : Nat) : Int) = (2 : Int) ^ a := by simp
  rw [IntKind.wrap_u16, ← h2]
  show _ = ((2 ^ a : Nat) : Int)
  clear h2
  generalize 2 ^ a = p at *
  omega

theorem new_any (n : Nat) (h0 : 1 ≤ n) (h1 : n ≤ 16) (w : World) : Calls Tryd.prog 52 #[.int .i64 n] w fun e w' => e = .returned (.tuple #[.pointer (some ⟨w.heap.size, 0, none⟩), .int .i64 0]) ∧ w' = w.alloc (.cells (ocells n fun _ => 0) 113) := by
  go_enter Tryd.func52, Tryd.ntmps52
  go_wp2
  go_ret2
  exact ⟨rfl, rfl⟩
theorem new_no (n : Int) (h : n < 1 ∨ 16 < n) (w : World) : Calls Tryd.prog 52 #[.int .i64 n] w fun e w' => e = .returned (.tuple #[.pointer none, .int .i64 2]) ∧ w = w' := by
  rcases h with h | h
  · go_enter Tryd.func52, Tryd.ntmps52
    go_wp2
    go_ret2
    exact ⟨rfl, rfl⟩
  · have h' : ¬ n < 1 := by omega
    go_enter Tryd.func52, Tryd.ntmps52
    go_wp2
    go_ret2
    exact ⟨rfl, rfl⟩

theorem has_no (p : Option Addr) (a : Int) (w : World) (h : a < 0) : Calls Tryd.prog 70 #[.pointer p, .int .i64 a] w fun e w' => e = .returned (.bool false) ∧ w = w' := by
  go_enter Tryd.func70, Tryd.ntmps70
  go_wp2_with fail
  go_ret
  exact ⟨rfl, rfl⟩
theorem has_any (b n : Nat) (A : Nat → Nat) (a : Int) (w : World) (h : IsOrd w b n A) : Calls Tryd.prog 70 #[.pointer (some ⟨b, 0, none⟩), .int .i64 a] w fun e w' => e = .returned (.bool (decide (0 ≤ a ∧ a < n))) ∧ w = w' := by
  by_cases h0 : 0 ≤ a
  · go_enter Tryd.func70, Tryd.ntmps70
    go_wp2_with (go_at_call 69; refine (many_any b n A _ h).mono ?_; rintro e w' ⟨rfl, rfl⟩)
    go_ret
    exact ⟨ret_bool (by simp [h0]), rfl⟩
  · refine (has_no _ a w (by omega)).mono fun e w' ⟨he, hw⟩ => ⟨he.trans (ret_bool (by simp; omega)), hw⟩
theorem has_nil (a : Int) (w : World) : Calls Tryd.prog 70 #[.pointer none, .int .i64 a] w fun e w' => e = .returned (.bool false) ∧ w = w' := by
  by_cases h0 : 0 ≤ a
  · go_enter Tryd.func70, Tryd.ntmps70
    go_wp2_with (go_at_call 69; refine (many_nil _).mono ?_; rintro e w' ⟨rfl, rfl⟩)
    go_ret
    exact ⟨ret_bool (by simp; omega), rfl⟩
  · exact has_no _ a w (by omega)

/-- the library's table for trailing zeros -/
def tabL : List Int := [0, 1, 28, 2, 29, 14, 24, 3, 30, 22, 20, 15, 25, 17, 4, 8, 31, 27, 13, 23, 21, 19, 16, 7, 26, 12, 18, 6, 11, 5, 10, 9]
def Tab (w : World) : Prop := Lib.TabIs Tryd.prog w "math/bits.deBruijn32tab" .u8 tabL
theorem tab_global : Tryd.prog.globalNamed "math/bits.deBruijn32tab" = some 0 := by kernel_rfl
theorem Tab.lt {w : World} (h : Tab w) : 0 < w.heap.size := by
  unfold Tab Lib.TabIs World.var? at h
  rw [tab_global, Option.bind_some] at h
  rcases Nat.lt_or_ge 0 w.heap.size with hlt | hge
  · exact hlt
  · rw [Array.getElem?_eq_none hge] at h; cases h
theorem Tab.below {w w' : World} (h : Tab w) {B : Nat} (hb : Below B w w') (hB : 0 < B) : Tab w' := by
  have hl := h.lt
  unfold Tab Lib.TabIs World.var? at *
  rw [tab_global, Option.bind_some] at h ⊢
  rw [hb.block 0 hB]
  exact h

theorem low_bits {s : Nat} (hs : s < 65536) (h0 : s ≠ 0) : bits BinOp.and IntKind.u16 (↑s) (IntKind.u16.wrap (-↑s)) = ((2 ^ tz s : Nat) : Int) := by
  rw [IntKind.wrap_u16, show (-(s : Int)) % 65536 = ((65536 - s : Nat) : Int) by omega, u16_and_nat s _ hs (by omega), tb_low hs h0]
theorem tz_walk (s : Nat) (w : World) (hs : s < 65536) (h0 : s ≠ 0) (ht : Tab w) : Calls Tryd.prog 84 #[.int .u16 s] w fun e w' => e = .returned (.int .i64 (tz s : Nat)) ∧ w = w' := by
  have h1 := (tz_spec hs h0).1
  obtain ⟨k, hk, hm, hg⟩ := tz_mul h1
  have hlow := low_bits hs h0
  have hz : ((s : Int) == 0) = false := by rw [beq_eq_false_iff_ne]; omega
  have hi : (bits BinOp.and IntKind.u16 (↑s) (IntKind.u16.wrap (-↑s)) % 4294967296 * 125613361 % 4294967296 / 134217728).toNat = k := by
    rw [hlow, ← hm]
    have := pow_le16 h1
    clear hlow hm hg
    generalize 2 ^ tz s = p at *
    have e1 : (p : Int) % 4294967296 = p := by omega
    have e2 : (p : Int) * 125613361 % 4294967296 / 134217728 = ((p * 125613361 % 4294967296 / 134217728 : Nat) : Int) := by simp
    rw [e1, e2, Int.toNat_natCast]
  have hc : w.cell? ⟨0, (bits BinOp.and IntKind.u16 (↑s) (IntKind.u16.wrap (-↑s)) % 4294967296 * 125613361 % 4294967296 / 134217728).toNat, none⟩ = some (.int .u8 (tz s : Nat)) := by
    rw [hi, Lib.TabIs.cell ht tab_global k (by simpa [tabL] using hk)]
    have : tabL.getD k 0 = (tz s : Nat) := by
      have e : tabL = [0, 1, 28, 2, 29, 14, 24, 3, 30, 22, 20, 15, 25, 17, 4, 8, 31, 27, 13, 23, 21, 19, 16, 7, 26, 12, 18, 6, 11, 5, 10, 9].map (fun n : Nat => (n : Int)) := by decide
      rw [e, List.getD_eq_getElem?_getD, List.getElem?_map, hg]
      rfl
    rw [this]
  have hb0 : 0 ≤ bits BinOp.and IntKind.u16 (↑s) (IntKind.u16.wrap (-↑s)) % 4294967296 * 125613361 % 4294967296 / 134217728 := by omega
  have hb1 : bits BinOp.and IntKind.u16 (↑s) (IntKind.u16.wrap (-↑s)) % 4294967296 * 125613361 % 4294967296 / 134217728 < 32 := by omega
  clear hlow hg hm hi
  go_enter Tryd.func84, Tryd.ntmps84
  go_wp2
  go_ret
  refine ⟨ret_int ?_, rfl⟩
  first | rfl | omega

/-- What is captured of a set: a box of its own. -/
theorem elements_any (s : Nat) (w : World) : Calls Tryd.prog 75 #[.int .u16 s] w fun e w' => e = .returned (.func (.func 83) #[] #[.pointer (some ⟨w.heap.size, 0, none⟩)]) ∧ w' = w.alloc (.cells #[.int .u16 s] 110) := by
  go_enter Tryd.func75, Tryd.ntmps75
  go_wp2
  go_ret
  exact ⟨rfl, rfl⟩
end Go.Proofs.YtaikhdmgcffflaaDoor
