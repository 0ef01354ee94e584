/- Walks of the small functions of layer 1: what each answers, for every argument. -/
import Derived.Test.YtaikhdmgcffflaaDoorWa
import Derived.Test.YtaikhdmgcffflaaDoorPm
import Derived.WalkKit
import Derived.Lib.Hide
import Derived.Deep.QuietTactic
import Derived.BigQuiet
import Derived.WalkSpells
import Derived.WalkLawsBesides
namespace Go.Proofs.YtaikhdmgcffflaaDoor
open Go Go.RowKit

theorem ret_str {a b : ByteArray} (h : a = b) : Ending.returned (.string a) = .returned (.string b) := by rw [h]

theorem extract_all (s : ByteArray) {k : Nat} (h : s.size ≤ k) : s.extract 0 k = s := by
  apply ByteArray.ext
  rw [ByteArray.data_extract, Array.extract_eq_self_of_le h]

theorem isLetter_any (r : Int) (w : World) :
    Calls Tryd.prog 66 #[.int .u8 r] w fun e w' => e = .returned (.bool (decide (97 ≤ r) && decide (r ≤ 122))) ∧ w = w' := by
  go_enter Tryd.func66, Tryd.ntmps66
  go_wp2
  · have h : 97 ≤ r := by assumption
    go_ret
    exact ⟨ret_bool (by rw [decide_eq_true h]; rfl), rfl⟩
  · have h : r < 97 := by assumption
    go_ret
    exact ⟨ret_bool (by rw [decide_eq_false (p := 97 ≤ r) (by omega)]; rfl), rfl⟩
theorem isDigit_any (r : Int) (w : World) :
    Calls Tryd.prog 67 #[.int .u8 r] w fun e w' => e = .returned (.bool (decide (48 ≤ r) && decide (r ≤ 57))) ∧ w = w' := by
  go_enter Tryd.func67, Tryd.ntmps67
  go_wp2
  · have h : 48 ≤ r := by assumption
    go_ret
    exact ⟨ret_bool (by rw [decide_eq_true h]; rfl), rfl⟩
  · have h : r < 48 := by assumption
    go_ret
    exact ⟨ret_bool (by rw [decide_eq_false (p := 48 ≤ r) (by omega)]; rfl), rfl⟩

theorem isLetter_yes (r : Int) (w : World) (h : 97 ≤ r) (h' : r ≤ 122) : Calls Tryd.prog 66 #[.int .u8 r] w fun e w' => e = .returned (.bool true) ∧ w = w' :=
  (isLetter_any r w).mono fun _ _ ⟨he, hw⟩ => ⟨by rw [he, decide_eq_true h, decide_eq_true h']; rfl, hw⟩
theorem isLetter_no (r : Int) (w : World) (h : r < 97 ∨ 122 < r) : Calls Tryd.prog 66 #[.int .u8 r] w fun e w' => e = .returned (.bool false) ∧ w = w' :=
  (isLetter_any r w).mono fun _ _ ⟨he, hw⟩ => ⟨by
    rw [he]; rcases h with h | h
    · rw [decide_eq_false (p := 97 ≤ r) (by omega)]; rfl
    · rw [decide_eq_false (p := r ≤ 122) (by omega), Bool.and_false], hw⟩
theorem isDigit_yes (r : Int) (w : World) (h : 48 ≤ r) (h' : r ≤ 57) : Calls Tryd.prog 67 #[.int .u8 r] w fun e w' => e = .returned (.bool true) ∧ w = w' :=
  (isDigit_any r w).mono fun _ _ ⟨he, hw⟩ => ⟨by rw [he, decide_eq_true h, decide_eq_true h']; rfl, hw⟩
theorem isDigit_no (r : Int) (w : World) (h : r < 48 ∨ 57 < r) : Calls Tryd.prog 67 #[.int .u8 r] w fun e w' => e = .returned (.bool false) ∧ w = w' :=
  (isDigit_any r w).mono fun _ _ ⟨he, hw⟩ => ⟨by
    rw [he]; rcases h with h | h
    · rw [decide_eq_false (p := 48 ≤ r) (by omega)]; rfl
    · rw [decide_eq_false (p := r ≤ 57) (by omega), Bool.and_false], hw⟩

theorem at_list (s : ByteArray) (k : Nat) (h : k < s.size) : s.data.toList[k]'h = s[k] := by
  rw [Array.getElem_toList]; rfl
theorem take_all (s : ByteArray) {k : Nat} (h : s.size ≤ k) : s.data.toList.take k = s.data.toList := List.take_of_length_le (by rw [← Lib.size_eq]; exact h)
theorem all_step {p : UInt8 → Bool} (s : ByteArray) (k : Nat) (h : k < s.size) (ha : (s.data.toList.take k).all p = true) (hb : p s[k] = true) : (s.data.toList.take (k + 1)).all p = true := by
  rw [Pl.all_take (by rw [← Lib.size_eq]; exact h), ha, at_list s k h, hb]; rfl
theorem all_stop {p : UInt8 → Bool} (s : ByteArray) (k : Nat) (h : k < s.size) (hb : p s[k] = false) : s.data.toList.all p = false := by
  exact Pl.all_false (k := k) (by rw [← Lib.size_eq]; exact h) (by rw [at_list s k h]; exact hb)
theorem isWd_stop (s : ByteArray) (k : Nat) (h : k < s.size) (hb : Pl.wb s[k] = false) : Pl.isWd s.data.toList = false := by
  unfold Pl.isWd; rw [all_stop s k h hb]; simp
theorem isEmpty_size (s : ByteArray) : s.data.toList.isEmpty = decide (s.size = 0) := by
  rw [Bool.eq_iff_iff, List.isEmpty_iff, decide_eq_true_iff, Lib.size_eq, List.length_eq_zero_iff]
theorem isWd_full (s : ByteArray) (h : s.data.toList.all Pl.wb = true) : decide (0 < s.size) = Pl.isWd s.data.toList := by
  unfold Pl.isWd; rw [h, isEmpty_size, Bool.and_true]
  by_cases h0 : s.size = 0
  · simp [h0]
  · rw [decide_eq_true (show 0 < s.size by omega), decide_eq_false h0]; rfl
theorem isWd_full' (s : ByteArray) (h : s.data.toList.all Pl.wb = true) : (!s.toList.isEmpty) = Pl.isWd s.data.toList := by
  unfold Pl.isWd; rw [h, Lib.toList_data, Bool.and_true]

end Go.Proofs.YtaikhdmgcffflaaDoor
