/- Walks of the small functions of layer 1: what each answers, for every argument. -/
import Derived.Test.YtajkbkllgbalkaaProg
import Derived.Test.YtajkbkllgbalkaaPl
import Derived.WalkKit
import Derived.Lib.Hide
import Derived.Deep.QuietTactic
import Derived.BigQuiet
import Derived.WalkSpells
import Derived.WalkLawsBesides
namespace Go.Proofs.Ytajkbkllgbalkaa
open Go Go.RowKit

theorem ret_int {k : IntKind} {a b : Int} (h : a = b) : Ending.returned (.int k a) = .returned (.int k b) := by rw [h]
theorem ret_bool {a b : Bool} (h : a = b) : Ending.returned (.bool a) = .returned (.bool b) := by rw [h]
theorem ret_str {a b : ByteArray} (h : a = b) : Ending.returned (.string a) = .returned (.string b) := by rw [h]

theorem tmod_neg {i n : Int} (hn : 0 < n) (h : i.tmod n < 0) : i.tmod n + n = i % n := by
  have h1 : i < 0 := by
    rcases Decidable.em (i < 0) with h0 | h0
    · exact h0
    · have := Int.tmod_nonneg n (a := i) (by omega); omega
  have h2 := Int.tmod_eq_emod (a := i) (b := n)
  rw [h2] at h ⊢
  have h3 := Int.emod_nonneg i (b := n) (by omega)
  have h4 : ((n.natAbs : Nat) : Int) = n := by omega
  split at h <;> rename_i hc
  · omega
  · rw [if_neg hc]; omega
theorem tmod_pos {i n : Int} (hn : 0 < n) (h : 0 ≤ i.tmod n) : i.tmod n = i % n := by
  have h2 := Int.tmod_eq_emod (a := i) (b := n)
  have h3 := Int.emod_lt_of_pos i hn
  have h4 : ((n.natAbs : Nat) : Int) = n := by omega
  rw [h2] at h ⊢
  split at h <;> rename_i hc
  · rw [if_pos hc]; omega
  · omega

theorem bring_any (i n : Int) (w : World) (hn : 0 < n) (hn' : n ≤ 9223372036854775807) :
    Calls Try.prog 31 #[.int .i64 i, .int .i64 n] w fun e w' => e = .returned (.int .i64 (i % n)) ∧ w = w' := by
  have h1 := tmod_neg (i := i) hn
  have h2 := tmod_pos (i := i) hn
  have h3 := Int.emod_nonneg i (b := n) (by omega)
  have h4 := Int.emod_lt_of_pos i hn
  have H1 := Lib.hid h1
  have H2 := Lib.hid h2
  clear h1 h2
  go_enter Try.func31, Try.ntmps31
  go_wp2
  · have h : i.tmod n < 0 := by assumption
    go_ret
    refine ⟨ret_int ?_, rfl⟩
    rw [H1.out h]
    exact IntWalk.wrap64_in _ ⟨by omega, by omega⟩
  · have h : 0 ≤ i.tmod n := by assumption
    go_ret
    exact ⟨ret_int (H2.out h), rfl⟩

theorem extract_all (s : ByteArray) {k : Nat} (h : s.size ≤ k) : s.extract 0 k = s := by
  apply ByteArray.ext
  rw [ByteArray.data_extract, Array.extract_eq_self_of_le h]

theorem at_list (s : ByteArray) (k : Nat) (h : k < s.size) : s.data.toList[k]'h = s[k] := by
  rw [Array.getElem_toList]; rfl
theorem take_all (s : ByteArray) {k : Nat} (h : s.size ≤ k) : s.data.toList.take k = s.data.toList := List.take_of_length_le (by rw [← Lib.size_eq]; exact h)
theorem all_step {p : UInt8 → Bool} (s : ByteArray) (k : Nat) (h : k < s.size) (ha : (s.data.toList.take k).all p = true) (hb : p s[k] = true) : (s.data.toList.take (k + 1)).all p = true := by
  rw [Pl.all_take (by rw [← Lib.size_eq]; exact h), ha, at_list s k h, hb]; rfl
theorem all_stop {p : UInt8 → Bool} (s : ByteArray) (k : Nat) (h : k < s.size) (hb : p s[k] = false) : s.data.toList.all p = false := by
  exact Pl.all_false (k := k) (by rw [← Lib.size_eq]; exact h) (by rw [at_list s k h]; exact hb)
theorem isWd_stop (s : ByteArray) (k : Nat) (h : k < s.size) (hb : Pl.wb s[k] = false) : Pl.isWd s.data.toList = false := by
  unfold Pl.isWd; rw [all_stop s k h hb]; simp
theorem isEmpty_size (s : ByteArray) : s.data.toList.isEmpty = decide (s.size = 0) := by
  rw [Bool.eq_iff_iff, List.isEmpty_iff, decide_eq_true_iff, Lib.size_eq, List.length_eq_zero_iff]
theorem isWd_full (s : ByteArray) (h : s.data.toList.all Pl.wb = true) : decide (0 < s.size) = Pl.isWd s.data.toList := by
  unfold Pl.isWd; rw [h, isEmpty_size, Bool.and_true]
  by_cases h0 : s.size = 0
  · simp [h0]
  · rw [decide_eq_true (show 0 < s.size by omega), decide_eq_false h0]; rfl
theorem isWd_full' (s : ByteArray) (h : s.data.toList.all Pl.wb = true) : (!s.toList.isEmpty) = Pl.isWd s.data.toList := by
  unfold Pl.isWd; rw [h, Lib.toList_data, Bool.and_true]

end Go.Proofs.Ytajkbkllgbalkaa
