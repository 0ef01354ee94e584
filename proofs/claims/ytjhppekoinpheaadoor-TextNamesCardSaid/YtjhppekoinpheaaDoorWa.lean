/- Walks of the small functions of layer 1: what each answers, for every argument. -/
import Derived.Test.YtjhppekoinpheaaDoorProg
import Derived.Test.YtjhppekoinpheaaDoorPl
import Derived.WalkKit
import Derived.Lib.Hide
import Derived.Deep.QuietTactic
import Derived.BigQuiet
import Derived.WalkSpells
import Derived.WalkLawsBesides
namespace Go.Proofs.YtjhppekoinpheaaDoor
open Go Go.RowKit

theorem ret_int {k : IntKind} {a b : Int} (h : a = b) : Ending.returned (.int k a) = .returned (.int k b) := by rw [h]
theorem ret_bool {a b : Bool} (h : a = b) : Ending.returned (.bool a) = .returned (.bool b) := by rw [h]
theorem ret_str {a b : ByteArray} (h : a = b) : Ending.returned (.string a) = .returned (.string b) := by rw [h]

theorem tmod_neg {i n : Int} (hn : 0 < n) (h : i.tmod n < 0) : i.tmod n + n = i % n := by
  have h1 : i < 0 := by
    rcases Decidable.em (i < 0) with h0 | h0
    · exact h0
    · have := Int.tmod_nonneg n (a := i) (by omega); omega
  have h2 := Int.tmod_eq_emod (a := i) (b := n)
  rw [h2] at h ⊢
  have h3 := Int.emod_nonneg i (b := n) (by omega)
  have h4 : ((n.natAbs : Nat) : Int) = n := by omega
  split at h <;> rename_i hc
  · omega
  · rw [if_neg hc]; omega
theorem tmod_pos {i n : Int} (hn : 0 < n) (h : 0 ≤ i.tmod n) : i.tmod n = i % n := by
  have h2 := Int.tmod_eq_emod (a := i) (b := n)
  have h3 := Int.emod_lt_of_pos i hn
  have h4 : ((n.natAbs : Nat) : Int) = n := by omega
  rw [h2] at h ⊢
  split at h <;> rename_i hc
  · rw [if_pos hc]; omega
  · omega

theorem bring_any (i n : Int) (w : World) (hn : 0 < n) (hn' : n ≤ 9223372036854775807) :
    Calls Tryd.prog 26 #[.int .i64 i, .int .i64 n] w fun e w' => e = .returned (.int .i64 (i % n)) ∧ w = w' := by
  have h1 := tmod_neg (i := i) hn
  have h2 := tmod_pos (i := i) hn
  have h3 := Int.emod_nonneg i (b := n) (by omega)
  have h4 := Int.emod_lt_of_pos i hn
  have H1 := Lib.hid h1
  have H2 := Lib.hid h2
  clear h1 h2
  go_enter Tryd.func26, Tryd.ntmps26
  go_wp2
  · have h : i.tmod n < 0 := by assumption
    go_ret
    refine ⟨ret_int ?_, rfl⟩
    rw [H1.out h]
    exact IntWalk.wrap64_in _ ⟨by omega, by omega⟩
  · have h : 0 ≤ i.tmod n := by assumption
    go_ret
    exact ⟨ret_int (H2.out h), rfl⟩

theorem extract_all (s : ByteArray) {k : Nat} (h : s.size ≤ k) : s.extract 0 k = s := by
  apply ByteArray.ext
  rw [ByteArray.data_extract, Array.extract_eq_self_of_le h]

theorem cut_any (s : ByteArray) (w : World) (hs : s.size ≤ maxLen) :
    Calls Tryd.prog 10 #[.string s] w fun e w' => e = .returned (.string (s.extract 0 (min s.size 400))) ∧ w = w' := by
  unfold maxLen at hs
  by_cases h : s.size ≤ 400
  · rw [extract_all s (by omega)]
    go_enter Tryd.func10, Tryd.ntmps10
    go_wp2
    go_ret
    exact ⟨rfl, rfl⟩
  · rw [Nat.min_eq_right (by omega)]
    go_enter Tryd.func10, Tryd.ntmps10
    go_wp2
    go_ret
    exact ⟨rfl, rfl⟩

theorem inWord_any (r : Int) (w : World) :
    Calls Tryd.prog 29 #[.int .i32 r] w fun e w' => e = .returned (.bool (decide (33 ≤ r) && decide (r ≤ 126))) ∧ w = w' := by
  go_enter Tryd.func29, Tryd.ntmps29
  go_wp2
  · have h : 33 ≤ r := by assumption
    go_ret
    exact ⟨ret_bool (by rw [decide_eq_true h]; rfl), rfl⟩
  · have h : r < 33 := by assumption
    go_ret
    exact ⟨ret_bool (by rw [decide_eq_false (p := 33 ≤ r) (by omega)]; rfl), rfl⟩
theorem isLetter_any (r : Int) (w : World) :
    Calls Tryd.prog 32 #[.int .u8 r] w fun e w' => e = .returned (.bool (decide (97 ≤ r) && decide (r ≤ 122))) ∧ w = w' := by
  go_enter Tryd.func32, Tryd.ntmps32
  go_wp2
  · have h : 97 ≤ r := by assumption
    go_ret
    exact ⟨ret_bool (by rw [decide_eq_true h]; rfl), rfl⟩
  · have h : r < 97 := by assumption
    go_ret
    exact ⟨ret_bool (by rw [decide_eq_false (p := 97 ≤ r) (by omega)]; rfl), rfl⟩
theorem isDigit_any (r : Int) (w : World) :
    Calls Tryd.prog 33 #[.int .u8 r] w fun e w' => e = .returned (.bool (decide (48 ≤ r) && decide (r ≤ 57))) ∧ w = w' := by
  go_enter Tryd.func33, Tryd.ntmps33
  go_wp2
  · have h : 48 ≤ r := by assumption
    go_ret
    exact ⟨ret_bool (by rw [decide_eq_true h]; rfl), rfl⟩
  · have h : r < 48 := by assumption
    go_ret
    exact ⟨ret_bool (by rw [decide_eq_false (p := 48 ≤ r) (by omega)]; rfl), rfl⟩

theorem inWord_yes (r : Int) (w : World) (h : 33 ≤ r) (h' : r ≤ 126) : Calls Tryd.prog 29 #[.int .i32 r] w fun e w' => e = .returned (.bool true) ∧ w = w' :=
  (inWord_any r w).mono fun _ _ ⟨he, hw⟩ => ⟨by rw [he, decide_eq_true h, decide_eq_true h']; rfl, hw⟩
theorem inWord_no (r : Int) (w : World) (h : r < 33 ∨ 126 < r) : Calls Tryd.prog 29 #[.int .i32 r] w fun e w' => e = .returned (.bool false) ∧ w = w' :=
  (inWord_any r w).mono fun _ _ ⟨he, hw⟩ => ⟨by
    rw [he]; rcases h with h | h
    · rw [decide_eq_false (p := 33 ≤ r) (by omega)]; rfl
    · rw [decide_eq_false (p := r ≤ 126) (by omega), Bool.and_false], hw⟩
theorem isLetter_yes (r : Int) (w : World) (h : 97 ≤ r) (h' : r ≤ 122) : Calls Tryd.prog 32 #[.int .u8 r] w fun e w' => e = .returned (.bool true) ∧ w = w' :=
  (isLetter_any r w).mono fun _ _ ⟨he, hw⟩ => ⟨by rw [he, decide_eq_true h, decide_eq_true h']; rfl, hw⟩
theorem isLetter_no (r : Int) (w : World) (h : r < 97 ∨ 122 < r) : Calls Tryd.prog 32 #[.int .u8 r] w fun e w' => e = .returned (.bool false) ∧ w = w' :=
  (isLetter_any r w).mono fun _ _ ⟨he, hw⟩ => ⟨by
    rw [he]; rcases h with h | h
    · rw [decide_eq_false (p := 97 ≤ r) (by omega)]; rfl
    · rw [decide_eq_false (p := r ≤ 122) (by omega), Bool.and_false], hw⟩
theorem isDigit_yes (r : Int) (w : World) (h : 48 ≤ r) (h' : r ≤ 57) : Calls Tryd.prog 33 #[.int .u8 r] w fun e w' => e = .returned (.bool true) ∧ w = w' :=
  (isDigit_any r w).mono fun _ _ ⟨he, hw⟩ => ⟨by rw [he, decide_eq_true h, decide_eq_true h']; rfl, hw⟩
theorem isDigit_no (r : Int) (w : World) (h : r < 48 ∨ 57 < r) : Calls Tryd.prog 33 #[.int .u8 r] w fun e w' => e = .returned (.bool false) ∧ w = w' :=
  (isDigit_any r w).mono fun _ _ ⟨he, hw⟩ => ⟨by
    rw [he]; rcases h with h | h
    · rw [decide_eq_false (p := 48 ≤ r) (by omega)]; rfl
    · rw [decide_eq_false (p := r ≤ 57) (by omega), Bool.and_false], hw⟩

theorem at_list (s : ByteArray) (k : Nat) (h : k < s.size) : s.data.toList[k]'h = s[k] := by
  rw [Array.getElem_toList]; rfl
theorem take_all (s : ByteArray) {k : Nat} (h : s.size ≤ k) : s.data.toList.take k = s.data.toList := List.take_of_length_le (by rw [← Lib.size_eq]; exact h)
theorem all_step {p : UInt8 → Bool} (s : ByteArray) (k : Nat) (h : k < s.size) (ha : (s.data.toList.take k).all p = true) (hb : p s[k] = true) : (s.data.toList.take (k + 1)).all p = true := by
  rw [Pl.all_take (by rw [← Lib.size_eq]; exact h), ha, at_list s k h, hb]; rfl
theorem all_stop {p : UInt8 → Bool} (s : ByteArray) (k : Nat) (h : k < s.size) (hb : p s[k] = false) : s.data.toList.all p = false := by
  exact Pl.all_false (k := k) (by rw [← Lib.size_eq]; exact h) (by rw [at_list s k h]; exact hb)
theorem isWd_stop (s : ByteArray) (k : Nat) (h : k < s.size) (hb : Pl.wb s[k] = false) : Pl.isWd s.data.toList = false := by
  unfold Pl.isWd; rw [all_stop s k h hb]; simp
theorem isEmpty_size (s : ByteArray) : s.data.toList.isEmpty = decide (s.size = 0) := by
  rw [Bool.eq_iff_iff, List.isEmpty_iff, decide_eq_true_iff, Lib.size_eq, List.length_eq_zero_iff]
theorem isWd_full (s : ByteArray) (h : s.data.toList.all Pl.wb = true) : decide (0 < s.size) = Pl.isWd s.data.toList := by
  unfold Pl.isWd; rw [h, isEmpty_size, Bool.and_true]
  by_cases h0 : s.size = 0
  · simp [h0]
  · rw [decide_eq_true (show 0 < s.size by omega), decide_eq_false h0]; rfl
theorem isWd_full' (s : ByteArray) (h : s.data.toList.all Pl.wb = true) : (!s.toList.isEmpty) = Pl.isWd s.data.toList := by
  unfold Pl.isWd; rw [h, Lib.toList_data, Bool.and_true]

/-- the reference's IsWord -/
theorem refIsWord_any (s : ByteArray) (w : World) (hs : s.size ≤ maxLen) :
    Calls Tryd.prog 30 #[.string s] w fun e w' => e = .returned (.bool (Pl.isWd s.data.toList)) ∧ w = w' := by
  unfold maxLen at hs
  go_enter Tryd.func30, Tryd.ntmps30
  go_wp2
  go_loop [3] (fun i => ∃ k : Nat, k ≤ s.size ∧ i = .int .i64 k ∧ Hid ((s.data.toList.take k).all Pl.wb = true)) (fun i => s.size - (intOf i).toNat)
  case atStart => exact ⟨0, Nat.zero_le _, rfl, by simp [Hid]⟩
  case round =>
    obtain ⟨k, hk, rfl, hall⟩ := hrel
    by_cases hlt : k < s.size
    · by_cases h1 : s[k].toNat < 33
      · go_wp2
        go_ret
        exact ⟨ret_bool (isWd_stop s k hlt (Pl.wb_low h1)).symm, rfl⟩
      · by_cases h2 : 126 < s[k].toNat
        · go_wp2
          go_ret
          exact ⟨ret_bool (isWd_stop s k hlt (Pl.wb_high h2)).symm, rfl⟩
        · go_wp2
          go_round
          case rel => exact ⟨k + 1, by omega, by go_num, all_step s k hlt hall.out (Pl.wb_true (by omega) (by omega))⟩
          case measure => simp [intOf]; omega
    · go_wp2
      go_ret
      exact ⟨ret_bool (isWd_full s (by have := hall.out; rwa [take_all s (by omega)] at this)), rfl⟩

/-- the program's isWord: a range over a string -/
theorem isWord_any (s : ByteArray) (w : World) :
    Calls Tryd.prog 34 #[.string s] w fun e w' => e = .returned (.bool (Pl.isWd s.data.toList)) ∧ Below w.heap.size w w' := by
  go_enter Tryd.func34, Tryd.ntmps34
  go_wp2
  go_loopw [] (fun w' => ∃ pos : Nat, w' = w.iter s pos ∧ pos ≤ s.size ∧ Hid ((s.data.toList.take pos).all Pl.wb = true)) (fun w' => s.size - w'.iterPos w.heap.size)
  case atStart => exact ⟨0, rfl, Nat.zero_le _, by simp [Hid]⟩
  case round =>
    obtain ⟨k, rfl, hk, hall⟩ := hrel
    by_cases hlt : k < s.size
    · by_cases hi : s[k].toNat < 128
      · have hnx : ∀ ty, (Instr.next (.pointer (some ⟨w.heap.size, 0, none⟩)) true ty).run Tryd.prog (w.iter s k) = _ := fun ty => run_next_ascii w s k ty hlt hi
        by_cases h1 : 33 ≤ s[k].toNat ∧ s[k].toNat ≤ 126
        · go_wp2_with (go_at_call 29; refine (inWord_yes _ _ (by omega) (by omega)).mono ?_; rintro e w' ⟨rfl, rfl⟩)
          go_roundw
          case rel => exact ⟨k + 1, rfl, by omega, all_step s k hlt hall.out (Pl.wb_true h1.1 h1.2)⟩
          case measure => simp; omega
        · go_wp2_with (go_at_call 29; refine (inWord_no _ _ (by omega)).mono ?_; rintro e w' ⟨rfl, rfl⟩)
          go_ret
          exact ⟨ret_bool (isWd_stop s k hlt (by rcases Nat.lt_or_ge s[k].toNat 33 with h | h; exact Pl.wb_low h; exact Pl.wb_high (by omega))).symm, (Below.refl _ _).alloc (Nat.le_refl _) _⟩
      · have hnx : ∀ ty, (Instr.next (.pointer (some ⟨w.heap.size, 0, none⟩)) true ty).run Tryd.prog (w.iter s k) = _ := fun ty => run_next_any w s k ty hlt
        have hd := (decode_high s k hlt (by omega)).1
        generalize Utf8.decode s k = d at hnx hd
        go_wp2_with (go_at_call 29; refine (inWord_no _ _ (by omega)).mono ?_; rintro e w' ⟨rfl, rfl⟩)
        go_ret
        exact ⟨ret_bool (isWd_stop s k hlt (Pl.wb_high (by omega))).symm, (Below.refl _ _).alloc (Nat.le_refl _) _⟩
    · have hnx : ∀ ty, (Instr.next (.pointer (some ⟨w.heap.size, 0, none⟩)) true ty).run Tryd.prog (w.iter s k) = _ := fun ty => run_next_end w s k ty hlt
      go_wp2
      go_ret
      exact ⟨ret_bool (isWd_full' s (by have := hall.out; rwa [take_all s (by omega)] at this)), (Below.refl _ _).alloc (Nat.le_refl _) _⟩
end Go.Proofs.YtjhppekoinpheaaDoor
