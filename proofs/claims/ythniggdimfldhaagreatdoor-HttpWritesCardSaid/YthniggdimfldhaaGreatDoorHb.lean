/- Walks of what tells names and values, in the program and in the chapter. -/
import Derived.Test.YthniggdimfldhaaGreatDoorHa
namespace Go.Proofs.YthniggdimfldhaaGreatDoor
open Go Go.RowKit

theorem at_list (s : ByteArray) (k : Nat) (h : k < s.size) : s.data.toList[k]'h = s[k] := by
  rw [Array.getElem_toList]; rfl
theorem take_full (s : ByteArray) {k : Nat} (h : s.size ≤ k) : s.data.toList.take k = s.data.toList := List.take_of_length_le (by rw [← Lib.size_eq]; exact h)
theorem all_step {p : UInt8 → Bool} (s : ByteArray) (k : Nat) (h : k < s.size) (ha : (s.data.toList.take k).all p = true) (hb : p s[k] = true) : (s.data.toList.take (k + 1)).all p = true := by
  rw [all_take (by rw [← Lib.size_eq]; exact h), ha, at_list s k h, hb]; rfl
theorem all_stop {p : UInt8 → Bool} (s : ByteArray) (k : Nat) (h : k < s.size) (hb : p s[k] = false) : s.data.toList.all p = false :=
  all_false (k := k) (by rw [← Lib.size_eq]; exact h) (by rw [at_list s k h]; exact hb)
theorem isEmpty_size (s : ByteArray) : s.data.toList.isEmpty = decide (s.size = 0) := by
  rw [Bool.eq_iff_iff, List.isEmpty_iff, decide_eq_true_iff, Lib.size_eq, List.length_eq_zero_iff]

set_option maxRecDepth 100000 in
theorem named_ref (c : UInt8) (w : World) (z : Bool) (hz : nmB c = z) : Calls Tryz.prog 78 #[.int .u8 (c.toNat : Int)] w fun e w' => e = .returned (.bool z) ∧ w = w' := by
  subst hz
  have hc : c.toNat < 256 := c.toNat_lt
  unfold nmB
  generalize c.toNat = n at *
  go_enter Tryz.func78, Tryz.ntmps78
  go_wp2
  all_goals (go_ret; refine ⟨ret_bool ?_, rfl⟩)
  all_goals (rw [Bool.eq_iff_iff]; simp only [Bool.or_eq_true, Bool.and_eq_true, decide_eq_true_eq, beq_iff_eq, true_iff]; omega)
set_option maxRecDepth 100000 in
theorem named_any (c : UInt8) (w : World) (z : Bool) (hz : nmB c = z) : Calls Tryz.prog 75 #[.int .u8 (c.toNat : Int)] w fun e w' => e = .returned (.bool z) ∧ w = w' := by
  subst hz
  have hc : c.toNat < 256 := c.toNat_lt
  unfold nmB
  generalize c.toNat = n at *
  go_enter Tryz.func75, Tryz.ntmps75
  go_wp2
  all_goals (go_ret; refine ⟨ret_bool ?_, rfl⟩)
  all_goals (rw [Bool.eq_iff_iff]; simp only [Bool.or_eq_true, Bool.and_eq_true, decide_eq_true_eq, beq_iff_eq, true_iff]; omega)
theorem isNm_stop (s : ByteArray) (k : Nat) (h : k < s.size) (hb : nmB s[k] = false) : isNm s.data.toList = false := by
  unfold isNm; rw [all_stop s k h hb]; rfl
theorem isNm_full (s : ByteArray) (h : s.data.toList.all nmB = true) : isNm s.data.toList = (decide (1 ≤ s.size) && decide (s.size ≤ 30)) := by
  unfold isNm; rw [h, Bool.true_and, ← Lib.size_eq]

set_option maxRecDepth 100000 in
theorem isName_ref (s : ByteArray) (w : World) (hs : s.size ≤ maxLen) (z : Bool) (hz : isNm s.data.toList = z) :
    Calls Tryz.prog 63 #[.string s] w fun e w' => e = .returned (.bool z) ∧ w = w' := by
  subst hz
  unfold maxLen at hs
  go_enter Tryz.func63, Tryz.ntmps63
  go_wp2
  go_loop [3] (fun i => ∃ k : Nat, k ≤ s.size ∧ i = .int .i64 k ∧ Hid ((s.data.toList.take k).all nmB = true)) (fun i => s.size - (intOf i).toNat)
  case atStart => exact ⟨0, Nat.zero_le _, rfl, by show _ = _; simp⟩
  case round =>
    obtain ⟨k, hk, rfl, hall⟩ := hrel
    by_cases hlt : k < s.size
    · cases hq : nmB s[k] with
      | true =>
        have hall' : Hid ((s.data.toList.take (k + 1)).all nmB = true) := all_step s k hlt hall.out hq
        have con := Lib.hid fun w => named_ref s[k] w true hq
        clear hq hall
        go_wp2_with (go_at_call 78; refine (con.out _).mono ?_; rintro e w' ⟨rfl, rfl⟩)
        go_round
        case rel => exact ⟨k + 1, by omega, by go_num, hall'⟩
        case measure => simp [intOf]; omega
      | false =>
        have hfin := Lib.hid (isNm_stop s k hlt hq)
        have con := Lib.hid fun w => named_ref s[k] w false hq
        clear hq hall
        go_wp2_with (go_at_call 78; refine (con.out _).mono ?_; rintro e w' ⟨rfl, rfl⟩)
        go_ret
        exact ⟨ret_bool hfin.out.symm, rfl⟩
    · have hfin := Lib.hid (isNm_full s (by have := hall.out; rwa [take_full s (by omega)] at this))
      clear hall
      go_wp2
      all_goals (go_ret; refine ⟨ret_bool ?_, rfl⟩; rw [hfin.out])
      all_goals (rw [Bool.eq_iff_iff]; simp only [Bool.and_eq_true, decide_eq_true_eq, Bool.false_eq_true, false_iff]; omega)

set_option maxRecDepth 100000 in
/-- the program's isName -/
theorem isName_any (s : ByteArray) (w : World) (hs : s.size ≤ maxLen) (z : Bool) (hz : isNm s.data.toList = z) :
    Calls Tryz.prog 58 #[.string s] w fun e w' => e = .returned (.bool z) ∧ w = w' := by
  subst hz
  unfold maxLen at hs
  have he : s.toList.isEmpty = decide (s.size = 0) := by rw [Lib.toList_data, isEmpty_size]
  by_cases h0 : s.size = 0
  · rw [decide_eq_true h0] at he
    have hfin : isNm s.data.toList = false := by unfold isNm; rw [← Lib.size_eq, h0]; simp
    rw [hfin]
    go_enter Tryz.func58, Tryz.ntmps58
    go_wp2
    go_ret
    exact ⟨rfl, rfl⟩
  rw [decide_eq_false h0] at he
  by_cases h30 : 30 < s.size
  · have hfin : isNm s.data.toList = false := by unfold isNm; rw [← Lib.size_eq, decide_eq_false (show ¬ s.size ≤ 30 by omega)]; simp
    rw [hfin]
    go_enter Tryz.func58, Tryz.ntmps58
    go_wp2
    go_ret
    exact ⟨rfl, rfl⟩
  go_enter Tryz.func58, Tryz.ntmps58
  go_wp2
  go_loop [3] (fun i => ∃ k : Nat, k ≤ s.size ∧ i = .int .i64 k ∧ Hid ((s.data.toList.take k).all nmB = true)) (fun i => s.size - (intOf i).toNat)
  case atStart => exact ⟨0, Nat.zero_le _, rfl, by show _ = _; simp⟩
  case round =>
    obtain ⟨k, hk, rfl, hall⟩ := hrel
    by_cases hlt : k < s.size
    · cases hq : nmB s[k] with
      | true =>
        have hall' : Hid ((s.data.toList.take (k + 1)).all nmB = true) := all_step s k hlt hall.out hq
        have con := Lib.hid fun w => named_any s[k] w true hq
        clear hq hall
        go_wp2_with (go_at_call 75; refine (con.out _).mono ?_; rintro e w' ⟨rfl, rfl⟩)
        go_round
        case rel => exact ⟨k + 1, by omega, by go_num, hall'⟩
        case measure => simp [intOf]; omega
      | false =>
        have hfin := Lib.hid (isNm_stop s k hlt hq)
        have con := Lib.hid fun w => named_any s[k] w false hq
        clear hq hall
        go_wp2_with (go_at_call 75; refine (con.out _).mono ?_; rintro e w' ⟨rfl, rfl⟩)
        go_ret
        exact ⟨ret_bool hfin.out.symm, rfl⟩
    · have hfin := Lib.hid (isNm_full s (by have := hall.out; rwa [take_full s (by omega)] at this))
      clear hall
      go_wp2
      go_ret
      refine ⟨ret_bool ?_, rfl⟩
      rw [hfin.out, decide_eq_true (show 1 ≤ s.size by omega), decide_eq_true (show s.size ≤ 30 by omega)]
      rfl
end Go.Proofs.YthniggdimfldhaaGreatDoor
