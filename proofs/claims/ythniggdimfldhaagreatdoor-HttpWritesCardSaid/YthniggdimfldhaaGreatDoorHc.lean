/- Walks of what tells values, in the program and in the chapter. -/
import Derived.Test.YthniggdimfldhaaGreatDoorHb
namespace Go.Proofs.YthniggdimfldhaaGreatDoor
open Go Go.RowKit

theorem isVl_stop (s : ByteArray) (k : Nat) (h : k < s.size) (hb : vlB s[k] = false) : isVl s.data.toList = false := by
  unfold isVl; rw [all_stop s k h hb]; rfl
theorem isVl_full (s : ByteArray) (h : s.data.toList.all vlB = true) : isVl s.data.toList = (decide (s.size ≤ 200) && endsV s.data.toList) := by
  unfold isVl; rw [h, Bool.true_and, ← Lib.size_eq]
theorem endsV_at (s : ByteArray) (h0 : 0 < s.size) : endsV s.data.toList = (decide (s[0].toNat ≠ 32) && decide ((s[s.size - 1]'(by omega)).toNat ≠ 32)) := by
  have hl : 0 < s.data.toList.length := by rw [← Lib.size_eq]; exact h0
  have g1 : s.data.toList.headD 0 = s[0] := by
    rw [← at_list s 0 h0]
    rw [List.headD_eq_head?_getD, List.head?_eq_getElem?, List.getElem?_eq_getElem hl]
    rfl
  have g2 : s.data.toList.getLastD 0 = s[s.size - 1]'(by omega) := by
    rw [← at_list s (s.size - 1) (by omega), List.getLastD_eq_getLast?, List.getLast?_eq_getElem?, List.getElem?_eq_getElem (by omega)]
    simp only [Lib.size_eq]
    rfl
  unfold endsV
  rw [decide_eq_false (by omega), g1, g2]
  rfl
theorem endsV_nil (s : ByteArray) (h0 : s.size = 0) : endsV s.data.toList = true := by
  unfold endsV
  rw [decide_eq_true (by rw [← Lib.size_eq]; exact h0)]
  rfl
theorem vlB_iff {c : UInt8} : vlB c = true ↔ 32 ≤ c.toNat ∧ c.toNat ≤ 126 := by unfold vlB; simp
theorem vlB_not {c : UInt8} : vlB c = false ↔ c.toNat < 32 ∨ 126 < c.toNat := by unfold vlB; simp; omega

set_option maxRecDepth 100000 in
theorem isValue_ref (s : ByteArray) (w : World) (hs : s.size ≤ maxLen) (z : Bool) (hz : isVl s.data.toList = z) :
    Calls Tryz.prog 64 #[.string s] w fun e w' => e = .returned (.bool z) ∧ w = w' := by
  subst hz
  unfold maxLen at hs
  go_enter Tryz.func64, Tryz.ntmps64
  go_wp2
  go_loop [3] (fun i => ∃ k : Nat, k ≤ s.size ∧ i = .int .i64 k ∧ Hid ((s.data.toList.take k).all vlB = true)) (fun i => s.size - (intOf i).toNat)
  case atStart => exact ⟨0, Nat.zero_le _, rfl, by show _ = _; simp⟩
  case round =>
    obtain ⟨k, hk, rfl, hall⟩ := hrel
    by_cases hlt : k < s.size
    · cases hq : vlB s[k] with
      | true =>
        have hall' : Hid ((s.data.toList.take (k + 1)).all vlB = true) := all_step s k hlt hall.out hq
        obtain ⟨q1, q2⟩ := vlB_iff.1 hq
        clear hq hall
        go_wp2_with fail
        go_round
        case rel => exact ⟨k + 1, by omega, by go_num, hall'⟩
        case measure => simp [intOf]; omega
      | false =>
        have hfin := Lib.hid (isVl_stop s k hlt hq)
        have hq := vlB_not.1 hq
        clear hall
        rcases hq with hq | hq
        · go_wp2_with fail
          go_ret
          exact ⟨ret_bool hfin.out.symm, rfl⟩
        · have hq' : 32 ≤ s[k].toNat := by omega
          go_wp2_with fail
          go_ret
          exact ⟨ret_bool hfin.out.symm, rfl⟩
    · have hfin := isVl_full s (by have := hall.out; rwa [take_full s (by omega)] at this)
      clear hall
      by_cases h0 : s.size = 0
      · rw [endsV_nil s h0, decide_eq_true (by omega)] at hfin
        have HF := Lib.hid hfin
        clear hfin
        have e0 : ((s.size : Int) == 0) = true := by rw [h0]; rfl
        have e1 : (s.size : Int) ≤ 200 := by omega
        go_wp2_with fail
        go_ret
        exact ⟨ret_bool HF.out.symm, rfl⟩
      · by_cases h200 : s.size ≤ 200
        · rw [endsV_at s (by omega), decide_eq_true h200, Bool.true_and] at hfin
          have HF := Lib.hid hfin
          clear hfin
          have e0 : ((s.size : Int) == 0) = false := by rw [beq_eq_false_iff_ne]; omega
          have e1 : (s.size : Int) ≤ 200 := by omega
          have e2 : (0 : Int) ≤ (s.size : Int) - 1 := by omega
          have e3 : (s.size : Int) - 1 < s.size := by omega
          have e4 : ((s.size : Int) - 1).toNat = s.size - 1 := by omega
          go_wp2
          all_goals (go_ret; refine ⟨ret_bool ?_, rfl⟩; rw [HF.out, Bool.eq_iff_iff]; simp only [Bool.and_eq_true, decide_eq_true_eq, bne_iff_ne, Bool.false_eq_true, false_iff]; omega)
        · rw [decide_eq_false h200, Bool.false_and] at hfin
          have HF := Lib.hid hfin
          clear hfin
          have e1 : ¬ (s.size : Int) ≤ 200 := by omega
          go_wp2_with fail
          go_ret
          exact ⟨ret_bool HF.out.symm, rfl⟩

set_option maxRecDepth 100000 in
/-- the program's isValue -/
theorem isValue_any (s : ByteArray) (w : World) (hs : s.size ≤ maxLen) (z : Bool) (hz : isVl s.data.toList = z) :
    Calls Tryz.prog 59 #[.string s] w fun e w' => e = .returned (.bool z) ∧ w = w' := by
  subst hz
  unfold maxLen at hs
  have he : s.toList.isEmpty = decide (s.size = 0) := by rw [Lib.toList_data, isEmpty_size]
  by_cases h200 : 200 < s.size
  · have hfin : isVl s.data.toList = false := by unfold isVl; rw [← Lib.size_eq, decide_eq_false (show ¬ s.size ≤ 200 by omega)]; simp
    rw [hfin]
    clear he hfin
    go_enter Tryz.func59, Tryz.ntmps59
    go_wp2
    go_ret
    exact ⟨rfl, rfl⟩
  have h200 : s.size ≤ 200 := by omega
  have HE := Lib.hid he
  clear he
  go_enter Tryz.func59, Tryz.ntmps59
  go_wp2
  go_loop [3] (fun i => ∃ k : Nat, k ≤ s.size ∧ i = .int .i64 k ∧ Hid ((s.data.toList.take k).all vlB = true)) (fun i => s.size - (intOf i).toNat)
  case atStart => exact ⟨0, Nat.zero_le _, rfl, by show _ = _; simp⟩
  case round =>
    obtain ⟨k, hk, rfl, hall⟩ := hrel
    by_cases hlt : k < s.size
    · cases hq : vlB s[k] with
      | true =>
        have hall' : Hid ((s.data.toList.take (k + 1)).all vlB = true) := all_step s k hlt hall.out hq
        obtain ⟨q1, q2⟩ := vlB_iff.1 hq
        clear hq hall
        go_wp2_with fail
        go_round
        case rel => exact ⟨k + 1, by omega, by go_num, hall'⟩
        case measure => simp [intOf]; omega
      | false =>
        have hfin := Lib.hid (isVl_stop s k hlt hq)
        have hq := vlB_not.1 hq
        clear hall
        rcases hq with hq | hq
        · go_wp2_with fail
          go_ret
          exact ⟨ret_bool hfin.out.symm, rfl⟩
        · have hq' : 32 ≤ s[k].toNat := by omega
          go_wp2_with fail
          go_ret
          exact ⟨ret_bool hfin.out.symm, rfl⟩
    · have hfin := isVl_full s (by have := hall.out; rwa [take_full s (by omega)] at this)
      clear hall
      rw [decide_eq_true h200, Bool.true_and] at hfin
      by_cases h0 : s.size = 0
      · rw [endsV_nil s h0] at hfin
        have HF := Lib.hid hfin
        clear hfin
        have e0 : s.toList.isEmpty = true := by rw [HE.out]; exact decide_eq_true h0
        clear HE
        go_wp2_with fail
        go_ret
        exact ⟨ret_bool HF.out.symm, rfl⟩
      · rw [endsV_at s (by omega)] at hfin
        have HF := Lib.hid hfin
        clear hfin
        have e0 : s.toList.isEmpty = false := by rw [HE.out]; exact decide_eq_false h0
        clear HE
        have e2 : (0 : Int) ≤ (s.size : Int) - 1 := by omega
        have e3 : (s.size : Int) - 1 < s.size := by omega
        have e4 : ((s.size : Int) - 1).toNat = s.size - 1 := by omega
        go_wp2
        all_goals (go_ret; refine ⟨ret_bool ?_, rfl⟩; rw [HF.out, Bool.eq_iff_iff]; simp only [Bool.and_eq_true, decide_eq_true_eq, bne_iff_ne, Bool.false_eq_true, false_iff]; omega)
end Go.Proofs.YthniggdimfldhaaGreatDoor
