/- The chapter's functions of layer 6: small, part, Plain. -/
import Derived.Test.YtiakbmllpnabnaaGreatDoorGe
namespace Go.Proofs.YtiakbmllpnabnaaGreatDoor
open Go Go.RowKit Pl

theorem isLab_long {l : List UInt8} (h : 20 < l.length) : isLab l = false := by unfold isLab; rw [decide_eq_false (by omega)]; simp
theorem isLab_head {l : List UInt8} (h : 0 < l.length) (hc : l[0] = 45) : isLab l = false := by
  unfold isLab
  have : l.head? = some 45 := by rw [List.head?_eq_getElem?, List.getElem?_eq_getElem h, hc]
  rw [decide_eq_true this]; simp
theorem last_at {l : List UInt8} (h : 0 < l.length) : l.getLast? = some (l[l.length - 1]'(by omega)) := by
  rw [List.getLast?_eq_getElem?, List.getElem?_eq_getElem (by omega)]
theorem isLab_last {l : List UInt8} (h : 0 < l.length) (hc : l[l.length - 1]'(by omega) = 45) : isLab l = false := by
  unfold isLab
  rw [decide_eq_true (show l.getLast? = some 45 by rw [last_at h, hc])]; simp
theorem isLab_stop {l : List UInt8} {k : Nat} (h : k < l.length) (hb : lbB l[k] = false) : isLab l = false := by unfold isLab; rw [all_false h hb]; simp
theorem isLab_mk {l : List UInt8} (h : 0 < l.length) (h20 : l.length ≤ 20) (h0 : l[0] ≠ 45) (hl : l[l.length - 1]'(by omega) ≠ 45) (ha : l.all lbB = true) : isLab l = true := by
  unfold isLab
  have e0 : l.isEmpty = false := by cases l with | nil => simp at h | cons _ _ => rfl
  have e1 : decide (l.head? = some 45) = false := decide_eq_false (by rw [List.head?_eq_getElem?, List.getElem?_eq_getElem h]; simpa using h0)
  have e2 : decide (l.getLast? = some 45) = false := decide_eq_false (by rw [last_at h]; simpa using hl)
  rw [e0, e1, e2, decide_eq_true h20, ha]; rfl
theorem ne45 {c : UInt8} (h : c ≠ 45) : ¬ (c.toNat : Int) = 45 := fun e => h (by rw [eqB]; show c.toNat = 45; omega)
theorem lbB_cases {c : UInt8} (h : lbB c = true) : (97 ≤ c.toNat ∧ c.toNat ≤ 122) ∨ (c.toNat < 97 ∧ 48 ≤ c.toNat ∧ c.toNat ≤ 57) ∨ (c.toNat < 48 ∧ c.toNat = 45) := by
  have := lbB_iff.1 h; omega
theorem lbB_bad {c : UInt8} (h : lbB c = false) : (122 < c.toNat) ∨ (c.toNat < 97 ∧ 57 < c.toNat) ∨ (c.toNat < 48 ∧ c.toNat ≠ 45) := by
  have : ¬ ((97 ≤ c.toNat ∧ c.toNat ≤ 122) ∨ (48 ≤ c.toNat ∧ c.toNat ≤ 57) ∨ c.toNat = 45) := fun e => by rw [lbB_iff.2 e] at h; cases h
  omega

set_option maxRecDepth 100000 in
set_option maxHeartbeats 1000000 in
theorem part_ref (s : ByteArray) (w : World) (hs : s.size ≤ 1000000) : Calls Tryz.prog 78 #[.string s] w fun e w' => e = .returned (.bool (isLab s.data.toList)) ∧ w = w' := by
  have hz := Lib.size_eq s
  by_cases h0 : s.size = 0
  · have E : isLab s.data.toList = false := by
      have : s.data.toList = [] := List.length_eq_zero_iff.1 (by rw [← hz]; exact h0)
      rw [this]; rfl
    rw [E]
    have h1 : (s.size : Int) < 1 := by omega
    clear hz E
    go_enter Tryz.func78, Tryz.ntmps78
    go_wp2_with fail
    go_ret
    exact ⟨rfl, rfl⟩
  have p0 : 0 < s.size := by omega
  have q1 : ¬ (s.size : Int) < 1 := by omega
  by_cases h20 : 20 < (s.size : Int)
  · rw [isLab_long (l := s.data.toList) (by omega)]
    clear hz h0
    go_enter Tryz.func78, Tryz.ntmps78
    go_wp2_with fail
    go_ret
    exact ⟨rfl, rfl⟩
  have hz0 : 0 < s.data.toList.length := by omega
  have a0 := at_list s 0 p0
  by_cases hh : (s[0]'p0) = 45
  · rw [isLab_head hz0 (by rw [a0, hh])]
    have c0 : (((s[0]'p0).toNat : Int) == 45) = true := by rw [hh]; rfl
    clear hz h0 hz0 a0
    go_enter Tryz.func78, Tryz.ntmps78
    go_wp2_with fail
    go_ret
    exact ⟨rfl, rfl⟩
  have c0 : (((s[0]'p0).toNat : Int) == 45) = false := by rw [beq_eq_false_iff_ne]; exact ne45 hh
  have c0' := ne45 hh
  have pl : s.size - 1 < s.size := by omega
  have al := at_list s (s.size - 1) pl
  have t1 : ((s.size : Int) - 1).toNat = s.size - 1 := by omega
  have t2 : (0 : Int) ≤ (s.size : Int) - 1 := by omega
  by_cases hl : (s[s.size - 1]'pl) = 45
  · have E : isLab s.data.toList = false := isLab_last hz0 (by simp only [← hz]; rw [al, hl])
    rw [E]
    have cl : (((s[s.size - 1]'pl).toNat : Int) == 45) = true := by rw [hl]; rfl
    clear hz h0 hz0 a0 al E hh
    go_enter Tryz.func78, Tryz.ntmps78
    go_wp2_with fail
    go_ret
    exact ⟨rfl, rfl⟩
  have cl : (((s[s.size - 1]'pl).toNat : Int) == 45) = false := by rw [beq_eq_false_iff_ne]; exact ne45 hl
  have cl' := ne45 hl
  have MK : Hid (s.data.toList.all lbB = true → isLab s.data.toList = true) := Lib.hid fun ha => isLab_mk hz0 (by omega) (by rw [a0]; exact hh) (by simp only [← hz]; rw [al]; exact hl) ha
  have ST : Hid (∀ k (hk : k < s.size), lbB s[k] = false → isLab s.data.toList = false) := Lib.hid fun k hk hb => isLab_stop (k := k) (by omega) (by rw [at_list s k hk]; exact hb)
  clear hz h0 hz0 a0 al hh hl
  go_enter Tryz.func78, Tryz.ntmps78
  go_wp2_with fail
  clear c0 c0' cl cl'
  go_loop [3] (fun i => ∃ k : Nat, k ≤ s.size ∧ Hid ((s.data.toList.take k).all lbB = true) ∧ i = .int .i64 k) (fun i => s.size - (intOf i).toNat)
  case atStart => exact ⟨0, Nat.zero_le _, Lib.hid (by simp), rfl⟩
  case round =>
    obtain ⟨k, hk, ha, rfl⟩ := hrel
    by_cases hlt : k < s.size
    · cases hb : lbB s[k]
      · have B := lbB_bad hb
        have E := Lib.hid (ST.out k hlt hb)
        clear hb
        rcases B with B | ⟨B1, B2⟩ | ⟨B1, B2⟩
        all_goals
          have n45 : ((s[k].toNat : Int) != 45) = true := by rw [bne_iff_ne]; omega
          go_wp2_with fail
          go_ret
          exact ⟨ret_bool E.out.symm, rfl⟩
      · have B := lbB_cases hb
        have HB := Lib.hid (all_step (p := lbB) s k hlt ha.out hb)
        clear hb
        rcases B with ⟨B1, B2⟩ | ⟨B0, B1, B2⟩ | ⟨B1, B2⟩
        all_goals
          go_wp2_with fail
          go_round
          case rel => exact ⟨k + 1, by omega, HB, by go_num⟩
          case measure => simp [intOf]; omega
    · have E := Lib.hid (MK.out (by have := ha.out; rwa [take_all s (by omega)] at this))
      go_wp2_with fail
      go_ret
      exact ⟨ret_bool E.out.symm, rfl⟩
end Go.Proofs.YtiakbmllpnabnaaGreatDoor
