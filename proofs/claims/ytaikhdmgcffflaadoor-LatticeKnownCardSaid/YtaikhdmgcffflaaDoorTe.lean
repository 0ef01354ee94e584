/- The walks of both functions Name, of isDecimal and of both functions Number: for every text. -/
import Derived.Test.YtaikhdmgcffflaaDoorTa
namespace Go.Proofs.YtaikhdmgcffflaaDoor
open Go Go.RowKit

theorem head_list (s : ByteArray) (h : 0 < s.size) : s.data.toList.getD 0 0 = s[0] := by
  rw [List.getD_eq_getElem?_getD, List.getElem?_eq_getElem (by rw [← Lib.size_eq]; exact h), at_list s 0 h]; rfl
theorem name_short (s : ByteArray) (h : s.size = 0) : Pl.nameR s.data.toList = 31 := Pl.nameR_no (Pl.bfalse Pl.isName_iff (by rw [← Lib.size_eq]; rintro ⟨h1, _⟩; omega))
theorem name_long (s : ByteArray) (h : 12 < s.size) : Pl.nameR s.data.toList = 31 := Pl.nameR_no (Pl.bfalse Pl.isName_iff (by rw [← Lib.size_eq]; rintro ⟨_, h1, _⟩; omega))
theorem name_head (s : ByteArray) (h : 0 < s.size) (hc : s[0].toNat < 97 ∨ 122 < s[0].toNat) : Pl.nameR s.data.toList = 31 :=
  Pl.nameR_no (Pl.bfalse Pl.isName_iff (by rw [head_list s h, Pl.letB_iff]; rintro ⟨_, _, h1, _⟩; omega))
theorem name_stop (s : ByteArray) (k : Nat) (h : k < s.size) (hc : ¬ ((97 ≤ s[k].toNat ∧ s[k].toNat ≤ 122) ∨ (48 ≤ s[k].toNat ∧ s[k].toNat ≤ 57) ∨ s[k].toNat = 45)) : Pl.nameR s.data.toList = 31 :=
  Pl.nameR_no (Pl.bfalse Pl.isName_iff (by rintro ⟨_, _, _, h1⟩; rw [all_stop s k h (Pl.bfalse Pl.namB_iff hc)] at h1; cases h1))
theorem name_full (s : ByteArray) (h : 0 < s.size) (h' : s.size ≤ 12) (hc : 97 ≤ s[0].toNat ∧ s[0].toNat ≤ 122) (ha : s.data.toList.all Pl.namB = true) : Pl.nameR s.data.toList = 0 :=
  Pl.nameR_yes (Pl.isName_iff.2 ⟨by rw [← Lib.size_eq]; omega, by rw [← Lib.size_eq]; omega, by rw [head_list s h, Pl.letB_iff]; exact hc, ha⟩)

/-- the program's Name -/
theorem name_any (s : ByteArray) (w : World) (hs : s.size ≤ maxLen) :
    Calls Tryd.prog 50 #[.string s] w fun e w' => e = .returned (.int .i64 (Pl.nameR s.data.toList)) ∧ w = w' := by
  unfold maxLen at hs
  by_cases h0 : s.size = 0
  · rw [name_short s h0]
    have e1 : s.toList.isEmpty = true := by rw [Lib.toList_data, isEmpty_size]; exact decide_eq_true h0
    go_enter Tryd.func50, Tryd.ntmps50
    go_wp2_with fail
    go_ret
    exact ⟨rfl, rfl⟩
  have e1 : s.toList.isEmpty = false := by rw [Lib.toList_data, isEmpty_size]; exact decide_eq_false h0
  by_cases h12 : 12 < s.size
  · rw [name_long s h12]
    go_enter Tryd.func50, Tryd.ntmps50
    go_wp2_with fail
    go_ret
    exact ⟨rfl, rfl⟩
  have hp : 0 < s.size := by omega
  by_cases hc : 97 ≤ s[0].toNat ∧ s[0].toNat ≤ 122
  · go_enter Tryd.func50, Tryd.ntmps50
    go_wp2_with (go_at_call 66; refine (isLetter_yes _ _ (by omega) (by omega)).mono ?_; rintro e w' ⟨rfl, rfl⟩)
    go_loop [3] (fun i => ∃ k : Nat, 1 ≤ k ∧ k ≤ s.size ∧ i = .int .i64 k ∧ Hid ((s.data.toList.take k).all Pl.namB = true)) (fun i => s.size - (intOf i).toNat)
    case atStart => exact ⟨1, Nat.le_refl _, by omega, rfl, all_step s 0 hp (by simp) (Pl.namB_iff.2 (.inl hc))⟩
    case round =>
      obtain ⟨k, hk1, hk, rfl, hall⟩ := hrel
      by_cases hlt : k < s.size
      · by_cases hl : 97 ≤ s[k].toNat ∧ s[k].toNat ≤ 122
        · have hall' : Hid ((s.data.toList.take (k + 1)).all Pl.namB = true) := all_step s k hlt hall.out (Pl.namB_iff.2 (.inl hl))
          go_wp2_with (go_at_call 66; refine (isLetter_yes _ _ (by omega) (by omega)).mono ?_; rintro e w' ⟨rfl, rfl⟩)
          go_round
          case rel => exact ⟨k + 1, by omega, by omega, by go_num, hall'⟩
          case measure => simp [intOf]; omega
        · by_cases hd : 48 ≤ s[k].toNat ∧ s[k].toNat ≤ 57
          · have hall' : Hid ((s.data.toList.take (k + 1)).all Pl.namB = true) := all_step s k hlt hall.out (Pl.namB_iff.2 (.inr (.inl hd)))
            go_wp2_with (first
              | (go_at_call 66; refine (isLetter_no _ _ (by omega)).mono ?_; rintro e w' ⟨rfl, rfl⟩)
              | (go_at_call 67; refine (isDigit_yes _ _ (by omega) (by omega)).mono ?_; rintro e w' ⟨rfl, rfl⟩))
            go_round
            case rel => exact ⟨k + 1, by omega, by omega, by go_num, hall'⟩
            case measure => simp [intOf]; omega
          · by_cases h45 : s[k].toNat = 45
            · have hall' : Hid ((s.data.toList.take (k + 1)).all Pl.namB = true) := all_step s k hlt hall.out (Pl.namB_iff.2 (.inr (.inr h45)))
              have e2 : ((s[k].toNat : Int) != 45) = false := by simp; omega
              go_wp2_with (first
                | (go_at_call 66; refine (isLetter_no _ _ (by omega)).mono ?_; rintro e w' ⟨rfl, rfl⟩)
                | (go_at_call 67; refine (isDigit_no _ _ (by omega)).mono ?_; rintro e w' ⟨rfl, rfl⟩))
              go_round
              case rel => exact ⟨k + 1, by omega, by omega, by go_num, hall'⟩
              case measure => simp [intOf]; omega
            · have hfin := Lib.hid (name_stop s k hlt (by omega))
              have e2 : ((s[k].toNat : Int) != 45) = true := by simp; omega
              go_wp2_with (first
                | (go_at_call 66; refine (isLetter_no _ _ (by omega)).mono ?_; rintro e w' ⟨rfl, rfl⟩)
                | (go_at_call 67; refine (isDigit_no _ _ (by omega)).mono ?_; rintro e w' ⟨rfl, rfl⟩))
              go_ret
              exact ⟨ret_int hfin.out.symm, rfl⟩
      · have hfin := Lib.hid (name_full s hp (by omega) hc (by have := hall.out; rwa [take_all s (by omega)] at this))
        go_wp2_with fail
        go_ret
        exact ⟨ret_int hfin.out.symm, rfl⟩
  · rw [name_head s hp (by omega)]
    go_enter Tryd.func50, Tryd.ntmps50
    go_wp2_with (go_at_call 66; refine (isLetter_no _ _ (by omega)).mono ?_; rintro e w' ⟨rfl, rfl⟩)
    go_ret
    exact ⟨rfl, rfl⟩

set_option maxHeartbeats 1000000 in
/-- the reference's Name -/
theorem refName_any (s : ByteArray) (w : World) (hs : s.size ≤ maxLen) :
    Calls Tryd.prog 57 #[.string s] w fun e w' => e = .returned (.int .i64 (Pl.nameR s.data.toList)) ∧ w = w' := by
  unfold maxLen at hs
  by_cases h0 : s.size = 0
  · rw [name_short s h0]
    have h0' : s.size < 1 := by omega
    clear h0
    go_enter Tryd.func57, Tryd.ntmps57
    go_wp2
    go_ret
    exact ⟨rfl, rfl⟩
  by_cases h12 : 12 < s.size
  · rw [name_long s h12]
    go_enter Tryd.func57, Tryd.ntmps57
    go_wp2
    go_ret
    exact ⟨rfl, rfl⟩
  have hp : 0 < s.size := by omega
  by_cases hl0 : s[0].toNat < 97
  · rw [name_head s hp (by omega)]
    go_enter Tryd.func57, Tryd.ntmps57
    go_wp2
    go_ret
    exact ⟨rfl, rfl⟩
  by_cases hl1 : 122 < s[0].toNat
  · rw [name_head s hp (by omega)]
    go_enter Tryd.func57, Tryd.ntmps57
    go_wp2
    go_ret
    exact ⟨rfl, rfl⟩
  go_enter Tryd.func57, Tryd.ntmps57
  go_wp2
  go_loop [3] (fun i => ∃ k : Nat, k ≤ s.size ∧ i = .int .i64 k ∧ Hid ((s.data.toList.take k).all Pl.namB = true)) (fun i => s.size - (intOf i).toNat)
  case atStart => exact ⟨0, by omega, rfl, by simp [Hid]⟩
  case round =>
    obtain ⟨k, hk, rfl, hall⟩ := hrel
    by_cases hlt : k < s.size
    · by_cases hl : 97 ≤ s[k].toNat ∧ s[k].toNat ≤ 122
      · have hall' : Hid ((s.data.toList.take (k + 1)).all Pl.namB = true) := all_step s k hlt hall.out (Pl.namB_iff.2 (.inl hl))
        obtain ⟨ha, hb⟩ := hl
        go_wp2
        go_round
        case rel => exact ⟨k + 1, by omega, by go_num, hall'⟩
        case measure => simp [intOf]; omega
      · by_cases hd : 48 ≤ s[k].toNat ∧ s[k].toNat ≤ 57
        · have hall' : Hid ((s.data.toList.take (k + 1)).all Pl.namB = true) := all_step s k hlt hall.out (Pl.namB_iff.2 (.inr (.inl hd)))
          obtain ⟨ha, hb⟩ := hd
          clear hl
          go_wp2
          go_round
          case rel => exact ⟨k + 1, by omega, by go_num, hall'⟩
          case measure => simp [intOf]; omega
        · by_cases h45 : s[k].toNat = 45
          · have hall' : Hid ((s.data.toList.take (k + 1)).all Pl.namB = true) := all_step s k hlt hall.out (Pl.namB_iff.2 (.inr (.inr h45)))
            have e2 : ((s[k].toNat : Int) != 45) = false := by simp; omega
            have e3 : s[k].toNat < 48 := by omega
            have e4 : 44 < s[k].toNat := by omega
            clear hl hd h45
            go_wp2
            go_round
            case rel => exact ⟨k + 1, by omega, by go_num, hall'⟩
            case measure => simp [intOf]; omega
          · have hfin := Lib.hid (name_stop s k hlt (by omega))
            have e2 : ((s[k].toNat : Int) != 45) = true := by simp; omega
            by_cases c1 : s[k].toNat < 48
            · clear hl hd h45
              go_wp2
              go_ret
              exact ⟨ret_int hfin.out.symm, rfl⟩
            · by_cases c2 : s[k].toNat < 97
              · have c3 : 57 < s[k].toNat := by omega
                clear hl hd h45
                go_wp2
                go_ret
                exact ⟨ret_int hfin.out.symm, rfl⟩
              · have c3 : 122 < s[k].toNat := by omega
                clear hl hd h45
                go_wp2
                go_ret
                exact ⟨ret_int hfin.out.symm, rfl⟩
    · have hfin := Lib.hid (name_full s hp (by omega) ⟨by omega, by omega⟩ (by have := hall.out; rwa [take_all s (by omega)] at this))
      go_wp2
      go_ret
      exact ⟨ret_int hfin.out.symm, rfl⟩

theorem dec_none (s : ByteArray) (h : s.size = 0) : Pl.isDec s.data.toList = false := Pl.isDec_nil (List.eq_nil_of_length_eq_zero (by rw [← Lib.size_eq]; exact h))
theorem dec_zero (s : ByteArray) (h : 1 < s.size) (hc : s[0].toNat = 48) : Pl.isDec s.data.toList = false :=
  Pl.isDec_zero (by rw [head_list s (by omega)]; exact UInt8.toNat_inj.1 hc) (by rw [← Lib.size_eq]; exact h)
theorem dec_stop (s : ByteArray) (k : Nat) (h : k < s.size) (hc : ¬ (48 ≤ s[k].toNat ∧ s[k].toNat ≤ 57)) : Pl.isDec s.data.toList = false :=
  Pl.isDec_stop (k := k) (by rw [← Lib.size_eq]; exact h) (by rw [at_list s k h]; exact Pl.bfalse Pl.digB_iff hc)
theorem dec_full (s : ByteArray) (h : 0 < s.size) (hc : ¬ (s[0].toNat = 48 ∧ 1 < s.size)) (ha : s.data.toList.all Pl.digB = true) : Pl.isDec s.data.toList = true :=
  Pl.isDec_mk (fun e => by have := Lib.size_eq s; rw [e, List.length_nil] at this; omega) (by
    rw [head_list s h, ← Lib.size_eq]; rintro ⟨h1, h2⟩; exact hc ⟨by rw [h1]; rfl, h2⟩) ha

end Go.Proofs.YtaikhdmgcffflaaDoor
