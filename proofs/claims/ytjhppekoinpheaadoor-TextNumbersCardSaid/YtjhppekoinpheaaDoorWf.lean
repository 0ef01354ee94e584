/- The walks of both functions Number, for every text, and of both functions Digits, for every number (the program's under the table of powers of ten that the library lays). -/
import Derived.Test.YtjhppekoinpheaaDoorWe
import Derived.Test.YtjhppekoinpheaaDoorWd
import Derived.Lib.AppendIntMem
import Derived.Lib.ItoaLen
namespace Go.Proofs.YtjhppekoinpheaaDoor
open Go Go.RowKit

theorem val_step (s : ByteArray) (k : Nat) (h : k < s.size) : Pl.val (s.data.toList.take (k + 1)) = 10 * Pl.val (s.data.toList.take k) + (s[k].toNat - 48) := by
  rw [Pl.val_take (by rw [← Lib.size_eq]; exact h), at_list s k h]
def NumLeft (l : List UInt8) (w : World) (e : Ending) (w' : World) : Prop := e = .returned (.tuple #[.int .i64 (Pl.numR l).1, .int .i64 (Pl.numR l).2]) ∧ w = w'
theorem dec_all (s : ByteArray) (h : Pl.isDec s.data.toList = true) (k : Nat) (hk : k < s.size) : 48 ≤ s[k].toNat ∧ s[k].toNat ≤ 57 := by
  rcases Decidable.em (48 ≤ s[k].toNat ∧ s[k].toNat ≤ 57) with hd | hd
  · exact hd
  · rw [dec_stop s k hk hd] at h; cases h

/-- the program's Number -/
theorem number_any (s : ByteArray) (w : World) (hs : s.size ≤ maxLen) : Calls Tryd.prog 15 #[.string s] w (NumLeft s.data.toList w) := by
  have hs' := hs
  unfold maxLen at hs
  by_cases hd : Pl.isDec s.data.toList = true
  · have HD := Lib.hid hd
    go_enter Tryd.func15, Tryd.ntmps15
    go_wp2_with (go_at_call 31; refine (isDecimal_any _ _ hs').mono ?_; rintro e w' ⟨rfl, rfl⟩; rw [hd])
    clear hd
    go_loop [4, 5] (fun n i => ∃ k m : Nat, k ≤ s.size ∧ i = .int .i64 k ∧ n = .int .i64 m ∧ m ≤ 9007199254740991 ∧ Hid (m = Pl.val (s.data.toList.take k))) (fun _ i => s.size - (intOf i).toNat)
    case atStart => exact ⟨0, 0, Nat.zero_le _, rfl, rfl, Nat.zero_le _, rfl⟩
    case round =>
      obtain ⟨k, m, hk, rfl, rfl, hm, hv⟩ := hrel
      by_cases hlt : k < s.size
      · obtain ⟨d1, d2⟩ := dec_all s HD.out k hlt
        have hst := val_step s k hlt
        rw [← hv.out] at hst
        have Hst := Lib.hid hst
        clear hst
        by_cases hbig : 10 * m + (s[k].toNat - 48) ≤ 9007199254740991
        · go_wp2_with fail
          go_round
          case rel => exact ⟨k + 1, 10 * m + (s[k].toNat - 48), by omega, by go_num, by go_num, hbig, Hst.out.symm⟩
          case measure => simp [intOf]; omega
        · go_wp2_with fail
          go_ret2
          have hmono := Pl.val_mono s.data.toList (k + 1)
          have hfin := Pl.numR_range HD.out (by rw [Pl.big_eq]; have := Hst.out; omega)
          exact ⟨by rw [hfin]; rfl, rfl⟩
      · go_wp2_with fail
        go_ret2
        have hfin := Pl.numR_ok HD.out (by rw [Pl.big_eq]; have := hv.out; rw [take_all s (by omega)] at this; omega)
        have hv' := hv.out
        rw [take_all s (by omega)] at hv'
        exact ⟨by rw [hfin, hv']; rfl, rfl⟩
  · have hd' : Pl.isDec s.data.toList = false := by simpa using hd
    have hfin := Lib.hid (Pl.numR_form hd')
    clear hd
    go_enter Tryd.func15, Tryd.ntmps15
    go_wp2_with (go_at_call 31; refine (isDecimal_any _ _ hs').mono ?_; rintro e w' ⟨rfl, rfl⟩; rw [hd'])
    go_ret2
    exact ⟨by rw [hfin.out]; rfl, rfl⟩

theorem min_step (v c : Nat) : min (10 * min v 9007199254740992 + c) 9007199254740992 = min (10 * v + c) 9007199254740992 := by
  rcases Nat.lt_or_ge v 9007199254740992 with h | h
  · rw [Nat.min_eq_left (Nat.le_of_lt h)]
  · rw [Nat.min_eq_right h, Nat.min_eq_right (by omega), Nat.min_eq_right (by omega)]

set_option maxHeartbeats 1000000 in
/-- the reference's Number -/
theorem refNumber_any (s : ByteArray) (w : World) (hs : s.size ≤ maxLen) : Calls Tryd.prog 16 #[.string s] w (NumLeft s.data.toList w) := by
  unfold maxLen at hs
  by_cases h0 : s.size = 0
  · have hfin := Lib.hid (Pl.numR_form (dec_none s h0))
    have e1 : s.toList.isEmpty = true := by rw [Lib.toList_data, isEmpty_size]; exact decide_eq_true h0
    go_enter Tryd.func16, Tryd.ntmps16
    go_wp2
    go_ret2
    exact ⟨by rw [hfin.out]; rfl, rfl⟩
  have e1 : s.toList.isEmpty = false := by rw [Lib.toList_data, isEmpty_size]; exact decide_eq_false h0
  have hp : 0 < s.size := by omega
  by_cases hz : s[0].toNat = 48 ∧ 1 < s.size
  · have hfin := Lib.hid (Pl.numR_form (dec_zero s hz.2 hz.1))
    have e2 : ((s[0].toNat : Int) == 48) = true := by rw [beq_iff_eq]; omega
    obtain ⟨_, hz2⟩ := hz
    go_enter Tryd.func16, Tryd.ntmps16
    go_wp2
    go_ret2
    exact ⟨by rw [hfin.out]; rfl, rfl⟩
  have HZ := Lib.hid hz
  have main : ∀ (b : Bool), ((s[0].toNat : Int) == 48) = b → (b = true → s.size ≤ 1) → Calls Tryd.prog 16 #[.string s] w (NumLeft s.data.toList w) := by
    intro b e2 hb
    clear hz
    cases b
    all_goals
      first | (have hb1 := hb rfl; clear hb) | clear hb
      go_enter Tryd.func16, Tryd.ntmps16
      go_wp2
      clear e2
      go_loop [4, 5] (fun n i => ∃ k m : Nat, k ≤ s.size ∧ i = .int .i64 k ∧ n = .int .i64 m ∧ m ≤ 9007199254740992 ∧ Hid (m = min (Pl.val (s.data.toList.take k)) 9007199254740992) ∧ Hid ((s.data.toList.take k).all Pl.digB = true)) (fun _ i => s.size - (intOf i).toNat)
      case atStart => exact ⟨0, 0, by omega, rfl, rfl, Nat.zero_le _, rfl, by simp [Hid]⟩
      case round =>
        obtain ⟨k, m, hk, rfl, rfl, hm, hv, hall⟩ := hrel
        by_cases hlt : k < s.size
        · by_cases hd1 : s[k].toNat < 48
          · have hfin := Lib.hid (Pl.numR_form (dec_stop s k hlt (by omega)))
            go_wp2
            go_ret2
            exact ⟨by rw [hfin.out]; rfl, rfl⟩
          · by_cases hd2 : 57 < s[k].toNat
            · have hfin := Lib.hid (Pl.numR_form (dec_stop s k hlt (by omega)))
              go_wp2
              go_ret2
              exact ⟨by rw [hfin.out]; rfl, rfl⟩
            · have hall' : Hid ((s.data.toList.take (k + 1)).all Pl.digB = true) := all_step s k hlt hall.out (Pl.digB_iff.2 ⟨by omega, by omega⟩)
              have hst : Hid (min (10 * m + (s[k].toNat - 48)) 9007199254740992 = min (Pl.val (s.data.toList.take (k + 1))) 9007199254740992) := by
                show _ = _
                rw [val_step s k hlt, hv.out, min_step]
              go_wp2
              go_round
              case rel => exact ⟨k + 1, min (10 * m + (s[k].toNat - 48)) 9007199254740992, by omega, by go_num, congrArg (Value.int .i64) (by omega), Nat.min_le_right _ _, hst, hall'⟩
              case measure => simp [intOf]; omega
        · have hdec := Lib.hid (dec_full s hp HZ.out (by have := hall.out; rwa [take_all s (by omega)] at this))
          have hv' : Hid (m = min (Pl.val s.data.toList) 9007199254740992) := by have := hv.out; rwa [take_all s (by omega)] at this
          by_cases hbig : 9007199254740991 < m
          · go_wp2
            go_ret2
            have hfin := Pl.numR_range hdec.out (by rw [Pl.big_eq]; have := hv'.out; omega)
            exact ⟨by rw [hfin]; rfl, rfl⟩
          · go_wp2
            go_ret2
            have hm' : m = Pl.val s.data.toList := by have := hv'.out; omega
            have hfin := Pl.numR_ok hdec.out (by rw [Pl.big_eq]; omega)
            exact ⟨by rw [hfin, hm']; rfl, rfl⟩
  by_cases hc : s[0].toNat = 48
  · exact main true (by rw [beq_iff_eq]; omega) (fun _ => by have := HZ.out; omega)
  · exact main false (by rw [beq_eq_false_iff_ne]; omega) (fun h => by cases h)

/-- the library's table of powers of ten -/
def Tab (w : World) : Prop := Lib.TabIs Tryd.prog w "internal/strconv.uint64pow10" .u64 Lib.pow10Tab
theorem pow_global : ∃ g, Tryd.prog.globalNamed "internal/strconv.uint64pow10" = some g := Option.isSome_iff_exists.1 (by kernel_rfl)
theorem Tab.below {w w' : World} (h : Tab w) (hb : Below w.heap.size w w') : Tab w' := by
  obtain ⟨g, hg⟩ := pow_global
  unfold Tab Lib.TabIs at *
  refine var?_below hb hg ?_ h
  unfold World.var? at h
  rw [hg, Option.bind_some] at h
  rcases Nat.lt_or_ge g w.heap.size with hlt | hge
  · exact hlt
  · rw [Array.getElem?_eq_none hge] at h; cases h
theorem Tab.drewN {w : World} (h : Tab w) (n : Nat) : Tab (w.drewN n) := h

theorem digits_no (n : Int) (w : World) (h : n < 0 ∨ 9007199254740991 < n) :
    Calls Tryd.prog 23 #[.int .i64 n] w fun e w' => e = .returned (.tuple #[.string ⟨#[]⟩, .int .i64 9]) ∧ w = w' := by
  rcases h with h | h
  · go_enter Tryd.func23, Tryd.ntmps23
    go_wp2_with fail
    go_ret2
    exact ⟨rfl, rfl⟩
  · have h' : ¬ n < 0 := by omega
    go_enter Tryd.func23, Tryd.ntmps23
    go_wp2_with fail
    go_ret2
    exact ⟨rfl, rfl⟩
theorem digits_any (n : Nat) (w : World) (ht : Tab w) (h : n ≤ 9007199254740991) :
    Calls Tryd.prog 23 #[.int .i64 n] w fun e w' => e = .returned (.tuple #[.string ⟨(Lib.decDigits n).toArray⟩, .int .i64 0]) ∧ Below w.heap.size w w' := by
  have h1 : ¬ (n : Int) < 0 := by omega
  have h2 : ¬ 9007199254740991 < (n : Int) := by omega
  have c := Lib.hid (Tryd.strconv_Itoa n (by omega) (by omega) w ht)
  rw [Lib.itoa_nonneg] at c
  go_enter Tryd.func23, Tryd.ntmps23
  go_wp2_with (go_at_call 35; refine c.out.mono ?_; rintro e w1 ⟨rfl, k, os, rfl⟩)
  go_ret2
  exact ⟨rfl, Lib.below_grow _ _ (Nat.le_refl _) _ _⟩

theorem refDigits_no (n : Int) (w : World) (h : n < 0 ∨ 9007199254740991 < n) :
    Calls Tryd.prog 24 #[.int .i64 n] w fun e w' => e = .returned (.tuple #[.string ⟨#[]⟩, .int .i64 9]) ∧ w = w' := by
  rcases h with h | h
  · go_enter Tryd.func24, Tryd.ntmps24
    go_wp2_with fail
    go_ret2
    exact ⟨rfl, rfl⟩
  · have h' : ¬ n < 0 := by omega
    go_enter Tryd.func24, Tryd.ntmps24
    go_wp2_with fail
    go_ret2
    exact ⟨rfl, rfl⟩

theorem dig_piece_fin : ∀ i : Fin 10, (⟨#[48, 49, 50, 51, 52, 53, 54, 55, 56, 57]⟩ : ByteArray).extract i.val (i.val + 1) = ⟨#[UInt8.ofNat (48 + i.val)]⟩ := by decide +kernel
theorem dig_piece (i : Nat) (h : i < 10) : (⟨#[48, 49, 50, 51, 52, 53, 54, 55, 56, 57]⟩ : ByteArray).extract i (i + 1) = ⟨#[UInt8.ofNat (48 + i)]⟩ := dig_piece_fin ⟨i, h⟩

theorem refDigits_any (n : Nat) (w : World) (h : n ≤ 9007199254740991) :
    Calls Tryd.prog 24 #[.int .i64 n] w fun e w' => e = .returned (.tuple #[.string ⟨(Lib.decDigits n).toArray⟩, .int .i64 0]) ∧ w = w' := by
  have h1 : ¬ (n : Int) < 0 := by omega
  have h2 : ¬ 9007199254740991 < (n : Int) := by omega
  go_enter Tryd.func24, Tryd.ntmps24
  go_wp2_with fail
  go_loop [0, 4] (fun i v => ∃ (m : Nat) (t : List UInt8), m ≤ n ∧ i = .int .i64 m ∧ v = .string ⟨t.toArray⟩ ∧ Hid (Lib.decDigits n = Lib.decDigits m ++ t)) (fun i _ => (intOf i).toNat)
  case atStart => exact ⟨n, [], Nat.le_refl _, rfl, rfl, by simp [Hid]⟩
  case round =>
    obtain ⟨m, t, hm, rfl, rfl, heq⟩ := hrel
    have htl : t.length ≤ 21 := by
      have h3 := Lib.itoa_length_le n (by omega) (by omega)
      rw [Lib.itoa_nonneg, heq.out, List.length_append] at h3; omega
    by_cases h9 : 9 < m
    · go_wp2_with fail
      go_round
      case rel =>
        refine ⟨m / 10, UInt8.ofNat (48 + m % 10) :: t, by omega, rfl, ?_, ?_⟩
        · rw [dig_piece _ (by omega)]; exact congrArg Value.string (ByteArray.mk_append_mk [UInt8.ofNat (48 + m % 10)] t)
        · show _ = _
          rw [heq.out, Pl.dec_step (n := m) (by omega)]; simp
      case measure => simp [intOf]; omega
    · go_wp2_with fail
      go_ret2
      refine ⟨?_, rfl⟩
      have e := ByteArray.mk_append_mk [UInt8.ofNat (48 + m)] t
      have h3 := heq.out
      rw [Lib.decDigits_one (i := m) (by omega)] at h3
      rw [h3, ← e]
      show Ending.returned (.tuple #[.string (_ ++ _), _]) = _
      rw [dig_piece m (by omega)]; rfl

end Go.Proofs.YtjhppekoinpheaaDoor
