/- The program: methods, statuses, bytes within bounds. The program: strings.Cut at one byte; paths. -/
import Derived.Test.YthniggdimfldhaaGreatDoorHa
import Derived.Test.YthniggdimfldhaaGreatDoorHb
import Derived.Test.YthniggdimfldhaaGreatDoorNp
import Derived.Test.YthniggdimfldhaaGreatDoorNs
import Derived.Test.YthniggdimfldhaaGreatDoorHs
namespace Go.Proofs.YthniggdimfldhaaGreatDoor
open Go Go.RowKit

set_option maxRecDepth 100000 in
theorem isMethod_any (s : List UInt8) (w : World) : Calls Tryz.prog 56 #[.string ⟨s.toArray⟩] w fun e w' => e = .returned (.bool (isMeth s)) ∧ w = w' := by
  go_enter Tryz.func56, Tryz.ntmps56
  go_wp2
  all_goals (first | (exfalso; simp_all; done) | (go_ret; refine ⟨ret_bool ?_, rfl⟩; unfold isMeth sGET sPUT sPOST sDELETE sHEAD; simp_all))
set_option maxRecDepth 100000 in
theorem isStatus_any (n : Int) (w : World) : Calls Tryz.prog 46 #[.int .i64 n] w fun e w' => e = .returned (.bool (isSt n)) ∧ w = w' := by
  go_enter Tryz.func46, Tryz.ntmps46
  go_wp2
  all_goals (go_ret; refine ⟨ret_bool ?_, rfl⟩; unfold isSt; rw [Bool.eq_iff_iff]; simp only [Bool.and_eq_true, decide_eq_true_eq, false_iff, Bool.false_eq_true, not_and]; omega)
/-- bytes within bounds -/
def wiB (a b : Nat) (c : UInt8) : Bool := decide (a ≤ c.toNat) && decide (c.toNat ≤ b)
theorem wi_vl : wiB 32 126 = vlB := rfl
theorem at_lst (s : List UInt8) (k : Nat) (h : k < s.length) : (⟨s.toArray⟩ : ByteArray)[k]'(by rw [mk_size]; exact h) = s[k] := by rfl
set_option maxRecDepth 100000 in
theorem allWithin_any (s : List UInt8) (a b : Nat) (w : World) (hs : s.length ≤ 1000000) (z : Bool) (hz : s.all (wiB a b) = z) :
    Calls Tryz.prog 73 #[.string ⟨s.toArray⟩, .int .u8 (a : Int), .int .u8 (b : Int)] w fun e w' => e = .returned (.bool z) ∧ w = w' := by
  subst hz
  have hsz := mk_size s
  go_enter Tryz.func73, Tryz.ntmps73
  go_wp2
  go_loop [7] (fun i => ∃ k : Nat, k ≤ s.length ∧ i = .int .i64 k ∧ Hid ((s.take k).all (wiB a b) = true)) (fun i => s.length - (intOf i).toNat)
  case atStart => exact ⟨0, Nat.zero_le _, rfl, by show _ = _; simp⟩
  case round =>
    obtain ⟨k, hk, rfl, hall⟩ := hrel
    by_cases hlt : k < s.length
    · have ha := all_take (p := wiB a b) hlt
      rw [hall.out, Bool.true_and] at ha
      have HA := Lib.hid ha
      clear ha
      have hat := at_lst s k hlt
      have hlt' : k < (⟨s.toArray⟩ : ByteArray).size := by rw [hsz]; exact hlt
      by_cases h1 : a ≤ s[k].toNat
      · by_cases h2 : s[k].toNat ≤ b
        · have hall' : Hid ((s.take (k + 1)).all (wiB a b) = true) := by show _ = _; rw [HA.out]; unfold wiB; rw [decide_eq_true h1, decide_eq_true h2]; rfl
          clear hall
          go_wp2
          go_round
          case rel => exact ⟨k + 1, by omega, by go_num, hall'⟩
          case measure => simp [intOf]; omega
        · have hfin := Lib.hid (all_false (p := wiB a b) hlt (by unfold wiB; rw [decide_eq_false h2, Bool.and_false]))
          clear hall
          go_wp2
          go_ret
          exact ⟨ret_bool hfin.out.symm, rfl⟩
      · have hfin := Lib.hid (all_false (p := wiB a b) hlt (by unfold wiB; rw [decide_eq_false h1, Bool.false_and]))
        clear hall
        go_wp2
        go_ret
        exact ⟨ret_bool hfin.out.symm, rfl⟩
    · have hfin : Hid (s.all (wiB a b) = true) := by have := hall.out; rwa [List.take_of_length_le (by omega)] at this
      clear hall
      go_wp2
      go_ret
      exact ⟨ret_bool hfin.out.symm, rfl⟩
end Go.Proofs.YthniggdimfldhaaGreatDoor
namespace Go.Proofs.YthniggdimfldhaaGreatDoor
open Go Go.RowKit

def hasB (d : UInt8) (l : List UInt8) : Bool := decide (d ∈ l)
theorem index_upto (d : UInt8) (l : List UInt8) : Lib.indexByte l d = if d ∈ l then ((uptoB d l).length : Int) else -1 := by
  induction l with
  | nil => rfl
  | cons c r ih =>
    unfold Lib.indexByte
    by_cases h : c = d
    · subst h; simp [uptoB]
    · rw [if_neg (by simpa using h), ih]
      by_cases hm : d ∈ r
      · rw [if_pos hm, if_neg (by rw [beq_iff_eq]; omega), if_pos (by simp [hm])]
        unfold uptoB
        rw [List.takeWhile_cons, if_pos (by simpa using h), List.length_cons]
        omega
      · simp [hm, Ne.symm h]
theorem upto_none {d : UInt8} {l : List UInt8} (h : d ∉ l) : uptoB d l = l ∧ pastB d l = [] := by
  induction l with
  | nil => exact ⟨rfl, rfl⟩
  | cons c r ih =>
    simp only [List.mem_cons, not_or] at h
    obtain ⟨a, b⟩ := ih h.2
    have hc : c ≠ d := fun e => h.1 e.symm
    constructor
    · unfold uptoB at *; rw [List.takeWhile_cons, if_pos (by simpa using hc), a]
    · unfold pastB at *; rw [List.dropWhile_cons, if_pos (by simpa using hc), b]
theorem take_upto (d : UInt8) (l : List UInt8) : l.take (uptoB d l).length = uptoB d l := by
  unfold uptoB
  induction l with
  | nil => rfl
  | cons c r ih =>
    by_cases h : c = d
    · subst h; simp
    · rw [List.takeWhile_cons, if_pos (by simpa using h), List.length_cons, List.take_succ_cons, ih]
theorem drop_upto (d : UInt8) (l : List UInt8) : l.drop ((uptoB d l).length + 1) = pastB d l := by
  unfold uptoB pastB
  induction l with
  | nil => rfl
  | cons c r ih =>
    by_cases h : c = d
    · subst h; simp
    · rw [List.takeWhile_cons, if_pos (by simpa using h), List.length_cons, List.drop_succ_cons, ih, List.dropWhile_cons, if_pos (by simpa using h)]
theorem upto_lt {d : UInt8} {l : List UInt8} (h : d ∈ l) : (uptoB d l).length < l.length := by
  induction l with
  | nil => simp at h
  | cons c r ih =>
    by_cases hc : c = d
    · subst hc; simp [uptoB]
    · have hr : d ∈ r := by simpa [Ne.symm hc] using h
      have := ih hr
      unfold uptoB at *
      rw [List.takeWhile_cons, if_pos (by simpa using hc), List.length_cons, List.length_cons]
      omega
theorem upto_len (d : UInt8) (l : List UInt8) : (uptoB d l).length ≤ l.length := by unfold uptoB; exact (List.takeWhile_sublist _).length_le
theorem past_len (d : UInt8) (l : List UInt8) : (pastB d l).length ≤ l.length := by rw [← drop_upto, List.length_drop]; omega
theorem piece_take (l : List UInt8) (k : Nat) : (⟨l.toArray⟩ : ByteArray).extract 0 k = ⟨(l.take k).toArray⟩ := by
  rw [Lib.extract_eq]; simp
theorem piece_drop (l : List UInt8) (k n : Nat) (hn : l.length ≤ n) : (⟨l.toArray⟩ : ByteArray).extract k n = ⟨(l.drop k).toArray⟩ := by
  rw [Lib.extract_eq, mk_toList, List.take_of_length_le]
  rw [List.length_drop]; omega

set_option maxRecDepth 100000 in
/-- internal/stringslite.Cut at one byte -/
theorem litecutB_any (l : List UInt8) (d : UInt8) (w : World) (hs : l.length ≤ 1000000) :
    Calls Tryz.prog 125 #[.string ⟨l.toArray⟩, .string ⟨#[d]⟩] w fun e w' => e = .returned (.tuple #[.string ⟨(uptoB d l).toArray⟩, .string ⟨(pastB d l).toArray⟩, .bool (hasB d l)]) ∧ ∃ n, w' = w.drewN n := by
  have hsz := mk_size l
  by_cases h : d ∈ l
  · have hdd := Lib.hid (show hasB d l = true from decide_eq_true h)
    have hlt := upto_lt h
    have hix := index_upto d l
    rw [if_pos h] at hix
    have hp := Lib.hid ((piece_take l (uptoB d l).length).trans (by rw [take_upto]))
    have ht := Lib.hid ((piece_drop l ((uptoB d l).length + 1) l.length (Nat.le_refl _)).trans (by rw [drop_upto]))
    generalize uptoB d l = hd at *
    generalize pastB d l = tl at *
    obtain ⟨k, hk⟩ : ∃ k, k = hd.length := ⟨_, rfl⟩
    rw [← hk] at hix hp ht hlt
    rw [← hp.out, ← ht.out]
    have HIX := Lib.hid hix
    clear hp ht hk hix
    have c1 : (0 : Int) ≤ ↑k := by omega
    have c2 : (↑k : Int) ≤ ↑l.length := by omega
    have c3 : (0 : Int) ≤ ↑k + 1 := by omega
    have c4 : (↑k + 1 : Int) ≤ ↑l.length := by omega
    go_enter Tryz.func125, Tryz.ntmps125
    go_wp2_with (go_at_call 105; refine (Tryz.stringslite_Index_one _ _ _).mono ?_; rintro e w' ⟨rfl, rfl⟩; rw [mk_toList, HIX.out])
    go_region
    go_wp2
    go_ret3
    exact ⟨by rw [hdd.out]; rfl, 1, rfl⟩
  · have hdd := Lib.hid (show hasB d l = false from decide_eq_false h)
    have hix := Lib.hid (index_upto d l)
    rw [if_neg h] at hix
    rw [(upto_none h).1, (upto_none h).2]
    go_enter Tryz.func125, Tryz.ntmps125
    go_wp2_with (go_at_call 105; refine (Tryz.stringslite_Index_one _ _ _).mono ?_; rintro e w' ⟨rfl, rfl⟩; rw [mk_toList, hix.out])
    go_ret3
    exact ⟨by rw [hdd.out]; rfl, 0, rfl⟩
set_option maxRecDepth 100000 in
theorem cutB_any (l : List UInt8) (d : UInt8) (w : World) (hs : l.length ≤ 1000000) :
    Calls Tryz.prog 108 #[.string ⟨l.toArray⟩, .string ⟨#[d]⟩] w fun e w' => e = .returned (.tuple #[.string ⟨(uptoB d l).toArray⟩, .string ⟨(pastB d l).toArray⟩, .bool (hasB d l)]) ∧ ∃ n, w' = w.drewN n := by
  go_enter Tryz.func108, Tryz.ntmps108
  go_wp2_with (go_at_call 125; refine (litecutB_any _ _ _ hs).mono ?_; rintro e w' ⟨rfl, n, rfl⟩)
  go_ret3
  exact ⟨rfl, _, rfl⟩

theorem pre_one (l : List UInt8) (c : UInt8) : Lib.hasPrefix l [c] = (decide (1 ≤ l.length) && decide (l.headD 0 = c)) := by
  cases l with
  | nil => rfl
  | cons x l =>
    have e : Lib.hasPrefix (x :: l) [c] = (c == x) := by
      show ((c == x) && true) = _
      rw [Bool.and_true]
    rw [e, Bool.eq_iff_iff, beq_iff_eq, Bool.and_eq_true, decide_eq_true_eq, decide_eq_true_eq]
    exact ⟨fun h => ⟨Nat.succ_pos _, h.symm⟩, fun h => h.2.symm⟩
theorem ptB_split (l : List UInt8) : l.all ptB = (l.all (wiB 33 126) && !decide (35 ∈ l)) := by
  rw [Bool.eq_iff_iff]
  simp only [List.all_eq_true, Bool.and_eq_true, Bool.not_eq_true', decide_eq_false_iff_not]
  constructor
  · intro h
    refine ⟨fun c hc => ?_, fun hm => ?_⟩
    · have := h c hc
      unfold ptB at this
      unfold wiB
      simp at this ⊢
      omega
    · have := h 35 hm
      revert this
      decide
  · rintro ⟨h1, h2⟩ c hc
    have := h1 c hc
    have hne : c.toNat ≠ 35 := fun e => h2 (by have : c = 35 := UInt8.toNat_inj.1 e; rwa [this] at hc)
    unfold wiB at this
    unfold ptB
    simp at this ⊢
    omega
theorem has_index (l : List UInt8) (d : UInt8) : decide (0 ≤ Lib.indexByte l d) = decide (d ∈ l) := by
  rw [index_upto]
  by_cases h : d ∈ l
  · rw [if_pos h, decide_eq_true h, decide_eq_true (by omega)]
  · rw [if_neg h, decide_eq_false h, decide_eq_false (by omega)]
theorem containsB_any (s : List UInt8) (d : UInt8) (w : World) (z : Bool) (hz : decide (d ∈ s) = z) : Calls Tryz.prog 74 #[.string ⟨s.toArray⟩, .string ⟨#[d]⟩] w fun e w' => e = .returned (.bool z) ∧ w' = w := by
  subst hz
  rw [← has_index]
  have := Tryz.strings_Contains_one ⟨s.toArray⟩ d w
  rwa [mk_toList] at this
theorem hasPrefix_any (s p : List UInt8) (w : World) (z : Bool) (hz : Lib.hasPrefix s p = z) : Calls Tryz.prog 72 #[.string ⟨s.toArray⟩, .string ⟨p.toArray⟩] w fun e w' => e = .returned (.bool z) ∧ w' = w := by
  subst hz
  have := Tryz.strings_HasPrefix ⟨s.toArray⟩ ⟨p.toArray⟩ w
  rwa [mk_toList, mk_toList] at this
set_option maxRecDepth 100000 in
/-- the program's isPath -/
theorem isPath_any (s : List UInt8) (w : World) (hs : s.length ≤ 1000000) : Calls Tryz.prog 57 #[.string ⟨s.toArray⟩] w fun e w' => e = .returned (.bool (isPath s)) ∧ w = w' := by
  have hsz := mk_size s
  have e : isPath s = (Lib.hasPrefix s [47] && (decide (s.length ≤ 60) && (s.all (wiB 33 126) && !decide (35 ∈ s)))) := by
    unfold isPath
    rw [ptB_split, pre_one]
    cases s.all (wiB 33 126) <;> cases decide (35 ∈ s) <;> cases decide (1 ≤ s.length) <;> cases decide (s.headD 0 = 47) <;> cases decide (s.length ≤ 60) <;> rfl
  rw [e]
  clear e
  have C1 := Lib.hid fun w => hasPrefix_any s [47] w _ rfl
  have C2 := Lib.hid fun w => allWithin_any s 33 126 w hs _ rfl
  have C3 := Lib.hid fun w => containsB_any s 35 w _ rfl
  cases h1 : Lib.hasPrefix s [47] with
  | false =>
    rw [Bool.false_and]
    rw [h1] at C1
    clear h1
    go_enter Tryz.func57, Tryz.ntmps57
    go_wp2_with (go_at_call 72; refine (C1.out _).mono ?_; rintro e w' ⟨rfl, rfl⟩)
    go_ret
    exact ⟨rfl, rfl⟩
  | true =>
    rw [Bool.true_and]
    rw [h1] at C1
    clear h1
    by_cases h2 : s.length ≤ 60
    · rw [decide_eq_true h2, Bool.true_and]
      have d2 : decide ((s.length : Int) ≤ 60) = true := decide_eq_true (by omega)
      cases h3 : s.all (wiB 33 126) with
      | false =>
        rw [Bool.false_and]
        rw [h3] at C2
        clear h3
        go_enter Tryz.func57, Tryz.ntmps57
        go_wp2_with (first | (go_at_call 72; refine (C1.out _).mono ?_; rintro e w' ⟨rfl, rfl⟩) | (go_at_call 73; refine (C2.out _).mono ?_; rintro e w' ⟨rfl, rfl⟩))
        go_ret
        exact ⟨rfl, rfl⟩
      | true =>
        rw [Bool.true_and]
        rw [h3] at C2
        clear h3
        cases h4 : decide (35 ∈ s) with
        | false =>
          rw [h4] at C3
          clear h4
          go_enter Tryz.func57, Tryz.ntmps57
          go_wp2_with (first | (go_at_call 72; refine (C1.out _).mono ?_; rintro e w' ⟨rfl, rfl⟩) | (go_at_call 73; refine (C2.out _).mono ?_; rintro e w' ⟨rfl, rfl⟩) | (go_at_call 74; refine (C3.out _).mono ?_; rintro e w' ⟨rfl, rfl⟩))
          go_ret
          exact ⟨rfl, rfl⟩
        | true =>
          rw [h4] at C3
          clear h4
          go_enter Tryz.func57, Tryz.ntmps57
          go_wp2_with (first | (go_at_call 72; refine (C1.out _).mono ?_; rintro e w' ⟨rfl, rfl⟩) | (go_at_call 73; refine (C2.out _).mono ?_; rintro e w' ⟨rfl, rfl⟩) | (go_at_call 74; refine (C3.out _).mono ?_; rintro e w' ⟨rfl, rfl⟩))
          go_ret
          exact ⟨rfl, rfl⟩
    · rw [decide_eq_false h2, Bool.false_and]
      have d2 : decide ((s.length : Int) ≤ 60) = false := decide_eq_false (by omega)
      go_enter Tryz.func57, Tryz.ntmps57
      go_wp2_with (go_at_call 72; refine (C1.out _).mono ?_; rintro e w' ⟨rfl, rfl⟩)
      go_ret
      exact ⟨rfl, rfl⟩
end Go.Proofs.YthniggdimfldhaaGreatDoor
