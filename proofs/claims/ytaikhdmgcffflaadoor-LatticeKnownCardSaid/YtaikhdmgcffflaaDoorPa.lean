/- Plain facts on sets of sixteen elements that are held as bits of a number. -/
import Derived.Lib.Hide
namespace Go.Proofs.YtaikhdmgcffflaaDoor

/-- The elements of a set, increasing. -/
def els (s : Nat) : List Nat := (List.range 16).filter fun a => s.testBit a
/-- The smallest element. -/
def tz (s : Nat) : Nat := (els s).headD 16

theorem mem_els {s a : Nat} : a ∈ els s ↔ a < 16 ∧ s.testBit a = true := by simp [els]
theorem ext16 {s t : Nat} (hs : s < 65536) (ht : t < 65536) (h : ∀ a, a < 16 → s.testBit a = t.testBit a) : s = t := by
  apply Nat.eq_of_testBit_eq
  intro i
  by_cases hi : i < 16
  · exact h i hi
  · have h2 : (65536 : Nat) ≤ 2 ^ i := by
      have := Nat.pow_le_pow_right (n := 2) (by omega) (show 16 ≤ i by omega)
      simpa using this
    rw [Nat.testBit_lt_two_pow (by omega), Nat.testBit_lt_two_pow (by omega)]
theorem els_nil {s : Nat} (hs : s < 65536) (h : els s = []) : s = 0 := by
  apply ext16 hs (by omega)
  intro a ha
  have : a ∉ els s := by simp [h]
  rw [mem_els] at this
  simpa [ha] using this
theorem els_zero : els 0 = [] := by decide
theorem els_sorted (s : Nat) : (els s).Pairwise (· < ·) := List.Pairwise.filter _ List.pairwise_lt_range
theorem els_lt {s a : Nat} (h : a ∈ els s) : a < 16 := (mem_els.1 h).1

theorem tz_spec {s : Nat} (hs : s < 65536) (h0 : s ≠ 0) : tz s < 16 ∧ s.testBit (tz s) = true ∧ ∀ j, j < tz s → s.testBit j = false := by
  unfold tz
  cases he : els s with
  | nil => exact absurd (els_nil hs he) h0
  | cons a r =>
    have ha : a ∈ els s := by simp [he]
    refine ⟨els_lt ha, (mem_els.1 ha).2, fun j hj => ?_⟩
    simp only [List.headD_cons] at hj
    have hp := els_sorted s
    rw [he, List.pairwise_cons] at hp
    cases hb : s.testBit j with
    | false => rfl
    | true =>
      have : j ∈ els s := mem_els.2 ⟨by have := els_lt ha; omega, hb⟩
      rw [he] at this
      rcases List.mem_cons.1 this with rfl | hm
      · omega
      · have := hp.1 j hm; omega

/-- A set, cut at its smallest element. -/
theorem tz_form {s t : Nat} (ht : s.testBit t = true) (hl : ∀ j, j < t → s.testBit j = false) : s = 2 ^ (t + 1) * (s / 2 ^ (t + 1)) + 2 ^ t := by
  have h1 : s % 2 ^ (t + 1) = 2 ^ t := by
    apply Nat.eq_of_testBit_eq
    intro i
    rw [Nat.testBit_mod_two_pow, Nat.testBit_two_pow]
    by_cases hi : i < t
    · rw [hl i hi]; simp; omega
    · by_cases he : i = t
      · subst he; simp [ht]
      · have : ¬ i < t + 1 := by omega
        simp [this]; omega
  have h2 := Nat.div_add_mod s (2 ^ (t + 1))
  rw [h1] at h2
  exact h2.symm

theorem tb_cut (t q i : Nat) : (2 ^ (t + 1) * q + 2 ^ t).testBit i = if i < t + 1 then decide (i = t) else q.testBit (i - (t + 1)) := by
  rw [Nat.testBit_two_pow_mul_add q (Nat.pow_lt_pow_right (by omega) (by omega)), Nat.testBit_two_pow]
  by_cases h : i < t + 1
  · rw [if_pos h, if_pos h]; exact decide_eq_decide.2 ⟨fun e => e.symm, fun e => e.symm⟩
  · rw [if_neg h, if_neg h]

/-- What is left when the smallest element is taken. -/
theorem tb_pred {s : Nat} (hs : s < 65536) (h0 : s ≠ 0) (i : Nat) : (s &&& (s - 1)).testBit i = (s.testBit i && !decide (i = tz s)) := by
  obtain ⟨_, h2, h3⟩ := tz_spec hs h0
  have hf := tz_form h2 h3
  generalize tz s = t at *
  generalize s / 2 ^ (t + 1) = q at *
  have e1 : s - 1 = 2 ^ (t + 1) * q + (2 ^ t - 1) := by have := Nat.two_pow_pos t; omega
  rw [Nat.testBit_and, e1, Nat.testBit_two_pow_mul_add q (by have := Nat.two_pow_pos t; rw [Nat.pow_succ]; omega), Nat.testBit_two_pow_sub_one]
  rw [hf, tb_cut]
  by_cases h : i < t + 1
  · rw [if_pos h, if_pos h]
    by_cases e : i = t
    · simp [e]
    · simp [e]
  · rw [if_neg h, if_neg h]
    have : i ≠ t := by omega
    simp [this]

theorem tb_low {s : Nat} (hs : s < 65536) (h0 : s ≠ 0) : s &&& (65536 - s) = 2 ^ tz s := by
  obtain ⟨h1, h2, h3⟩ := tz_spec hs h0
  have hf := tz_form h2 h3
  have hq : s / 2 ^ (tz s + 1) < 2 ^ (15 - tz s) := by
    apply Nat.div_lt_of_lt_mul
    rw [← Nat.pow_add, show tz s + 1 + (15 - tz s) = 16 by omega]
    simpa using hs
  generalize tz s = t at *
  generalize s / 2 ^ (t + 1) = q at *
  have e1 : 65536 - s = 2 ^ (t + 1) * (2 ^ (15 - t) - (q + 1)) + 2 ^ t := by
    have e2 : 2 ^ (t + 1) * 2 ^ (15 - t) = 65536 := by rw [← Nat.pow_add, show t + 1 + (15 - t) = 16 by omega]
    have e3 : 2 ^ (t + 1) = 2 * 2 ^ t := by rw [Nat.pow_succ]; omega
    have e4 : q + 1 + (2 ^ (15 - t) - (q + 1)) = 2 ^ (15 - t) := by omega
    rw [← e4, Nat.mul_add, Nat.mul_add, Nat.mul_one] at e2
    omega
  apply Nat.eq_of_testBit_eq
  intro i
  rw [Nat.testBit_and, e1, hf, tb_cut, tb_cut, Nat.testBit_two_pow]
  by_cases h : i < t + 1
  · rw [if_pos h, if_pos h, Bool.and_self]; exact decide_eq_decide.2 ⟨fun e => e.symm, fun e => e.symm⟩
  · rw [if_neg h, if_neg h, Nat.testBit_two_pow_sub_succ hq]
    have h5 : ¬ t = i := by omega
    simp [h5]
    intro ha _
    simp [ha]

theorem and_lt {s t : Nat} (hs : s < 65536) : s &&& t < 65536 := Nat.lt_of_le_of_lt Nat.and_le_left hs

/-- The elements, one by one. -/
theorem els_step {s : Nat} (hs : s < 65536) (h0 : s ≠ 0) : els s = tz s :: els (s &&& (s - 1)) := by
  have hp := els_sorted s
  cases he : els s with
  | nil => exact absurd (els_nil hs he) h0
  | cons a r =>
    have ha : tz s = a := by unfold tz; rw [he]; rfl
    rw [ha]
    congr 1
    rw [he, List.pairwise_cons] at hp
    have e2 : els (s &&& (s - 1)) = (els s).filter fun i => !decide (i = a) := by
      unfold els
      rw [List.filter_filter]
      apply List.filter_congr
      intro i _
      rw [tb_pred hs h0, ha, Bool.and_comm]
    rw [e2, he, List.filter_cons_of_neg (by simp)]
    exact (List.filter_eq_self.2 fun i hi => by have := hp.1 i hi; simp; omega).symm

theorem tz_mul {t : Nat} (h : t < 16) : ∃ k, k < 32 ∧ 2 ^ t * 125613361 % 4294967296 / 134217728 = k ∧ [0, 1, 28, 2, 29, 14, 24, 3, 30, 22, 20, 15, 25, 17, 4, 8, 31, 27, 13, 23, 21, 19, 16, 7, 26, 12, 18, 6, 11, 5, 10, 9][k]? = some t := by
  have : ∀ t : Fin 16, 2 ^ t.1 * 125613361 % 4294967296 / 134217728 < 32 ∧ [0, 1, 28, 2, 29, 14, 24, 3, 30, 22, 20, 15, 25, 17, 4, 8, 31, 27, 13, 23, 21, 19, 16, 7, 26, 12, 18, 6, 11, 5, 10, 9][2 ^ t.1 * 125613361 % 4294967296 / 134217728]? = some t.1 := by decide
  exact ⟨_, (this ⟨t, h⟩).1, rfl, (this ⟨t, h⟩).2⟩
end Go.Proofs.YtaikhdmgcffflaaDoor
