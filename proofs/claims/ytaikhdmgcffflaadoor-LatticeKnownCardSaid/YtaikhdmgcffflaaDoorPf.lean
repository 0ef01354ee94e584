/- Plain facts for Covers: the test by sets is the chapter's. -/
import Derived.Test.YtaikhdmgcffflaaDoorPe
namespace Go.Proofs.YtaikhdmgcffflaaDoor

theorem andNot_rm {a x : Nat} (ha : a < 65536) (hx : x < 16) : a &&& (65535 - 2 ^ x) = rm a x := by
  apply Nat.eq_of_testBit_eq
  intro i
  have hp := pow_lt16 hx
  rw [Nat.testBit_and, tb_rm, show 65535 - 2 ^ x = 2 ^ 16 - (2 ^ x + 1) by have : (2 : Nat) ^ 16 = 65536 := by decide
                                                                           omega, Nat.testBit_two_pow_sub_succ (by have : (2 : Nat) ^ 16 = 65536 := by decide
                                                                                                                   omega), Nat.testBit_two_pow]
  cases h : a.testBit i with
  | false => simp
  | true =>
    have := lt_of_tb ha h
    simp [this]
theorem cov_test {n : Nat} {A : Nat → Nat} (g : Good n A) {a b : Nat} (ha : a < n) (hb : b < n) (hne : a ≠ b) (hl : le A a b = true) : (upS A a n &&& clo A b == (2 ^ a ||| 2 ^ b)) = cov n A a b := by
  rw [Bool.eq_iff_iff, beq_iff_eq, cov_iff]
  constructor
  · intro h
    refine ⟨hne, hl, fun c hc h1 h2 h3 => ?_⟩
    cases h4 : le A c b with
    | false => rfl
    | true =>
      have := congrArg (fun s => s.testBit c) h
      simp only [Nat.testBit_and, Nat.testBit_or, Nat.testBit_two_pow, tb_upS] at this
      rw [show (clo A b).testBit c = true from h4] at this
      simp only [hc, h2, decide_true, Bool.and_self] at this
      rw [eq_comm, Bool.or_eq_true, decide_eq_true_eq, decide_eq_true_eq] at this
      rcases this with e | e
      · exact absurd e h1
      · exact absurd e.symm h3
  · rintro ⟨_, _, h⟩
    apply Nat.eq_of_testBit_eq
    intro c
    rw [Nat.testBit_and, Nat.testBit_or, Nat.testBit_two_pow, Nat.testBit_two_pow, tb_upS]
    by_cases e1 : a = c
    · subst e1
      have h2 : (clo A b).testBit a = true := hl
      simp [ha, le_refl g ha, h2]
    · by_cases e2 : b = c
      · subst e2
        have h2 : (clo A b).testBit b = true := le_refl g hb
        simp [hb, hl, h2]
      · simp only [e1, e2, decide_false, Bool.or_self]
        by_cases hc : c < n
        · cases h4 : le A a c with
          | false => simp
          | true =>
            have h5 : (clo A b).testBit c = false := h c hc e1 h4 (Ne.symm e2)
            simp [h5]
        · simp [hc]
/-- The covering pairs whose lower one is among the first k. -/
def covTo (n : Nat) (A : Nat → Nat) (k : Nat) : List (Nat × Nat) := (List.range k).flatMap fun a => ((List.range n).filter fun b => cov n A a b).map fun b => (a, b)
theorem covTo_all (n : Nat) (A : Nat → Nat) : covTo n A n = covL n A := rfl
theorem covTo_succ (n : Nat) (A : Nat → Nat) (k : Nat) : covTo n A (k + 1) = covTo n A k ++ ((List.range n).filter fun b => cov n A k b).map fun b => (k, b) := by simp [covTo, List.range_succ]
/-- The test by sets. -/
def tst (n : Nat) (A : Nat → Nat) (a b : Nat) : Bool := upS A a n &&& clo A b == (2 ^ a ||| 2 ^ b)
/-- The covering pairs of a with those of a row. -/
def covR (n : Nat) (A : Nat → Nat) (a : Nat) (l : List Nat) : List (Nat × Nat) := (l.filter fun b => tst n A a b).map fun b => (a, b)
theorem covR_snoc (n : Nat) (A : Nat → Nat) (a : Nat) (l : List Nat) (x : Nat) : covR n A a (l ++ [x]) = covR n A a l ++ if tst n A a x then [(a, x)] else [] := by
  unfold covR
  rw [List.filter_append, List.map_append]
  cases h : tst n A a x <;> simp [h]
theorem covR_all {n : Nat} {A : Nat → Nat} (g : Good n A) {a : Nat} (ha : a < n) : covR n A a (els (rm (upS A a n) a)) = ((List.range n).filter fun b => cov n A a b).map fun b => (a, b) := by
  unfold covR els
  congr 1
  rw [filter_range16 g.le16 _ (fun i h => by rw [tb_rm, tb_upS] at h; simp at h; exact h.1.1), List.filter_filter]
  apply List.filter_congr
  intro c hc
  have hc := List.mem_range.1 hc
  rw [tb_rm, tb_upS]
  by_cases e : a = c
  · subst e
    have : cov n A a a = false := by
      cases h : cov n A a a with
      | false => rfl
      | true => exact absurd rfl (cov_iff.1 h).1
    simp [this]
  · cases hl : le A a c with
    | false =>
      have : cov n A a c = false := by
        cases h : cov n A a c with
        | false => rfl
        | true => rw [(cov_iff.1 h).2.1] at hl; cases hl
      simp [this]
    | true =>
      have := cov_test g ha hc e hl
      simp [hc, e, tst, this]
theorem covR_len (n : Nat) (A : Nat → Nat) (a : Nat) (l : List Nat) : (covR n A a l).length ≤ l.length := by
  unfold covR
  rw [List.length_map]
  exact List.length_filter_le _ _
theorem covTo_len (n : Nat) (A : Nat → Nat) : ∀ k, (covTo n A k).length ≤ k * n
  | 0 => by simp [covTo]
  | k + 1 => by
    rw [covTo_succ, List.length_append, List.length_map]
    have h1 := covTo_len n A k
    have h2 := List.length_filter_le (fun b => cov n A k b) (List.range n)
    rw [List.length_range] at h2
    rw [Nat.add_mul]
    omega
end Go.Proofs.YtaikhdmgcffflaaDoor
