/- Plain facts: of two numerals the one with more digits, or with as many that are greater bytewise, is the greater number. No conditions. -/
import Derived.Test.YtjhppekoinpheaaDoorPm
import GoSem.Op.String
namespace Go.Proofs.YtjhppekoinpheaaDoor.Pl
open Go

theorem fold_lt : ∀ (a b : List UInt8) (n m : Nat), a.length = b.length → a.all digB = true → n < m → a.foldl valF n < b.foldl valF m := by
  intro a
  induction a with
  | nil => intro b n m hl _ h; cases b with
    | nil => exact h
    | cons _ _ => simp at hl
  | cons c r ih =>
    intro b n m hl ha h
    cases b with
    | nil => simp at hl
    | cons d s =>
      rw [List.all_cons, Bool.and_eq_true] at ha
      have hc := digB_iff.1 ha.1
      rw [List.foldl_cons, List.foldl_cons]
      exact ih s _ _ (by simpa using hl) ha.2 (by unfold valF; omega)
theorem less_lt : ∀ (a b : List UInt8) (n : Nat), a.length = b.length → a.all digB = true → b.all digB = true → Op.bytesLess a b = true → a.foldl valF n < b.foldl valF n := by
  intro a
  induction a with
  | nil => intro b n hl _ _ h; cases b with
    | nil => simp [Op.bytesLess] at h
    | cons _ _ => simp at hl
  | cons c r ih =>
    intro b n hl ha hb h
    cases b with
    | nil => simp at hl
    | cons d s =>
      rw [List.all_cons, Bool.and_eq_true] at ha hb
      have hc := digB_iff.1 ha.1
      have hd := digB_iff.1 hb.1
      rw [List.foldl_cons, List.foldl_cons]
      unfold Op.bytesLess at h
      by_cases hlt : c < d
      · have : c.toNat < d.toNat := UInt8.lt_iff_toNat_lt.1 hlt
        exact fold_lt r s _ _ (by simpa using hl) ha.2 (by unfold valF; omega)
      · have hcd : c = d ∧ Op.bytesLess r s = true := by
          rw [decide_eq_false hlt, Bool.false_or, Bool.and_eq_true, beq_iff_eq] at h
          exact h
        obtain ⟨rfl, hr⟩ := hcd
        exact ih s _ (by simpa using hl) ha.2 hb.2 hr
theorem less_total : ∀ (a b : List UInt8), a.length = b.length → Op.bytesLess a b = true ∨ a = b ∨ Op.bytesLess b a = true := by
  intro a
  induction a with
  | nil => intro b hl; cases b with
    | nil => exact .inr (.inl rfl)
    | cons _ _ => simp at hl
  | cons c r ih =>
    intro b hl
    cases b with
    | nil => simp at hl
    | cons d s =>
      unfold Op.bytesLess
      by_cases h1 : c < d
      · exact .inl (by rw [decide_eq_true h1]; rfl)
      · by_cases h2 : d < c
        · exact .inr (.inr (by rw [decide_eq_true h2]; rfl))
        · have e : c = d := by
            apply UInt8.toNat_inj.1
            have h3 := mt UInt8.lt_iff_toNat_lt.2 h1
            have h4 := mt UInt8.lt_iff_toNat_lt.2 h2
            omega
          subst e
          rcases ih s (by simpa using hl) with h | h | h
          · exact .inl (by simp [h])
          · exact .inr (.inl (by rw [h]))
          · exact .inr (.inr (by simp [h]))
theorem nDigits_mono (p : Nat) : ∀ q, p ≤ q → Lib.nDigits p ≤ Lib.nDigits q := by
  induction p using Nat.strongRecOn with
  | _ p ih =>
    intro q h
    by_cases hp : p < 10
    · rw [Lib.nDigits_small hp]; exact Lib.nDigits_pos q
    · rw [Lib.nDigits_big hp, Lib.nDigits_big (show ¬ q < 10 by omega)]
      have := ih (p / 10) (by omega) (q / 10) (by omega)
      omega
theorem dec_longer {p q : Nat} (h : (Lib.decDigits p).length < (Lib.decDigits q).length) : p < q := by
  rw [Lib.decDigits_length, Lib.decDigits_length] at h
  rcases Nat.lt_or_ge p q with h' | h'
  · exact h'
  · have := nDigits_mono q p h'; omega
theorem dec_less {p q : Nat} (h : (Lib.decDigits p).length = (Lib.decDigits q).length) (h' : Op.bytesLess (Lib.decDigits p) (Lib.decDigits q) = true) : p < q := by
  have := less_lt _ _ 0 h (dec_dig p) (dec_dig q) h'
  have e1 := dec_val p
  have e2 := dec_val q
  unfold val at e1 e2
  omega
theorem dec_not {p q : Nat} (h : (Lib.decDigits p).length = (Lib.decDigits q).length) (h' : Op.bytesLess (Lib.decDigits p) (Lib.decDigits q) = false) : q ≤ p := by
  rcases less_total _ _ h with h1 | h1 | h1
  · rw [h1] at h'; cases h'
  · have := dec_inj h1; omega
  · have := dec_less h.symm h1; omega
end Go.Proofs.YtjhppekoinpheaaDoor.Pl
