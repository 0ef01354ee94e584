/- Plain facts on names, decimal numerals and their values. No program stands here; no conditions. -/
import Derived.Test.YtiakbmllpnabnaaGreatDoorPl
namespace Go.Proofs.YtiakbmllpnabnaaGreatDoor.Pl
open Go

def letB (c : UInt8) : Bool := decide (97 ≤ c.toNat) && decide (c.toNat ≤ 122)
def digB (c : UInt8) : Bool := decide (48 ≤ c.toNat) && decide (c.toNat ≤ 57)
def namB (c : UInt8) : Bool := letB c || digB c || decide (c.toNat = 45)
def isName (l : List UInt8) : Bool := decide (1 ≤ l.length) && decide (l.length ≤ 12) && letB (l.getD 0 0) && l.all namB
def nameR (l : List UInt8) : Int := if isName l then 0 else 31

theorem letB_iff {c : UInt8} : letB c = true ↔ 97 ≤ c.toNat ∧ c.toNat ≤ 122 := by simp [letB]
theorem digB_iff {c : UInt8} : digB c = true ↔ 48 ≤ c.toNat ∧ c.toNat ≤ 57 := by simp [digB]
theorem namB_iff {c : UInt8} : namB c = true ↔ (97 ≤ c.toNat ∧ c.toNat ≤ 122) ∨ (48 ≤ c.toNat ∧ c.toNat ≤ 57) ∨ c.toNat = 45 := by
  unfold namB; rw [Bool.or_eq_true, Bool.or_eq_true, letB_iff, digB_iff, decide_eq_true_iff, or_assoc]
theorem bfalse {b : Bool} {p : Prop} (h : b = true ↔ p) (hp : ¬ p) : b = false := by
  cases b
  · rfl
  · exact absurd (h.1 rfl) hp
theorem isName_iff {l : List UInt8} : isName l = true ↔ 1 ≤ l.length ∧ l.length ≤ 12 ∧ letB (l.getD 0 0) = true ∧ l.all namB = true := by
  unfold isName; simp only [Bool.and_eq_true, decide_eq_true_iff, and_assoc]
theorem nameR_yes {l : List UInt8} (h : isName l = true) : nameR l = 0 := by unfold nameR; rw [if_pos h]
theorem nameR_no {l : List UInt8} (h : isName l = false) : nameR l = 31 := by unfold nameR; rw [h]; rfl

/-! ### numbers -/
def big : Nat := 9007199254740991
theorem big_eq : big = 9007199254740991 := rfl
def isDec (l : List UInt8) : Bool := !l.isEmpty && !(decide (l.getD 0 0 = 48) && decide (1 < l.length)) && l.all digB
def valF (n : Nat) (c : UInt8) : Nat := 10 * n + (c.toNat - 48)
def val (l : List UInt8) : Nat := l.foldl valF 0
def numR (l : List UInt8) : Int × Int := if isDec l then (if val l ≤ big then ((val l : Int), 0) else (0, 9)) else (0, 4)

theorem val_take {l : List UInt8} {k : Nat} (h : k < l.length) : val (l.take (k + 1)) = 10 * val (l.take k) + (l[k].toNat - 48) := by
  unfold val; rw [List.take_succ_eq_append_getElem h, List.foldl_append]; rfl
theorem val_snoc (l : List UInt8) (c : UInt8) : val (l ++ [c]) = 10 * val l + (c.toNat - 48) := by
  unfold val; rw [List.foldl_append]; rfl
theorem foldl_ge (l : List UInt8) : ∀ n, n ≤ l.foldl valF n := by
  induction l with
  | nil => intro n; exact Nat.le_refl _
  | cons c r ih => intro n; rw [List.foldl_cons]; have := ih (valF n c); unfold valF at *; omega
theorem val_mono (l : List UInt8) (k : Nat) : val (l.take k) ≤ val l := by
  have h := foldl_ge (l.drop k) (val (l.take k))
  unfold val at *
  rw [← List.foldl_append, List.take_append_drop] at h
  exact h
theorem numR_form {l : List UInt8} (h : isDec l = false) : numR l = (0, 4) := by unfold numR; rw [h]; rfl
theorem numR_range {l : List UInt8} (h : isDec l = true) (h' : big < val l) : numR l = (0, 9) := by unfold numR; rw [if_pos h, if_neg (by omega)]
theorem numR_ok {l : List UInt8} (h : isDec l = true) (h' : val l ≤ big) : numR l = ((val l : Int), 0) := by unfold numR; rw [if_pos h, if_pos h']
theorem isDec_nil {l : List UInt8} (h : l = []) : isDec l = false := by subst h; rfl
theorem isDec_zero {l : List UInt8} (h : l.getD 0 0 = 48) (h' : 1 < l.length) : isDec l = false := by unfold isDec; rw [decide_eq_true h, decide_eq_true h']; simp
theorem isDec_stop {l : List UInt8} {k : Nat} (h : k < l.length) (hp : digB l[k] = false) : isDec l = false := by unfold isDec; rw [all_false h hp]; simp
theorem isDec_mk {l : List UInt8} (h0 : l ≠ []) (h1 : ¬ (l.getD 0 0 = 48 ∧ 1 < l.length)) (h2 : l.all digB = true) : isDec l = true := by
  unfold isDec; rw [h2]
  have e1 : l.isEmpty = false := by simpa using h0
  have e2 : (decide (l.getD 0 0 = 48) && decide (1 < l.length)) = false := by
    rw [← Bool.decide_and]; exact decide_eq_false h1
  rw [e1, e2]; rfl

/-! ### digits -/
theorem dec_step {n : Nat} (h : ¬ n < 10) : Lib.decDigits n = Lib.decDigits (n / 10) ++ [UInt8.ofNat (48 + n % 10)] := by rw [Lib.decDigits, dif_neg h]
theorem dig_nat {n : Nat} (h : n < 10) : (UInt8.ofNat (48 + n)).toNat = 48 + n := by rw [UInt8.toNat_ofNat']; exact Nat.mod_eq_of_lt (by omega)
theorem dec_val (n : Nat) : val (Lib.decDigits n) = n := by
  induction n using Nat.strongRecOn with
  | _ n ih =>
    by_cases h : n < 10
    · rw [Lib.decDigits_one h]; simp only [val, List.foldl_cons, List.foldl_nil, valF]; rw [dig_nat h]; omega
    · rw [dec_step h, val_snoc, ih (n / 10) (by omega), dig_nat (by omega)]; omega
theorem dec_dig (n : Nat) : (Lib.decDigits n).all digB = true := by
  induction n using Nat.strongRecOn with
  | _ n ih =>
    by_cases h : n < 10
    · rw [Lib.decDigits_one h]; simp only [List.all_cons, List.all_nil, Bool.and_true]; rw [digB_iff, dig_nat h]; omega
    · rw [dec_step h, List.all_append, ih (n / 10) (by omega)]
      simp only [List.all_cons, List.all_nil, Bool.and_true, Bool.true_and]; rw [digB_iff, dig_nat (by omega)]; omega
theorem dec_ne (n : Nat) : Lib.decDigits n ≠ [] := by
  intro h; have := Lib.decDigits_length n; rw [h] at this; have := Lib.nDigits_pos n; simp at *; omega
theorem dec_head (n : Nat) (h : 1 ≤ n) : (Lib.decDigits n).getD 0 0 ≠ 48 := by
  induction n using Nat.strongRecOn with
  | _ n ih =>
    by_cases h10 : n < 10
    · rw [Lib.decDigits_one h10]
      show UInt8.ofNat (48 + n) ≠ 48
      intro e
      have := congrArg UInt8.toNat e
      rw [dig_nat h10] at this; simp at this; omega
    · rw [dec_step h10]
      have h1 := ih (n / 10) (by omega) (by omega)
      have h2 := dec_ne (n / 10)
      cases hd : Lib.decDigits (n / 10) with
      | nil => exact absurd hd h2
      | cons a b => rw [hd] at h1; simpa using h1
theorem dec_isDec (n : Nat) : isDec (Lib.decDigits n) = true := by
  refine isDec_mk (dec_ne n) ?_ (dec_dig n)
  rintro ⟨h1, h2⟩
  by_cases h : 1 ≤ n
  · exact dec_head n h h1
  · obtain rfl : n = 0 := by omega
    rw [Lib.decDigits_one (by decide)] at h2; simp at h2
theorem numR_dec {n : Nat} (h : n ≤ big) : numR (Lib.decDigits n) = ((n : Int), 0) := by
  rw [numR_ok (dec_isDec n) (by rw [dec_val]; exact h), dec_val]
theorem dec_inj {a b : Nat} (h : Lib.decDigits a = Lib.decDigits b) : a = b := by rw [← dec_val a, h, dec_val]
end Go.Proofs.YtiakbmllpnabnaaGreatDoor.Pl
