/- The statement's own body TextNumbers: true for every two numbers, in every world that holds the library's table of powers of ten. -/
import Derived.Test.YtjhppekoinpheaaDoorWg
import Derived.Test.YtjhppekoinpheaaDoorPn
namespace Go.Proofs.YtjhppekoinpheaaDoor
open Go Go.RowKit

theorem dec_short (p : Nat) (h : p ≤ 9007199254740991) : (Lib.decDigits p).length ≤ 21 := by
  have h3 := Lib.itoa_length_le p (by omega) (by omega)
  rw [Lib.itoa_nonneg] at h3; exact h3

/-- How two numerals stand to each other, in each of the five ways. -/
def Stand (dp dq : List UInt8) (p q : Nat) : Prop :=
  (dp.length < dq.length ∧ (dp == dq) = false ∧ p < q) ∨
  (dp.length = dq.length ∧ Op.bytesLess dp dq = true ∧ (dp == dq) = false ∧ p < q) ∨
  (dp.length = dq.length ∧ Op.bytesLess dp dq = false ∧ (dp == dq) = true ∧ p = q) ∨
  (dp.length = dq.length ∧ Op.bytesLess dp dq = false ∧ (dp == dq) = false ∧ q < p) ∨
  (dq.length < dp.length ∧ (dp == dq) = false ∧ q < p)
theorem stand_of (p q : Nat) : Stand (Lib.decDigits p) (Lib.decDigits q) p q := by
  have hne : p ≠ q → (Lib.decDigits p == Lib.decDigits q) = false := fun h => by rw [beq_eq_false_iff_ne]; exact fun e => h (Pl.dec_inj e)
  rcases Nat.lt_trichotomy (Lib.decDigits p).length (Lib.decDigits q).length with h | h | h
  · have := Pl.dec_longer h
    exact .inl ⟨h, hne (by omega), this⟩
  · cases hb : Op.bytesLess (Lib.decDigits p) (Lib.decDigits q) with
    | true =>
      have := Pl.dec_less h hb
      exact .inr (.inl ⟨h, hb, hne (by omega), this⟩)
    | false =>
      have h2 := Pl.dec_not h hb
      by_cases e : p = q
      · exact .inr (.inr (.inl ⟨h, hb, by rw [e]; simp, e⟩))
      · exact .inr (.inr (.inr (.inl ⟨h, hb, hne e, by omega⟩)))
  · have := Pl.dec_longer h
    exact .inr (.inr (.inr (.inr ⟨h, hne (by omega), this⟩)))

set_option maxHeartbeats 4000000 in
set_option maxRecDepth 100000 in
theorem textNumbers_any (a b : Int) (w : World) (ht : Tab w) :
    Calls Tryd.prog 7 #[.int .i64 a, .int .i64 b] w fun e w' => e = .returned (.bool true) ∧ Below w.heap.size w w' := by
  have HT := Lib.hid ht
  clear ht
  go_enter Tryd.func7, Tryd.ntmps7
  go_wp2_with fail
  refine (bring_any a 9007199254740992 _ (by decide) (by decide)).mono ?_
  rintro e w' ⟨rfl, rfl⟩
  go_wp2_with fail
  refine (bring_any b 9007199254740992 _ (by decide) (by decide)).mono ?_
  rintro e w' ⟨rfl, rfl⟩
  have ha0 := Int.emod_nonneg a (b := 9007199254740992) (by decide)
  have ha1 := Int.emod_lt_of_pos a (b := 9007199254740992) (by decide)
  have hb0 := Int.emod_nonneg b (b := 9007199254740992) (by decide)
  have hb1' := Int.emod_lt_of_pos b (b := 9007199254740992) (by decide)
  generalize a % 9007199254740992 = x at *
  generalize b % 9007199254740992 = y at *
  obtain ⟨p, rfl⟩ := Int.eq_ofNat_of_zero_le ha0
  obtain ⟨q, rfl⟩ := Int.eq_ofNat_of_zero_le hb0
  have hp : p ≤ 9007199254740991 := by omega
  have hq : q ≤ 9007199254740991 := by omega
  have hst := Lib.hid (stand_of p q)
  have C1 := Lib.hid (fun wx (h : Tab wx) => digits_any p wx h hp)
  have C2 := Lib.hid (fun wx (h : Tab wx) => digits_any q wx h hq)
  have C3 := Lib.hid (fun wx => number_is ⟨(Lib.decDigits p).toArray⟩ wx p 0 (by unfold maxLen; rw [mk_size]; have := dec_short p hp; omega) (by rw [mk_toList]; exact Pl.numR_dec hp))
  have C4 := Lib.hid (fun wx => number_is ⟨(Lib.decDigits q).toArray⟩ wx q 0 (by unfold maxLen; rw [mk_size]; have := dec_short q hq; omega) (by rw [mk_toList]; exact Pl.numR_dec hq))
  have hdp := dec_short p hp
  have hdq := dec_short q hq
  generalize Lib.decDigits p = dp at *
  generalize Lib.decDigits q = dq at *
  go_wp2_with fail
  refine (C1.out _ HT.out).mono ?_
  rintro e w1 ⟨rfl, hb1⟩
  go_wp2_with fail
  refine (C2.out _ (HT.out.below hb1)).mono ?_
  rintro e w2 ⟨rfl, hb2⟩
  go_wp2_with fail
  refine (C3.out _).mono ?_
  rintro e w' ⟨rfl, rfl⟩
  go_wp2_with fail
  refine (C4.out _).mono ?_
  rintro e w' ⟨rfl, rfl⟩
  have HT2 := Lib.hid ((HT.out.below hb1).below hb2)
  clear HT C1 C2 C3 C4 hp hq ha0 ha1 hb0 hb1'
  rcases hst.out with ⟨h1, h2, h3⟩ | ⟨h1, h2, h3, h4⟩ | ⟨h1, h2, h3, h4⟩ | ⟨h1, h2, h3, h4⟩ | ⟨h1, h2, h3⟩
  · clear hst
    have e1 : ((p : Int) == q) = false := by rw [beq_eq_false_iff_ne]; omega
    go_wp2_with fail
    refine (works_any _ HT2.out).mono ?_
    rintro e w4 ⟨rfl, hb4⟩
    go_wp2_with fail
    go_ret
    exact ⟨rfl, Below.and (Below.and hb1 hb2) hb4⟩
  · clear hst
    have e1 : ((p : Int) == q) = false := by rw [beq_eq_false_iff_ne]; omega
    have e2 : ((dp.length : Int) == dq.length) = true := by rw [beq_iff_eq]; omega
    have e3 : ¬ dp.length < dq.length := by omega
    clear h1
    go_wp2_with fail
    refine (works_any _ HT2.out).mono ?_
    rintro e w4 ⟨rfl, hb4⟩
    go_wp2_with fail
    go_ret
    exact ⟨rfl, Below.and (Below.and hb1 hb2) hb4⟩
  · clear hst
    subst h4
    have e2 : ((dp.length : Int) == dq.length) = true := by rw [beq_iff_eq]; omega
    have e3 : ¬ dp.length < dq.length := by omega
    clear h1
    go_wp2_with fail
    refine (works_any _ HT2.out).mono ?_
    rintro e w4 ⟨rfl, hb4⟩
    go_wp2_with fail
    go_ret
    exact ⟨rfl, Below.and (Below.and hb1 hb2) hb4⟩
  · clear hst
    have e1 : ((p : Int) == q) = false := by rw [beq_eq_false_iff_ne]; omega
    have e2 : ((dp.length : Int) == dq.length) = true := by rw [beq_iff_eq]; omega
    have e3 : ¬ dp.length < dq.length := by omega
    have e4 : ¬ p < q := by omega
    clear h1
    go_wp2_with fail
    refine (works_any _ HT2.out).mono ?_
    rintro e w4 ⟨rfl, hb4⟩
    go_wp2_with fail
    go_ret
    exact ⟨rfl, Below.and (Below.and hb1 hb2) hb4⟩
  · clear hst
    have e1 : ((p : Int) == q) = false := by rw [beq_eq_false_iff_ne]; omega
    have e2 : ((dp.length : Int) == dq.length) = false := by rw [beq_eq_false_iff_ne]; omega
    have e3 : ¬ dp.length < dq.length := by omega
    have e4 : ¬ p < q := by omega
    go_wp2_with fail
    refine (works_any _ HT2.out).mono ?_
    rintro e w4 ⟨rfl, hb4⟩
    go_wp2_with fail
    go_ret
    exact ⟨rfl, Below.and (Below.and hb1 hb2) hb4⟩
end Go.Proofs.YtjhppekoinpheaaDoor
