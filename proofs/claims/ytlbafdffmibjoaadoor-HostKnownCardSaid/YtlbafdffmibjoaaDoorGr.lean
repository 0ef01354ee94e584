/- A byte put into a host: plain facts. -/
import Derived.Test.YtlbafdffmibjoaaDoorGq
namespace Go.Proofs.YtlbafdffmibjoaaDoor
open Go Go.RowKit Pl

theorem partsGo_mid : ∀ (a cur : List UInt8) (P : List (List UInt8)) (u : List UInt8), partsGo cur a = P ++ [u] → ∀ b, partsGo cur (a ++ b) = P ++ partsGo u b := by
  intro a
  induction a with
  | nil =>
    intro cur P u h b
    have h' : [cur] = P ++ [u] := h
    cases P with
    | nil => simp at h'; subst h'; rfl
    | cons x P => simp at h'
  | cons c a ih =>
    intro cur P u h b
    rw [List.cons_append, partsGo]
    rw [partsGo] at h
    split at h
    · rename_i hc
      rw [if_pos hc]
      cases P with
      | nil =>
        have : (partsGo [] a).length = 0 := by simpa using congrArg List.length h
        have h2 : partsGo [] a ≠ [] := by rw [partsGo_span]; split <;> simp
        exact absurd (List.length_eq_zero_iff.1 this) h2
      | cons x P =>
        rw [List.cons_append] at h
        injection h with h1 h2
        rw [ih [] P u h2 b, List.cons_append, h1]
    · rename_i hc
      rw [if_neg hc, ih _ P u h b]
theorem partsGo_head {b v : List UInt8} {Q : List (List UInt8)} (h : parts b = v :: Q) (u : List UInt8) : partsGo u b = (u ++ v) :: Q := by
  unfold parts at h
  rw [partsGo_span] at h ⊢
  split at h
  · rename_i hm
    rw [if_pos hm]
    injection h with h1 h2
    rw [← h1, h2]; simp
  · rename_i hm
    rw [if_neg hm]
    injection h with h1 h2
    rw [← h1, ← h2]; simp
theorem last_dot : ∀ {a : List UInt8}, 46 ∈ a → ∃ A u, a = A ++ 46 :: u ∧ 46 ∉ u := by
  intro a
  induction a with
  | nil => intro h; simp at h
  | cons c r ih =>
    intro h
    by_cases hr : 46 ∈ r
    · obtain ⟨A, u, e, hu⟩ := ih hr
      exact ⟨c :: A, u, by rw [e]; rfl, hu⟩
    · rcases List.mem_cons.1 h with e | e
      · exact ⟨[], r, by rw [← e]; rfl, hr⟩
      · exact absurd e hr
theorem parts_last (a : List UInt8) : ∃ P u, parts a = P ++ [u] ∧ 46 ∉ u ∧ (a = u ∨ ∃ A, a = A ++ 46 :: u) := by
  by_cases h : 46 ∈ a
  · obtain ⟨A, u, e, hu⟩ := last_dot h
    exact ⟨parts A, u, by rw [e, parts_app, parts_no hu], hu, .inr ⟨A, e⟩⟩
  · exact ⟨[], a, parts_no h, h, .inl rfl⟩
theorem parts_first (b : List UInt8) : ∃ v Q, parts b = v :: Q ∧ 46 ∉ v ∧ (b = v ∨ ∃ B, b = v ++ 46 :: B) := by
  by_cases h : 46 ∈ b
  · exact ⟨hdC 46 b, parts (tlC 46 b), parts_yes h, hdC_not 46 b, .inr ⟨_, hdC_tlC h⟩⟩
  · exact ⟨b, [], parts_no h, h, .inl rfl⟩

/-- a label with a byte put in -/
def mayB (c : UInt8) (edge : Bool) : Bool := letB c || digB c || (decide (c.toNat = 45) && !edge)
theorem lab_parts {l : List UInt8} : isLab l = (decide (0 < l.length) && decide (l.length ≤ 20) && l.all lbB && !decide (l.head? = some 45) && !decide (l.getLast? = some 45)) := by
  unfold isLab
  cases l <;> simp
theorem lab_iff {l : List UInt8} : isLab l = true ↔ 0 < l.length ∧ l.length ≤ 20 ∧ l.all lbB = true ∧ l.head? ≠ some 45 ∧ l.getLast? ≠ some 45 := by
  rw [lab_parts]
  simp only [Bool.and_eq_true, decide_eq_true_iff, Bool.not_eq_true', decide_eq_false_iff_not, and_assoc, ne_eq]
theorem may_iff {c : UInt8} {e : Bool} : mayB c e = true ↔ lbB c = true ∧ (c = 45 → e = false) := by
  unfold mayB lbB
  have h45 : (c.toNat = 45) ↔ c = 45 := by rw [eqB]; rfl
  by_cases h : c = 45
  · subst h
    cases e <;> decide
  · have h2 : ¬ c.toNat = 45 := fun x => h (h45.1 x)
    rw [decide_eq_false h2]
    simp [h]
theorem lab_put {u v : List UInt8} (h : isLab (u ++ v) = true) (c : UInt8) : isLab (u ++ c :: v) = (mayB c (u.isEmpty || v.isEmpty) && decide (u.length + v.length + 1 ≤ 20)) := by
  obtain ⟨h1, h2, h3, h4, h5⟩ := lab_iff.1 h
  rw [List.all_append, Bool.and_eq_true] at h3
  have hlen : (u ++ c :: v).length = u.length + v.length + 1 := by simp; omega
  have hall : (u ++ c :: v).all lbB = true ↔ lbB c = true := by
    rw [List.all_append, List.all_cons, h3.1, h3.2]; simp
  have hhead : (u ++ c :: v).head? ≠ some 45 ↔ (u = [] → c ≠ 45) := by
    cases u with
    | nil => simp
    | cons x u => simp at h4 ⊢; exact h4
  have hlast : (u ++ c :: v).getLast? ≠ some 45 ↔ (v = [] → c ≠ 45) := by
    cases v with
    | nil => simp
    | cons x v =>
      have e1 : (u ++ c :: x :: v).getLast? = (x :: v).getLast? := by
        rw [List.getLast?_append, List.getLast?_cons_cons]
        cases hh : (x :: v).getLast? with
        | none => simp at hh
        | some y => rfl
      have e2 : (u ++ x :: v).getLast? = (x :: v).getLast? := by
        rw [List.getLast?_append]
        cases hh : (x :: v).getLast? with
        | none => simp at hh
        | some y => rfl
      rw [e1, ← e2]
      exact ⟨(fun _ e => by cases e), fun _ => h5⟩
  rw [Bool.eq_iff_iff, lab_iff, hall, hhead, hlast, hlen, Bool.and_eq_true, may_iff, decide_eq_true_iff, Bool.or_eq_false_iff]
  have hu : u.isEmpty = false ↔ u ≠ [] := by cases u <;> simp
  have hv : v.isEmpty = false ↔ v ≠ [] := by cases v <;> simp
  rw [hu, hv]
  constructor
  · rintro ⟨_, a2, a3, a4, a5⟩
    exact ⟨⟨a3, fun hc => ⟨fun e => a4 e hc, fun e => a5 e hc⟩⟩, a2⟩
  · rintro ⟨⟨a1, a2⟩, a3⟩
    exact ⟨by omega, a3, a1, fun e hc => (a2 hc).1 e, fun e hc => (a2 hc).2 e⟩
theorem lab_cut {u v : List UInt8} (h : isLab (u ++ v) = true) : (isLab u && isLab v) = (!u.isEmpty && !v.isEmpty && !decide (u.getLast? = some 45) && !decide (v.head? = some 45)) := by
  obtain ⟨h1, h2, h3, h4, h5⟩ := lab_iff.1 h
  rw [List.all_append, Bool.and_eq_true] at h3
  rw [List.length_append] at h1 h2
  cases u with
  | nil => simp [isLab]
  | cons x u =>
    cases v with
    | nil => simp [isLab]
    | cons y v =>
      have hh : (x :: u).head? ≠ some 45 := by simpa using h4
      have hl : (y :: v).getLast? ≠ some 45 := by
        have e2 : (x :: u ++ y :: v).getLast? = (y :: v).getLast? := by
          rw [List.getLast?_append]
          cases hh : (y :: v).getLast? with
          | none => simp at hh
          | some y => rfl
        rwa [e2] at h5
      rw [lab_parts, lab_parts, h3.1, h3.2, decide_eq_false hh, decide_eq_false hl, decide_eq_true (show 0 < (x :: u).length by simp), decide_eq_true (show 0 < (y :: v).length by simp), decide_eq_true (show (x :: u).length ≤ 20 by omega), decide_eq_true (show (y :: v).length ≤ 20 by omega)]
      simp
theorem isPl_split {a b : List UInt8} {P Q : List (List UInt8)} {u v : List UInt8} (ha : parts a = P ++ [u]) (hb : parts b = v :: Q) (h : isPl (a ++ b) = true) : P.all isLab = true ∧ isLab (u ++ v) = true ∧ Q.all isLab = true := by
  have hp := isPl_parts (isPl_len h)
  rw [h] at hp
  unfold parts at hp ha
  rw [partsGo_mid a [] P u ha b, partsGo_head hb, List.all_append, List.all_cons] at hp
  have := hp.symm
  simp only [Bool.and_eq_true] at this
  exact ⟨this.1, this.2.1, this.2.2⟩
theorem pl_put {a b : List UInt8} {P Q : List (List UInt8)} {u v : List UInt8} (ha : parts a = P ++ [u]) (hb : parts b = v :: Q) (h : isPl (a ++ b) = true) {c : UInt8} (hc : c ≠ 46) :
    isPl (a ++ c :: b) = (mayB c (u.isEmpty || v.isEmpty) && decide (u.length + v.length + 1 ≤ 20) && decide ((a ++ c :: b).length ≤ 60)) := by
  obtain ⟨h1, h2, h3⟩ := isPl_split ha hb h
  have hcb : parts (c :: b) = (c :: v) :: Q := by
    unfold parts; rw [partsGo, if_neg hc]; exact partsGo_head hb [c]
  unfold parts at ha
  unfold isPl
  have e : parts (a ++ c :: b) = P ++ (u ++ c :: v) :: Q := by unfold parts; rw [partsGo_mid a [] P u ha, partsGo_head hcb]
  rw [e, List.all_append, List.all_cons, h1, h3, lab_put h2 c, Bool.and_comm]; simp
theorem pl_dot {a b : List UInt8} {P Q : List (List UInt8)} {u v : List UInt8} (ha : parts a = P ++ [u]) (hb : parts b = v :: Q) (h : isPl (a ++ b) = true) :
    isPl (a ++ 46 :: b) = (!u.isEmpty && !v.isEmpty && !decide (u.getLast? = some 45) && !decide (v.head? = some 45) && decide ((a ++ 46 :: b).length ≤ 60)) := by
  obtain ⟨h1, h2, h3⟩ := isPl_split ha hb h
  unfold isPl
  rw [parts_app, ha, hb, List.all_append, List.all_append, List.all_cons, List.all_cons, h1, h3, ← lab_cut h2, Bool.and_comm]; simp
end Go.Proofs.YtlbafdffmibjoaaDoor
