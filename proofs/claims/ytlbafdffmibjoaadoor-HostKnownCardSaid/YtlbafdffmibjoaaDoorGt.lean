/- HostBytes: a byte put anywhere into a host leaves it one just if it may stand there. -/
import Derived.Test.YtlbafdffmibjoaaDoorGr
namespace Go.Proofs.YtlbafdffmibjoaaDoor
open Go Go.RowKit Pl

/-- what lies around a place in a host: U bytes of its label ahead of it, V behind it -/
structure Spot (H : ByteArray) (k U V : Nat) : Prop where
  hU : U ≤ k
  hV : k + V ≤ H.size
  fU : ∀ i (hi : i < H.size), k - U ≤ i → i < k → (H[i]'hi).toNat ≠ 46
  eU : U = k ∨ ∃ hi : k - U - 1 < H.size, U < k ∧ (H[k - U - 1]'hi).toNat = 46
  fV : ∀ i (hi : i < H.size), k ≤ i → i < k + V → (H[i]'hi).toNat ≠ 46
  eV : k + V = H.size ∨ ∃ hi : k + V < H.size, (H[k + V]'hi).toNat = 46
  put : ∀ c, c ≠ 46 → isPl (H.data.toList.take k ++ c :: H.data.toList.drop k) = (mayB c (decide (U = 0) || decide (V = 0)) && decide (U + V + 1 ≤ 20) && decide (H.size + 1 ≤ 60))
  dot : isPl (H.data.toList.take k ++ 46 :: H.data.toList.drop k) = (decide (U ≠ 0) && decide (V ≠ 0) && (if h : 0 < k ∧ k < H.size then !decide ((H[k - 1]'(by omega)).toNat = 45) && !decide ((H[k]'h.2).toNat = 45) else true) && decide (H.size + 1 ≤ 60))
theorem mem_ge {a A u : List UInt8} (e : a = A ++ u) {i : Nat} (h1 : A.length ≤ i) (h2 : i < a.length) : a[i] ∈ u := by
  subst e
  rw [List.getElem_append_right h1]
  exact List.getElem_mem _
theorem isEmpty_len (l : List UInt8) : l.isEmpty = decide (l.length = 0) := by cases l <;> simp
theorem spot (H : ByteArray) (k : Nat) (hk : k ≤ H.size) (hp : isPl H.data.toList = true) : ∃ U V, Spot H k U V := by
  have hz := Lib.size_eq H
  obtain ⟨P, u, ha, hu, hau⟩ := parts_last (H.data.toList.take k)
  obtain ⟨v, Q, hb, hv, hbv⟩ := parts_first (H.data.toList.drop k)
  have hla : (H.data.toList.take k).length = k := by rw [List.length_take]; omega
  have hlb : (H.data.toList.drop k).length = H.size - k := by rw [List.length_drop]; omega
  have hp' : isPl (H.data.toList.take k ++ H.data.toList.drop k) = true := by rw [List.take_append_drop]; exact hp
  have atA : ∀ i (hi : i < H.size) (_ : i < k), (H[i]'hi) = (H.data.toList.take k)[i]'(by omega) := fun i hi h => by rw [List.getElem_take, at_list H i hi]
  have atB : ∀ i (hi : i < H.size) (_ : k ≤ i), (H[i]'hi) = (H.data.toList.drop k)[i - k]'(by omega) := fun i hi h => by
    rw [List.getElem_drop, ← at_list H i hi]
    congr 1; omega
  have hUk : u.length ≤ k := by
    rcases hau with e | ⟨A, e⟩
    · rw [← hla, e]; exact Nat.le_refl _
    · rw [← hla, e, List.length_append, List.length_cons]; omega
  have hVk : k + v.length ≤ H.size := by
    rcases hbv with e | ⟨B, e⟩
    · rw [← e, hlb]; omega
    · have := congrArg List.length e
      rw [hlb, List.length_append, List.length_cons] at this; omega
  refine ⟨u.length, v.length, hUk, hVk, fun i hi h1 h2 => ?_, ?_, fun i hi h1 h2 => ?_, ?_, fun c hc => ?_, ?_⟩
  · rw [atA i hi h2]
    have hm : (H.data.toList.take k)[i]'(by omega) ∈ u := by
      rcases hau with e | ⟨A, e⟩
      · exact mem_ge (A := []) (by simpa using e) (by simp) _
      · have hl : (A ++ [46]).length = k - u.length := by
          have := congrArg List.length e
          rw [hla, List.length_append, List.length_cons] at this
          rw [List.length_append]; simp; omega
        exact mem_ge (A := A ++ [46]) (by rw [e]; simp) (by omega) _
    intro e
    exact hu (by rw [← (eqB.2 (by rw [e]; rfl) : (H.data.toList.take k)[i]'(by omega) = 46)]; exact hm)
  · rcases hau with e | ⟨A, e⟩
    · left; rw [← hla, e]
    · right
      have hl := congrArg List.length e
      rw [hla, List.length_append, List.length_cons] at hl
      refine ⟨by omega, by omega, ?_⟩
      rw [atA _ (by omega) (by omega)]
      have : ∀ (l : List UInt8) (i : Nat) (hi : i < l.length), l = A ++ 46 :: u → i = A.length → l[i].toNat = 46 := by
        intro l i hi e1 e2; subst e1 e2; simp
      exact this _ _ _ e (by omega)
  · rw [atB i hi h1]
    have hm : (H.data.toList.drop k)[i - k]'(by omega) ∈ v := by
      rcases hbv with e | ⟨B, e⟩
      · exact e.subst (motive := fun l => (H.data.toList.drop k)[i - k]'(by omega) ∈ l) (List.getElem_mem _)
      · have : ∀ (l : List UInt8) (j : Nat) (hj : j < l.length), l = v ++ 46 :: B → j < v.length → l[j] ∈ v := by
          intro l j hj e1 e2; subst e1; rw [List.getElem_append_left e2]; exact List.getElem_mem _
        exact this _ _ _ e (by omega)
    intro e
    exact hv (by rw [← (eqB.2 (by rw [e]; rfl) : (H.data.toList.drop k)[i - k]'(by omega) = 46)]; exact hm)
  · rcases hbv with e | ⟨B, e⟩
    · left; rw [← e, hlb]; omega
    · right
      have hl := congrArg List.length e
      rw [hlb, List.length_append, List.length_cons] at hl
      refine ⟨by omega, ?_⟩
      rw [atB _ (by omega) (by omega)]
      have : ∀ (l : List UInt8) (i : Nat) (hi : i < l.length), l = v ++ 46 :: B → i = v.length → l[i].toNat = 46 := by
        intro l i hi e1 e2; subst e1 e2; simp
      exact this _ _ _ e (by omega)
  · rw [pl_put ha hb hp' hc, isEmpty_len, isEmpty_len]
    congr 2
    rw [List.length_append, List.length_cons, hla, hlb]
    exact congrArg (· ≤ 60) (by omega)
  · rw [pl_dot ha hb hp', isEmpty_len, isEmpty_len]
    have e1 : decide ((H.data.toList.take k ++ 46 :: H.data.toList.drop k).length ≤ 60) = decide (H.size + 1 ≤ 60) := by
      rw [List.length_append, List.length_cons, hla, hlb]
      exact congrArg (fun n => decide (n ≤ 60)) (by omega)
    rw [e1]
    congr 1
    by_cases hu0 : u.length = 0
    · rw [decide_eq_true hu0, decide_eq_false (show ¬ u.length ≠ 0 from fun h => h hu0)]; rfl
    by_cases hv0 : v.length = 0
    · rw [decide_eq_true hv0, decide_eq_false (show ¬ v.length ≠ 0 from fun h => h hv0)]; simp
    rw [decide_eq_false hu0, decide_eq_false hv0, decide_eq_true hu0, decide_eq_true hv0, dif_pos ⟨by omega, by omega⟩]
    have l1 : u.getLast? = some (H[k - 1]'(by omega)) := by
      have : (H.data.toList.take k).getLast? = some (H[k - 1]'(by omega)) := by
        rw [last_at (by omega), atA (k - 1) (by omega) (by omega)]
        congr 1
        simp only [hla]
      rcases hau with e | ⟨A, e⟩
      · rwa [e] at this
      · rw [e, List.getLast?_append] at this
        cases u with
        | nil => simp at hu0
        | cons x u =>
          rw [List.getLast?_cons_cons] at this
          cases hh : (x :: u).getLast? with
          | none => simp at hh
          | some y => rw [hh] at this; simpa using this
    have l2 : v.head? = some (H[k]'(by omega)) := by
      have : (H.data.toList.drop k).head? = some (H[k]'(by omega)) := by
        rw [List.head?_eq_getElem?, List.getElem?_eq_getElem (by omega), atB k (by omega) (Nat.le_refl _)]
        congr 2; omega
      rcases hbv with e | ⟨B, e⟩
      · rwa [e] at this
      · cases v with
        | nil => simp at hv0
        | cons x v => rw [e] at this; simpa using this
    have q : ∀ x : UInt8, decide (some x = some 45) = decide (x.toNat = 45) := fun x => by
      rw [decide_eq_decide, Option.some.injEq, eqB]; rfl
    rw [l1, l2, q, q]
    simp
end Go.Proofs.YtlbafdffmibjoaaDoor
