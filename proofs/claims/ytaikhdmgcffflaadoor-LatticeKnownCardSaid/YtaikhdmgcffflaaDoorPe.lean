/- Plain facts on the row of all elements (Line): next is always the smallest one below which none of the rest lies. -/
import Derived.Test.YtaikhdmgcffflaaDoorPd
namespace Go.Proofs.YtaikhdmgcffflaaDoor

/-- None of the rest but a itself is at most a. -/
def freeIn (A : Nat → Nat) (rest a : Nat) : Bool := (clo A a &&& rest) == 2 ^ a
/-- The next element. -/
def nxt (A : Nat → Nat) (rest : Nat) : Option Nat := (els rest).find? fun a => freeIn A rest a
/-- A set without an element. -/
def rm (s a : Nat) : Nat := s ^^^ (s &&& 2 ^ a)
theorem tb_rm (s a i : Nat) : (rm s a).testBit i = (s.testBit i && !decide (a = i)) := by
  unfold rm
  rw [Nat.testBit_xor, Nat.testBit_and, Nat.testBit_two_pow]
  cases s.testBit i <;> cases decide (a = i) <;> rfl
theorem freeIn_iff {A : Nat → Nat} {rest a : Nat} (hr : rest.testBit a = true) (ha : (clo A a).testBit a = true) : freeIn A rest a = true ↔ ∀ c, rest.testBit c = true → le A c a = true → c = a := by
  unfold freeIn
  rw [beq_iff_eq]
  constructor
  · intro h c hc hl
    have := congrArg (fun s => s.testBit c) h
    simp only [Nat.testBit_and, Nat.testBit_two_pow] at this
    rw [show (clo A a).testBit c = true from hl, hc] at this
    exact (show a = c by simpa using this).symm
  · intro h
    apply Nat.eq_of_testBit_eq
    intro i
    rw [Nat.testBit_and, Nat.testBit_two_pow]
    by_cases e : a = i
    · subst e; simp [ha, hr]
    · simp only [e, decide_false, Bool.and_eq_false_iff]
      cases h1 : (clo A a).testBit i with
      | false => exact .inl rfl
      | true =>
        cases h2 : rest.testBit i with
        | false => exact .inr rfl
        | true => exact absurd (h i h2 h1).symm e

/-- How many of the rest are at most a. -/
def under (A : Nat → Nat) (rest a : Nat) : Nat := ((List.range 16).filter fun c => rest.testBit c && le A c a).length
theorem min_ex {n : Nat} {A : Nat → Nat} (g : Good n A) (t : Anti A) {rest : Nat} (hr : ∀ c, rest.testBit c = true → c < n) : ∀ (k a : Nat), under A rest a ≤ k → rest.testBit a = true → ∃ b, rest.testBit b = true ∧ freeIn A rest b = true := by
  intro k
  induction k with
  | zero =>
    intro a hk ha
    exfalso
    have h1 := hr a ha
    have := g.le16
    have : a ∈ (List.range 16).filter fun c => rest.testBit c && le A c a := by simp [ha, le_refl g h1]; omega
    have := List.length_pos_of_mem this
    unfold under at hk
    omega
  | succ k ih =>
    intro a hk ha
    have h1 := hr a ha
    have h16 := g.le16
    by_cases hf : freeIn A rest a = true
    · exact ⟨a, ha, hf⟩
    · rw [freeIn_iff ha (le_refl g h1)] at hf
      obtain ⟨c, hc⟩ := Classical.not_forall.1 hf
      obtain ⟨hc1, hc2⟩ := Classical.not_imp.1 hc
      obtain ⟨hc2, hc3⟩ := Classical.not_imp.1 hc2
      refine ih c ?_ hc1
      have : under A rest c < under A rest a := by
        unfold under
        have e : (List.range 16).filter (fun d => rest.testBit d && le A d c) = ((List.range 16).filter fun d => rest.testBit d && le A d a).filter fun d => rest.testBit d && le A d c := by
          rw [List.filter_filter]
          apply List.filter_congr
          intro d _
          cases k1 : rest.testBit d with
          | false => simp
          | true =>
            cases k2 : le A d c with
            | false => simp
            | true => simp [le_trans g (hr c hc1) h1 k2 hc2]
        rw [e]
        refine List.length_filter_lt_length_iff_exists.2 ⟨a, by simp [ha, le_refl g h1]; omega, ?_⟩
        intro hx
        simp only [Bool.and_eq_true] at hx
        exact hc3 (le_anti g t (hr c hc1) h1 hc2 hx.2)
      omega
theorem nxt_some {n : Nat} {A : Nat → Nat} (g : Good n A) (t : Anti A) {rest : Nat} (hr : ∀ c, rest.testBit c = true → c < n) (h0 : rest ≠ 0) (h1 : rest < 65536) : ∃ a, nxt A rest = some a ∧ a < n ∧ rest.testBit a = true ∧ freeIn A rest a = true := by
  have hx : ∃ x, rest.testBit x = true := ⟨tz rest, (tz_spec h1 h0).2.1⟩
  obtain ⟨x, hx⟩ := hx
  obtain ⟨b, hb, hf⟩ := min_ex g t hr _ x (Nat.le_refl _) hx
  have hbe : b ∈ els rest := mem_els.2 ⟨lt_of_tb h1 hb, hb⟩
  cases hn : nxt A rest with
  | none =>
    unfold nxt at hn
    rw [List.find?_eq_none] at hn
    exact absurd hf (hn b hbe)
  | some a =>
    unfold nxt at hn
    have h2 := List.find?_some hn
    have h3 := List.mem_of_find?_eq_some hn
    exact ⟨a, rfl, hr a (mem_els.1 h3).2, (mem_els.1 h3).2, h2⟩

/-- The rest of the row. -/
def lineF (A : Nat → Nat) : Nat → Nat → List Nat
  | 0, _ => []
  | k + 1, rest => match nxt A rest with
    | some a => a :: lineF A k (rm rest a)
    | none => []
/-- How many elements a set has. -/
def card (s : Nat) : Nat := (els s).length
theorem card_rm {s a : Nat} (ha : a < 16) (h : s.testBit a = true) : card s = card (rm s a) + 1 := by
  unfold card
  have e : els (rm s a) = (els s).filter fun i => i != a := by
    unfold els
    rw [List.filter_filter]
    apply List.filter_congr
    intro i _
    rw [tb_rm, Bool.and_comm]
    congr 1
    rw [Bool.eq_iff_iff]
    simp
    exact ⟨fun h e => h e.symm, fun h e => h e.symm⟩
  have hm : a ∈ els s := mem_els.2 ⟨ha, h⟩
  have hnd : (els s).Nodup := by
    rw [List.nodup_iff_pairwise_ne]
    exact (els_sorted s).imp (fun h => by omega)
  rw [e, ← hnd.erase_eq_filter, List.length_erase_of_mem hm]
  have := List.length_pos_of_mem hm
  omega
theorem rm_sub {s a c : Nat} (h : (rm s a).testBit c = true) : s.testBit c = true ∧ a ≠ c := by
  rw [tb_rm] at h
  simpa using h
theorem rm_lt {s a : Nat} (hs : s < 65536) : rm s a < 65536 := Nat.xor_lt_two_pow (n := 16) hs (and_lt hs)
theorem card_zero {s : Nat} (hs : s < 65536) (h : card s = 0) : s = 0 := els_nil hs (List.eq_nil_of_length_eq_zero h)
theorem card_all {n : Nat} (hn : n ≤ 16) : card (allS n) = n := by
  unfold card els
  rw [filter_range16 hn _ (fun i h => by rw [tb_allS] at h; simpa using h)]
  rw [List.filter_eq_self.2 (fun i hi => by rw [tb_allS]; simpa using hi)]
  simp

/-- A row of all elements of a set, none behind one that it lies below. -/
structure Lined (A : Nat → Nat) (rest : Nat) (l : List Nat) : Prop where
  mem : ∀ a, a ∈ l ↔ rest.testBit a = true
  nodup : l.Nodup
  row : l.Pairwise fun a b => le A b a = false
theorem lineF_lined {n : Nat} {A : Nat → Nat} (g : Good n A) (t : Anti A) : ∀ (k rest : Nat), card rest = k → rest < 65536 → (∀ c, rest.testBit c = true → c < n) → Lined A rest (lineF A k rest) ∧ (lineF A k rest).length = k := by
  intro k
  induction k with
  | zero =>
    intro rest hk h1 hr
    have := card_zero h1 hk
    subst this
    exact ⟨⟨by simp [lineF], by simp [lineF], by simp [lineF]⟩, rfl⟩
  | succ k ih =>
    intro rest hk h1 hr
    have h0 : rest ≠ 0 := by
      rintro rfl
      simp [card, els_zero] at hk
    obtain ⟨a, hn, han, har, haf⟩ := nxt_some g t hr h0 h1
    have ha16 : a < 16 := by have := g.le16; omega
    have hc := card_rm ha16 har
    obtain ⟨hl, hlen⟩ := ih (rm rest a) (by omega) (rm_lt h1) (fun c hc => hr c (rm_sub hc).1)
    have hf := (freeIn_iff har (le_refl g han)).1 haf
    simp only [lineF, hn]
    refine ⟨⟨fun c => ?_, ?_, ?_⟩, by simp [hlen]⟩
    · rw [List.mem_cons, hl.mem, tb_rm]
      by_cases e : c = a
      · subst e; simp [har]
      · simp [e, Ne.symm e]
    · rw [List.nodup_cons]
      refine ⟨fun hm => ?_, hl.nodup⟩
      exact (rm_sub ((hl.mem a).1 hm)).2 rfl
    · rw [List.pairwise_cons]
      refine ⟨fun b hb => ?_, hl.row⟩
      obtain ⟨h2, h3⟩ := rm_sub ((hl.mem b).1 hb)
      cases h4 : le A b a with
      | false => rfl
      | true => exact absurd (hf b h2 h4).symm h3
def lineL (n : Nat) (A : Nat → Nat) : List Nat := lineF A n (allS n)
theorem lineL_lined {n : Nat} {A : Nat → Nat} (g : Good n A) (t : Anti A) : Lined A (allS n) (lineL n A) ∧ (lineL n A).length = n :=
  lineF_lined g t n _ (card_all g.le16) (allS_lt n g.le16) (fun c h => by rw [tb_allS] at h; simpa using h)
/-- One step of the row. -/
theorem lineF_step {A : Nat → Nat} {k rest a : Nat} (h : nxt A rest = some a) : lineF A (k + 1) rest = a :: lineF A k (rm rest a) := by simp only [lineF, h]

/-- The next one, as the chapter says it. -/
def nxtD (n : Nat) (A : Nat → Nat) (had : Nat → Bool) : Option Nat := (List.range n).find? fun a => !had a && (List.range n).all fun b => had b || !(b != a && le A b a)
theorem nxtD_eq {n : Nat} {A : Nat → Nat} (g : Good n A) {rest : Nat} {had : Nat → Bool} (hr : ∀ c, rest.testBit c = true → c < n) (hh : ∀ i, i < n → had i = !rest.testBit i) : nxtD n A had = nxt A rest := by
  unfold nxtD nxt els
  rw [filter_range16 g.le16 _ hr, List.find?_filter]
  suffices h : ∀ l : List Nat, (∀ a ∈ l, a < n) → l.find? (fun a => !had a && (List.range n).all fun b => had b || !(b != a && le A b a)) = l.find? (fun a => decide (rest.testBit a = true ∧ freeIn A rest a = true)) from
    h _ (fun a ha => List.mem_range.1 ha)
  intro l hl
  induction l with
  | nil => rfl
  | cons a l ih =>
    have ha := hl a (by simp)
    have key : (!had a && (List.range n).all fun b => had b || !(b != a && le A b a)) = decide (rest.testBit a = true ∧ freeIn A rest a = true) := by
      rw [hh a ha, Bool.not_not]
      cases h1 : rest.testBit a with
      | false => simp
      | true =>
        simp only [Bool.true_and, true_and]
        rw [Bool.eq_iff_iff, decide_eq_true_eq, freeIn_iff h1 (le_refl g ha), List.all_eq_true]
        constructor
        · intro h c hc hlc
          have hcn := hr c hc
          have := h c (List.mem_range.2 hcn)
          rw [hh c hcn, hc] at this
          simp only [Bool.not_true, Bool.false_or, hlc, Bool.and_true, Bool.not_eq_true', bne_eq_false_iff_eq] at this
          exact this
        · intro h b hb
          have hbn := List.mem_range.1 hb
          rw [hh b hbn]
          cases h2 : rest.testBit b with
          | false => rfl
          | true =>
            simp only [Bool.not_true, Bool.false_or, Bool.not_eq_true', Bool.and_eq_false_iff, bne_eq_false_iff_eq]
            cases h3 : le A b a with
            | false => exact .inr rfl
            | true => exact .inl (h b h2 h3)
    rw [List.find?_cons, List.find?_cons, key, ih (fun b hb => hl b (List.mem_cons_of_mem _ hb))]
end Go.Proofs.YtaikhdmgcffflaaDoor
