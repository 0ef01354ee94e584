/- Plain facts on what lies below what: paths along what was added, and the sets that are closed under it. -/
import Derived.Test.YtaikhdmgcffflaaDoorPa
namespace Go.Proofs.YtaikhdmgcffflaaDoor

/-- y is at most x: a path of what was added leads down from x to y. -/
inductive Reach (A : Nat → Nat) : Nat → Nat → Prop
  | refl (x : Nat) : Reach A x x
  | step {x y z : Nat} : Reach A x y → (A y).testBit z = true → Reach A x z

theorem Reach.trans {A : Nat → Nat} {x y z : Nat} (h : Reach A x y) (k : Reach A y z) : Reach A x z := by
  induction k with
  | refl => exact h
  | step _ hz ih => exact ih.step hz
theorem Reach.one {A : Nat → Nat} {x y : Nat} (h : (A x).testBit y = true) : Reach A x y := (Reach.refl x).step h
/-- The first step of a path. -/
theorem Reach.first {A : Nat → Nat} {x z : Nat} (h : Reach A x z) : x = z ∨ ∃ y, (A x).testBit y = true ∧ Reach A y z := by
  induction h with
  | refl => exact .inl rfl
  | step h hz ih =>
    rename_i y z
    rcases ih with rfl | ⟨u, hu, hr⟩
    · exact .inr ⟨z, hz, .refl _⟩
    · exact .inr ⟨u, hu, hr.step hz⟩

/-- What a visit of x makes of what was found. -/
def Vis (A : Nat → Nat) (F x F' : Nat) : Prop := (∀ a, F.testBit a = true → F'.testBit a = true) ∧ F'.testBit x = true ∧
  ∀ y, F'.testBit y = true → F.testBit y = true ∨ (Reach A x y ∧ ∀ z, (A y).testBit z = true → F'.testBit z = true)
/-- What visits of several make of it. -/
def VisL (A : Nat → Nat) (F : Nat) (l : List Nat) (F' : Nat) : Prop := (∀ a, F.testBit a = true → F'.testBit a = true) ∧ (∀ x ∈ l, F'.testBit x = true) ∧
  ∀ y, F'.testBit y = true → F.testBit y = true ∨ ((∃ x ∈ l, Reach A x y) ∧ ∀ z, (A y).testBit z = true → F'.testBit z = true)
theorem VisL.nil (A : Nat → Nat) (F : Nat) : VisL A F [] F := ⟨fun _ h => h, fun _ h => by simp at h, fun _ h => .inl h⟩
theorem VisL.snoc {A : Nat → Nat} {F F' F'' : Nat} {l : List Nat} {x : Nat} (h : VisL A F l F') (k : Vis A F' x F'') : VisL A F (l ++ [x]) F'' := by
  refine ⟨fun a ha => k.1 a (h.1 a ha), fun y hy => ?_, fun y hy => ?_⟩
  · rcases List.mem_append.1 hy with hy | hy
    · exact k.1 y (h.2.1 y hy)
    · rw [List.mem_singleton.1 hy]; exact k.2.1
  · rcases k.2.2 y hy with hy' | ⟨hr, hc⟩
    · rcases h.2.2 y hy' with hy' | ⟨⟨u, hu, hr⟩, hc⟩
      · exact .inl hy'
      · exact .inr ⟨⟨u, List.mem_append_left _ hu, hr⟩, fun z hz => k.1 z (hc z hz)⟩
    · exact .inr ⟨⟨x, by simp, hr⟩, hc⟩

theorem tb_or_pow (F x i : Nat) : (F ||| 2 ^ x).testBit i = (F.testBit i || decide (x = i)) := by rw [Nat.testBit_or, Nat.testBit_two_pow]
theorem lt_of_tb {s a : Nat} (hs : s < 65536) (h : s.testBit a = true) : a < 16 := by
  rcases Nat.lt_or_ge a 16 with h1 | h1
  · exact h1
  · rw [Nat.testBit_lt_two_pow] at h
    · cases h
    · have := Nat.pow_le_pow_right (n := 2) (by omega) h1
      have e : (2 : Nat) ^ 16 = 65536 := by decide
      omega
theorem vis_of {A : Nat → Nat} {F x F' : Nat} (hA : A x < 65536) (h : VisL A (F ||| 2 ^ x) (els (A x)) F') : Vis A F x F' := by
  refine ⟨fun a ha => h.1 a (by rw [tb_or_pow, ha]; rfl), h.1 x (by simp), fun y hy => ?_⟩
  rcases h.2.2 y hy with hy' | ⟨⟨u, hu, hr⟩, hc⟩
  · rw [tb_or_pow, Bool.or_eq_true, decide_eq_true_eq] at hy'
    rcases hy' with hy' | rfl
    · exact .inl hy'
    · exact .inr ⟨.refl _, fun z hz => h.2.1 z (mem_els.2 ⟨lt_of_tb hA hz, hz⟩)⟩
  · exact .inr ⟨(Reach.one (mem_els.1 hu).2).trans hr, hc⟩
theorem vis_in {A : Nat → Nat} {F x : Nat} (h : F.testBit x = true) : Vis A F x F := ⟨fun _ h => h, h, fun _ h => .inl h⟩
theorem vis_zero {A : Nat → Nat} {x F' : Nat} (h : Vis A 0 x F') (y : Nat) : F'.testBit y = true ↔ Reach A x y := by
  constructor
  · intro hy
    rcases h.2.2 y hy with h1 | h1
    · simp at h1
    · exact h1.1
  · intro hr
    induction hr with
    | refl => exact h.2.1
    | step _ hz ih =>
      rcases h.2.2 _ ih with h1 | h1
      · simp at h1
      · exact h1.2 _ hz

/-- How many elements are not there. -/
def free (F : Nat) : Nat := ((List.range 16).filter fun a => !F.testBit a).length
theorem free_mono {F G : Nat} (h : ∀ a, F.testBit a = true → G.testBit a = true) : free G ≤ free F := by
  unfold free
  apply List.Sublist.length_le
  have e : (List.range 16).filter (fun a => !G.testBit a) = ((List.range 16).filter fun a => !F.testBit a).filter fun a => !G.testBit a := by
    rw [List.filter_filter]
    apply List.filter_congr
    intro a _
    cases hf : F.testBit a with
    | false => simp
    | true => simp [h a hf]
  rw [e]
  exact List.filter_sublist
theorem free_lt {F x : Nat} (hx : x < 16) (h : F.testBit x = false) : free (F ||| 2 ^ x) < free F := by
  unfold free
  have e : (List.range 16).filter (fun a => !(F ||| 2 ^ x).testBit a) = ((List.range 16).filter fun a => !F.testBit a).filter fun a => !decide (x = a) := by
    rw [List.filter_filter]
    apply List.filter_congr
    intro a _
    rw [tb_or_pow]
    simp [Bool.and_comm]
  rw [e]
  have hm : x ∈ (List.range 16).filter fun a => !F.testBit a := by simp [hx, h]
  exact List.length_filter_lt_length_iff_exists.2 ⟨x, hm, by simp⟩

/-! Sets that grow until they are closed. -/
def step (A : Nat → Nat) (F : Nat) : Nat := (List.range 16).foldl (fun G y => if F.testBit y then G ||| A y else G) F
def iter (A : Nat → Nat) : Nat → Nat → Nat
  | 0, F => F
  | k + 1, F => step A (iter A k F)
/-- All that are at most b, reckoned. -/
def clo (A : Nat → Nat) (b : Nat) : Nat := iter A 16 (2 ^ b)
/-- Is a at most b? -/
def le (A : Nat → Nat) (a b : Nat) : Bool := (clo A b).testBit a

theorem tb_step_aux (A : Nat → Nat) (F z : Nat) : ∀ (l : List Nat) (G : Nat), (l.foldl (fun G y => if F.testBit y then G ||| A y else G) G).testBit z = true ↔ G.testBit z = true ∨ ∃ y ∈ l, F.testBit y = true ∧ (A y).testBit z = true
  | [], G => by simp
  | y :: l, G => by
    rw [List.foldl_cons, tb_step_aux A F z l]
    by_cases h : F.testBit y = true
    · simp [h, Nat.testBit_or, or_assoc]
    · simp [h]
theorem tb_step (A : Nat → Nat) (F z : Nat) : (step A F).testBit z = true ↔ F.testBit z = true ∨ ∃ y, y < 16 ∧ F.testBit y = true ∧ (A y).testBit z = true := by
  unfold step
  rw [tb_step_aux]
  simp [List.mem_range]
theorem iter_sub {A : Nat → Nat} {F : Nat} : ∀ (k : Nat) {a : Nat}, F.testBit a = true → (iter A k F).testBit a = true
  | 0, _, h => h
  | k + 1, _, h => (tb_step _ _ _).2 (.inl (iter_sub k h))
theorem iter_reach {A : Nat → Nat} {b : Nat} : ∀ (k : Nat) {a : Nat}, (iter A k (2 ^ b)).testBit a = true → Reach A b a
  | 0, a, h => by
    simp only [iter, Nat.testBit_two_pow, decide_eq_true_eq] at h
    subst h; exact .refl _
  | k + 1, a, h => by
    rcases (tb_step _ _ _).1 h with h | ⟨y, _, hy, hz⟩
    · exact iter_reach k h
    · exact (iter_reach k hy).step hz

def Small (A : Nat → Nat) : Prop := ∀ i, A i < 65536
theorem step_fix_or {A : Nat → Nat} (hA : Small A) (F : Nat) : (∀ z, (step A F).testBit z = true → F.testBit z = true) ∨ free (step A F) < free F := by
  by_cases h : ∀ z, (step A F).testBit z = true → F.testBit z = true
  · exact .inl h
  · refine .inr ?_
    obtain ⟨z, hz⟩ := Classical.not_forall.1 h
    obtain ⟨h1, h2⟩ := Classical.not_imp.1 hz
    have h2' : F.testBit z = false := by simpa using h2
    have hz16 : z < 16 := by
      rcases (tb_step _ _ _).1 h1 with h | ⟨y, _, _, hy⟩
      · exact absurd h h2
      · exact lt_of_tb (hA y) hy
    refine Nat.lt_of_le_of_lt (free_mono fun a ha => ?_) (free_lt hz16 h2')
    rw [tb_or_pow, Bool.or_eq_true, decide_eq_true_eq] at ha
    rcases ha with ha | rfl
    · exact (tb_step _ _ _).2 (.inl ha)
    · exact h1
theorem iter_closed {A : Nat → Nat} (hA : Small A) (F : Nat) : ∀ k, (∀ z, (step A (iter A k F)).testBit z = true → (iter A k F).testBit z = true) ∨ free (iter A k F) + k ≤ free F
  | 0 => .inr (Nat.le_refl _)
  | k + 1 => by
    rcases iter_closed hA F k with h | h
    · refine .inl fun z hz => ?_
      show (step A (iter A k F)).testBit z = true
      rcases (tb_step _ _ _).1 hz with h1 | ⟨y, hy, h2, h3⟩
      · exact h1
      · exact (tb_step _ _ _).2 (.inr ⟨y, hy, h y h2, h3⟩)
    · rcases step_fix_or hA (iter A k F) with h1 | h1
      · refine .inl fun z hz => ?_
        show (step A (iter A k F)).testBit z = true
        rcases (tb_step _ _ _).1 hz with h2 | ⟨y, hy, h2, h3⟩
        · exact h2
        · exact (tb_step _ _ _).2 (.inr ⟨y, hy, h1 y h2, h3⟩)
      · refine .inr ?_
        show free (step A (iter A k F)) + (k + 1) ≤ free F
        omega
theorem free_le (F : Nat) : free F ≤ 16 := by
  unfold free
  have := List.length_filter_le (fun a => !F.testBit a) (List.range 16)
  simpa using this
theorem clo_closed {A : Nat → Nat} (hA : Small A) {b : Nat} (hb : b < 16) {y z : Nat} (h : (clo A b).testBit y = true) (hz : (A y).testBit z = true) (hy : y < 16) : (clo A b).testBit z = true := by
  have h1 := iter_closed hA (2 ^ b) 16
  have h2 : free (2 ^ b) < 16 := by
    have := free_lt (F := 0) hb (by simp)
    have h3 := free_le 0
    rw [Nat.zero_or] at this
    omega
  rcases h1 with h1 | h1
  · exact h1 z ((tb_step _ _ _).2 (.inr ⟨y, hy, h, hz⟩))
  · omega
theorem le_iff {A : Nat → Nat} (hA : Small A) {a b : Nat} (hb : b < 16) : le A a b = true ↔ Reach A b a := by
  constructor
  · exact iter_reach 16
  · intro h
    have key : (clo A b).testBit a = true ∧ a < 16 := by
      induction h with
      | refl => exact ⟨iter_sub 16 (by simp), hb⟩
      | step _ hz ih => exact ⟨clo_closed hA hb ih.1 hz ih.2, lt_of_tb (hA _) hz⟩
    exact key.1
theorem step_lt {A : Nat → Nat} (hA : Small A) {F : Nat} (hF : F < 65536) : step A F < 65536 := by
  unfold step
  have : ∀ (l : List Nat) (G : Nat), G < 65536 → l.foldl (fun G y => if F.testBit y then G ||| A y else G) G < 65536 := by
    intro l
    induction l with
    | nil => exact fun G h => h
    | cons y l ih =>
      intro G hG
      rw [List.foldl_cons]
      apply ih
      split
      · exact Nat.or_lt_two_pow (n := 16) hG (hA y)
      · exact hG
  exact this _ _ hF
theorem clo_lt {A : Nat → Nat} (hA : Small A) {b : Nat} (hb : b < 16) : clo A b < 65536 := by
  have : ∀ k, iter A k (2 ^ b) < 65536 := by
    intro k
    induction k with
    | zero =>
      have := Nat.pow_lt_pow_right (a := 2) (by omega) (show b < 16 by omega)
      simpa [iter] using this
    | succ k ih => exact step_lt hA ih
  exact this 16
theorem vis_clo {A : Nat → Nat} (hA : Small A) {a F' : Nat} (ha : a < 16) (hF : F' < 65536) (h : Vis A 0 a F') : F' = clo A a := by
  apply ext16 hF (clo_lt hA ha)
  intro i _
  rw [Bool.eq_iff_iff, vis_zero h, ← le_iff hA ha]
  rfl
end Go.Proofs.YtaikhdmgcffflaaDoor
