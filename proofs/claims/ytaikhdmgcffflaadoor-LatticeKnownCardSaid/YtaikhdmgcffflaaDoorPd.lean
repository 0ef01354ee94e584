/- Plain facts on partial orders that are built pair by pair: what was added as a list of pairs, antisymmetry, covering pairs. -/
import Derived.Test.YtaikhdmgcffflaaDoorPc
namespace Go.Proofs.YtaikhdmgcffflaaDoor

/-- What lies below what is one way alone. -/
def Anti (A : Nat → Nat) : Prop := ∀ x y, Reach A x y → Reach A y x → x = y
theorem tb_upd (A : Nat → Nat) (h l i j : Nat) : (upd A h l i).testBit j = ((A i).testBit j || (decide (i = h) && decide (l = j))) := by
  unfold upd
  split
  · rename_i e; rw [tb_or_pow]; simp [e]
  · rename_i e; simp [e]
theorem Reach.mono {A B : Nat → Nat} (h : ∀ i j, (A i).testBit j = true → (B i).testBit j = true) {x y : Nat} (r : Reach A x y) : Reach B x y := by
  induction r with
  | refl => exact .refl _
  | step _ hz ih => exact ih.step (h _ _ hz)
theorem reach_zero {x y : Nat} (h : Reach (fun _ => 0) x y) : x = y := by
  cases h with
  | refl => rfl
  | step _ hz => simp at hz
theorem anti_zero : Anti fun _ => 0 := fun _ _ h _ => reach_zero h
theorem reach_upd {A : Nat → Nat} {h l x y : Nat} : Reach (upd A h l) x y ↔ Reach A x y ∨ (Reach A x h ∧ Reach A l y) := by
  constructor
  · intro r
    induction r with
    | refl => exact .inl (.refl _)
    | step _ hz ih =>
      rw [tb_upd, Bool.or_eq_true, Bool.and_eq_true, decide_eq_true_eq, decide_eq_true_eq] at hz
      rcases hz with hz | ⟨rfl, rfl⟩
      · rcases ih with ih | ⟨i1, i2⟩
        · exact .inl (ih.step hz)
        · exact .inr ⟨i1, i2.step hz⟩
      · rcases ih with ih | ⟨i1, _⟩
        · exact .inr ⟨ih, .refl _⟩
        · exact .inr ⟨i1, .refl _⟩
  · intro r
    have m : ∀ i j, (A i).testBit j = true → (upd A h l i).testBit j = true := fun i j e => by rw [tb_upd, e]; rfl
    rcases r with r | ⟨r1, r2⟩
    · exact r.mono m
    · exact ((r1.mono m).step (by rw [tb_upd]; simp)).trans (r2.mono m)
theorem Anti.upd {A : Nat → Nat} (a : Anti A) {h l : Nat} (hn : ¬ Reach A l h) : Anti (upd A h l) := by
  intro x y r1 r2
  rcases reach_upd.1 r1 with r1 | ⟨r1, r1'⟩ <;> rcases reach_upd.1 r2 with r2 | ⟨r2, r2'⟩
  · exact a x y r1 r2
  · exact absurd ((r2'.trans r1).trans r2) hn
  · exact absurd ((r1'.trans r2).trans r1) hn
  · exact absurd (r1'.trans r2) hn

/-- What a list of pairs (low, high) adds. -/
def ofL (L : List (Nat × Nat)) : Nat → Nat := L.foldl (fun A p => upd A p.2 p.1) fun _ => 0
theorem ofL_snoc (L : List (Nat × Nat)) (p : Nat × Nat) : ofL (L ++ [p]) = upd (ofL L) p.2 p.1 := by simp [ofL]
theorem tb_fold (i j : Nat) : ∀ (L : List (Nat × Nat)) (A : Nat → Nat), (L.foldl (fun A p => upd A p.2 p.1) A i).testBit j = true ↔ (A i).testBit j = true ∨ (j, i) ∈ L
  | [], A => by simp
  | p :: L, A => by
    rw [List.foldl_cons, tb_fold i j L, tb_upd, Bool.or_eq_true, Bool.and_eq_true, decide_eq_true_eq, decide_eq_true_eq, List.mem_cons, Prod.ext_iff, or_assoc]
    simp only
    constructor
    · rintro (h | ⟨rfl, rfl⟩ | h)
      · exact .inl h
      · exact .inr (.inl ⟨rfl, rfl⟩)
      · exact .inr (.inr h)
    · rintro (h | ⟨rfl, rfl⟩ | h)
      · exact .inl h
      · exact .inr (.inl ⟨rfl, rfl⟩)
      · exact .inr (.inr h)
theorem tb_ofL (L : List (Nat × Nat)) (i j : Nat) : (ofL L i).testBit j = true ↔ (j, i) ∈ L := by
  unfold ofL; rw [tb_fold]; simp
theorem ofL_congr {L M : List (Nat × Nat)} (h : ∀ p, p ∈ L ↔ p ∈ M) : ofL L = ofL M := by
  funext i
  apply Nat.eq_of_testBit_eq
  intro j
  rw [Bool.eq_iff_iff, tb_ofL, tb_ofL, h]

/-- A list of pairs that were taken one behind the other. -/
inductive Took (n : Nat) : List (Nat × Nat) → Prop
  | nil : Took n []
  | snoc {L : List (Nat × Nat)} {l h : Nat} : Took n L → l < n → h < n → le (ofL L) h l = false → Took n (L ++ [(l, h)])
theorem Took.good {n : Nat} (h1 : 1 ≤ n) (h2 : n ≤ 16) {L : List (Nat × Nat)} (t : Took n L) : Good n (ofL L) := by
  induction t with
  | nil => exact Good.zero h1 h2
  | snoc _ hl _ _ ih => rw [ofL_snoc]; exact ih.upd hl _
theorem le_false {n : Nat} {A : Nat → Nat} (g : Good n A) {a b : Nat} (hb : b < n) : le A a b = false ↔ ¬ Reach A b a := by
  rw [← le_iff g.small (by have := g.le16; omega)]
  simp
theorem le_true {n : Nat} {A : Nat → Nat} (g : Good n A) {a b : Nat} (hb : b < n) : le A a b = true ↔ Reach A b a := le_iff g.small (by have := g.le16; omega)
theorem Took.anti {n : Nat} (h1 : 1 ≤ n) (h2 : n ≤ 16) {L : List (Nat × Nat)} (t : Took n L) : Anti (ofL L) := by
  induction t with
  | nil => exact anti_zero
  | snoc t hl _ hc ih =>
    rw [ofL_snoc]
    exact ih.upd ((le_false (t.good h1 h2) hl).1 hc)
theorem Took.mem {n : Nat} {L : List (Nat × Nat)} (t : Took n L) : ∀ p ∈ L, p.1 < n ∧ p.2 < n := by
  induction t with
  | nil => simp
  | snoc _ hl hh _ ih =>
    intro p hp
    rcases List.mem_append.1 hp with hp | hp
    · exact ih p hp
    · rw [List.mem_singleton.1 hp]; exact ⟨hl, hh⟩
theorem Took.ne {n : Nat} {L : List (Nat × Nat)} (h1 : 1 ≤ n) (h2 : n ≤ 16) (t : Took n L) : ∀ p ∈ L, p.1 ≠ p.2 := by
  induction t with
  | nil => simp
  | snoc t hl hh hc ih =>
    intro p hp
    rcases List.mem_append.1 hp with hp | hp
    · exact ih p hp
    · rw [List.mem_singleton.1 hp]
      intro e
      have hr := (le_false (t.good h1 h2) hl).1 hc
      dsimp only at e
      exact hr (by rw [e]; exact .refl _)
theorem Took.snoc_of {n : Nat} {L : List (Nat × Nat)} (t : Took n L) {l h : Nat} (hl : l < n) (hh : h < n) (hc : le (ofL L) h l = false) : Took n (L ++ [(l, h)]) := .snoc t hl hh hc
theorem le_refl {n : Nat} {A : Nat → Nat} (g : Good n A) {a : Nat} (ha : a < n) : le A a a = true := (le_true g ha).2 (.refl _)
theorem le_trans {n : Nat} {A : Nat → Nat} (g : Good n A) {a b c : Nat} (hb : b < n) (hc : c < n) (h1 : le A a b = true) (h2 : le A b c = true) : le A a c = true :=
  (le_true g hc).2 (((le_true g hc).1 h2).trans ((le_true g hb).1 h1))
theorem le_anti {n : Nat} {A : Nat → Nat} (g : Good n A) (t : Anti A) {a b : Nat} (ha : a < n) (hb : b < n) (h1 : le A a b = true) (h2 : le A b a = true) : a = b :=
  t a b ((le_true g ha).1 h2) ((le_true g hb).1 h1)
theorem le_of_mem {n : Nat} (h1 : 1 ≤ n) (h2 : n ≤ 16) {L : List (Nat × Nat)} (t : Took n L) {l h : Nat} (hm : (l, h) ∈ L) : le (ofL L) l h = true :=
  (le_true (t.good h1 h2) (t.mem _ hm).2).2 (.one ((tb_ofL _ _ _).2 hm))

/-- Some of what was taken, in whatever order, is taken. -/
theorem took_sub {n : Nat} (h1 : 1 ≤ n) (h2 : n ≤ 16) {L M : List (Nat × Nat)} (t : Took n L) (s : Took n M) (hs : ∀ p ∈ M, p ∈ L) {l h : Nat} (hm : (l, h) ∈ L) : le (ofL M) h l = false := by
  rw [le_false (s.good h1 h2) (t.mem _ hm).1]
  intro r
  have r' : Reach (ofL L) l h := r.mono fun i j hb => (tb_ofL _ _ _).2 (hs _ ((tb_ofL _ _ _).1 hb))
  have := t.anti h1 h2 _ _ r' (.one ((tb_ofL _ _ _).2 hm))
  exact t.ne h1 h2 _ hm this

/-- b covers a. -/
def cov (n : Nat) (A : Nat → Nat) (a b : Nat) : Bool := a != b && le A a b && (List.range n).all fun c => !(a != c && le A a c && (c != b && le A c b))
theorem cov_iff {n : Nat} {A : Nat → Nat} {a b : Nat} : cov n A a b = true ↔ a ≠ b ∧ le A a b = true ∧ ∀ c, c < n → a ≠ c → le A a c = true → c ≠ b → le A c b = false := by
  unfold cov
  simp only [Bool.and_eq_true, bne_iff_ne, List.all_eq_true, List.mem_range, Bool.not_eq_true', Bool.and_eq_false_iff, bne_eq_false_iff_eq, and_assoc]
  constructor
  · rintro ⟨h1, h2, h3⟩
    refine ⟨h1, h2, fun c hc ha hl hb => ?_⟩
    rcases h3 c hc with h | h
    · rcases h with h | h
      · exact absurd h ha
      · rw [hl] at h; cases h
    · rcases h with h | h
      · exact absurd h hb
      · exact h
  · rintro ⟨h1, h2, h3⟩
    refine ⟨h1, h2, fun c hc => ?_⟩
    by_cases ha : a = c
    · exact .inl (.inl ha)
    · cases hl : le A a c with
      | false => exact .inl (.inr rfl)
      | true =>
        by_cases hb : c = b
        · exact .inr (.inl hb)
        · exact .inr (.inr (h3 c hc ha hl hb))
/-- The covering pairs, by the lower one, then by the higher one. -/
def covL (n : Nat) (A : Nat → Nat) : List (Nat × Nat) := (List.range n).flatMap fun a => ((List.range n).filter fun b => cov n A a b).map fun b => (a, b)
theorem mem_covL {n : Nat} {A : Nat → Nat} {a b : Nat} : (a, b) ∈ covL n A ↔ a < n ∧ b < n ∧ cov n A a b = true := by
  unfold covL
  simp only [List.mem_flatMap, List.mem_range, List.mem_map, List.mem_filter, Prod.mk.injEq]
  constructor
  · rintro ⟨x, hx, y, ⟨hy, hc⟩, rfl, rfl⟩; exact ⟨hx, hy, hc⟩
  · rintro ⟨hx, hy, hc⟩; exact ⟨a, hx, b, ⟨hy, hc⟩, rfl, rfl⟩
theorem covL_nodup (n : Nat) (A : Nat → Nat) : (covL n A).Nodup := by
  unfold covL
  rw [List.nodup_iff_pairwise_ne, List.pairwise_flatMap]
  refine ⟨fun a _ => ?_, ?_⟩
  · rw [List.pairwise_map]
    refine List.Pairwise.filter _ ?_
    exact List.Pairwise.imp (fun {x y} (h : x < y) e => by injection e; omega) List.pairwise_lt_range
  · refine List.Pairwise.imp (fun {x y} (h : x < y) p hp q hq e => ?_) List.pairwise_lt_range
    simp only [List.mem_map] at hp hq
    obtain ⟨u, _, rfl⟩ := hp
    obtain ⟨v, _, rfl⟩ := hq
    injection e
    omega

/-- Covering pairs alone: a path from b down to a that b covers begins with that very pair. -/
theorem cov_path {n : Nat} {A : Nat → Nat} (g : Good n A) (_t : Anti A) {M : List (Nat × Nat)} (hM : ∀ p ∈ M, p ∈ covL n A) {a b : Nat} (h : (a, b) ∈ covL n A) (r : Reach (ofL M) b a) : (a, b) ∈ M := by
  obtain ⟨ha, hb, hc⟩ := mem_covL.1 h
  obtain ⟨c1, c2, c3⟩ := cov_iff.1 hc
  have up : ∀ {x y}, Reach (ofL M) x y → Reach A x y := by
    intro x y r
    induction r with
    | refl => exact .refl _
    | step _ hz ih =>
      obtain ⟨_, h5, h6⟩ := mem_covL.1 (hM _ ((tb_ofL _ _ _).1 hz))
      exact ih.trans ((le_true g h5).1 (cov_iff.1 h6).2.1)
  rcases r.first with e | ⟨c, hz, r'⟩
  · exact absurd e.symm c1
  · have hm := (tb_ofL _ _ _).1 hz
    obtain ⟨hcn, _, h6⟩ := mem_covL.1 (hM _ hm)
    obtain ⟨d1, d2, _⟩ := cov_iff.1 h6
    by_cases e : a = c
    · rw [e]; exact hm
    · have := c3 c hcn e ((le_true g hcn).2 (up r')) d1
      rw [this] at d2
      cases d2

/-- How many elements lie between. -/
def btw (n : Nat) (A : Nat → Nat) (a b : Nat) : Nat := ((List.range n).filter fun c => le A a c && le A c b).length
theorem btw_lt {n : Nat} {A : Nat → Nat} {a b a' b' z : Nat} (h : ∀ c, c < n → le A a' c = true → le A c b' = true → le A a c = true ∧ le A c b = true) (hz : z < n) (h1 : le A a z = true) (h2 : le A z b = true) (h3 : ¬ (le A a' z = true ∧ le A z b' = true)) : btw n A a' b' < btw n A a b := by
  unfold btw
  have e : (List.range n).filter (fun c => le A a' c && le A c b') = ((List.range n).filter fun c => le A a c && le A c b).filter fun c => le A a' c && le A c b' := by
    rw [List.filter_filter]
    apply List.filter_congr
    intro c hc
    have hc := h c (List.mem_range.1 hc)
    cases k1 : le A a' c <;> cases k2 : le A c b' <;> simp
    exact hc k1 k2
  rw [e]
  refine List.length_filter_lt_length_iff_exists.2 ⟨z, by simp [hz, h1, h2], ?_⟩
  simpa using h3
theorem cov_all {n : Nat} {A : Nat → Nat} (g : Good n A) (t : Anti A) {M : List (Nat × Nat)} (hM : ∀ p ∈ covL n A, p ∈ M) : ∀ (k a b : Nat), btw n A a b ≤ k → a < n → b < n → le A a b = true → Reach (ofL M) b a := by
  intro k
  induction k with
  | zero =>
    intro a b hk ha hb hl
    exfalso
    have : a ∈ (List.range n).filter fun c => le A a c && le A c b := by simp [ha, hl, le_refl g ha]
    have := List.length_pos_of_mem this
    unfold btw at hk
    omega
  | succ k ih =>
    intro a b hk ha hb hl
    by_cases e : a = b
    · rw [e]; exact .refl _
    by_cases hc : cov n A a b = true
    · exact .one ((tb_ofL _ _ _).2 (hM _ (mem_covL.2 ⟨ha, hb, hc⟩)))
    · have hex : ∃ c, c < n ∧ a ≠ c ∧ le A a c = true ∧ c ≠ b ∧ le A c b = true := by
        apply Classical.byContradiction
        intro hno
        apply hc
        refine cov_iff.2 ⟨e, hl, fun c hc h1 h2 h3 => ?_⟩
        cases h4 : le A c b with
        | false => rfl
        | true => exact absurd ⟨c, hc, h1, h2, h3, h4⟩ hno
      obtain ⟨c, hcn, h1, h2, h3, h4⟩ := hex
      have l1 : btw n A a c < btw n A a b := btw_lt (z := b) (fun d hd k1 k2 => ⟨k1, le_trans g hcn hb k2 h4⟩) hb hl (le_refl g hb) (fun k => h3 (le_anti g t hcn hb h4 k.2))
      have l2 : btw n A c b < btw n A a b := btw_lt (z := a) (fun d hd k1 k2 => ⟨le_trans g hcn hd h2 k1, k2⟩) ha (le_refl g ha) hl (fun k => h1 (le_anti g t ha hcn h2 k.1))
      exact (ih c b (by omega) hcn hb h4).trans (ih a c (by omega) ha hcn h2)
end Go.Proofs.YtaikhdmgcffflaaDoor
