/- Plain facts on the chapter's own way: what was said, gone over again and again. -/
import Derived.Test.YtaikhdmgcffflaaDoorPe
namespace Go.Proofs.YtaikhdmgcffflaaDoor

/-- One thing that was said: what is above one that is there is there, too. -/
def sw (F : Nat) (p : Nat × Nat) : Nat := if F.testBit p.1 then F ||| 2 ^ p.2 else F
def swL (L : List (Nat × Nat)) (F : Nat) : Nat := L.foldl sw F
def swN (L : List (Nat × Nat)) : Nat → Nat → Nat
  | 0, F => F
  | k + 1, F => swL L (swN L k F)
theorem swL_take_succ (L : List (Nat × Nat)) (F k : Nat) (hk : k < L.length) : swL (L.take (k + 1)) F = sw (swL (L.take k) F) L[k] := by
  unfold swL
  rw [List.take_succ_eq_append_getElem hk, List.foldl_append]
  rfl
theorem sw_sub {F : Nat} {p : Nat × Nat} {x : Nat} (h : F.testBit x = true) : (sw F p).testBit x = true := by
  unfold sw
  split
  · rw [tb_or_pow, h]; rfl
  · exact h
theorem swL_sub : ∀ (L : List (Nat × Nat)) {F x : Nat}, F.testBit x = true → (swL L F).testBit x = true
  | [], _, _, h => h
  | p :: L, F, x, h => by
    show (swL L (sw F p)).testBit x = true
    exact swL_sub L (sw_sub h)
theorem swL_step : ∀ (L : List (Nat × Nat)) {F : Nat} {p : Nat × Nat}, p ∈ L → F.testBit p.1 = true → (swL L F).testBit p.2 = true
  | q :: L, F, p, hp, h => by
    show (swL L (sw F q)).testBit p.2 = true
    rcases List.mem_cons.1 hp with rfl | hp
    · apply swL_sub
      unfold sw
      rw [if_pos h, tb_or_pow]
      simp
    · exact swL_step L hp (sw_sub h)
theorem sw_reach {L : List (Nat × Nat)} {F a : Nat} {p : Nat × Nat} (hp : p ∈ L) (h : ∀ x, F.testBit x = true → Reach (ofL L) x a) : ∀ x, (sw F p).testBit x = true → Reach (ofL L) x a := by
  intro x hx
  unfold sw at hx
  split at hx
  · rename_i hl
    rw [tb_or_pow, Bool.or_eq_true, decide_eq_true_eq] at hx
    rcases hx with hx | rfl
    · exact h x hx
    · exact (Reach.one ((tb_ofL L p.2 p.1).2 hp)).trans (h _ hl)
  · exact h x hx
theorem swL_reach {L : List (Nat × Nat)} {a : Nat} : ∀ (M : List (Nat × Nat)) {F : Nat}, (∀ p ∈ M, p ∈ L) → (∀ x, F.testBit x = true → Reach (ofL L) x a) → ∀ x, (swL M F).testBit x = true → Reach (ofL L) x a
  | [], _, _, h => h
  | p :: M, F, hM, h => by
    show ∀ x, (swL M (sw F p)).testBit x = true → _
    exact swL_reach M (fun q hq => hM q (List.mem_cons_of_mem _ hq)) (sw_reach (hM p (by simp)) h)
theorem swN_reach {L : List (Nat × Nat)} {a : Nat} : ∀ (k : Nat) (x : Nat), (swN L k (2 ^ a)).testBit x = true → Reach (ofL L) x a
  | 0, x, h => by
    simp only [swN, Nat.testBit_two_pow, decide_eq_true_eq] at h
    subst h; exact .refl _
  | k + 1, x, h => swL_reach L (fun _ h => h) (swN_reach k) x h
theorem swN_sub {L : List (Nat × Nat)} {F : Nat} : ∀ (k : Nat) {x : Nat}, F.testBit x = true → (swN L k F).testBit x = true
  | 0, _, h => h
  | k + 1, _, h => swL_sub L (swN_sub k h)
theorem swN_lt {n : Nat} {L : List (Nat × Nat)} (hL : ∀ p ∈ L, p.1 < n ∧ p.2 < n) {a : Nat} (ha : a < n) (k x : Nat) (h : (swN L k (2 ^ a)).testBit x = true) : x < n := by
  rcases (swN_reach k x h).first with e | ⟨y, hy, _⟩
  · omega
  · exact (hL _ ((tb_ofL _ _ _).1 hy)).2
theorem free_all {n : Nat} (hn : n ≤ 16) : free (allS n) = 16 - n := by
  unfold free
  have e : List.range 16 = List.range n ++ (List.range (16 - n)).map (n + ·) := by
    rw [← List.range_add]; congr 1; omega
  rw [e, List.filter_append, List.filter_eq_nil_iff.2, List.nil_append, List.filter_eq_self.2]
  · simp
  · intro x hx
    simp only [List.mem_map, List.mem_range] at hx
    rw [tb_allS]
    simp
    omega
  · intro x hx
    rw [tb_allS]
    simpa using List.mem_range.1 hx
/-- Gone over as often as there are elements, nothing more is to come. -/
theorem swN_closed {n : Nat} (hn : n ≤ 16) {L : List (Nat × Nat)} (hL : ∀ p ∈ L, p.1 < n ∧ p.2 < n) {a : Nat} (ha : a < n) : ∀ k, (∀ p ∈ L, (swN L k (2 ^ a)).testBit p.1 = true → (swN L k (2 ^ a)).testBit p.2 = true) ∨ free (swN L k (2 ^ a)) + k ≤ 15
  | 0 => .inr (by
    have h1 := free_lt (F := 0) (x := a) (by omega) (by simp)
    have h2 := free_le 0
    rw [Nat.zero_or] at h1
    simp only [swN]
    omega)
  | k + 1 => by
    by_cases h : ∀ p ∈ L, (swN L k (2 ^ a)).testBit p.1 = true → (swN L k (2 ^ a)).testBit p.2 = true
    · refine .inl ?_
      have fix : ∀ x, (swN L (k + 1) (2 ^ a)).testBit x = true → (swN L k (2 ^ a)).testBit x = true := by
        show ∀ x, (swL L (swN L k (2 ^ a))).testBit x = true → _
        generalize swN L k (2 ^ a) = F at *
        have : ∀ M : List (Nat × Nat), (∀ p ∈ M, p ∈ L) → swL M F = F := by
          intro M
          induction M with
          | nil => exact fun _ => rfl
          | cons p M ih =>
            intro hM
            have e : sw F p = F := by
              unfold sw
              split
              · rename_i hp
                apply Nat.eq_of_testBit_eq
                intro i
                rw [tb_or_pow]
                by_cases e : p.2 = i
                · subst e; rw [h p (hM p (by simp)) hp]; rfl
                · simp [e]
              · rfl
            show swL M (sw F p) = F
            rw [e]
            exact ih (fun q hq => hM q (List.mem_cons_of_mem _ hq))
        rw [this L (fun _ h => h)]
        exact fun _ h => h
      intro p hp h1
      exact swL_sub L (h p hp (fix _ h1))
    · rcases swN_closed hn hL ha k with h1 | h1
      · exact absurd h1 h
      · refine .inr ?_
        obtain ⟨p, hp⟩ := Classical.not_forall.1 h
        obtain ⟨hp, h2⟩ := Classical.not_imp.1 hp
        obtain ⟨h2, h3⟩ := Classical.not_imp.1 h2
        have h3' : (swN L k (2 ^ a)).testBit p.2 = false := by simpa using h3
        have h4 : free (swN L (k + 1) (2 ^ a)) < free (swN L k (2 ^ a)) := by
          refine Nat.lt_of_le_of_lt (free_mono fun x hx => ?_) (free_lt (x := p.2) (by have := (hL p hp).2; omega) h3')
          rw [tb_or_pow, Bool.or_eq_true, decide_eq_true_eq] at hx
          rcases hx with hx | rfl
          · exact swL_sub L hx
          · exact swL_step L hp h2
        omega
theorem swN_le {n : Nat} (h1 : 1 ≤ n) (hn : n ≤ 16) {L : List (Nat × Nat)} (hL : ∀ p ∈ L, p.1 < n ∧ p.2 < n) {a b : Nat} (ha : a < n) (hb : b < n) : (swN L n (2 ^ a)).testBit b = le (ofL L) a b := by
  have g : Good n (ofL L) := ⟨h1, hn, fun i j h => (hL _ ((tb_ofL _ _ _).1 h)).1⟩
  rw [Bool.eq_iff_iff, le_true g hb]
  constructor
  · exact swN_reach n b
  · intro r
    have hc : ∀ p ∈ L, (swN L n (2 ^ a)).testBit p.1 = true → (swN L n (2 ^ a)).testBit p.2 = true := by
      rcases swN_closed hn hL ha n with h | h
      · exact h
      · exfalso
        have h2 : free (allS n) ≤ free (swN L n (2 ^ a)) := free_mono fun x hx => by rw [tb_allS]; simpa using swN_lt hL ha n x hx
        rw [free_all hn] at h2
        omega
    have key : ∀ {x y}, Reach (ofL L) x y → (swN L n (2 ^ a)).testBit y = true → (swN L n (2 ^ a)).testBit x = true := by
      intro x y r
      induction r with
      | refl => exact fun h => h
      | step _ hz ih => exact fun h => ih (hc _ ((tb_ofL _ _ _).1 hz) h)
    exact key r (swN_sub n (by simp))
end Go.Proofs.YtaikhdmgcffflaaDoor
