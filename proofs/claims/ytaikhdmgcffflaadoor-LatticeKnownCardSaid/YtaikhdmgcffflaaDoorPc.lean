/- Plain facts on what an order answers: rows of elements as sets, and sets as rows. -/
import Derived.Test.YtaikhdmgcffflaaDoorPb
namespace Go.Proofs.YtaikhdmgcffflaaDoor

/-- All that a is at most, among the first k. -/
def upS (A : Nat → Nat) (a k : Nat) : Nat := (List.range k).foldl (fun s b => if le A a b then s ||| 2 ^ b else s) 0
/-- The first k elements. -/
def allS (k : Nat) : Nat := (List.range k).foldl (fun s b => s ||| 2 ^ b) 0
theorem upS_zero (A : Nat → Nat) (a : Nat) : upS A a 0 = 0 := rfl
theorem upS_succ (A : Nat → Nat) (a k : Nat) : upS A a (k + 1) = if le A a k then upS A a k ||| 2 ^ k else upS A a k := by
  simp [upS, List.range_succ]
theorem allS_succ (k : Nat) : allS (k + 1) = allS k ||| 2 ^ k := by simp [allS, List.range_succ]
theorem tb_upS (A : Nat → Nat) (a : Nat) : ∀ (k i : Nat), (upS A a k).testBit i = (decide (i < k) && le A a i)
  | 0, i => by simp [upS]
  | k + 1, i => by
    rw [upS_succ]
    by_cases h : le A a k = true
    · rw [if_pos h, tb_or_pow, tb_upS A a k i]
      by_cases e : k = i
      · subst e; simp [h]
      · have : (i < k + 1) ↔ i < k := by omega
        simp [e, this]
    · rw [if_neg h, tb_upS A a k i]
      by_cases e : i = k
      · subst e; simp [h]
      · have : (i < k + 1) ↔ i < k := by omega
        simp [this]
theorem tb_allS : ∀ (k i : Nat), (allS k).testBit i = decide (i < k)
  | 0, i => by simp [allS]
  | k + 1, i => by
    rw [allS_succ, tb_or_pow, tb_allS k i]
    by_cases e : k = i
    · subst e; simp
    · have : (i < k + 1) ↔ i < k := by omega
      simp [e, this]
theorem pow_lt16 {k : Nat} (h : k < 16) : 2 ^ k < 65536 := by
  have := Nat.pow_lt_pow_right (a := 2) (by omega) h
  simpa using this
theorem upS_lt (A : Nat → Nat) (a : Nat) : ∀ k, k ≤ 16 → upS A a k < 65536
  | 0, _ => by simp [upS]
  | k + 1, h => by
    rw [upS_succ]
    split
    · exact Nat.or_lt_two_pow (n := 16) (upS_lt A a k (by omega)) (pow_lt16 (by omega))
    · exact upS_lt A a k (by omega)
theorem allS_lt : ∀ k, k ≤ 16 → allS k < 65536
  | 0, _ => by simp [allS]
  | k + 1, h => by
    rw [allS_succ]
    exact Nat.or_lt_two_pow (n := 16) (allS_lt k (by omega)) (pow_lt16 (by omega))

/-- What is told of an order: n elements, and nothing that is none. -/
structure Good (n : Nat) (A : Nat → Nat) : Prop where
  pos : 1 ≤ n
  le16 : n ≤ 16
  bits : ∀ i j, (A i).testBit j = true → j < n
theorem Good.small {n : Nat} {A : Nat → Nat} (h : Good n A) : Small A := fun i => by
  apply Nat.lt_pow_two_of_testBit (n := 16)
  intro j hj
  cases hb : (A i).testBit j with
  | false => rfl
  | true => have := h.bits i j hb; have := h.le16; omega
theorem Good.zero {n : Nat} (h1 : 1 ≤ n) (h2 : n ≤ 16) : Good n fun _ => 0 := ⟨h1, h2, fun i j h => by simp at h⟩
theorem Reach.lt {n : Nat} {A : Nat → Nat} (h : Good n A) {x y : Nat} (hr : Reach A x y) (hx : x < n) : y < n := by
  cases hr with
  | refl => exact hx
  | step _ hz => exact h.bits _ _ hz
theorem Good.le_lt {n : Nat} {A : Nat → Nat} (h : Good n A) {a b : Nat} (hb : b < n) (hl : le A a b = true) : a < n :=
  ((le_iff h.small (by have := h.le16; omega)).1 hl).lt h hb

def upL (n : Nat) (A : Nat → Nat) (a : Nat) : List Nat := (List.range n).filter fun b => le A a b
def dnL (n : Nat) (A : Nat → Nat) (a : Nat) : List Nat := (List.range n).filter fun b => le A b a
theorem filter_range16 {n : Nat} (hn : n ≤ 16) (p : Nat → Bool) (h : ∀ i, p i = true → i < n) : (List.range 16).filter p = (List.range n).filter p := by
  have e : List.range 16 = List.range n ++ (List.range (16 - n)).map (n + ·) := by
    rw [← List.range_add]; congr 1; omega
  rw [e, List.filter_append]
  have : ((List.range (16 - n)).map (n + ·)).filter p = [] := by
    rw [List.filter_eq_nil_iff]
    intro x hx hp
    have := h x hp
    simp only [List.mem_map, List.mem_range] at hx
    omega
  rw [this, List.append_nil]
theorem els_up {n : Nat} (hn : n ≤ 16) (A : Nat → Nat) (a : Nat) : els (upS A a n) = upL n A a := by
  unfold els upL
  rw [filter_range16 hn _ (fun i h => by rw [tb_upS] at h; simp at h; exact h.1)]
  apply List.filter_congr
  intro i hi
  rw [tb_upS]
  simp [List.mem_range.1 hi]
theorem els_down {n : Nat} {A : Nat → Nat} (h : Good n A) {a : Nat} (ha : a < n) : els (clo A a) = dnL n A a := by
  unfold els dnL
  exact filter_range16 h.le16 _ (fun i hi => h.le_lt ha hi)

/-- What was added, with one thing more. -/
def upd (A : Nat → Nat) (h l : Nat) : Nat → Nat := fun i => if i = h then A i ||| 2 ^ l else A i
theorem Good.upd {n : Nat} {A : Nat → Nat} (g : Good n A) {l : Nat} (hl : l < n) (h : Nat) : Good n (upd A h l) := by
  refine ⟨g.pos, g.le16, fun i j hb => ?_⟩
  unfold YtaikhdmgcffflaaDoor.upd at hb
  split at hb
  · rw [tb_or_pow, Bool.or_eq_true, decide_eq_true_eq] at hb
    rcases hb with hb | rfl
    · exact g.bits _ _ hb
    · exact hl
  · exact g.bits _ _ hb
end Go.Proofs.YtaikhdmgcffflaaDoor
