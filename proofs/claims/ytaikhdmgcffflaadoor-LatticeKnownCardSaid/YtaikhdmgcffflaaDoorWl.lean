/- Walks of the chapter's own order: Covers, next, Line. -/
import Derived.Test.YtaikhdmgcffflaaDoorWk
import Derived.Laws.Rows
namespace Go.Proofs.YtaikhdmgcffflaaDoor
open Go Go.RowKit Go.Shelf

/-- The covering pairs of a with the first k. -/
def covF (n : Nat) (A : Nat → Nat) (a k : Nat) : List (Nat × Nat) := ((List.range k).filter fun b => cov n A a b).map fun b => (a, b)
theorem covF_succ (n : Nat) (A : Nat → Nat) (a k : Nat) : covF n A a (k + 1) = covF n A a k ++ if cov n A a k then [(a, k)] else [] := by
  unfold covF
  rw [List.range_succ, List.filter_append, List.map_append]
  cases h : cov n A a k <;> simp [h]
theorem covF_len (n : Nat) (A : Nat → Nat) (a k : Nat) : (covF n A a k).length ≤ k := by
  unfold covF
  rw [List.length_map]
  exact filter_len_le k
theorem covTo_succF (n : Nat) (A : Nat → Nat) (k : Nat) : covTo n A (k + 1) = covTo n A k ++ covF n A k n := covTo_succ n A k

/-- What Covers leaves. -/
def PsPost (L : List (Nat × Nat)) (w : World) (e : Ending) (w' : World) : Prop := ∃ v, e = .returned v ∧ Ps w' v (L.map up2) ∧ Below w.heap.size w w'
/-- Sixteen marks as a value. -/
def hadV (F : Nat) : Array Value := ((List.range 16).map fun i => Value.bool (F.testBit i)).toArray
/-- Is a free: not had, and nothing below it left? -/
def nfree (_n : Nat) (A : Nat → Nat) (F a k : Nat) : Bool := !F.testBit a && (List.range k).all fun c => F.testBit c || !lt_ A c a
theorem nfree_succ (n : Nat) (A : Nat → Nat) (F a k : Nat) : nfree n A F a (k + 1) = (nfree n A F a k && (F.testBit k || !lt_ A k a)) := by
  simp [nfree, List.range_succ, Bool.and_assoc]
theorem nfree_false (n : Nat) (A : Nat → Nat) (F a : Nat) : ∀ (k j : Nat), k ≤ j → nfree n A F a k = false → nfree n A F a j = false := by
  intro k j hkj h
  obtain ⟨d, rfl⟩ : ∃ d, j = k + d := ⟨j - k, by omega⟩
  clear hkj
  induction d with
  | zero => exact h
  | succ d ih => rw [show k + (d + 1) = (k + d) + 1 by omega, nfree_succ, ih]; rfl
theorem find_first {n k : Nat} {p : Nat → Bool} (hk : k < n) (h : ∀ c, c < k → p c = false) (hp : p k = true) : (List.range n).find? p = some k := by
  have e : List.range n = List.range k ++ (k :: (List.range (n - k - 1)).map (k + 1 + ·)) := by
    have : n = k + (1 + (n - k - 1)) := by omega
    conv => lhs; rw [this, List.range_add, Nat.add_comm 1, List.range_succ_eq_map]
    simp only [List.map_cons, Nat.add_zero, List.map_map]
    congr 2
    apply List.map_congr_left
    intro a _
    simp only [Function.comp]
    omega
  rw [e, List.find?_append, List.find?_eq_none.2 (fun x hx => by rw [h x (List.mem_range.1 hx)]; simp), Option.none_or, List.find?_cons_of_pos hp]
theorem find_none {n : Nat} {p : Nat → Bool} (h : ∀ c, c < n → p c = false) : (List.range n).find? p = none :=
  List.find?_eq_none.2 (fun x hx => by rw [h x (List.mem_range.1 hx)]; simp)
theorem nfree_nxt {n : Nat} {A : Nat → Nat} (g : Good n A) {rest F : Nat} (hr : ∀ c, rest.testBit c = true → c < n) (hh : ∀ i, i < n → F.testBit i = !rest.testBit i) : ((List.range n).find? fun a => nfree n A F a n) = nxt A rest :=
  nxtD_eq g (had := fun i => F.testBit i) hr hh

/-- How the row stands: what is in it, what is left, what is marked. -/
structure LSt (n : Nat) (A : Nat → Nat) (k rest F : Nat) (out : List Nat) : Prop where
  len : out.length = k
  kn : k ≤ n
  lt : rest < 65536
  bits : ∀ c, rest.testBit c = true → c < n
  marks : ∀ i, i < n → F.testBit i = !rest.testBit i
  card : card rest = n - k
  line : lineL n A = out ++ lineF A (n - k) rest
theorem LSt.start {n : Nat} (hn : n ≤ 16) (A : Nat → Nat) : LSt n A 0 (allS n) 0 [] :=
  ⟨rfl, Nat.zero_le _, allS_lt n hn, fun c h => by rw [tb_allS] at h; simpa using h, fun i hi => by rw [tb_allS]; simp [hi], card_all hn, rfl⟩
theorem LSt.next {n : Nat} {A : Nat → Nat} (g : Good n A) (t : Anti A) {k rest F : Nat} {out : List Nat} (h : LSt n A k rest F out) (hk : k < n) : ∃ a, nxt A rest = some a ∧ a < n ∧ rest.testBit a = true ∧ freeIn A rest a = true ∧ LSt n A (k + 1) (rm rest a) (F ||| 2 ^ a) (out ++ [a]) := by
  have h0 : rest ≠ 0 := by
    rintro rfl
    have := h.card
    simp [YtaikhdmgcffflaaDoor.card, els_zero] at this
    omega
  obtain ⟨a, h1, h2, h3, h4⟩ := nxt_some g t h.bits h0 h.lt
  have h16 := g.le16
  have hc := card_rm (by omega) h3
  refine ⟨a, h1, h2, h3, h4, by simp [h.len], by omega, rm_lt h.lt, fun c hc => h.bits c (rm_sub hc).1, fun i hi => ?_, by have := h.card; omega, ?_⟩
  · rw [tb_or_pow, tb_rm, h.marks i hi]
    by_cases e : a = i <;> simp [e]
  · rw [h.line, show n - k = (n - (k + 1)) + 1 by omega, lineF_step h1, List.append_assoc]
    rfl
theorem LSt.done {n : Nat} {A : Nat → Nat} {rest F : Nat} {out : List Nat} (h : LSt n A n rest F out) : out = lineL n A := by
  rw [h.line, Nat.sub_self]; simp [lineF]

end Go.Proofs.YtaikhdmgcffflaaDoor
