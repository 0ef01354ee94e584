/- Plain facts of layer 4: names, values and headers as lists of bytes, what the chapter says of them; no program. -/
import Derived.Lib.SlTrimSet
import Derived.Lib.IndexMore
namespace Go.Proofs.YthniggdimfldhaaGreatDoor
open Go

abbrev Hd := List UInt8 × List UInt8
def nmB (c : UInt8) : Bool := (decide (97 ≤ c.toNat) && decide (c.toNat ≤ 122)) || (decide (65 ≤ c.toNat) && decide (c.toNat ≤ 90)) || (decide (48 ≤ c.toNat) && decide (c.toNat ≤ 57)) || decide (c.toNat = 45) || decide (c.toNat = 95)
def isNm (s : List UInt8) : Bool := s.all nmB && (decide (1 ≤ s.length) && decide (s.length ≤ 30))
def vlB (c : UInt8) : Bool := decide (32 ≤ c.toNat) && decide (c.toNat ≤ 126)
def endsV (s : List UInt8) : Bool := decide (s.length = 0) || (decide ((s.headD 0).toNat ≠ 32) && decide ((s.getLastD 0).toNat ≠ 32))
def isVl (s : List UInt8) : Bool := s.all vlB && (decide (s.length ≤ 200) && endsV s)
def lowB (c : UInt8) : UInt8 := if 65 ≤ c.toNat ∧ c.toNat ≤ 90 then UInt8.ofNat (c.toNat + 32) else c
def lowS (s : List UInt8) : List UInt8 := s.map lowB
def alikeS (a b : List UInt8) : Bool := isNm a && (isNm b && (lowS a == lowS b))
def begS (s p : List UInt8) : Bool := decide (p.length ≤ s.length) && (lowS (s.take p.length) == lowS p)
def okH (h : Hd) : Bool := isNm h.1 && isVl h.2
def chkE (l : List Hd) : Int := if 16 < l.length then 5 else if l.all okH then 0 else 40
def getL (l : List Hd) (y : List UInt8) : List Hd := l.filter fun h => alikeS h.1 y
def fstV : List Hd → List UInt8
  | [] => []
  | h :: _ => h.2
def dropL (l : List Hd) (y : List UInt8) : List Hd := l.filter fun h => !alikeS h.1 y
def stripL (l : List Hd) (p : List UInt8) : List Hd := l.filter fun h => !begS h.1 p
def setE (l : List Hd) (y z : List UInt8) : Int := if isNm y && isVl z then (if 16 < (dropL l y).length + 1 then 5 else 0) else 40
def setL (l : List Hd) (y z : List UInt8) : List Hd := if setE l y z = 0 then dropL l y ++ [(y, z)] else []
def lineB (h : Hd) : List UInt8 := h.1 ++ [58, 32] ++ h.2 ++ [13, 10]
def bytesL (l : List Hd) : List UInt8 := l.flatMap lineB
def head58 (l : List UInt8) : List UInt8 := l.takeWhile fun c => decide (c ≠ 58)
def tail58 (l : List UInt8) : List UInt8 := (l.dropWhile fun c => decide (c ≠ 58)).drop 1
def bl : List UInt8 := [32, 9]
def lineP (s : List UInt8) : Option Hd :=
  if 300 < s.length then none else if 58 ∈ s then (if okH (head58 s, Lib.trimS (tail58 s) bl) then some (head58 s, Lib.trimS (tail58 s) bl) else none) else none
def lineH (s : List UInt8) : Hd := (lineP s).getD ([], [])
def lineE (s : List UInt8) : Int := if (lineP s).isSome then 0 else 40

theorem lowS_len (s : List UInt8) : (lowS s).length = s.length := List.length_map _
theorem lowS_append (a b : List UInt8) : lowS (a ++ b) = lowS a ++ lowS b := List.map_append
theorem lowS_take (s : List UInt8) (k : Nat) : lowS (s.take k) = (lowS s).take k := by unfold lowS; rw [List.map_take]
theorem all_take {α : Type} {p : α → Bool} : ∀ {l : List α} {k : Nat} (h : k < l.length), (l.take (k + 1)).all p = ((l.take k).all p && p l[k])
  | x :: l, 0, _ => by simp
  | x :: l, k + 1, h => by
    have := all_take (p := p) (l := l) (k := k) (by simpa using h)
    simp only [List.take_succ_cons, List.all_cons, this, List.getElem_cons_succ, Bool.and_assoc]
theorem all_false {α : Type} {p : α → Bool} {l : List α} {k : Nat} (h : k < l.length) (hp : p l[k] = false) : l.all p = false := by
  rw [List.all_eq_false]; exact ⟨_, List.getElem_mem h, by simp [hp]⟩
theorem filter_take {α : Type} {p : α → Bool} {l : List α} {k : Nat} (h : k < l.length) : (l.take (k + 1)).filter p = (l.take k).filter p ++ (if p l[k] then [l[k]] else []) := by
  rw [← List.take_append_getElem h, List.filter_append]
  congr 1
  cases hp : p l[k] <;> simp [hp]
theorem filter_yes {α : Type} {p : α → Bool} {l : List α} {k : Nat} (h : k < l.length) (hp : p l[k] = true) : (l.take (k + 1)).filter p = (l.take k).filter p ++ [l[k]] := by rw [filter_take h, hp]; rfl
theorem filter_no {α : Type} {p : α → Bool} {l : List α} {k : Nat} (h : k < l.length) (hp : p l[k] = false) : (l.take (k + 1)).filter p = (l.take k).filter p := by rw [filter_take h, hp]; simp
theorem fstV_snoc {l : List Hd} (h : Hd) (hl : 0 < l.length) : fstV (l ++ [h]) = fstV l := by
  cases l with
  | nil => simp at hl
  | cons x l => rfl

theorem alike_prog (a b : List UInt8) : alikeS a b = (isNm a && (isNm b && (decide (a.length = b.length) && begS a b))) := by
  unfold alikeS begS
  congr 2
  by_cases h : a.length = b.length
  · rw [decide_eq_true h, decide_eq_true (show b.length ≤ a.length by omega), ← h, List.take_length]
    simp
  · rw [decide_eq_false h]
    simp only [Bool.false_and]
    apply beq_eq_false_iff_ne.2
    intro e
    exact h (by rw [← lowS_len a, e, lowS_len])

theorem isNm_len {s : List UInt8} (h : isNm s = true) : s.length ≤ 30 := by
  unfold isNm at h
  simp at h
  omega
theorem isVl_len {s : List UInt8} (h : isVl s = true) : s.length ≤ 200 := by
  unfold isVl at h
  simp at h
  omega
theorem okH_one {h : Hd} : okH h = true ↔ isNm h.1 = true ∧ isVl h.2 = true := by unfold okH; rw [Bool.and_eq_true]

theorem bytesL_snoc (l : List Hd) (h : Hd) : bytesL (l ++ [h]) = bytesL l ++ lineB h := by simp [bytesL]
theorem bytesL_len {l : List Hd} (h : l.all okH = true) : (bytesL l).length ≤ l.length * 234 := by
  induction l with
  | nil => simp [bytesL]
  | cons x l ih =>
    rw [List.all_cons, Bool.and_eq_true] at h
    have i := ih h.2
    obtain ⟨h1, h2⟩ := okH_one.1 h.1
    have h1 := isNm_len h1
    have h2 := isVl_len h2
    have e : bytesL (x :: l) = lineB x ++ bytesL l := rfl
    rw [e, List.length_append]
    have : (lineB x).length = x.1.length + 2 + x.2.length + 2 := by simp [lineB]; omega
    simp only [List.length_cons]
    omega

theorem index58 (l : List UInt8) : Lib.index l [58] = if 58 ∈ l then ((head58 l).length : Int) else -1 := by
  induction l with
  | nil => simp [Lib.index]
  | cons c r ih =>
    rw [Lib.index]
    by_cases h : c = 58
    · subst h; simp [head58]
    · have hp : ([58] : List UInt8).isPrefixOf (c :: r) = false := by simp [List.isPrefixOf]; exact fun e => h e.symm
      rw [ih]
      by_cases hm : 58 ∈ r
      · have : ((((head58 r).length : Nat) : Int) == -1) = false := by rw [beq_eq_false_iff_ne]; omega
        simp [hm, head58, h, hp]
      · simp [hm, hp]
        intro e; exact absurd e.symm h
theorem head58_none {l : List UInt8} (h : 58 ∉ l) : head58 l = l ∧ tail58 l = [] := by
  induction l with
  | nil => exact ⟨rfl, rfl⟩
  | cons c r ih =>
    simp only [List.mem_cons, not_or] at h
    obtain ⟨a, b⟩ := ih h.2
    have hc : c ≠ 58 := fun e => h.1 e.symm
    constructor
    · unfold head58 at *; rw [List.takeWhile_cons, if_pos (by simpa using hc), a]
    · unfold tail58 at *; rw [List.dropWhile_cons, if_pos (by simpa using hc), b]
theorem take_head58 (l : List UInt8) : l.take (head58 l).length = head58 l := by
  unfold head58
  induction l with
  | nil => rfl
  | cons c r ih =>
    by_cases h : c = 58
    · subst h; simp
    · rw [List.takeWhile_cons, if_pos (by simpa using h), List.length_cons, List.take_succ_cons, ih]
theorem drop_head58 (l : List UInt8) : l.drop ((head58 l).length + 1) = tail58 l := by
  unfold head58 tail58
  induction l with
  | nil => rfl
  | cons c r ih =>
    by_cases h : c = 58
    · subst h; simp
    · rw [List.takeWhile_cons, if_pos (by simpa using h), List.length_cons, List.drop_succ_cons, ih, List.dropWhile_cons, if_pos (by simpa using h)]
theorem head58_lt {l : List UInt8} (h : 58 ∈ l) : (head58 l).length < l.length := by
  induction l with
  | nil => simp at h
  | cons c r ih =>
    by_cases hc : c = 58
    · subst hc; simp [head58]
    · have hr : 58 ∈ r := by simpa [Ne.symm hc] using h
      have := ih hr
      unfold head58 at *
      rw [List.takeWhile_cons, if_pos (by simpa using hc), List.length_cons, List.length_cons]
      omega
/-- What a walk along the bytes finds. -/
theorem head58_at {l : List UInt8} {k : Nat} (hk : k < l.length) (hall : ∀ j (hj : j < k), l[j]'(by omega) ≠ 58) (hc : l[k] = 58) : 58 ∈ l ∧ head58 l = l.take k ∧ tail58 l = l.drop (k + 1) := by
  have hm : 58 ∈ l := hc ▸ List.getElem_mem hk
  have hl : head58 l = l.take k := by
    unfold head58
    induction l generalizing k with
    | nil => simp at hk
    | cons c r ih =>
      cases k with
      | zero => simp at hc; subst hc; simp
      | succ k =>
        have h0 : c ≠ 58 := hall 0 (by omega)
        simp only [List.getElem_cons_succ] at hc
        have := ih (k := k) (by simpa using hk) (fun j hj => hall (j + 1) (by omega)) hc (hc ▸ List.getElem_mem _)
        rw [List.takeWhile_cons, if_pos (by simpa using h0), List.take_succ_cons, this]
  refine ⟨hm, hl, ?_⟩
  rw [← drop_head58, hl, List.length_take, Nat.min_eq_left (by omega)]
theorem no58 {l : List UInt8} (hall : ∀ j (hj : j < l.length), l[j] ≠ 58) : 58 ∉ l := fun h => by
  obtain ⟨j, hj, e⟩ := List.getElem_of_mem h
  exact hall j hj e

def blB (c : UInt8) : Bool := decide (c.toNat = 32) || decide (c.toNat = 9)
theorem bl_has (c : UInt8) : bl.contains c = blB c := by
  by_cases h1 : c = 32
  · subst h1; rfl
  by_cases h2 : c = 9
  · subst h2; rfl
  unfold blB
  rw [decide_eq_false (p := c.toNat = 32) (fun e => h1 (UInt8.toNat_inj.1 e)), decide_eq_false (p := c.toNat = 9) (fun e => h2 (UInt8.toNat_inj.1 e))]
  simp [bl, h1, h2]
/-- Blanks cut off from the left, then from the right: as strings.Trim does. -/
theorem trim_at {s : List UInt8} {m f t : Nat} (h1 : m ≤ f) (h2 : f ≤ t) (h3 : t ≤ s.length) (hl : ∀ j (_ : j < s.length), m ≤ j → j < f → blB s[j] = true) (hl' : ∀ _ : f < s.length, blB (s[f]'‹_›) = false)
    (hr : ∀ j (_ : j < s.length), t ≤ j → blB s[j] = true) (hr' : ∀ (_ : f < t), blB (s[t - 1]'(by omega)) = false) : Lib.trimS (s.drop m) bl = (s.take t).drop f := by
  unfold Lib.trimS
  by_cases he : f = t
  · subst he
    have hf : f = s.length := by
      rcases Nat.lt_or_ge f s.length with h | h
      · have := hl' h
        rw [hr f h (Nat.le_refl _)] at this
        cases this
      · omega
    rw [Lib.trimRightS_take (s.drop m) bl 0 (Nat.zero_le _) (fun j b _ hb => ?_) (fun b h0 => absurd h0 (Nat.lt_irrefl _))]
    · rw [List.take_zero, Lib.trimLeftS_nil, List.drop_eq_nil_of_le (by rw [List.length_take]; omega)]
    · rw [List.getElem?_drop] at hb
      obtain ⟨hlt, e⟩ := List.getElem?_eq_some_iff.1 hb
      rw [bl_has, ← e]
      exact hl _ hlt (by omega) (by omega)
  · have hlt : f < t := by omega
    rw [Lib.trimRightS_take (s.drop m) bl (t - m) (by rw [List.length_drop]; omega) (fun j b hj hb => ?_) (fun b h0 hb => ?_)]
    · rw [Lib.trimLeftS_drop _ bl (f - m) (by rw [List.length_take, List.length_drop]; omega) (fun j b hj hb => ?_) (fun b hb => ?_)]
      · rw [← List.drop_take, List.drop_drop]
        congr 1
        omega
      · rw [List.getElem?_take_of_lt (by omega), List.getElem?_drop] at hb
        obtain ⟨hlt', e⟩ := List.getElem?_eq_some_iff.1 hb
        rw [bl_has, ← e]
        exact hl _ hlt' (by omega) (by omega)
      · rw [List.getElem?_take_of_lt (by omega), List.getElem?_drop, show m + (f - m) = f by omega] at hb
        obtain ⟨hlt', e⟩ := List.getElem?_eq_some_iff.1 hb
        rw [bl_has, ← e]
        exact hl' hlt'
    · rw [List.getElem?_drop] at hb
      obtain ⟨hlt', e⟩ := List.getElem?_eq_some_iff.1 hb
      rw [bl_has, ← e]
      exact hr _ hlt' (by omega)
    · rw [List.getElem?_drop, show m + (t - m - 1) = t - 1 by omega] at hb
      obtain ⟨hlt', e⟩ := List.getElem?_eq_some_iff.1 hb
      rw [bl_has, ← e]
      exact hr' hlt

/-! What was written is read. -/
theorem nm_no58 {s : List UInt8} (h : isNm s = true) : 58 ∉ s := fun hm => by
  unfold isNm at h
  rw [Bool.and_eq_true, List.all_eq_true] at h
  have := h.1 58 hm
  revert this
  decide
theorem vl_at {s : List UInt8} (h : isVl s = true) : ∀ c ∈ s, vlB c = true := by
  unfold isVl at h
  rw [Bool.and_eq_true, List.all_eq_true] at h
  exact h.1
theorem nm_at {s : List UInt8} (h : isNm s = true) : ∀ c ∈ s, nmB c = true := by
  unfold isNm at h
  rw [Bool.and_eq_true, List.all_eq_true] at h
  exact h.1
theorem vl_trim {v : List UInt8} (h : isVl v = true) : Lib.trimS (32 :: v) bl = v := by
  have hv := vl_at h
  have hne : ∀ c ∈ v, c.toNat ≠ 9 := fun c hc => by have := hv c hc; unfold vlB at this; simp at this; omega
  by_cases h0 : v.length = 0
  · have : v = [] := List.eq_nil_of_length_eq_zero h0
    subst this
    decide
  · have he : endsV v = true := by unfold isVl at h; simp only [Bool.and_eq_true] at h; exact h.2.2
    unfold endsV at he
    rw [decide_eq_false h0, Bool.false_or, Bool.and_eq_true] at he
    obtain ⟨e1, e2⟩ := he
    have e1 := of_decide_eq_true e1
    have e2 := of_decide_eq_true e2
    have g1 : v.headD 0 = v[0] := by cases v with | nil => simp at h0 | cons a r => rfl
    have g2 : v.getLastD 0 = v[v.length - 1] := by rw [List.getLastD_eq_getLast?, List.getLast?_eq_getElem?, List.getElem?_eq_getElem (by omega)]; rfl
    rw [g1] at e1
    rw [g2] at e2
    have := trim_at (s := 32 :: v) (m := 0) (f := 1) (t := v.length + 1) (by omega) (by omega) (by simp) (fun j hj _ hj1 => by
        obtain rfl : j = 0 := by omega
        rfl) (fun hf => by
        simp only [List.getElem_cons_succ]
        unfold blB
        rw [decide_eq_false e1, decide_eq_false (hne _ (List.getElem_mem _))]; rfl) (fun j hj ht => by simp at hj; omega) (fun hf => by
        have : (32 :: v)[v.length + 1 - 1]'(by simp) = v[v.length - 1] := by
          rw [List.getElem_cons]
          rw [dif_neg (by omega)]
          rfl
        rw [this]
        unfold blB
        rw [decide_eq_false e2, decide_eq_false (hne _ (List.getElem_mem _))]; rfl)
    rw [List.drop_zero] at this
    rw [this]
    simp
theorem lineP_back {h : Hd} (ho : okH h = true) : lineP (h.1 ++ [58, 32] ++ h.2) = some h := by
  obtain ⟨h1, h2⟩ := okH_one.1 ho
  have l1 := isNm_len h1
  have l2 := isVl_len h2
  have hn := nm_no58 h1
  rw [List.append_assoc]
  obtain ⟨m1, m2, m3⟩ := head58_at (l := h.1 ++ ([58, 32] ++ h.2)) (k := h.1.length) (by simp) (fun j hj e => by
    rw [List.getElem_append_left hj] at e
    exact hn (e ▸ List.getElem_mem hj)) (by rw [List.getElem_append_right (Nat.le_refl _)]; simp)
  have e1 : head58 (h.1 ++ ([58, 32] ++ h.2)) = h.1 := by rw [m2, List.take_left']; rfl
  have e2 : tail58 (h.1 ++ ([58, 32] ++ h.2)) = 32 :: h.2 := by
    rw [m3, ← List.drop_drop, List.drop_left']
    · rfl
    · rfl
  unfold lineP
  rw [if_neg (by simp; omega), if_pos m1, e1, e2, vl_trim h2]
  rw [if_pos ho]
end Go.Proofs.YthniggdimfldhaaGreatDoor
