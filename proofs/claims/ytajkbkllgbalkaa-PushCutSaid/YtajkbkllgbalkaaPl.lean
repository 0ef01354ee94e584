/- Plain facts on lists of bytes for layer 1: lines, words, joined words, names, numbers. No program stands here; no conditions. -/
import Derived.Lib.CutLaws
import Derived.Lib.ItoaNum
namespace Go.Proofs.Ytajkbkllgbalkaa.Pl
open Go

/-! ### bytes -/
def wb (c : UInt8) : Bool := decide (33 ≤ c.toNat) && decide (c.toNat ≤ 126)
def isWd (l : List UInt8) : Bool := !l.isEmpty && l.all wb
def okb (c : UInt8) : Bool := decide (c = 32) || wb c
def allOk (l : List UInt8) : Bool := l.all okb

theorem wb_ok {c : UInt8} (h : wb c = true) : okb c = true := by unfold okb; rw [h]; simp
theorem wb_ne {c : UInt8} (h : wb c = true) : c ≠ 32 := by rintro rfl; revert h; decide
theorem ok_cases {c : UInt8} (h : okb c = true) : c = 32 ∨ wb c = true := by unfold okb at h; simpa using h
theorem wb_true {c : UInt8} (h : 33 ≤ c.toNat) (h' : c.toNat ≤ 126) : wb c = true := by simp [wb, h, h']
theorem wb_low {c : UInt8} (h : c.toNat < 33) : wb c = false := by
  unfold wb; rw [decide_eq_false (by omega)]; rfl
theorem wb_high {c : UInt8} (h : 126 < c.toNat) : wb c = false := by
  unfold wb; rw [decide_eq_false (p := c.toNat ≤ 126) (by omega)]; simp
theorem wb_iff {c : UInt8} : wb c = true ↔ 33 ≤ c.toNat ∧ c.toNat ≤ 126 := by simp [wb]
theorem eq32 {c : UInt8} : c = 32 ↔ c.toNat = 32 := by
  constructor
  · rintro rfl; rfl
  · intro h; exact UInt8.toNat_inj.1 h
theorem eq10 {c : UInt8} : c = 10 ↔ c.toNat = 10 := by
  constructor
  · rintro rfl; rfl
  · intro h; exact UInt8.toNat_inj.1 h

theorem all_take {p : UInt8 → Bool} {l : List UInt8} {k : Nat} (h : k < l.length) : (l.take (k + 1)).all p = ((l.take k).all p && p l[k]) := by
  rw [List.take_succ_eq_append_getElem h, List.all_append]; simp only [List.all_cons, List.all_nil, Bool.and_true]
theorem all_false {p : UInt8 → Bool} {l : List UInt8} {k : Nat} (h : k < l.length) (hp : p l[k] = false) : l.all p = false := by
  rw [List.all_eq_false]; exact ⟨l[k], List.getElem_mem h, by simp [hp]⟩

/-! ### lines -/
def linesGo (cur : List UInt8) : List UInt8 → List (List UInt8)
  | [] => if cur.isEmpty then [] else [cur]
  | c :: r => if c = 10 then cur :: linesGo [] r else linesGo (cur ++ [c]) r
def lines (l : List UInt8) : List (List UInt8) := linesGo [] l
def head10 (l : List UInt8) : List UInt8 := l.takeWhile fun c => decide (c ≠ 10)
def tail10 (l : List UInt8) : List UInt8 := (l.dropWhile fun c => decide (c ≠ 10)).drop 1

theorem linesGo_span (l : List UInt8) : ∀ cur : List UInt8, linesGo cur l = if (cur ++ l).isEmpty then [] else (cur ++ head10 l) :: linesGo [] (tail10 l) := by
  induction l with
  | nil => intro cur; simp [linesGo, head10, tail10]
  | cons c r ih =>
    intro cur
    by_cases h : c = 10
    · subst h; simp [linesGo, head10, tail10]
    · rw [linesGo, if_neg h, ih]
      simp [head10, tail10, h]

theorem lines_nil : lines [] = [] := rfl
theorem lines_cons {l : List UInt8} (h : l ≠ []) : lines l = head10 l :: lines (tail10 l) := by
  unfold lines; rw [linesGo_span, if_neg (by simpa using h)]; rfl

theorem tail10_len {l : List UInt8} (h : l ≠ []) : (tail10 l).length < l.length := by
  cases l with
  | nil => exact absurd rfl h
  | cons c r =>
    have h1 : ((c :: r).dropWhile fun c => decide (c ≠ 10)).length ≤ (c :: r).length := (List.dropWhile_sublist _).length_le
    unfold tail10; rw [List.length_drop]
    simp only [List.length_cons] at *; omega
theorem head10_len (l : List UInt8) : (head10 l).length ≤ l.length := (List.takeWhile_sublist _).length_le

theorem index10 (l : List UInt8) : Lib.index l [10] = if 10 ∈ l then ((head10 l).length : Int) else -1 := by
  induction l with
  | nil => rfl
  | cons c r ih =>
    unfold Lib.index
    by_cases h : c = 10
    · subst h; simp [head10]
    · have h2 : ([10] : List UInt8).isPrefixOf (c :: r) = false := by
        simp [List.isPrefixOf, Ne.symm h]
      rw [h2, ih]
      by_cases hm : 10 ∈ r
      · have : ((((head10 r).length : Nat) : Int) == -1) = false := by rw [beq_eq_false_iff_ne]; omega
        simp [hm, head10, h]
      · simp [hm, Ne.symm h]

theorem head10_none {l : List UInt8} (h : 10 ∉ l) : head10 l = l ∧ tail10 l = [] := by
  induction l with
  | nil => exact ⟨rfl, rfl⟩
  | cons c r ih =>
    have hc : c ≠ 10 := fun e => h (by simp [e])
    have hr : 10 ∉ r := fun e => h (by simp [e])
    obtain ⟨a, b⟩ := ih hr
    constructor
    · unfold head10 at *; rw [List.takeWhile_cons, if_pos (by simpa using hc), a]
    · unfold tail10 at *; rw [List.dropWhile_cons, if_pos (by simpa using hc), b]

theorem take_head10 (l : List UInt8) : l.take (head10 l).length = head10 l := by
  unfold head10
  induction l with
  | nil => rfl
  | cons c r ih =>
    rw [List.takeWhile_cons]; split
    · rw [List.length_cons, List.take_succ_cons, ih]
    · simp
theorem drop_head10 (l : List UInt8) : l.drop ((head10 l).length + 1) = tail10 l := by
  unfold head10 tail10
  induction l with
  | nil => rfl
  | cons c r ih =>
    rw [List.takeWhile_cons, List.dropWhile_cons]; split
    · simpa using ih
    · simp

theorem cut10 (l : List UInt8) : (Lib.cut l [10]).1 = head10 l ∧ (Lib.cut l [10]).2.1 = tail10 l := by
  unfold Lib.cut
  rw [index10]
  by_cases h : 10 ∈ l
  · rw [if_pos h, if_pos (by omega)]
    exact ⟨by simpa using take_head10 l, by simpa using drop_head10 l⟩
  · rw [if_neg h, if_neg (by omega)]
    exact ⟨(head10_none h).1.symm, (head10_none h).2.symm⟩

theorem indexByte10 (l : List UInt8) : Lib.indexByte l 10 = if 10 ∈ l then ((head10 l).length : Int) else -1 := by
  induction l with
  | nil => rfl
  | cons c r ih =>
    unfold Lib.indexByte
    by_cases h : c = 10
    · subst h; simp [head10]
    · rw [if_neg (by simpa using h), ih]
      by_cases hm : 10 ∈ r
      · rw [if_pos hm, if_neg (by rw [beq_iff_eq]; omega), if_pos (by simp [hm])]
        simp [head10, h]
      · simp [hm, Ne.symm h]
theorem head10_lt {l : List UInt8} (h : 10 ∈ l) : (head10 l).length < l.length := by
  induction l with
  | nil => simp at h
  | cons c r ih =>
    unfold head10 at *
    rw [List.takeWhile_cons]
    by_cases hc : c = 10
    · subst hc; simp
    · rw [if_pos (by simpa using hc)]
      have := ih (by simpa [Ne.symm hc] using h)
      simp at *; omega

theorem no10_head (l : List UInt8) : 10 ∉ head10 l := by
  unfold head10
  induction l with
  | nil => simp
  | cons c r ih =>
    rw [List.takeWhile_cons]; split
    · rename_i h
      have hc : c ≠ 10 := by simpa using h
      intro hm
      rcases List.mem_cons.1 hm with e | e
      · exact hc e.symm
      · exact ih e
    · simp

theorem linesGo_len (l : List UInt8) : ∀ cur, (linesGo cur l).length ≤ cur.length + l.length := by
  induction l with
  | nil => intro cur; unfold linesGo; cases cur <;> simp
  | cons c r ih =>
    intro cur; unfold linesGo; split
    · have := ih []; simp at *; omega
    · have := ih (cur ++ [c]); simp at *; omega
theorem lines_len (l : List UInt8) : (lines l).length ≤ l.length := by unfold lines; simpa using linesGo_len l []

/-- The reference's loop: at i, the line begun at 'from'. -/
theorem ref_line {l : List UInt8} {out : List (List UInt8)} {fr i : Nat} (hi : i < l.length) (hc : l[i] = 10)
    (h : out ++ linesGo ((l.take i).drop fr) (l.drop i) = lines l) : (out ++ [(l.take i).drop fr]) ++ linesGo ((l.take (i + 1)).drop (i + 1)) (l.drop (i + 1)) = lines l := by
  rw [List.drop_eq_getElem_cons hi, linesGo, if_pos hc] at h
  rw [← h, List.drop_of_length_le (l := List.take (i + 1) l) (by simp; omega)]
  simp
theorem ref_more {l : List UInt8} {out : List (List UInt8)} {fr i : Nat} (hi : i < l.length) (hf : fr ≤ i) (hc : l[i] ≠ 10)
    (h : out ++ linesGo ((l.take i).drop fr) (l.drop i) = lines l) : out ++ linesGo ((l.take (i + 1)).drop fr) (l.drop (i + 1)) = lines l := by
  rw [List.drop_eq_getElem_cons hi, linesGo, if_neg hc] at h
  rw [← h, List.take_succ_eq_append_getElem hi, List.drop_append_of_le_length (by simp; omega)]
theorem ref_end {l : List UInt8} {out : List (List UInt8)} {fr i : Nat} (hi : i = l.length) (hf : fr < l.length)
    (h : out ++ linesGo ((l.take i).drop fr) (l.drop i) = lines l) : out ++ [l.drop fr] = lines l := by
  subst hi
  rw [List.drop_length, linesGo, List.take_length, if_neg (by simp; omega)] at h
  exact h
theorem ref_none {l : List UInt8} {out : List (List UInt8)} {fr i : Nat} (hi : i = l.length) (hf : ¬ fr < l.length)
    (h : out ++ linesGo ((l.take i).drop fr) (l.drop i) = lines l) : out = lines l := by
  subst hi
  rw [List.drop_length, linesGo, List.take_length, if_pos (by simp; omega)] at h
  simpa using h

/-! ### words -/
def wordsGo (cur : List UInt8) : List UInt8 → List (List UInt8)
  | [] => if cur.isEmpty then [] else [cur]
  | c :: r => if c = 32 then (if cur.isEmpty then [] else [cur]) ++ wordsGo [] r else wordsGo (cur ++ [c]) r
def words (l : List UInt8) : List (List UInt8) := wordsGo [] l

theorem wordsGo_len (l : List UInt8) : ∀ cur, (wordsGo cur l).length ≤ cur.length + l.length := by
  induction l with
  | nil => intro cur; unfold wordsGo; cases cur <;> simp
  | cons c r ih =>
    intro cur; unfold wordsGo; split
    · have := ih []; rw [List.length_append]; cases cur <;> simp at * <;> omega
    · have := ih (cur ++ [c]); simp at *; omega
theorem words_len (l : List UInt8) : (words l).length ≤ l.length := by unfold words; simpa using wordsGo_len l []

theorem wordsGo_span (a : List UInt8) : ∀ cur r, (∀ c ∈ a, c ≠ 32) → wordsGo cur (a ++ r) = wordsGo (cur ++ a) r := by
  induction a with
  | nil => intro cur r _; simp
  | cons c a ih =>
    intro cur r h
    rw [List.cons_append, wordsGo, if_neg (h c (by simp)), ih _ _ (fun d hd => h d (by simp [hd]))]
    simp
theorem all_wb_ne {a : List UInt8} (h : a.all wb = true) : ∀ c ∈ a, c ≠ 32 := fun c hc => wb_ne (List.all_eq_true.1 h c hc)

theorem words_nil : words [] = [] := rfl
theorem words_blank (l : List UInt8) : words (32 :: l) = words l := by unfold words; rw [wordsGo, if_pos rfl]; simp
theorem words_whole {l : List UInt8} (h : l.all wb = true) (hne : l ≠ []) : words l = [l] := by
  have := wordsGo_span l [] [] (all_wb_ne h)
  simp only [List.append_nil, List.nil_append] at this
  unfold words; rw [this, wordsGo, if_neg (by simpa using hne)]
theorem words_cut {l : List UInt8} {k : Nat} (hk : k < l.length) (hc : l[k] = 32) (h : (l.take k).all wb = true) :
    words l = (if k = 0 then [] else [l.take k]) ++ words (l.drop (k + 1)) := by
  have e : l = l.take k ++ (32 :: l.drop (k + 1)) := by
    conv => lhs; rw [← List.take_append_drop k l, List.drop_eq_getElem_cons hk, hc]
  have h1 := wordsGo_span (l.take k) [] (32 :: l.drop (k + 1)) (all_wb_ne h)
  rw [← e, List.nil_append, wordsGo, if_pos rfl] at h1
  unfold words; rw [h1]
  by_cases h0 : k = 0
  · subst h0; simp
  · rw [if_neg h0, if_neg (by simp; refine ⟨h0, ?_⟩; rintro rfl; simp at hk)]

/-! The scan of a rest: what came ahead may be; what was gathered and the rest's words are the whole's. -/
def Scan (l rest : List UInt8) (out : List (List UInt8)) : Prop := (∃ pre, l = pre ++ rest ∧ allOk pre = true) ∧ out ++ words rest = words l
theorem scan_start (l : List UInt8) : Scan l l [] := ⟨⟨[], rfl, rfl⟩, rfl⟩
theorem allOk_of_wb {a : List UInt8} (h : a.all wb = true) : allOk a = true := List.all_eq_true.2 fun c hc => wb_ok (List.all_eq_true.1 h c hc)
theorem scan_blank {l rest : List UInt8} {out : List (List UInt8)} (h : Scan l rest out) {k : Nat} (hk : k < rest.length) (hc : rest[k] = 32) (hw : (rest.take k).all wb = true) :
    Scan l (rest.drop (k + 1)) (out ++ (if k = 0 then [] else [rest.take k])) := by
  obtain ⟨⟨pre, e, hp⟩, ho⟩ := h
  refine ⟨⟨pre ++ rest.take (k + 1), by rw [List.append_assoc, List.take_append_drop]; exact e, ?_⟩, ?_⟩
  · unfold allOk at *
    rw [List.all_append, hp, all_take hk, hc]
    have := allOk_of_wb hw
    unfold allOk at this; rw [this]; rfl
  · rw [← ho, words_cut hk hc hw, List.append_assoc]
theorem scan_bad {l rest : List UInt8} {out : List (List UInt8)} (h : Scan l rest out) {k : Nat} (hk : k < rest.length) (hc : rest[k] ≠ 32) (hw : wb rest[k] = false) : allOk l = false := by
  obtain ⟨⟨pre, e, _⟩, _⟩ := h
  rw [e]; unfold allOk; rw [List.all_append, all_false hk (by unfold okb; rw [hw]; simpa using hc)]; simp
theorem scan_end {l rest : List UInt8} {out : List (List UInt8)} (h : Scan l rest out) (hw : rest.all wb = true) (hne : rest ≠ []) : allOk l = true ∧ words l = out ++ [rest] := by
  obtain ⟨⟨pre, e, hp⟩, ho⟩ := h
  constructor
  · rw [e]; unfold allOk at *; rw [List.all_append, hp]; have := allOk_of_wb hw; unfold allOk at this; rw [this]; rfl
  · rw [← ho, words_whole hw hne]
theorem scan_done {l : List UInt8} {out : List (List UInt8)} (h : Scan l [] out) : allOk l = true ∧ words l = out := by
  obtain ⟨⟨pre, e, hp⟩, ho⟩ := h
  constructor
  · rw [e]; simpa using hp
  · rw [← ho, words_nil, List.append_nil]

/-- The reference's scan: at i, the word begun at 'fr' (no blank in it). -/
def RScan (l : List UInt8) (out : List (List UInt8)) (fr i : Nat) : Prop :=
  allOk (l.take fr) = true ∧ (∀ c ∈ (l.take i).drop fr, c ≠ 32) ∧ out ++ wordsGo ((l.take i).drop fr) (l.drop i) = words l
theorem rscan_start (l : List UInt8) : RScan l [] 0 0 := ⟨by simp [allOk], by simp, by simp [words]⟩
theorem rscan_more {l : List UInt8} {out : List (List UInt8)} {fr i : Nat} (h : RScan l out fr i) (hi : i < l.length) (hf : fr ≤ i) (hc : l[i] ≠ 32) : RScan l out fr (i + 1) := by
  obtain ⟨h1, h2, h3⟩ := h
  have e : (l.take (i + 1)).drop fr = (l.take i).drop fr ++ [l[i]] := by
    rw [List.take_succ_eq_append_getElem hi, List.drop_append_of_le_length (by simp; omega)]
  refine ⟨h1, ?_, ?_⟩
  · rw [e]; intro c hm
    rcases List.mem_append.1 hm with hm | hm
    · exact h2 c hm
    · simp at hm; subst hm; exact hc
  · rw [e, ← h3, List.drop_eq_getElem_cons hi (l := l), wordsGo, if_neg hc]
theorem seg_nil_iff {l : List UInt8} {fr i : Nat} (hi : i ≤ l.length) : ((l.take i).drop fr).isEmpty = decide (¬ fr < i) := by
  rw [Bool.eq_iff_iff]; simp; omega
theorem rscan_blank {l : List UInt8} {out : List (List UInt8)} {fr i : Nat} (h : RScan l out fr i) (hi : i < l.length) (hf : fr ≤ i) (hc : l[i] = 32)
    (hw : fr < i → isWd ((l.take i).drop fr) = true) : RScan l (out ++ (if fr < i then [(l.take i).drop fr] else [])) (i + 1) (i + 1) := by
  obtain ⟨h1, h2, h3⟩ := h
  have e0 : (l.take (i + 1)).drop (i + 1) = [] := List.drop_of_length_le (by simp; omega)
  refine ⟨?_, by rw [e0]; simp, ?_⟩
  · have e : l.take (i + 1) = l.take fr ++ ((l.take i).drop fr ++ [32]) := by
      rw [List.take_succ_eq_append_getElem hi, hc, ← List.append_assoc]; congr 1
      conv => lhs; rw [← List.take_append_drop fr (l.take i)]
      rw [List.take_take, Nat.min_eq_left hf]
    unfold allOk at *
    rw [e, List.all_append, h1, List.all_append]
    by_cases hlt : fr < i
    · have := hw hlt; unfold isWd at this; simp only [Bool.and_eq_true] at this
      have := allOk_of_wb this.2; unfold allOk at this; rw [this]; rfl
    · rw [List.drop_of_length_le (by simp; omega)]; rfl
  · rw [e0, ← h3, List.drop_eq_getElem_cons hi (l := l), hc, wordsGo, if_pos rfl, seg_nil_iff (by omega), List.append_assoc]
    by_cases hlt : fr < i <;> simp [hlt]
theorem rscan_bad {l : List UInt8} {out : List (List UInt8)} {fr i : Nat} (h : RScan l out fr i) (hlt : fr < i) (hi : i ≤ l.length) (hw : isWd ((l.take i).drop fr) = false) : allOk l = false := by
  obtain ⟨h1, h2, h3⟩ := h
  unfold isWd at hw
  have hne : ((l.take i).drop fr).isEmpty = false := by rw [seg_nil_iff hi]; simpa using hlt
  rw [hne] at hw
  simp only [Bool.not_false, Bool.true_and, List.all_eq_false] at hw
  obtain ⟨c, hm, hc⟩ := hw
  unfold allOk; rw [List.all_eq_false]
  refine ⟨c, List.mem_of_mem_take (List.mem_of_mem_drop hm), ?_⟩
  intro ho
  rcases ok_cases ho with e | e
  · exact h2 c hm e
  · exact hc e
theorem rscan_end {l : List UInt8} {out : List (List UInt8)} {fr : Nat} (h : RScan l out fr l.length)
    (hw : fr < l.length → isWd ((l.take l.length).drop fr) = true) : allOk l = true ∧ words l = out ++ (if fr < l.length then [(l.take l.length).drop fr] else []) := by
  obtain ⟨h1, h2, h3⟩ := h
  constructor
  · have e : l = l.take fr ++ l.drop fr := (List.take_append_drop fr l).symm
    rw [e]; unfold allOk at *; rw [List.all_append, h1]
    by_cases hlt : fr < l.length
    · have := hw hlt; rw [List.take_length] at this; unfold isWd at this; simp only [Bool.and_eq_true] at this
      have := allOk_of_wb this.2; unfold allOk at this; rw [this]; rfl
    · rw [List.drop_of_length_le (by omega)]; rfl
  · rw [← h3, List.drop_length, wordsGo, seg_nil_iff (Nat.le_refl _)]
    by_cases hlt : fr < l.length <;> simp [hlt]

/-! ### joined words -/
def join : List (List UInt8) → List UInt8
  | [] => []
  | w :: ws => w ++ (if ws.isEmpty then [] else 32 :: join ws)
theorem join_snoc (ws : List (List UInt8)) (x : List UInt8) : join (ws ++ [x]) = join ws ++ (if ws.isEmpty then [] else [32]) ++ x := by
  induction ws with
  | nil => simp [join]
  | cons w ws ih =>
    rw [List.cons_append, join, ih]
    cases ws with
    | nil => simp [join]
    | cons v vs => simp [join]
theorem join_take {ws : List (List UInt8)} {k : Nat} (h : k < ws.length) : join (ws.take (k + 1)) = join (ws.take k) ++ (if k = 0 then [] else [32]) ++ ws[k] := by
  rw [List.take_succ_eq_append_getElem h, join_snoc]
  by_cases h0 : k = 0
  · subst h0; simp
  · rw [if_neg h0, if_neg (by simp; refine ⟨h0, ?_⟩; rintro rfl; simp at h)]
theorem isWd_all {l : List UInt8} (h : isWd l = true) : l.all wb = true := by unfold isWd at h; simp only [Bool.and_eq_true] at h; exact h.2
theorem isWd_ne {l : List UInt8} (h : isWd l = true) : l ≠ [] := by rintro rfl; simp [isWd] at h
theorem isWd_mk {l : List UInt8} (h : l.all wb = true) (h' : l ≠ []) : isWd l = true := by unfold isWd; rw [h]; simpa using h'

theorem words_join (ws : List (List UInt8)) (h : ∀ w ∈ ws, isWd w = true) : words (join ws) = ws ∧ allOk (join ws) = true := by
  induction ws with
  | nil => exact ⟨rfl, rfl⟩
  | cons w ws ih =>
    obtain ⟨i1, i2⟩ := ih fun v hv => h v (by simp [hv])
    have hw := h w (by simp)
    have ho := allOk_of_wb (isWd_all hw)
    rw [join]
    cases ws with
    | nil => simp only [List.isEmpty_nil, if_true, List.append_nil]; exact ⟨words_whole (isWd_all hw) (isWd_ne hw), ho⟩
    | cons v vs =>
      have hl : w.length < (w ++ 32 :: join (v :: vs)).length := by simp
      constructor
      · show words (w ++ 32 :: join (v :: vs)) = _
        rw [words_cut (k := w.length) hl (by simp) (by simpa using isWd_all hw)]
        have : w.length ≠ 0 := by have := isWd_ne hw; intro e; exact this (List.eq_nil_of_length_eq_zero e)
        have e2 : (w ++ 32 :: join (v :: vs)).drop (w.length + 1) = join (v :: vs) := by simp
        rw [if_neg this, e2, i1]; simp
      · show allOk (w ++ 32 :: join (v :: vs)) = true
        unfold allOk at *; rw [List.all_append, ho, List.all_cons, i2]; rfl

theorem wordsGo_words (l : List UInt8) : ∀ cur, allOk l = true → cur.all wb = true → ∀ w ∈ wordsGo cur l, isWd w = true := by
  induction l with
  | nil =>
    intro cur _ hc w hw; unfold wordsGo at hw
    cases cur with
    | nil => simp at hw
    | cons a b => simp at hw; subst hw; exact isWd_mk hc (by simp)
  | cons c r ih =>
    intro cur hl hc w hw
    unfold allOk at hl; rw [List.all_cons, Bool.and_eq_true] at hl
    unfold wordsGo at hw
    split at hw
    · rcases List.mem_append.1 hw with hw | hw
      · cases cur with
        | nil => simp at hw
        | cons a b => simp at hw; subst hw; exact isWd_mk hc (by simp)
      · exact ih [] hl.2 rfl w hw
    · rename_i hne
      have hcw : wb c = true := (ok_cases hl.1).resolve_left hne
      exact ih (cur ++ [c]) hl.2 (by rw [List.all_append, hc]; simp [hcw]) w hw
theorem words_words {l : List UInt8} (h : allOk l = true) : ∀ w ∈ words l, isWd w = true := wordsGo_words l [] h rfl

theorem wordsGo_tail (l : List UInt8) : ∀ cur, wordsGo cur (l ++ [32]) = wordsGo cur l := by
  induction l with
  | nil => intro cur; simp [wordsGo]
  | cons c r ih => intro cur; rw [List.cons_append, wordsGo, wordsGo]; split <;> rw [ih]
theorem words_wide (l : List UInt8) : words ([32, 32] ++ l ++ [32]) = words l := by
  have : ([32, 32] ++ l ++ [32] : List UInt8) = 32 :: 32 :: (l ++ [32]) := by simp
  rw [this, words_blank, words_blank]; unfold words; exact wordsGo_tail l []
theorem allOk_wide {l : List UInt8} (h : allOk l = true) : allOk ([32, 32] ++ l ++ [32]) = true := by
  unfold allOk at *; rw [List.all_append, List.all_append, h]; decide

end Go.Proofs.Ytajkbkllgbalkaa.Pl
