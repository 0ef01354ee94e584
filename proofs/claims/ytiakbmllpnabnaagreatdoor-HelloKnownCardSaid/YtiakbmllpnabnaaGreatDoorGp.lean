/- Plain facts of hosts: what stands ahead of and behind a byte, the labels of a host, plain hosts, patterns, small letters, ports. No program stands here. -/
import Derived.Test.YtiakbmllpnabnaaGreatDoorPm
import Derived.Lib.AtoiAllCases
import Derived.Lib.ItoaMem
namespace Go.Proofs.YtiakbmllpnabnaaGreatDoor
open Go Pl

/-! ### ahead of a byte, and behind it -/
def hdC (c : UInt8) (l : List UInt8) : List UInt8 := l.takeWhile fun x => decide (x ≠ c)
def tlC (c : UInt8) (l : List UInt8) : List UInt8 := (l.dropWhile fun x => decide (x ≠ c)).drop 1
def hasC (c : UInt8) (l : List UInt8) : Bool := decide (c ∈ l)
theorem indexByteC (c : UInt8) (l : List UInt8) : Lib.indexByte l c = if c ∈ l then ((hdC c l).length : Int) else -1 := by
  induction l with
  | nil => rfl
  | cons x r ih =>
    unfold Lib.indexByte
    by_cases h : x = c
    · subst h; simp [hdC]
    · rw [if_neg (by simpa using h), ih]
      by_cases hm : c ∈ r
      · rw [if_pos hm, if_neg (by rw [beq_iff_eq]; omega), if_pos (by simp [hm])]
        unfold hdC
        rw [List.takeWhile_cons, if_pos (by simpa using h), List.length_cons]
        omega
      · simp [hm, Ne.symm h]
theorem hdC_none {c : UInt8} {l : List UInt8} (h : c ∉ l) : hdC c l = l ∧ tlC c l = [] := by
  induction l with
  | nil => exact ⟨rfl, rfl⟩
  | cons x r ih =>
    simp only [List.mem_cons, not_or] at h
    obtain ⟨e1, e2⟩ := ih h.2
    unfold hdC tlC at *
    rw [List.takeWhile_cons, List.dropWhile_cons, if_pos (by simpa using Ne.symm h.1), if_pos (by simpa using Ne.symm h.1), e1]
    exact ⟨rfl, e2⟩
theorem take_hdC (c : UInt8) (l : List UInt8) : l.take (hdC c l).length = hdC c l := by
  unfold hdC
  induction l with
  | nil => rfl
  | cons x r ih =>
    rw [List.takeWhile_cons]
    split
    · rw [List.length_cons, List.take_succ_cons, ih]
    · rfl
theorem drop_hdC (c : UInt8) (l : List UInt8) : l.drop ((hdC c l).length + 1) = tlC c l := by
  unfold hdC tlC
  induction l with
  | nil => rfl
  | cons x r ih =>
    rw [List.takeWhile_cons, List.dropWhile_cons]
    split
    · rw [List.length_cons, List.drop_succ_cons, ih]
    · rfl
theorem hdC_lt {c : UInt8} {l : List UInt8} (h : c ∈ l) : (hdC c l).length < l.length := by
  induction l with
  | nil => simp at h
  | cons x r ih =>
    unfold hdC at *
    rw [List.takeWhile_cons]
    split
    · rename_i hx
      rcases List.mem_cons.1 h with e | e
      · exact absurd e.symm (by simpa using hx)
      · have := ih e; simp only [List.length_cons]; omega
    · simp
theorem hdC_le (c : UInt8) (l : List UInt8) : (hdC c l).length ≤ l.length := (List.takeWhile_sublist _).length_le
theorem tlC_le (c : UInt8) (l : List UInt8) : (tlC c l).length ≤ l.length := by rw [← drop_hdC, List.length_drop]; omega
theorem tlC_lt {c : UInt8} {l : List UInt8} (h : c ∈ l) : (tlC c l).length < l.length := by rw [← drop_hdC, List.length_drop]; have := hdC_lt h; omega
theorem hdC_not (c : UInt8) (l : List UInt8) : c ∉ hdC c l := by
  unfold hdC
  induction l with
  | nil => simp
  | cons x r ih =>
    rw [List.takeWhile_cons]
    split
    · rename_i hx
      simp only [List.mem_cons, not_or]
      exact ⟨Ne.symm (by simpa using hx), ih⟩
    · simp
theorem hdC_tlC {c : UInt8} {l : List UInt8} (h : c ∈ l) : l = hdC c l ++ c :: tlC c l := by
  induction l with
  | nil => simp at h
  | cons x r ih =>
    unfold hdC tlC at *
    rw [List.takeWhile_cons, List.dropWhile_cons]
    by_cases hx : x = c
    · subst hx; simp
    · rw [if_pos (by simpa using hx), if_pos (by simpa using hx), List.cons_append]
      congr 1
      exact ih ((List.mem_cons.1 h).resolve_left (Ne.symm hx))
theorem hdC_app {c : UInt8} {a b : List UInt8} (h : c ∉ a) : hdC c (a ++ c :: b) = a ∧ tlC c (a ++ c :: b) = b := by
  induction a with
  | nil => simp [hdC, tlC]
  | cons x r ih =>
    simp only [List.mem_cons, not_or] at h
    obtain ⟨e1, e2⟩ := ih h.2
    unfold hdC tlC at *
    rw [List.cons_append, List.takeWhile_cons, List.dropWhile_cons, if_pos (by simpa using Ne.symm h.1), if_pos (by simpa using Ne.symm h.1), e1]
    exact ⟨rfl, e2⟩

/-! ### bytes that may stand in a label -/
def lbB (c : UInt8) : Bool := letB c || digB c || decide (c.toNat = 45)
def fitB (c : UInt8) : Bool := lbB c || decide (c.toNat = 46)
theorem lbB_iff {c : UInt8} : lbB c = true ↔ (97 ≤ c.toNat ∧ c.toNat ≤ 122) ∨ (48 ≤ c.toNat ∧ c.toNat ≤ 57) ∨ c.toNat = 45 := namB_iff
theorem fitB_iff {c : UInt8} : fitB c = true ↔ (97 ≤ c.toNat ∧ c.toNat ≤ 122) ∨ (48 ≤ c.toNat ∧ c.toNat ≤ 57) ∨ c.toNat = 45 ∨ c.toNat = 46 := by
  unfold fitB; rw [Bool.or_eq_true, lbB_iff, decide_eq_true_iff]; simp only [or_assoc]
theorem eqB {a b : UInt8} : a = b ↔ a.toNat = b.toNat := UInt8.toNat_inj.symm

/-! ### the labels of a text -/
def partsGo (cur : List UInt8) : List UInt8 → List (List UInt8)
  | [] => [cur]
  | c :: r => if c = 46 then cur :: partsGo [] r else partsGo (cur ++ [c]) r
def parts (l : List UInt8) : List (List UInt8) := partsGo [] l
theorem partsGo_span (l : List UInt8) : ∀ cur, partsGo cur l = if 46 ∈ l then (cur ++ hdC 46 l) :: parts (tlC 46 l) else [cur ++ l] := by
  induction l with
  | nil => intro cur; simp [partsGo]
  | cons c r ih =>
    intro cur
    unfold partsGo
    by_cases h : c = 46
    · subst h; simp [hdC, tlC, parts]
    · rw [if_neg h, ih]
      have e1 : hdC 46 (c :: r) = c :: hdC 46 r := by unfold hdC; rw [List.takeWhile_cons, if_pos (by simpa using h)]
      have e2 : tlC 46 (c :: r) = tlC 46 r := by unfold tlC; rw [List.dropWhile_cons, if_pos (by simpa using h)]
      rw [e1, e2]
      by_cases hm : (46 : UInt8) ∈ r
      · rw [if_pos hm, if_pos (by simp [hm])]; simp
      · rw [if_neg hm, if_neg (by simp [hm, Ne.symm h])]; simp
theorem parts_yes {l : List UInt8} (h : 46 ∈ l) : parts l = hdC 46 l :: parts (tlC 46 l) := by
  unfold parts; rw [partsGo_span, if_pos h]; rfl
theorem parts_no {l : List UInt8} (h : 46 ∉ l) : parts l = [l] := by
  unfold parts; rw [partsGo_span, if_neg h]; rfl
theorem partsGo_len (l : List UInt8) : ∀ cur, (partsGo cur l).length ≤ l.length + 1 := by
  induction l with
  | nil => intro cur; simp [partsGo]
  | cons c r ih => intro cur; unfold partsGo; split <;> simp <;> have := ih [] <;> have := ih (cur ++ [c]) <;> omega
theorem parts_len (l : List UInt8) : (parts l).length ≤ l.length + 1 := partsGo_len l []

def isLab (l : List UInt8) : Bool := !l.isEmpty && decide (l.length ≤ 20) && l.all lbB && !decide (l.head? = some 45) && !decide (l.getLast? = some 45)
/-- a label, of bytes that may all stand in one -/
def edgeOk (l : List UInt8) : Bool := !l.isEmpty && decide (l.length ≤ 20) && !decide (l.head? = some 45) && !decide (l.getLast? = some 45)
theorem isLab_edge {l : List UInt8} (h : l.all lbB = true) : isLab l = edgeOk l := by unfold isLab edgeOk; rw [h]; simp
theorem isLab_all {l : List UInt8} (h : isLab l = true) : l.all lbB = true := by unfold isLab at h; simp only [Bool.and_eq_true] at h; exact h.1.1.2

def isPl (l : List UInt8) : Bool := decide (l.length ≤ 60) && (parts l).all isLab

theorem partsGo_fit (l : List UInt8) : ∀ cur, cur.all lbB = true → l.all fitB = true → ∀ p ∈ partsGo cur l, p.all lbB = true := by
  induction l with
  | nil => intro cur hc _ p hp; simp [partsGo] at hp; subst hp; exact hc
  | cons c r ih =>
    intro cur hc hl p hp
    simp only [List.all_cons, Bool.and_eq_true] at hl
    unfold partsGo at hp
    split at hp
    · rcases List.mem_cons.1 hp with e | e
      · subst e; exact hc
      · exact ih [] rfl hl.2 p e
    · rename_i h46
      refine ih (cur ++ [c]) ?_ hl.2 p hp
      have h1 := hl.1
      unfold fitB at h1
      rw [Bool.or_eq_true, decide_eq_true_iff] at h1
      have h2 := h1.resolve_right (fun e => h46 (eqB.2 e))
      rw [List.all_append, hc]; simp [h2]
theorem parts_edge {l : List UInt8} (h : l.all fitB = true) : (parts l).all isLab = (parts l).all edgeOk := by
  have := partsGo_fit l [] rfl h
  rw [Bool.eq_iff_iff, List.all_eq_true, List.all_eq_true]
  exact forall_congr' fun p => forall_congr' fun hp => by rw [isLab_edge (this p hp)]
theorem partsGo_bad (l : List UInt8) : ∀ cur, (partsGo cur l).all isLab = true → cur.all lbB = true ∧ l.all fitB = true := by
  induction l with
  | nil => intro cur h; simp [partsGo] at h; exact ⟨isLab_all h, rfl⟩
  | cons c r ih =>
    intro cur h
    unfold partsGo at h
    split at h
    · rename_i hc
      simp only [List.all_cons, Bool.and_eq_true] at h
      refine ⟨isLab_all h.1, ?_⟩
      simp only [List.all_cons, Bool.and_eq_true]
      exact ⟨by subst hc; decide, (ih [] h.2).2⟩
    · have h1 := ih (cur ++ [c]) h
      rw [List.all_append, Bool.and_eq_true] at h1
      refine ⟨h1.1.1, ?_⟩
      simp only [List.all_cons, Bool.and_eq_true]
      refine ⟨?_, h1.2⟩
      have := h1.1.2
      simp at this
      unfold fitB; rw [this]; rfl
theorem isPl_fit {l : List UInt8} (h : isPl l = true) : l.all fitB = true := by
  unfold isPl at h; rw [Bool.and_eq_true] at h; exact (partsGo_bad l [] h.2).2
theorem isPl_long {l : List UInt8} (h : 60 < l.length) : isPl l = false := by unfold isPl; rw [decide_eq_false (by omega)]; rfl
theorem isPl_unfit {l : List UInt8} {k : Nat} (h : k < l.length) (hc : fitB l[k] = false) : isPl l = false := by
  cases e : isPl l with
  | false => rfl
  | true =>
    have := isPl_fit e
    rw [List.all_eq_true] at this
    rw [this _ (List.getElem_mem h)] at hc; cases hc
theorem isPl_edge {l : List UInt8} (h : l.length ≤ 60) (hf : l.all fitB = true) : isPl l = (parts l).all edgeOk := by
  unfold isPl; rw [decide_eq_true h, parts_edge hf]; rfl
theorem isPl_parts {l : List UInt8} (h : l.length ≤ 60) : isPl l = (parts l).all isLab := by
  unfold isPl; rw [decide_eq_true h]; rfl
theorem isPl_len {l : List UInt8} (h : isPl l = true) : l.length ≤ 60 := by
  unfold isPl at h; rw [Bool.and_eq_true, decide_eq_true_iff] at h; exact h.1
theorem isPl_ne {l : List UInt8} (h : isPl l = true) : l ≠ [] := by rintro rfl; revert h; decide

/-- the chapter's loop: the labels that have come are labels; what is left -/
def RP (l : List UInt8) (fr i : Nat) : Prop := (parts l).all isLab = (partsGo ((l.take i).drop fr) (l.drop i)).all isLab
theorem rp_start (l : List UInt8) : RP l 0 0 := by unfold RP; simp [parts]
theorem rp_dot {l : List UInt8} {fr i : Nat} (h : RP l fr i) (hi : i < l.length) (hc : l[i] = 46) (hp : isLab ((l.take i).drop fr) = true) : RP l (i + 1) (i + 1) := by
  unfold RP at *
  rw [h, List.drop_eq_getElem_cons hi, partsGo, if_pos hc, List.all_cons, hp, List.drop_of_length_le (l := List.take (i + 1) l) (by simp; omega)]; simp
theorem rp_more {l : List UInt8} {fr i : Nat} (h : RP l fr i) (hi : i < l.length) (hf : fr ≤ i) (hc : l[i] ≠ 46) : RP l fr (i + 1) := by
  unfold RP at *
  rw [h, List.drop_eq_getElem_cons hi, partsGo, if_neg hc, List.take_succ_eq_append_getElem hi, List.drop_append_of_le_length (by simp; omega)]
theorem rp_bad {l : List UInt8} {fr i : Nat} (h : RP l fr i) (hi : i < l.length) (hc : l[i] = 46) (hp : isLab ((l.take i).drop fr) = false) : (parts l).all isLab = false := by
  unfold RP at *
  rw [h, List.drop_eq_getElem_cons hi, partsGo, if_pos hc, List.all_cons, hp]; rfl
theorem rp_end {l : List UInt8} {fr : Nat} (h : RP l fr l.length) : (parts l).all isLab = isLab ((l.take l.length).drop fr) := by
  unfold RP at *
  rw [h, List.drop_length, partsGo]; simp

/-! ### patterns -/
def wildP (l : List UInt8) : Bool := [42, 46].isPrefixOf l
def restP (l : List UInt8) : List UInt8 := if wildP l then l.drop 2 else l
def isPat (l : List UInt8) : Bool := decide (l.length ≤ 60) && isPl (restP l)
theorem isPat_long {l : List UInt8} (h : 60 < l.length) : isPat l = false := by unfold isPat; rw [decide_eq_false (by omega)]; rfl
theorem isPat_rest {l : List UInt8} (h : l.length ≤ 60) : isPat l = isPl (restP l) := by unfold isPat; rw [decide_eq_true h]; rfl
theorem not_pl_star {l : List UInt8} (h : wildP l = true) : isPl l = false := by
  cases e : isPl l with
  | false => rfl
  | true =>
    have h1 := isPl_fit e
    unfold wildP at h
    cases l with
    | nil => cases h
    | cons a r =>
      rw [List.isPrefixOf_cons_cons, Bool.and_eq_true, beq_iff_eq] at h
      rw [← h.1, List.all_cons] at h1
      revert h1; simp [fitB, lbB, letB, digB]
def matchP (p h : List UInt8) : Bool := isPat p && isPl h && (decide (p = h) || (hasC 46 h && decide (p = 42 :: 46 :: tlC 46 h)))

/-! ### small letters -/
def lowB (c : UInt8) : UInt8 := if 65 ≤ c.toNat ∧ c.toNat ≤ 90 then UInt8.ofNat (c.toNat + 32) else c
def lowS (l : List UInt8) : List UInt8 := l.map lowB

/-! ### ports -/
def portV (l : List UInt8) : Int := if isDec l && decide (l.length ≤ 5) && decide (1 ≤ val l) && decide (val l ≤ 65535) then (val l : Int) else 0
def atoiP (l : List UInt8) : Int := match Lib.atoiAll l with | .ok v => if Lib.itoa v = l then v else 0 | _ => 0
def isP (n : Int) : Bool := decide (1 ≤ n) && decide (n ≤ 65535)
theorem parse_dec (l : List UInt8) : ∀ acc, l.all digB = true → l.foldl valF acc < 1844674407370955162 → Lib.parseUint10 acc l = .ok (l.foldl valF acc) := by
  induction l with
  | nil => intro acc _ _; rfl
  | cons c r ih =>
    intro acc h hl
    simp only [List.all_cons, Bool.and_eq_true, digB_iff] at h
    simp only [List.foldl_cons] at hl ⊢
    have h1 := foldl_ge r (valF acc c)
    have e : valF acc c = acc * 10 + (c.toNat - 48) := by unfold valF; omega
    rw [Lib.parseUint10, if_pos h.1, if_neg (by omega), if_neg (by omega), ← e]
    exact ih _ h.2 hl
theorem val_lt (l : List UInt8) (h : l.all digB = true) : val l < 10 ^ l.length := by
  have : ∀ acc, l.foldl valF acc < (acc + 1) * 10 ^ l.length := by
    induction l with
    | nil => intro acc; simp
    | cons c r ih =>
      intro acc
      simp only [List.all_cons, Bool.and_eq_true, digB_iff] at h
      have h1 := ih h.2 (valF acc c)
      simp only [List.foldl_cons, List.length_cons, Nat.pow_succ]
      refine Nat.lt_of_lt_of_le h1 ?_
      have h2 : valF acc c + 1 ≤ (acc + 1) * 10 := by unfold valF; omega
      calc (valF acc c + 1) * 10 ^ r.length ≤ (acc + 1) * 10 * 10 ^ r.length := Nat.mul_le_mul_right _ h2
        _ = (acc + 1) * (10 ^ r.length * 10) := by rw [Nat.mul_assoc, Nat.mul_comm 10]
  have h0 := this 0
  rw [Nat.zero_add, Nat.one_mul] at h0
  exact h0
/-- decimals are the digits of their value -/
theorem dec_of_val : ∀ (k : Nat) (l : List UInt8), l.length = k → isDec l = true → Lib.decDigits (val l) = l := by
  intro k
  induction k with
  | zero => intro l h hd; rw [List.length_eq_zero_iff.1 h] at hd; cases hd
  | succ k ih =>
    intro l hl hd
    have hne : l ≠ [] := by rintro rfl; cases hl
    obtain ⟨l', c, rfl⟩ : ∃ l' c, l = l' ++ [c] := ⟨l.dropLast, l.getLast hne, (List.dropLast_concat_getLast hne).symm⟩
    have h0 := hd
    unfold isDec at h0
    simp only [Bool.and_eq_true, Bool.not_eq_true', List.all_append, List.all_cons, List.all_nil, Bool.and_true] at h0
    obtain ⟨⟨_, hz⟩, ha, hc⟩ := h0
    have hc' := digB_iff.1 hc
    rw [val_snoc]
    by_cases hn : l' = []
    · subst hn
      show Lib.decDigits (10 * 0 + (c.toNat - 48)) = [c]
      rw [Lib.decDigits_one (by omega), show 48 + (10 * 0 + (c.toNat - 48)) = c.toNat by omega]; simp
    · have h1 : l'.getD 0 0 ≠ 48 := by
        intro e
        cases l' with
        | nil => exact hn rfl
        | cons a b =>
          simp only [List.getD_cons_zero] at e
          subst e
          simp at hz
      have hd' : isDec l' = true := isDec_mk hn (fun h => h1 h.1) ha
      have h2 := ih l' (by simp at hl; omega) hd'
      have h3 : 1 ≤ val l' := by
        rcases Nat.eq_zero_or_pos (val l') with e | e
        · rw [e, Lib.decDigits_one (by decide)] at h2
          rw [← h2] at h1; exact absurd rfl h1
        · exact e
      rw [dec_step (by omega), show (10 * val l' + (c.toNat - 48)) / 10 = val l' by omega, show (10 * val l' + (c.toNat - 48)) % 10 = c.toNat - 48 by omega, h2, show 48 + (c.toNat - 48) = c.toNat by omega]; simp
theorem isDec_all {l : List UInt8} (h : isDec l = true) : l.all digB = true := by unfold isDec at h; simp only [Bool.and_eq_true] at h; exact h.2
theorem isDec_ne {l : List UInt8} (h : isDec l = true) : l ≠ [] := by rintro rfl; cases h
theorem atoi_dec {l : List UInt8} (h : isDec l = true) (hv : val l ≤ 65535) : Lib.atoiAll l = .ok (val l) := by
  have ha := isDec_all h
  have hp := parse_dec l 0 ha (by show val l < _; omega)
  cases l with
  | nil => cases h
  | cons c r =>
    have hc := (List.all_eq_true.1 ha) c (by simp)
    rw [digB_iff] at hc
    rw [Lib.atoiAll_plain c r (by omega) (by omega), Lib.parseMag, if_neg (by simp), hp]
    simp only [Lib.signless]
    rw [if_neg (by show ¬ _ ≤ val (c :: r); omega)]
    rfl
theorem decLen5 {n : Nat} (h : n ≤ 65535) : (Lib.decDigits n).length ≤ 5 := by
  rw [Lib.decDigits_length]
  rcases Nat.lt_or_ge 5 (Lib.nDigits n) with h5 | h5
  · exfalso
    have h1 : ∀ u : Nat, u < 100000 → Lib.nDigits u ≤ 5 := by
      intro u hu
      by_cases a : u < 10
      · rw [Lib.nDigits_small a]; omega
      rw [Lib.nDigits_big a]
      by_cases b : u / 10 < 10
      · rw [Lib.nDigits_small b]; omega
      rw [Lib.nDigits_big b]
      by_cases c : u / 10 / 10 < 10
      · rw [Lib.nDigits_small c]; omega
      rw [Lib.nDigits_big c]
      by_cases d : u / 10 / 10 / 10 < 10
      · rw [Lib.nDigits_small d]; omega
      rw [Lib.nDigits_big d, Lib.nDigits_small (by omega)]; omega
    have := h1 n (by omega); omega
  · exact h5
theorem portV_dec {n : Nat} (h1 : 1 ≤ n) (h2 : n ≤ 65535) : portV (Lib.decDigits n) = (n : Int) := by
  unfold portV; rw [dec_isDec, dec_val, decide_eq_true (decLen5 h2), decide_eq_true h1, decide_eq_true h2]; rfl
theorem portV_range (l : List UInt8) : 0 ≤ portV l ∧ portV l ≤ 65535 := by
  unfold portV; split
  · rename_i h; simp only [Bool.and_eq_true, decide_eq_true_iff] at h; omega
  · omega
theorem atoiP_dec {n : Nat} (h2 : n ≤ 65535) : atoiP (Lib.decDigits n) = (n : Int) := by
  unfold atoiP; rw [atoi_dec (dec_isDec n) (by rw [dec_val]; exact h2), dec_val]
  simp only
  rw [if_pos (Lib.itoa_nonneg n)]
/-- the port that the program tells, where it may be one -/
theorem atoiP_port (l : List UInt8) : (if isP (atoiP l) = true then atoiP l else 0) = portV l := by
  by_cases h : isP (atoiP l) = true
  · rw [if_pos h]
    unfold isP at h
    rw [Bool.and_eq_true, decide_eq_true_iff, decide_eq_true_iff] at h
    have hl : ∃ n : Nat, 1 ≤ n ∧ n ≤ 65535 ∧ l = Lib.decDigits n := by
      unfold atoiP at h
      split at h
      · rename_i v hv
        split at h
        · rename_i he
          refine ⟨v.toNat, by omega, by omega, ?_⟩
          rw [← he, ← Lib.itoa_nonneg, show ((v.toNat : Nat) : Int) = v by omega]
        · omega
      · omega
    obtain ⟨n, h1, h2, rfl⟩ := hl
    rw [atoiP_dec h2, portV_dec h1 h2]
  · rw [if_neg h]
    unfold portV
    split
    · rename_i hc
      simp only [Bool.and_eq_true, decide_eq_true_iff] at hc
      exfalso; apply h
      have e := dec_of_val _ l rfl hc.1.1.1
      rw [← e, atoiP_dec hc.2]
      unfold isP; rw [decide_eq_true (by omega), decide_eq_true (by omega)]; rfl
    · rfl
theorem isP_portV (l : List UInt8) : isP (portV l) = decide (portV l ≠ 0) := by
  have := portV_range l
  unfold isP
  by_cases h : portV l = 0
  · rw [h]; rfl
  · rw [decide_eq_true (by omega), decide_eq_true (by omega), decide_eq_true h]; rfl

/-! ### what Norm tells -/
def portN (l : List UInt8) : Int := if hasC 58 l then portV (tlC 58 l) else 80
def normP (l : List UInt8) : Option (List UInt8 × Int) := if isPl (lowS (hdC 58 l)) && decide (portN l ≠ 0) then some (lowS (hdC 58 l), portN l) else none
def normV : Option (List UInt8 × Int) → Value
  | none => .tuple #[.string ⟨#[]⟩, .int .i64 0, .int .i64 60]
  | some (h, n) => .tuple #[.string ⟨h.toArray⟩, .int .i64 n, .int .i64 0]
def writeP (h : List UInt8) (n : Int) : Option (List UInt8) := if isPl h && isP n then some (if n = 80 then h else h ++ 58 :: Lib.itoa n) else none
def writeV : Option (List UInt8) → Value
  | none => .tuple #[.string ⟨#[]⟩, .int .i64 60]
  | some t => .tuple #[.string ⟨t.toArray⟩, .int .i64 0]
def okE (b : Bool) : Int := if b then 0 else 60
theorem lowS_len (l : List UInt8) : (lowS l).length = l.length := by simp [lowS]
theorem lowS_append (a b : List UInt8) : lowS (a ++ b) = lowS a ++ lowS b := by simp [lowS]
theorem lowB_up {c : UInt8} (h1 : 65 ≤ c.toNat) (h2 : c.toNat ≤ 90) : (lowB c).toNat = c.toNat + 32 := by
  unfold lowB
  rw [if_pos ⟨h1, h2⟩, UInt8.toNat_ofNat']
  omega
theorem lowB_id {c : UInt8} (h : ¬ (65 ≤ c.toNat ∧ c.toNat ≤ 90)) : lowB c = c := by unfold lowB; rw [if_neg h]
theorem isPat_star : isPat [42, 46] = false := by decide
end Go.Proofs.YtiakbmllpnabnaaGreatDoor
