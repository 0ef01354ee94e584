/- Plain facts on lattices: joins, meets and codes, as the chapter says them and as the program reckons them. -/
import Derived.Test.YtaikhdmgcffflaaDoorPe
namespace Go.Proofs.YtaikhdmgcffflaaDoor

/-- Is c the least that a and b are at most? -/
def isJoin (n : Nat) (A : Nat → Nat) (a b c : Nat) : Bool := le A a c && le A b c && (List.range n).all fun d => !le A a d || !le A b d || le A c d
/-- Is c the greatest that is at most a and b? -/
def isMeet (n : Nat) (A : Nat → Nat) (a b c : Nat) : Bool := le A c a && le A c b && (List.range n).all fun d => !le A d a || !le A d b || le A d c
def joinO (n : Nat) (A : Nat → Nat) (a b : Nat) : Option Nat := (List.range n).find? (isJoin n A a b)
def meetO (n : Nat) (A : Nat → Nat) (a b : Nat) : Option Nat := (List.range n).find? (isMeet n A a b)

theorem isJoin_iff {n : Nat} {A : Nat → Nat} {a b c : Nat} : isJoin n A a b c = true ↔ le A a c = true ∧ le A b c = true ∧ ∀ d, d < n → le A a d = true → le A b d = true → le A c d = true := by
  unfold isJoin
  simp only [Bool.and_eq_true, List.all_eq_true, List.mem_range, Bool.or_eq_true, Bool.not_eq_true', and_assoc]
  refine and_congr_right fun _ => and_congr_right fun _ => forall_congr' fun d => forall_congr' fun _ => ?_
  cases le A a d <;> cases le A b d <;> simp
theorem isMeet_iff {n : Nat} {A : Nat → Nat} {a b c : Nat} : isMeet n A a b c = true ↔ le A c a = true ∧ le A c b = true ∧ ∀ d, d < n → le A d a = true → le A d b = true → le A d c = true := by
  unfold isMeet
  simp only [Bool.and_eq_true, List.all_eq_true, List.mem_range, Bool.or_eq_true, Bool.not_eq_true', and_assoc]
  refine and_congr_right fun _ => and_congr_right fun _ => forall_congr' fun d => forall_congr' fun _ => ?_
  cases le A d a <;> cases le A d b <;> simp

theorem find_uniq {n c : Nat} {p : Nat → Bool} (hc : c < n) (hp : p c = true) (hu : ∀ d, d < n → p d = true → d = c) : (List.range n).find? p = some c := by
  cases h : (List.range n).find? p with
  | none => rw [List.find?_eq_none] at h; exact absurd hp (by simpa using h c (List.mem_range.2 hc))
  | some d => rw [hu d (List.mem_range.1 (List.mem_of_find?_eq_some h)) (List.find?_some h)]
theorem find_spec {n c : Nat} {p : Nat → Bool} (h : (List.range n).find? p = some c) : c < n ∧ p c = true := ⟨List.mem_range.1 (List.mem_of_find?_eq_some h), List.find?_some h⟩
theorem find_same {p q : Nat → Bool} : ∀ {l : List Nat}, (∀ x ∈ l, p x = q x) → l.find? p = l.find? q
  | [], _ => rfl
  | x :: l, h => by
    rw [List.find?_cons, List.find?_cons, h x (by simp), find_same (l := l) fun y hy => h y (by simp [hy])]

/-- The label of a code. -/
def decO (n : Nat) (A : Nat → Nat) (c : Nat) : Option Nat := (List.range n).find? fun a => clo A a == c
theorem tb_le (A : Nat → Nat) (a b : Nat) : (clo A b).testBit a = le A a b := rfl
theorem clo_inj {n : Nat} {A : Nat → Nat} (g : Good n A) (t : Anti A) {a b : Nat} (ha : a < n) (hb : b < n) (h : clo A a = clo A b) : a = b :=
  le_anti g t ha hb (by rw [← tb_le, ← h, tb_le]; exact le_refl g ha) (by rw [← tb_le, h, tb_le]; exact le_refl g hb)
theorem decO_clo {n : Nat} {A : Nat → Nat} (g : Good n A) (t : Anti A) {a : Nat} (ha : a < n) : decO n A (clo A a) = some a :=
  find_uniq ha (by simp) (fun d hd h => clo_inj g t hd ha (by simpa using h))
theorem decO_some {n : Nat} {A : Nat → Nat} {c a : Nat} (h : decO n A c = some a) : a < n ∧ clo A a = c := by
  obtain ⟨h1, h2⟩ := find_spec h
  exact ⟨h1, by simpa using h2⟩

theorem isMeet_clo {n : Nat} {A : Nat → Nat} (g : Good n A) {a b c : Nat} (ha : a < n) (hb : b < n) (hc : c < n) : isMeet n A a b c = (clo A c == clo A a &&& clo A b) := by
  rw [Bool.eq_iff_iff, isMeet_iff, beq_iff_eq]
  constructor
  · rintro ⟨h1, h2, h3⟩
    apply Nat.eq_of_testBit_eq
    intro i
    rw [Nat.testBit_and, tb_le, tb_le, tb_le, Bool.eq_iff_iff, Bool.and_eq_true]
    constructor
    · exact fun h => ⟨le_trans g hc ha h h1, le_trans g hc hb h h2⟩
    · exact fun h => h3 i (g.le_lt ha h.1) h.1 h.2
  · intro h
    have hh : ∀ i, le A i c = (le A i a && le A i b) := fun i => by rw [← tb_le, h, Nat.testBit_and, tb_le, tb_le]
    have h1 := hh c
    rw [le_refl g hc] at h1
    have h2 := Bool.and_eq_true_iff.1 h1.symm
    exact ⟨h2.1, h2.2, fun d _ h3 h4 => by rw [hh, h3, h4]; rfl⟩
theorem meetO_dec {n : Nat} {A : Nat → Nat} (g : Good n A) {a b : Nat} (ha : a < n) (hb : b < n) : meetO n A a b = decO n A (clo A a &&& clo A b) :=
  find_same fun _ hx => isMeet_clo g ha hb (List.mem_range.1 hx)

/-- The last of the row, and the first. -/
def hiL (n : Nat) (A : Nat → Nat) : Nat := (lineL n A).getLastD 0
def loL (n : Nat) (A : Nat → Nat) : Nat := (lineL n A).headD 0
theorem mem_line {n : Nat} {A : Nat → Nat} (g : Good n A) (t : Anti A) (a : Nat) : a ∈ lineL n A ↔ a < n := by
  rw [(lineL_lined g t).1.mem, tb_allS, decide_eq_true_eq]
theorem line_ne {n : Nat} {A : Nat → Nat} (g : Good n A) (t : Anti A) : lineL n A ≠ [] := by
  intro h
  have := (lineL_lined g t).2
  have := g.pos
  rw [h] at *
  simp at *
  omega
theorem hi_spec {n : Nat} {A : Nat → Nat} (g : Good n A) (t : Anti A) : hiL n A < n ∧ ∀ x, x < n → le A (hiL n A) x = true → x = hiL n A := by
  have hl := (lineL_lined g t).1
  have hm := mem_line g t
  have hne := line_ne g t
  unfold hiL
  have hlast : (lineL n A).getLastD 0 = (lineL n A).getLast hne := by
    rw [List.getLastD_eq_getLast?, List.getLast?_eq_some_getLast hne]; rfl
  rw [hlast]
  have hsplit := List.dropLast_concat_getLast hne
  have hrow := hl.row
  rw [← hsplit, List.pairwise_append] at hrow
  refine ⟨(hm _).1 (List.getLast_mem hne), fun x hx h => ?_⟩
  have hx' := (hm x).2 hx
  rw [← hsplit, List.mem_append, List.mem_singleton] at hx'
  rcases hx' with hx' | hx'
  · have := hrow.2.2 x hx' _ (List.mem_singleton.2 rfl)
    rw [h] at this; cases this
  · exact hx'
theorem lo_spec {n : Nat} {A : Nat → Nat} (g : Good n A) (t : Anti A) : loL n A < n ∧ ∀ x, x < n → le A x (loL n A) = true → x = loL n A := by
  have hl := (lineL_lined g t).1
  have hm := mem_line g t
  have hne := line_ne g t
  unfold loL
  cases hc : lineL n A with
  | nil => exact absurd hc hne
  | cons y r =>
    rw [hc] at hl hm
    have hrow := hl.row
    rw [List.pairwise_cons] at hrow
    rw [List.headD_cons]
    refine ⟨(hm _).1 (by simp), fun x hx h => ?_⟩
    have hx' := (hm x).2 hx
    rcases List.mem_cons.1 hx' with hx' | hx'
    · exact hx'
    · have := hrow.1 x hx'
      rw [h] at this; cases this

/-- The program's test: a high label, and a meet of every two. -/
def isP (n : Nat) (A : Nat → Nat) : Bool := (clo A (hiL n A) == 2 ^ n - 1) && (List.range n).all fun a => (List.range a).all fun b => (decO n A (clo A a &&& clo A b)).isSome
/-- The chapter's. -/
def isR (n : Nat) (A : Nat → Nat) : Bool := (List.range n).all fun a => (List.range n).all fun b => (joinO n A a b).isSome && (meetO n A a b).isSome
theorem isR_iff {n : Nat} {A : Nat → Nat} : isR n A = true ↔ ∀ a b, a < n → b < n → (joinO n A a b).isSome = true ∧ (meetO n A a b).isSome = true := by
  unfold isR
  simp only [List.all_eq_true, List.mem_range, Bool.and_eq_true]
  exact ⟨fun h a b ha hb => h a ha b hb, fun h a ha b hb => h a b ha hb⟩

theorem top_clo {n : Nat} {A : Nat → Nat} (g : Good n A) {c : Nat} (hc : c < n) : clo A c = 2 ^ n - 1 ↔ ∀ i, i < n → le A i c = true := by
  constructor
  · intro h i hi
    rw [← tb_le, h, Nat.testBit_two_pow_sub_one]
    simpa using hi
  · intro h
    apply Nat.eq_of_testBit_eq
    intro i
    rw [Nat.testBit_two_pow_sub_one, tb_le, Bool.eq_iff_iff, decide_eq_true_eq]
    exact ⟨fun h' => g.le_lt hc h', h i⟩

/-- What all of a row have that have these bits. -/
def jcL (A : Nat → Nat) (bits : Nat) (l : List Nat) (c : Nat) : Nat := l.foldl (fun c x => if bits &&& clo A x == bits then c &&& clo A x else c) c
def jc (n : Nat) (A : Nat → Nat) (bits : Nat) : Nat := jcL A bits (List.range n) (clo A (hiL n A))
theorem tb_jcL (A : Nat → Nat) (bits i : Nat) : ∀ (l : List Nat) (c : Nat), (jcL A bits l c).testBit i = true ↔ c.testBit i = true ∧ ∀ x ∈ l, bits &&& clo A x = bits → le A i x = true
  | [], c => by simp [jcL]
  | x :: l, c => by
    rw [jcL, List.foldl_cons, ← jcL, tb_jcL A bits i l]
    by_cases h : bits &&& clo A x = bits
    · simp only [h, beq_self_eq_true, if_true, Nat.testBit_and, Bool.and_eq_true, tb_le, List.mem_cons, forall_eq_or_imp, forall_const, and_assoc]
    · have h' : (bits &&& clo A x == bits) = false := by simpa using h
      simp only [h', Bool.false_eq_true, if_false, List.mem_cons, forall_eq_or_imp, h, false_implies, true_and]
theorem isP_meet {n : Nat} {A : Nat → Nat} (_g : Good n A) (_t : Anti A) (h : isP n A = true) {a b : Nat} (ha : a < n) (hb : b < n) : ∃ c, c < n ∧ clo A c = clo A a &&& clo A b := by
  unfold isP at h
  simp only [Bool.and_eq_true, List.all_eq_true, List.mem_range] at h
  rcases Nat.lt_trichotomy a b with hab | rfl | hab
  · obtain ⟨c, hc⟩ := Option.isSome_iff_exists.1 (h.2 b hb a hab)
    exact ⟨c, (decO_some hc).1, by rw [(decO_some hc).2, Nat.and_comm]⟩
  · exact ⟨a, ha, by rw [Nat.and_self]⟩
  · obtain ⟨c, hc⟩ := Option.isSome_iff_exists.1 (h.2 a ha b hab)
    exact ⟨c, decO_some hc⟩
theorem jcL_code {n : Nat} {A : Nat → Nat} (g : Good n A) (t : Anti A) (h : isP n A = true) (bits : Nat) : ∀ (l : List Nat) (c : Nat), (∀ x ∈ l, x < n) → c < n → ∃ j, j < n ∧ clo A j = jcL A bits l (clo A c)
  | [], c, _, hc => ⟨c, hc, rfl⟩
  | x :: l, c, hl, hc => by
    rw [jcL, List.foldl_cons, ← jcL]
    split
    · obtain ⟨d, hd, e⟩ := isP_meet g t h hc (hl x (by simp))
      rw [← e]
      exact jcL_code g t h bits l d (fun y hy => hl y (by simp [hy])) hd
    · exact jcL_code g t h bits l c (fun y hy => hl y (by simp [hy])) hc
theorem isP_top {n : Nat} {A : Nat → Nat} (g : Good n A) (t : Anti A) (h : isP n A = true) {i : Nat} (hi : i < n) : le A i (hiL n A) = true := by
  unfold isP at h
  rw [Bool.and_eq_true, beq_iff_eq] at h
  exact (top_clo g (hi_spec g t).1).1 h.1 i hi
theorem isP_join {n : Nat} {A : Nat → Nat} (g : Good n A) (t : Anti A) (h : isP n A = true) {a b : Nat} (ha : a < n) (hb : b < n) :
    ∃ j, j < n ∧ clo A j = jc n A (clo A a ||| clo A b) ∧ isJoin n A a b j = true := by
  obtain ⟨j, hj, e⟩ := jcL_code g t h (clo A a ||| clo A b) (List.range n) (hiL n A) (fun x hx => List.mem_range.1 hx) (hi_spec g t).1
  have hb' : ∀ i, le A i j = true ↔ le A i (hiL n A) = true ∧ ∀ x ∈ List.range n, (clo A a ||| clo A b) &&& clo A x = clo A a ||| clo A b → le A i x = true := fun i => by
    rw [← tb_le, e, tb_jcL, tb_le]
  have hin : ∀ x, (clo A a ||| clo A b) &&& clo A x = clo A a ||| clo A b → ∀ i, (le A i a = true ∨ le A i b = true) → le A i x = true := fun x hx i hi => by
    have := congrArg (fun s => s.testBit i) hx
    simp only [Nat.testBit_and, Nat.testBit_or, tb_le] at this
    cases h1 : le A i x with
    | true => rfl
    | false => rw [h1] at this; rcases hi with hi | hi <;> rw [hi] at this <;> simp at this
  refine ⟨j, hj, e, isJoin_iff.2 ⟨(hb' a).2 ⟨isP_top g t h ha, fun x _ hx => hin x hx a (.inl (le_refl g ha))⟩, (hb' b).2 ⟨isP_top g t h hb, fun x _ hx => hin x hx b (.inr (le_refl g hb))⟩, fun d hd h1 h2 => ?_⟩⟩
  refine ((hb' j).1 (le_refl g hj)).2 d (List.mem_range.2 hd) ?_
  apply Nat.eq_of_testBit_eq
  intro i
  rw [Nat.testBit_and, Nat.testBit_or, tb_le, tb_le, tb_le]
  cases h3 : le A i a with
  | true => simp [le_trans g ha hd h3 h1]
  | false =>
    cases h4 : le A i b with
    | true => simp [le_trans g hb hd h4 h2]
    | false => simp

theorem isJoin_uniq {n : Nat} {A : Nat → Nat} (g : Good n A) (t : Anti A) {a b c d : Nat} (hc : c < n) (hd : d < n) (h1 : isJoin n A a b c = true) (h2 : isJoin n A a b d = true) : c = d := by
  obtain ⟨p1, p2, p3⟩ := isJoin_iff.1 h1
  obtain ⟨q1, q2, q3⟩ := isJoin_iff.1 h2
  exact le_anti g t hc hd (p3 d hd q1 q2) (q3 c hc p1 p2)
theorem joinO_dec {n : Nat} {A : Nat → Nat} (g : Good n A) (t : Anti A) (h : isP n A = true) {a b : Nat} (ha : a < n) (hb : b < n) :
    ∃ j, j < n ∧ joinO n A a b = some j ∧ decO n A (jc n A (clo A a ||| clo A b)) = some j := by
  obtain ⟨j, hj, e, hJ⟩ := isP_join g t h ha hb
  exact ⟨j, hj, find_uniq hj hJ (fun d hd hd' => isJoin_uniq g t hd hj hd' hJ), by rw [← e]; exact decO_clo g t hj⟩
theorem meetO_some {n : Nat} {A : Nat → Nat} (g : Good n A) (t : Anti A) (h : isP n A = true) {a b : Nat} (ha : a < n) (hb : b < n) :
    ∃ j, j < n ∧ meetO n A a b = some j ∧ decO n A (clo A a &&& clo A b) = some j := by
  obtain ⟨c, hc, e⟩ := isP_meet g t h ha hb
  have hd : decO n A (clo A a &&& clo A b) = some c := by rw [← e]; exact decO_clo g t hc
  exact ⟨c, hc, by rw [meetO_dec g ha hb, hd], hd⟩

/-- Both tests are one. -/
theorem isP_isR {n : Nat} {A : Nat → Nat} (g : Good n A) (t : Anti A) : isP n A = isR n A := by
  rw [Bool.eq_iff_iff]
  constructor
  · intro h
    rw [isR_iff]
    intro a b ha hb
    obtain ⟨j, _, h1, _⟩ := joinO_dec g t h ha hb
    obtain ⟨m, _, h2, _⟩ := meetO_some g t h ha hb
    rw [h1, h2]
    exact ⟨rfl, rfl⟩
  · intro h
    rw [isR_iff] at h
    unfold isP
    simp only [Bool.and_eq_true, List.all_eq_true, List.mem_range, beq_iff_eq]
    obtain ⟨hh, hmax⟩ := hi_spec g t
    refine ⟨(top_clo g hh).2 fun i hi => ?_, fun a ha b hb => ?_⟩
    · obtain ⟨c, hc⟩ := Option.isSome_iff_exists.1 (h (hiL n A) i hh hi).1
      obtain ⟨hc1, hc2⟩ := find_spec hc
      obtain ⟨p1, p2, _⟩ := isJoin_iff.1 hc2
      rw [hmax c hc1 p1] at p2
      exact p2
    · have := (h a b ha (by omega)).2
      rwa [meetO_dec g ha (by omega)] at this

/-- The join and the meet as the program lays them. -/
def joinP (n : Nat) (A : Nat → Nat) (a b : Nat) : Nat := (decO n A (jc n A (clo A a ||| clo A b))).getD 0
def meetP (n : Nat) (A : Nat → Nat) (a b : Nat) : Nat := (decO n A (clo A a &&& clo A b)).getD 0
theorem joinP_eq {n : Nat} {A : Nat → Nat} (g : Good n A) (t : Anti A) (h : isP n A = true) {a b : Nat} (ha : a < n) (hb : b < n) : joinO n A a b = some (joinP n A a b) ∧ joinP n A a b < n := by
  obtain ⟨j, hj, h1, h2⟩ := joinO_dec g t h ha hb
  unfold joinP
  rw [h2]
  exact ⟨h1, hj⟩
theorem meetP_eq {n : Nat} {A : Nat → Nat} (g : Good n A) (t : Anti A) (h : isP n A = true) {a b : Nat} (ha : a < n) (hb : b < n) : meetO n A a b = some (meetP n A a b) ∧ meetP n A a b < n := by
  obtain ⟨j, hj, h1, h2⟩ := meetO_some g t h ha hb
  unfold meetP
  rw [h2]
  exact ⟨h1, hj⟩

/-- The low and the high label, as the chapter finds them. -/
def lowR (n : Nat) (A : Nat → Nat) : Option Nat := (List.range n).find? fun a => (List.range n).all fun b => le A a b
def highR (n : Nat) (A : Nat → Nat) : Option Nat := (List.range n).find? fun a => (List.range n).all fun b => le A b a
theorem isP_bot {n : Nat} {A : Nat → Nat} (g : Good n A) (t : Anti A) (h : isP n A = true) {i : Nat} (hi : i < n) : le A (loL n A) i = true := by
  obtain ⟨hl, hmin⟩ := lo_spec g t
  obtain ⟨c, hc, hm, _⟩ := meetO_some g t h hl hi
  obtain ⟨p1, p2, _⟩ := isMeet_iff.1 (find_spec hm).2
  rw [hmin c hc p1] at p2
  exact p2
theorem lowR_eq {n : Nat} {A : Nat → Nat} (g : Good n A) (t : Anti A) (h : isP n A = true) : lowR n A = some (loL n A) := by
  obtain ⟨hl, hmin⟩ := lo_spec g t
  refine find_uniq hl ?_ fun d hd h' => ?_
  · rw [List.all_eq_true]
    exact fun b hb => isP_bot g t h (List.mem_range.1 hb)
  · rw [List.all_eq_true] at h'
    exact hmin d hd (h' _ (List.mem_range.2 hl))
theorem highR_eq {n : Nat} {A : Nat → Nat} (g : Good n A) (t : Anti A) (h : isP n A = true) : highR n A = some (hiL n A) := by
  obtain ⟨hl, hmax⟩ := hi_spec g t
  refine find_uniq hl ?_ fun d hd h' => ?_
  · rw [List.all_eq_true]
    exact fun b hb => isP_top g t h (List.mem_range.1 hb)
  · rw [List.all_eq_true] at h'
    exact hmax d hd (h' _ (List.mem_range.2 hl))
end Go.Proofs.YtaikhdmgcffflaaDoor
