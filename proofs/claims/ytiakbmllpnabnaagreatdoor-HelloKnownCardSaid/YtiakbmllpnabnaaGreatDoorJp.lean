/- Plain facts of a greeting: its bytes, what is told of bytes. Plain facts of a greeting: what is written is told again, and what is told was written. Plain facts of a greeting: what is told was written. Plain facts of a greeting: another way to read it (all extensions first, then the host's among them) tells the same. -/
import Derived.Test.YtiakbmllpnabnaaGreatDoorGp
namespace Go.Proofs.YtiakbmllpnabnaaGreatDoor
open Go Go.RowKit Pl

/-- a number in so many bytes -/
def rowB (n : Nat) : Nat → List UInt8
  | 0 => []
  | k + 1 => UInt8.ofNat (n / 256 ^ k) :: rowB n k
def be (l : List UInt8) : Nat := l.foldl (fun n c => n * 256 + c.toNat) 0
def fillB (l : List UInt8) (k : Nat) : List UInt8 := rowB l.length k ++ l
theorem rowB_len (n : Nat) : ∀ k, (rowB n k).length = k
  | 0 => rfl
  | k + 1 => by rw [rowB, List.length_cons, rowB_len n k]
theorem foldl_be (l : List UInt8) : ∀ a, l.foldl (fun n c => n * 256 + c.toNat) a = a * 256 ^ l.length + be l := by
  unfold be
  induction l with
  | nil => intro a; simp
  | cons c l ih =>
    intro a
    rw [List.foldl_cons, List.foldl_cons, ih, ih (0 * 256 + c.toNat), List.length_cons, Nat.pow_succ']
    rw [Nat.zero_mul, Nat.zero_add, Nat.add_mul, Nat.mul_assoc, Nat.add_assoc]
theorem be_cons (c : UInt8) (l : List UInt8) : be (c :: l) = c.toNat * 256 ^ l.length + be l := by
  show (c :: l).foldl _ 0 = _
  rw [List.foldl_cons, foldl_be]; simp
theorem be_snoc (l : List UInt8) (c : UInt8) : be (l ++ [c]) = be l * 256 + c.toNat := by unfold be; rw [List.foldl_append]; rfl
theorem be_lt (l : List UInt8) : be l < 256 ^ l.length := by
  induction l with
  | nil => simp [be]
  | cons c l ih =>
    rw [be_cons, List.length_cons, Nat.pow_succ']
    have := c.toNat_lt
    have h2 : c.toNat * 256 ^ l.length ≤ 255 * 256 ^ l.length := Nat.mul_le_mul_right _ (by omega)
    have : 256 * 256 ^ l.length = 255 * 256 ^ l.length + 256 ^ l.length := by rw [← Nat.succ_mul]
    omega
theorem be_row (n : Nat) : ∀ k, n < 256 ^ k → be (rowB n k) = n
  | 0, h => by simp at h; subst h; rfl
  | k + 1, h => by
    have hk : ∀ m j, be (rowB m j) = m % 256 ^ j := by
      intro m j
      induction j with
      | zero => simp [rowB, be, Nat.mod_one]
      | succ j ih =>
        have e := Nat.mod_mul (x := m) (a := 256 ^ j) (b := 256)
        have u : (UInt8.ofNat (m / 256 ^ j)).toNat = m / 256 ^ j % 256 := by rw [UInt8.toNat_ofNat']
        rw [rowB, be_cons, ih, rowB_len, u, Nat.pow_succ, e, Nat.mul_comm, Nat.add_comm]
    rw [hk, Nat.mod_eq_of_lt h]
theorem row_be (l : List UInt8) : rowB (be l) l.length = l := by
  have key : ∀ (l : List UInt8) (q : Nat), rowB (q * 256 ^ l.length + be l) l.length = l := by
    intro l
    induction l with
    | nil => intro q; rfl
    | cons c l ih =>
      intro q
      rw [List.length_cons, rowB, be_cons]
      congr 1
      · have h1 : (q * 256 ^ (l.length + 1) + (c.toNat * 256 ^ l.length + be l)) / 256 ^ l.length = q * 256 + c.toNat := by
          have : q * 256 ^ (l.length + 1) + (c.toNat * 256 ^ l.length + be l) = be l + (q * 256 + c.toNat) * 256 ^ l.length := by
            rw [Nat.pow_succ, Nat.add_mul, Nat.mul_assoc q, Nat.mul_comm (256 ^ l.length) 256]; omega
          rw [this, Nat.add_mul_div_right _ _ (Nat.pow_pos (by decide)), Nat.div_eq_of_lt (be_lt l), Nat.zero_add]
        rw [h1]
        apply UInt8.toNat_inj.1
        rw [UInt8.toNat_ofNat']
        have := c.toNat_lt
        omega
      · have : q * 256 ^ (l.length + 1) + (c.toNat * 256 ^ l.length + be l) = (q * 256 + c.toNat) * 256 ^ l.length + be l := by
          rw [Nat.pow_succ, Nat.add_mul, Nat.mul_assoc q, Nat.mul_comm (256 ^ l.length) 256]; omega
        rw [this, ih]
  simpa using key l 0

/-- a greeting -/
structure Grt where
  minor : Int
  rnd : List UInt8
  ses : List UInt8
  suites : List Int
  meth : List UInt8
  host : List UInt8
  pos : Int
  exts : List (Int × List UInt8)
def isH (s : List UInt8) : Bool := isPl (lowS s)
def typesOk : List (Int × List UInt8) → Bool
  | [] => true
  | x :: l => decide (1 ≤ x.1) && decide (x.1 ≤ 65535) && decide (x.2.length ≤ 65535) && !(l.any fun y => decide (y.1 = x.1)) && typesOk l
def extsOk (l : List (Int × List UInt8)) (pos : Int) : Bool := decide (0 ≤ pos) && decide (pos ≤ l.length) && typesOk l
def methOk (l : List UInt8) : Bool := decide (l.length ≤ 255) && decide ((0 : UInt8) ∈ l)
def suitesOk (l : List Int) : Bool := l.all fun z => decide (0 ≤ z) && decide (z ≤ 65535)
def mayG (g : Grt) : Bool := decide (0 ≤ g.minor) && decide (g.minor ≤ 4) && decide (g.ses.length ≤ 32) && decide (1 ≤ g.suites.length) && decide (g.suites.length ≤ 16384) && methOk g.meth && isH g.host && extsOk g.exts g.pos && suitesOk g.suites
def encE (kind : Nat) (d : List UInt8) : List UInt8 := rowB kind 2 ++ fillB d 2
def encN (h : List UInt8) : List UInt8 := fillB (0 :: fillB h 2) 2
def encX (l : List (Int × List UInt8)) : List UInt8 := l.flatMap fun x => encE x.1.toNat x.2
def allX (g : Grt) : List UInt8 := encX (g.exts.take g.pos.toNat) ++ encE 0 (encN g.host) ++ encX (g.exts.drop g.pos.toNat)
def encS (l : List Int) : List UInt8 := l.flatMap fun z => rowB z.toNat 2
def bodyG (g : Grt) : List UInt8 := 3 :: 3 :: g.rnd ++ fillB g.ses 1 ++ fillB (encS g.suites) 2 ++ fillB g.meth 1 ++ fillB (allX g) 2
def msgG (g : Grt) : List UInt8 := 1 :: fillB (bodyG g) 3
def writeG (g : Grt) : Option (List UInt8) := if mayG g && decide ((msgG g).length ≤ 16384) then some (22 :: 3 :: UInt8.ofNat g.minor.toNat :: fillB (msgG g) 2) else none

/-- What is left to read; none: something was wrong. -/
abbrev Cu := Option (List UInt8)
def tkV : Cu → Nat → List UInt8
  | some B, n => if n ≤ B.length then B.take n else []
  | none, _ => []
def tkC : Cu → Nat → Cu
  | some B, n => if n ≤ B.length then some (B.drop n) else none
  | none, _ => none
def nmV (c : Cu) (k : Nat) : Nat := be (tkV c k)
def flV (c : Cu) (k : Nat) : List UInt8 := tkV (tkC c k) (nmV c k)
def flC (c : Cu) (k : Nat) : Cu := tkC (tkC c k) (nmV c k)
def muC (c : Cu) (b : Bool) : Cu := if b then c else none
def lenC : Cu → Nat
  | some B => B.length
  | none => 0
def reC (c : Cu) (k : Nat) : Cu := muC (tkC c k) (decide (nmV c k = lenC (tkC c k)))
def naC1 (d : List UInt8) : Cu := muC (tkC (reC (some d) 2) 1) (decide (nmV (reC (some d) 2) 1 = 0))
def naV (d : List UInt8) : List UInt8 := flV (naC1 d) 2
def naC (d : List UInt8) : Cu := muC (flC (naC1 d) 2) (decide (lenC (flC (naC1 d) 2) = 0))

/-- the reader among the extensions -/
structure Pst where
  c : Cu
  named : Bool
  host : List UInt8
  pos : Nat
  exts : List (Int × List UInt8)
def live (p : Pst) : Bool := match p.c with | some (_ :: _) => true | _ => false
def rnd1 (p : Pst) : Pst :=
  if 0 < nmV p.c 2 then { p with c := flC (tkC p.c 2) 2, exts := p.exts ++ [((nmV p.c 2 : Int), flV (tkC p.c 2) 2)] }
  else { c := muC (flC (tkC p.c 2) 2) ((naC (flV (tkC p.c 2) 2)).isSome && !p.named), named := true, host := naV (flV (tkC p.c 2) 2), pos := p.exts.length, exts := p.exts }
def runX : Nat → Pst → Pst
  | 0, p => p
  | n + 1, p => if live p then runX n (rnd1 p) else p
def pad32 (l : List UInt8) : List UInt8 := l ++ List.replicate (32 - l.length) 0
def suitesL : List UInt8 → List Int
  | a :: b :: r => ((a.toNat * 256 + b.toNat : Nat) : Int) :: suitesL r
  | _ => []
def c1 (b : List UInt8) : Cu := muC (tkC (some b) 1) (decide (nmV (some b) 1 = 22))
def c2 (b : List UInt8) : Cu := muC (tkC (c1 b) 1) (decide (nmV (c1 b) 1 = 3))
def c3 (b : List UInt8) : Cu := tkC (c2 b) 1
def c4 (b : List UInt8) : Cu := reC (c3 b) 2
def c5 (b : List UInt8) : Cu := muC (c4 b) (decide (lenC (c4 b) ≤ 16384))
def c6 (b : List UInt8) : Cu := muC (tkC (c5 b) 1) (decide (nmV (c5 b) 1 = 1))
def c7 (b : List UInt8) : Cu := reC (c6 b) 3
def c8 (b : List UInt8) : Cu := muC (tkC (c7 b) 2) (decide (nmV (c7 b) 2 = 771))
def c9 (b : List UInt8) : Cu := tkC (c8 b) 32
def c10 (b : List UInt8) : Cu := flC (c9 b) 1
def c11 (b : List UInt8) : Cu := muC (flC (c10 b) 2) (decide ((flV (c10 b) 2).length % 2 = 0))
def c12 (b : List UInt8) : Cu := flC (c11 b) 1
def c13 (b : List UInt8) : Cu := reC (c12 b) 2
def start7 (b : List UInt8) : Pst := ⟨c13 b, false, [], 0, []⟩
def grtOf (b : List UInt8) (p : Pst) : Grt := ⟨(nmV (c2 b) 1 : Int), pad32 (tkV (c8 b) 32), flV (c9 b) 1, suitesL (flV (c10 b) 2), flV (c11 b) 1, p.host, (p.pos : Int), p.exts⟩
def last7 (b : List UInt8) : Pst := runX b.length (start7 b)
def parseG (b : List UInt8) : Option Grt := if (last7 b).c.isSome && (last7 b).named && mayG (grtOf b (last7 b)) then some (grtOf b (last7 b)) else none

theorem tk_some {c : Cu} {n : Nat} {B : List UInt8} (h : tkC c n = some B) : c = some (tkV c n ++ B) ∧ (tkV c n).length = n := by
  cases c with
  | none => cases h
  | some A =>
    unfold tkC at h
    unfold tkV
    by_cases hn : n ≤ A.length
    · simp only [hn, if_true] at h ⊢
      injection h with h
      subst h
      exact ⟨by rw [List.take_append_drop], by rw [List.length_take]; omega⟩
    · simp only [hn, if_false] at h; cases h
theorem mu_some {c : Cu} {b : Bool} {B : List UInt8} (h : muC c b = some B) : c = some B ∧ b = true := by
  unfold muC at h
  cases b with
  | true => exact ⟨by simpa using h, rfl⟩
  | false => simp at h
theorem nm_some {c : Cu} {k : Nat} {B : List UInt8} (h : tkC c k = some B) : c = some (rowB (nmV c k) k ++ B) ∧ nmV c k < 256 ^ k := by
  obtain ⟨h1, h2⟩ := tk_some h
  have h3 := row_be (tkV c k)
  have h4 := be_lt (tkV c k)
  rw [h2] at h3 h4
  exact ⟨by unfold nmV; rw [h3]; exact h1, h4⟩
theorem fl_some {c : Cu} {k : Nat} {B : List UInt8} (h : flC c k = some B) : c = some (fillB (flV c k) k ++ B) ∧ (flV c k).length < 256 ^ k := by
  obtain ⟨h1, h2⟩ := tk_some (c := tkC c k) h
  obtain ⟨h3, h4⟩ := nm_some h1
  have h5 : (flV c k).length = nmV c k := h2
  refine ⟨?_, by rw [h5]; exact h4⟩
  unfold fillB
  rw [h5, List.append_assoc]
  exact h3
theorem re_some {c : Cu} {k : Nat} {B : List UInt8} (h : reC c k = some B) : c = some (fillB B k) ∧ B.length < 256 ^ k := by
  obtain ⟨h1, h2⟩ := mu_some h
  obtain ⟨h3, h4⟩ := nm_some h1
  rw [h1] at h2
  have h5 : nmV c k = B.length := of_decide_eq_true h2
  rw [h5] at h3 h4
  exact ⟨h3, h4⟩
theorem tk_app (x r : List UInt8) {n : Nat} (h : x.length = n) : tkV (some (x ++ r)) n = x ∧ tkC (some (x ++ r)) n = some r := by
  subst h
  unfold tkV tkC
  simp
theorem nm_app {n k : Nat} (r : List UInt8) (h : n < 256 ^ k) : nmV (some (rowB n k ++ r)) k = n ∧ tkC (some (rowB n k ++ r)) k = some r := by
  obtain ⟨h1, h2⟩ := tk_app (rowB n k) r (rowB_len n k)
  exact ⟨by unfold nmV; rw [h1, be_row n k h], h2⟩
theorem fl_app {d : List UInt8} {k : Nat} (r : List UInt8) (h : d.length < 256 ^ k) : flV (some (fillB d k ++ r)) k = d ∧ flC (some (fillB d k ++ r)) k = some r := by
  unfold fillB flV flC
  rw [List.append_assoc]
  obtain ⟨h1, h2⟩ := nm_app (k := k) (d ++ r) h
  rw [h1, h2]
  exact tk_app d r rfl
theorem re_app {d : List UInt8} {k : Nat} (h : d.length < 256 ^ k) : reC (some (fillB d k)) k = some d := by
  unfold reC fillB
  obtain ⟨h1, h2⟩ := nm_app (k := k) d h
  rw [h1, h2]
  simp [muC, lenC]
/-- one byte as a number -/
theorem row1 (n : Nat) : rowB n 1 = [UInt8.ofNat n] := by simp [rowB]
theorem row1B (c : UInt8) : rowB c.toNat 1 = [c] := by rw [row1]; simp
theorem nm1 (c : UInt8) (r : List UInt8) : nmV (some (c :: r)) 1 = c.toNat ∧ tkC (some (c :: r)) 1 = some r := by
  have := nm_app (n := c.toNat) (k := 1) r (by simpa using c.toNat_lt)
  rw [row1B] at this
  exact this
end Go.Proofs.YtiakbmllpnabnaaGreatDoor
namespace Go.Proofs.YtiakbmllpnabnaaGreatDoor
open Go Go.RowKit Pl

theorem muT (c : Cu) : muC c true = c := rfl
theorem isH_len {s : List UInt8} (h : isH s = true) : s.length ≤ 60 := by
  have := isPl_len h
  unfold lowS at this
  rwa [List.length_map] at this
theorem encN_len (h : List UInt8) : (encN h).length = h.length + 5 := by unfold encN fillB; simp [rowB_len]; omega
theorem encE_len (k : Nat) (d : List UInt8) : (encE k d).length = d.length + 4 := by unfold encE fillB; simp [rowB_len]; omega
theorem encX_cons (x : Int × List UInt8) (l : List (Int × List UInt8)) : encX (x :: l) = encE x.1.toNat x.2 ++ encX l := by unfold encX; rw [List.flatMap_cons]
theorem encX_app (l m : List (Int × List UInt8)) : encX (l ++ m) = encX l ++ encX m := by unfold encX; rw [List.flatMap_append]
theorem encX_nil : encX [] = [] := rfl

/- the host's extension -/
theorem na_enc {h : List UInt8} (hl : h.length < 65000) : naV (encN h) = h ∧ naC (encN h) = some [] := by
  have e0 : reC (some (encN h)) 2 = some (0 :: fillB h 2) := re_app (by unfold fillB; simp [rowB_len]; omega)
  have e1 : naC1 (encN h) = some (fillB h 2 ++ []) := by
    unfold naC1
    rw [e0, (nm1 0 _).1, (nm1 0 _).2, List.append_nil]; rfl
  obtain ⟨f1, f2⟩ := fl_app (d := h) (k := 2) [] (by omega)
  exact ⟨by unfold naV; rw [e1, f1], by unfold naC; rw [e1, f2]; rfl⟩
theorem na_back {d : List UInt8} (h : (naC d).isSome = true) : d = encN (naV d) := by
  obtain ⟨B, hB⟩ := Option.isSome_iff_exists.1 h
  obtain ⟨h1, h2⟩ := mu_some hB
  have hB0 : B = [] := by
    rw [h1] at h2
    exact List.length_eq_zero_iff.1 (of_decide_eq_true h2)
  subst hB0
  obtain ⟨h3, h4⟩ := fl_some h1
  obtain ⟨h5, h6⟩ := mu_some h3
  obtain ⟨h7, _⟩ := nm_some h5
  rw [of_decide_eq_true h6] at h7
  obtain ⟨h8, _⟩ := re_some h7
  injection h8 with h8
  rw [row1, List.append_nil] at h8
  exact h8

/- the extensions: forth -/
theorem rnd_ext {p : Pst} {k : Nat} {d R : List UInt8} (hc : p.c = some (encE k d ++ R)) (h1 : 0 < k) (h2 : k < 65536) (hd : d.length < 65536) :
    live p = true ∧ rnd1 p = { p with c := some R, exts := p.exts ++ [((k : Int), d)] } := by
  unfold encE at hc
  rw [List.append_assoc] at hc
  obtain ⟨e1, e2⟩ := nm_app (n := k) (k := 2) (fillB d 2 ++ R) (by omega)
  obtain ⟨f1, f2⟩ := fl_app (d := d) (k := 2) R (by omega)
  refine ⟨by unfold live; rw [hc]; rfl, ?_⟩
  unfold rnd1
  rw [hc, e1, e2, if_pos h1, f1, f2]
theorem rnd_name {p : Pst} {h R : List UInt8} (hc : p.c = some (encE 0 (encN h) ++ R)) (hl : h.length < 65000) (hn : p.named = false) :
    live p = true ∧ rnd1 p = ⟨some R, true, h, p.exts.length, p.exts⟩ := by
  unfold encE at hc
  rw [List.append_assoc] at hc
  obtain ⟨e1, e2⟩ := nm_app (n := 0) (k := 2) (fillB (encN h) 2 ++ R) (by omega)
  obtain ⟨f1, f2⟩ := fl_app (d := encN h) (k := 2) R (by rw [encN_len]; omega)
  obtain ⟨n1, n2⟩ := na_enc hl
  refine ⟨by unfold live; rw [hc]; rfl, ?_⟩
  unfold rnd1
  rw [hc, e1, e2, if_neg (Nat.lt_irrefl 0), f1, f2, n1, n2, hn]; rfl
theorem run_more {n : Nat} {p : Pst} (h : live p = true) : runX (n + 1) p = runX n (rnd1 p) := by rw [runX, if_pos h]
theorem run_done {p : Pst} (h : live p = false) : ∀ n, runX n p = p
  | 0 => rfl
  | n + 1 => by rw [runX, h]; rfl
theorem run_exts : ∀ (l : List (Int × List UInt8)) (n : Nat) (p : Pst) (R : List UInt8), p.c = some (encX l ++ R) → (∀ x ∈ l, 1 ≤ x.1 ∧ x.1 ≤ 65535 ∧ x.2.length ≤ 65535) →
    runX (l.length + n) p = runX n { p with c := some R, exts := p.exts ++ l }
  | [], n, p, R, hc, _ => by
    obtain ⟨c, nm, h, ps, ex⟩ := p
    simp only at hc
    subst hc
    simp [encX]
  | x :: l, n, p, R, hc, hx => by
    obtain ⟨h1, h2, h3⟩ := hx x (List.mem_cons_self ..)
    rw [encX_cons, List.append_assoc] at hc
    obtain ⟨e1, e2⟩ := rnd_ext hc (by omega) (by omega) (by omega)
    rw [List.length_cons, show l.length + 1 + n = l.length + n + 1 by omega, run_more e1, e2, run_exts l n _ R rfl (fun y hy => hx y (List.mem_cons_of_mem _ hy))]
    congr 1
    have : ((x.1.toNat : Int), x.2) = x := by rw [show (x.1.toNat : Int) = x.1 by omega]
    rw [this, List.append_assoc]; rfl
theorem typesOk_all : ∀ {l : List (Int × List UInt8)}, typesOk l = true → ∀ x ∈ l, 1 ≤ x.1 ∧ x.1 ≤ 65535 ∧ x.2.length ≤ 65535
  | y :: l, h, x, hx => by
    rw [typesOk] at h
    simp only [Bool.and_eq_true, decide_eq_true_iff] at h
    rcases List.mem_cons.1 hx with rfl | hx
    · exact ⟨h.1.1.1.1, h.1.1.1.2, h.1.1.2⟩
    · exact typesOk_all h.2 x hx
theorem encX_many : ∀ l : List (Int × List UInt8), l.length ≤ (encX l).length
  | [] => Nat.le_refl _
  | x :: l => by rw [encX_cons, List.length_append, encE_len, List.length_cons]; have := encX_many l; omega

/- the suites -/
theorem encS_len (l : List Int) : (encS l).length = 2 * l.length := by
  unfold encS
  induction l with
  | nil => rfl
  | cons z l ih => rw [List.flatMap_cons, List.length_append, ih, rowB_len, List.length_cons]; omega
theorem row2 (n : Nat) : rowB n 2 = [UInt8.ofNat (n / 256), UInt8.ofNat n] := by simp [rowB]
theorem suites_enc : ∀ {l : List Int}, suitesOk l = true → suitesL (encS l) = l
  | [], _ => rfl
  | z :: l, h => by
    unfold suitesOk at h
    rw [List.all_cons, Bool.and_eq_true, Bool.and_eq_true, decide_eq_true_iff, decide_eq_true_iff] at h
    have ih := suites_enc (l := l) h.2
    show suitesL (rowB z.toNat 2 ++ encS l) = _
    rw [row2]
    show _ :: suitesL (encS l) = _
    rw [ih]
    congr 1
    rw [UInt8.toNat_ofNat', UInt8.toNat_ofNat']
    omega
theorem suites_back : ∀ {l : List UInt8}, l.length % 2 = 0 → encS (suitesL l) = l ∧ suitesOk (suitesL l) = true
  | [], _ => ⟨rfl, rfl⟩
  | [_], h => by simp at h
  | a :: b :: l, h => by
    have ih := suites_back (l := l) (by simp at h; omega)
    have ha := a.toNat_lt
    have hb := b.toNat_lt
    constructor
    · show rowB ((a.toNat * 256 + b.toNat : Nat) : Int).toNat 2 ++ encS (suitesL l) = _
      rw [ih.1, row2, Int.toNat_natCast]
      show _ :: _ :: l = _
      congr 1
      · apply UInt8.toNat_inj.1; rw [UInt8.toNat_ofNat']; omega
      · congr 1; apply UInt8.toNat_inj.1; rw [UInt8.toNat_ofNat']; omega
    · show suitesOk (((a.toNat * 256 + b.toNat : Nat) : Int) :: suitesL l) = true
      unfold suitesOk at ih ⊢
      rw [List.all_cons, ih.2, Bool.and_true, Bool.and_eq_true, decide_eq_true_iff, decide_eq_true_iff]
      omega

theorem bodyG_len (g : Grt) : (bodyG g).length = 2 + g.rnd.length + (g.ses.length + 1) + ((encS g.suites).length + 2) + (g.meth.length + 1) + ((allX g).length + 2) := by
  unfold bodyG fillB; simp [rowB_len]; omega
theorem msgG_len (g : Grt) : (msgG g).length = (bodyG g).length + 4 := by unfold msgG fillB; simp [rowB_len]; omega
theorem write_some {g : Grt} {b : List UInt8} (h : writeG g = some b) : mayG g = true ∧ (msgG g).length ≤ 16384 ∧ b = 22 :: 3 :: UInt8.ofNat g.minor.toNat :: fillB (msgG g) 2 := by
  unfold writeG at h
  split at h
  · rename_i hc
    rw [Bool.and_eq_true, decide_eq_true_iff] at hc
    injection h with h
    exact ⟨hc.1, hc.2, h.symm⟩
  · cases h
theorem mayG_iff {g : Grt} (h : mayG g = true) : (0 ≤ g.minor ∧ g.minor ≤ 4) ∧ g.ses.length ≤ 32 ∧ (1 ≤ g.suites.length ∧ g.suites.length ≤ 16384) ∧ methOk g.meth = true ∧ isH g.host = true ∧ extsOk g.exts g.pos = true ∧ suitesOk g.suites = true := by
  unfold mayG at h
  simp only [Bool.and_eq_true, decide_eq_true_iff] at h
  exact ⟨h.1.1.1.1.1.1.1, h.1.1.1.1.1.1.2, ⟨h.1.1.1.1.1.2, h.1.1.1.1.2⟩, h.1.1.1.2, h.1.1.2, h.1.2, h.2⟩
set_option maxRecDepth 10000 in
theorem parse_of_write {g : Grt} {b : List UInt8} (hr : g.rnd.length = 32) (h : writeG g = some b) : parseG b = some g := by
  obtain ⟨hm, hl, rfl⟩ := write_some h
  obtain ⟨⟨m0, m4⟩, hs, ⟨u1, u2⟩, hme, hh, hx, hsu⟩ := mayG_iff hm
  have hbl := bodyG_len g
  have hml := msgG_len g
  have hh60 := isH_len hh
  unfold methOk at hme
  rw [Bool.and_eq_true, decide_eq_true_iff] at hme
  unfold extsOk at hx
  rw [Bool.and_eq_true, Bool.and_eq_true, decide_eq_true_iff, decide_eq_true_iff] at hx
  obtain ⟨⟨x0, x1⟩, ht⟩ := hx
  generalize hb : 22 :: 3 :: UInt8.ofNat g.minor.toNat :: fillB (msgG g) 2 = b
  have k1 : c1 b = some (3 :: UInt8.ofNat g.minor.toNat :: fillB (msgG g) 2) := by
    unfold c1; rw [← hb, (nm1 22 _).1, (nm1 22 _).2]; rfl
  have k2 : c2 b = some (UInt8.ofNat g.minor.toNat :: fillB (msgG g) 2) := by
    unfold c2; rw [k1, (nm1 3 _).1, (nm1 3 _).2]; rfl
  have kmin : (nmV (c2 b) 1 : Int) = g.minor := by
    rw [k2, (nm1 _ _).1, UInt8.toNat_ofNat']; omega
  have k3 : c3 b = some (fillB (msgG g) 2) := by unfold c3; rw [k2, (nm1 _ _).2]
  have k4 : c4 b = some (msgG g) := by unfold c4; rw [k3]; exact re_app (by omega)
  have k5 : c5 b = some (msgG g) := by
    unfold c5; rw [k4, decide_eq_true (show lenC (some (msgG g)) ≤ 16384 from hl)]; rfl
  have k6 : c6 b = some (fillB (bodyG g) 3) := by
    unfold c6; rw [k5]
    show muC (tkC (some (1 :: fillB (bodyG g) 3)) 1) (decide (nmV (some (1 :: fillB (bodyG g) 3)) 1 = 1)) = _
    rw [(nm1 1 _).1, (nm1 1 _).2]; rfl
  have k7 : c7 b = some (bodyG g) := by unfold c7; rw [k6]; exact re_app (by omega)
  generalize hR : fillB g.ses 1 ++ (fillB (encS g.suites) 2 ++ (fillB g.meth 1 ++ fillB (allX g) 2)) = R
  have e7 : bodyG g = rowB 771 2 ++ (g.rnd ++ R) := by
    rw [← hR, row2]; unfold bodyG; simp
  have k8 : c8 b = some (g.rnd ++ R) := by
    unfold c8; rw [k7, e7]
    obtain ⟨a1, a2⟩ := nm_app (n := 771) (k := 2) (g.rnd ++ R) (by omega)
    rw [a1, a2]; rfl
  obtain ⟨a1, a2⟩ := tk_app g.rnd R hr
  have k9 : c9 b = some R := by unfold c9; rw [k8, a2]
  have krnd : pad32 (tkV (c8 b) 32) = g.rnd := by rw [k8, a1]; unfold pad32; rw [hr]; simp
  obtain ⟨b1, b2⟩ := fl_app (d := g.ses) (k := 1) (fillB (encS g.suites) 2 ++ (fillB g.meth 1 ++ fillB (allX g) 2)) (by omega)
  have kses : flV (c9 b) 1 = g.ses := by rw [k9, ← hR, b1]
  have k10 : c10 b = some (fillB (encS g.suites) 2 ++ (fillB g.meth 1 ++ fillB (allX g) 2)) := by unfold c10; rw [k9, ← hR, b2]
  obtain ⟨d1, d2⟩ := fl_app (d := encS g.suites) (k := 2) (fillB g.meth 1 ++ fillB (allX g) 2) (by omega)
  have k11 : c11 b = some (fillB g.meth 1 ++ fillB (allX g) 2) := by
    unfold c11; rw [k10, d1, d2, decide_eq_true (show (encS g.suites).length % 2 = 0 by rw [encS_len]; omega)]; rfl
  have ksu : suitesL (flV (c10 b) 2) = g.suites := by rw [k10, d1, suites_enc hsu]
  obtain ⟨f1, f2⟩ := fl_app (d := g.meth) (k := 1) (fillB (allX g) 2) (by omega)
  have kme : flV (c11 b) 1 = g.meth := by rw [k11, f1]
  have k12 : c12 b = some (fillB (allX g) 2) := by unfold c12; rw [k11, f2]
  have k13 : c13 b = some (allX g) := by unfold c13; rw [k12]; exact re_app (by omega)
  have hmem := typesOk_all ht
  have htd := List.take_append_drop g.pos.toNat g.exts
  have hlen : b.length = (msgG g).length + 5 := by rw [← hb]; unfold fillB; simp [rowB_len]; omega
  have hxl : (allX g).length = (encX (g.exts.take g.pos.toNat)).length + ((encN g.host).length + 4) + (encX (g.exts.drop g.pos.toNat)).length := by unfold allX; rw [List.length_append, List.length_append, encE_len]
  have m1 := encX_many (g.exts.take g.pos.toNat)
  have m2 := encX_many (g.exts.drop g.pos.toNat)
  have hrun : last7 b = ⟨some [], true, g.host, g.pos.toNat, g.exts⟩ := by
    unfold last7 start7
    obtain ⟨n, hn⟩ : ∃ n, b.length = (g.exts.take g.pos.toNat).length + ((g.exts.drop g.pos.toNat).length + n + 1) := ⟨b.length - (g.exts.take g.pos.toNat).length - (g.exts.drop g.pos.toNat).length - 1, by omega⟩
    rw [hn, k13]
    rw [run_exts (g.exts.take g.pos.toNat) _ ⟨some (allX g), false, [], 0, []⟩ (encE 0 (encN g.host) ++ encX (g.exts.drop g.pos.toNat)) (by simp [allX]) (fun x hx => hmem x (List.mem_of_mem_take hx))]
    obtain ⟨q1, q2⟩ := rnd_name (p := ⟨some (encE 0 (encN g.host) ++ encX (g.exts.drop g.pos.toNat)), false, [], 0, [] ++ g.exts.take g.pos.toNat⟩) (h := g.host) rfl (by omega) rfl
    rw [run_more q1, q2, run_exts (g.exts.drop g.pos.toNat) n _ [] (by simp) (fun x hx => hmem x (List.mem_of_mem_drop hx)), run_done rfl]
    have el : ([] ++ g.exts.take g.pos.toNat).length = g.pos.toNat := by rw [List.nil_append, List.length_take]; omega
    rw [el, List.nil_append, htd]
  have hg : grtOf b (last7 b) = g := by
    unfold grtOf
    rw [hrun, kmin, krnd, kses, ksu, kme]
    have ep : (g.pos.toNat : Int) = g.pos := by omega
    rw [ep]
  unfold parseG
  rw [hg, hm, hrun]; rfl
end Go.Proofs.YtiakbmllpnabnaaGreatDoor
namespace Go.Proofs.YtiakbmllpnabnaaGreatDoor
open Go Go.RowKit Pl

def encP (p : Pst) : List UInt8 := if p.named then encX (p.exts.take p.pos) ++ encE 0 (encN p.host) ++ encX (p.exts.drop p.pos) else encX p.exts
theorem lenC_tk {c : Cu} {n : Nat} {B : List UInt8} (h : tkC c n = some B) : lenC c = n + B.length := by
  obtain ⟨h1, h2⟩ := tk_some h
  rw [h1]
  show (tkV c n ++ B).length = _
  rw [List.length_append, h2]
theorem rnd_back {p : Pst} {R : List UInt8} (h : (rnd1 p).c = some R) (hp : p.pos ≤ p.exts.length) :
    ∃ x, p.c = some (x ++ R) ∧ 4 ≤ x.length ∧ encP (rnd1 p) = encP p ++ x ∧ (rnd1 p).pos ≤ (rnd1 p).exts.length := by
  unfold rnd1 at h ⊢
  by_cases hk : 0 < nmV p.c 2
  · rw [if_pos hk] at h ⊢
    obtain ⟨e1, e2⟩ := fl_some (c := tkC p.c 2) (k := 2) h
    obtain ⟨e3, e4⟩ := nm_some e1
    refine ⟨encE (nmV p.c 2) (flV (tkC p.c 2) 2), by unfold encE; rw [List.append_assoc]; exact e3, by rw [encE_len]; omega, ?_, by simp; omega⟩
    have e5 : encX [((nmV p.c 2 : Int), flV (tkC p.c 2) 2)] = encE (nmV p.c 2) (flV (tkC p.c 2) 2) := by rw [encX_cons, encX_nil, List.append_nil]; simp
    unfold encP
    cases p.named with
    | true =>
      simp only [if_true]
      rw [List.take_append_of_le_length hp, List.drop_append_of_le_length hp, encX_app, e5]
      simp
    | false =>
      simp only [Bool.false_eq_true, if_false]
      rw [encX_app, e5]
  · rw [if_neg hk] at h ⊢
    obtain ⟨e1, e2⟩ := mu_some h
    rw [Bool.and_eq_true] at e2
    obtain ⟨e3, e4⟩ := fl_some (c := tkC p.c 2) (k := 2) e1
    obtain ⟨e5, e6⟩ := nm_some e3
    have e7 : nmV p.c 2 = 0 := by omega
    have e8 := na_back e2.1
    rw [e7] at e5
    have hn : p.named = false := by simpa using e2.2
    refine ⟨encE 0 (flV (tkC p.c 2) 2), by unfold encE; rw [List.append_assoc]; exact e5, by rw [encE_len]; omega, ?_, Nat.le_refl _⟩
    unfold encP
    rw [hn]
    simp only [Bool.false_eq_true, if_false, if_true, List.take_length, List.drop_length, encX_nil, List.append_nil]
    rw [← e8]
theorem run_back : ∀ (n : Nat) (p : Pst) (R : List UInt8), (runX n p).c = some R → p.pos ≤ p.exts.length →
    ∃ x, p.c = some (x ++ R) ∧ encP (runX n p) = encP p ++ x ∧ (runX n p).pos ≤ (runX n p).exts.length
  | 0, p, R, h, hp => ⟨[], by simpa [runX] using h, by simp [runX], hp⟩
  | n + 1, p, R, h, hp => by
    unfold runX at h ⊢
    by_cases hl : live p = true
    · rw [if_pos hl] at h ⊢
      have hc : ∃ R1, (rnd1 p).c = some R1 := by
        cases hq : (rnd1 p).c with
        | some R1 => exact ⟨R1, rfl⟩
        | none =>
          have : live (rnd1 p) = false := by unfold live; rw [hq]
          rw [run_done this, hq] at h
          cases h
      obtain ⟨R1, hR1⟩ := hc
      obtain ⟨x, h1, _, h3, h4⟩ := rnd_back hR1 hp
      obtain ⟨y, k1, k2, k3⟩ := run_back n (rnd1 p) R h h4
      rw [hR1] at k1
      injection k1 with k1
      subst k1
      exact ⟨x ++ y, by rw [h1, List.append_assoc], by rw [k2, h3, List.append_assoc], k3⟩
    · rw [if_neg hl] at h ⊢
      exact ⟨[], by simpa using h, by simp, hp⟩
theorem run_dead : ∀ (n : Nat) (p : Pst), lenC p.c ≤ n → p.pos ≤ p.exts.length → live (runX n p) = false
  | 0, p, h, _ => by
    unfold runX live
    split
    · rename_i hc; rw [hc] at h; simp [lenC] at h
    · rfl
  | n + 1, p, h, hp => by
    unfold runX
    by_cases hl : live p = true
    · rw [if_pos hl]
      cases hq : (rnd1 p).c with
      | none => 
        have : live (rnd1 p) = false := by unfold live; rw [hq]
        rw [run_done this, this]
      | some R1 =>
        obtain ⟨x, h1, h2, _, h4⟩ := rnd_back hq hp
        refine run_dead n (rnd1 p) ?_ h4
        rw [h1] at h
        rw [hq]
        simp only [lenC, List.length_append] at h ⊢
        omega
    · rw [if_neg hl]; simpa using hl

theorem pad_32 {l : List UInt8} (h : l.length = 32) : pad32 l = l := by unfold pad32; rw [h]; simp
theorem head_back {b x : List UInt8} (k13 : c13 b = some x) :
    b = 22 :: 3 :: (rowB (nmV (c2 b) 1) 1 ++ fillB (1 :: fillB (rowB 771 2 ++ (tkV (c8 b) 32 ++ (fillB (flV (c9 b) 1) 1 ++ (fillB (flV (c10 b) 2) 2 ++ (fillB (flV (c11 b) 1) 1 ++ fillB x 2))))) 3) 2)
      ∧ (tkV (c8 b) 32).length = 32 ∧ (flV (c10 b) 2).length % 2 = 0
      ∧ (1 :: fillB (rowB 771 2 ++ (tkV (c8 b) 32 ++ (fillB (flV (c9 b) 1) 1 ++ (fillB (flV (c10 b) 2) 2 ++ (fillB (flV (c11 b) 1) 1 ++ fillB x 2))))) 3).length ≤ 16384 := by
  obtain ⟨k12, l13⟩ := re_some (c := c12 b) (k := 2) k13
  obtain ⟨k11, _⟩ := fl_some (c := c11 b) (k := 1) k12
  obtain ⟨k10, b11⟩ := mu_some (c := flC (c10 b) 2) k11
  obtain ⟨k10, _⟩ := fl_some (c := c10 b) (k := 2) k10
  obtain ⟨k9, _⟩ := fl_some (c := c9 b) (k := 1) k10
  obtain ⟨k8, r32⟩ := tk_some (c := c8 b) (n := 32) k9
  obtain ⟨k7, b8⟩ := mu_some (c := tkC (c7 b) 2) k8
  obtain ⟨k7, _⟩ := nm_some (c := c7 b) (k := 2) k7
  obtain ⟨k6, l7⟩ := re_some (c := c6 b) (k := 3) k7
  obtain ⟨k5, b6⟩ := mu_some (c := tkC (c5 b) 1) k6
  obtain ⟨k5, _⟩ := nm_some (c := c5 b) (k := 1) k5
  obtain ⟨k4, b5⟩ := mu_some (c := c4 b) k5
  obtain ⟨k3, l4⟩ := re_some (c := c3 b) (k := 2) k4
  obtain ⟨k2, lmin⟩ := nm_some (c := c2 b) (k := 1) k3
  obtain ⟨k1, b2⟩ := mu_some (c := tkC (c1 b) 1) k2
  obtain ⟨k1, _⟩ := nm_some (c := c1 b) (k := 1) k1
  obtain ⟨k0, b1⟩ := mu_some (c := tkC (some b) 1) k1
  obtain ⟨k0, _⟩ := nm_some (c := some b) (k := 1) k0
  have b1 := of_decide_eq_true b1
  have b2 := of_decide_eq_true b2
  have b6 := of_decide_eq_true b6
  have b8 := of_decide_eq_true b8
  have b5 := of_decide_eq_true b5
  have b11 := of_decide_eq_true b11
  injection k0 with k0
  rw [k4] at b5
  have b5 : (rowB (nmV (c5 b) 1) 1 ++ fillB (rowB (nmV (c7 b) 2) 2 ++ (tkV (c8 b) 32 ++ (fillB (flV (c9 b) 1) 1 ++ (fillB (flV (c10 b) 2) 2 ++ (fillB (flV (c11 b) 1) 1 ++ fillB x 2))))) 3).length ≤ 16384 := b5
  have r22 : rowB 22 1 = [22] := by rw [row1]; rfl
  have r3 : rowB 3 1 = [3] := by rw [row1]; rfl
  have r1 : rowB 1 1 = [1] := by rw [row1]; rfl
  rw [b6, b8, r1] at b5
  rw [b1, b2, b6, b8, r22, r3, r1] at k0
  exact ⟨k0, r32, b11, b5⟩
set_option maxRecDepth 10000 in
theorem write_of_parse {g : Grt} {b : List UInt8} (h : parseG b = some g) : writeG g = some b ∧ g.rnd.length = 32 := by
  unfold parseG at h
  by_cases hc : ((last7 b).c.isSome && (last7 b).named && mayG (grtOf b (last7 b))) = true
  rotate_left
  · rw [if_neg hc] at h; cases h
  rw [if_pos hc] at h
  have hg := Option.some.inj h
  rw [Bool.and_eq_true, Bool.and_eq_true, hg] at hc
  obtain ⟨⟨h1, h2⟩, hm⟩ := hc
  obtain ⟨R, hR⟩ := Option.isSome_iff_exists.1 h1
  obtain ⟨x, k13, kx, kp⟩ := run_back b.length (start7 b) R hR (Nat.le_refl _)
  have es : (start7 b).c = c13 b := by unfold start7; dsimp only
  rw [es] at k13
  obtain ⟨k0, r32, b11, b5⟩ := head_back k13
  have hlen : lenC (c13 b) ≤ b.length := by
    rw [k13]
    show (x ++ R).length ≤ _
    have := congrArg List.length k0
    unfold fillB at this
    simp only [List.length_cons, List.length_append, rowB_len] at this ⊢
    omega
  have hdead := run_dead b.length (start7 b) (by rw [es]; exact hlen) (Nat.le_refl _)
  have hR0 : R = [] := by
    have hR' : (runX b.length (start7 b)).c = some R := hR
    cases R with
    | nil => rfl
    | cons c r => unfold live at hdead; rw [hR'] at hdead; cases hdead
  subst hR0
  rw [List.append_nil] at k13 k0 b5
  have hall : allX g = x := by
    have : encP (last7 b) = x := by
      have h0 : encP (start7 b) = [] := rfl
      show encP (runX b.length (start7 b)) = x
      rw [kx, h0, List.nil_append]
    rw [← this]
    unfold encP
    rw [h2, ← hg, if_pos rfl]
    unfold allX grtOf
    dsimp only
    rw [Int.toNat_natCast]
  have hs := suites_back b11
  have hsu : encS g.suites = flV (c10 b) 2 := by rw [← hg]; unfold grtOf; dsimp only; exact hs.1
  have hrnd : g.rnd = tkV (c8 b) 32 := by rw [← hg]; unfold grtOf; dsimp only; exact pad_32 r32
  have hses : g.ses = flV (c9 b) 1 := by rw [← hg]; unfold grtOf; dsimp only
  have hmeth : g.meth = flV (c11 b) 1 := by rw [← hg]; unfold grtOf; dsimp only
  have hmin : g.minor = (nmV (c2 b) 1 : Int) := by rw [← hg]; unfold grtOf; dsimp only
  have hbody : bodyG g = rowB 771 2 ++ (tkV (c8 b) 32 ++ (fillB (flV (c9 b) 1) 1 ++ (fillB (flV (c10 b) 2) 2 ++ (fillB (flV (c11 b) 1) 1 ++ fillB x 2)))) := by
    rw [row2, ← hrnd, ← hses, ← hmeth, ← hsu, ← hall]; unfold bodyG; simp
  rw [← hbody] at k0 b5
  have hml : (msgG g).length ≤ 16384 := b5
  have hk : b = 22 :: 3 :: UInt8.ofNat g.minor.toNat :: fillB (msgG g) 2 := by
    rw [row1] at k0
    rw [hmin, Int.toNat_natCast]
    exact k0
  refine ⟨?_, by rw [hrnd, r32]⟩
  unfold writeG
  rw [hm, decide_eq_true hml]
  show some _ = some b
  rw [← hk]
end Go.Proofs.YtiakbmllpnabnaaGreatDoor
namespace Go.Proofs.YtiakbmllpnabnaaGreatDoor
open Go Go.RowKit Pl

/- the states behind the record's head, of a message's state -/
def d6 (m : Cu) : Cu := muC (tkC m 1) (decide (nmV m 1 = 1))
def d7 (m : Cu) : Cu := reC (d6 m) 3
def d8 (m : Cu) : Cu := muC (tkC (d7 m) 2) (decide (nmV (d7 m) 2 = 771))
def d9 (m : Cu) : Cu := tkC (d8 m) 32
def d10 (m : Cu) : Cu := flC (d9 m) 1
def d11 (m : Cu) : Cu := muC (flC (d10 m) 2) (decide ((flV (d10 m) 2).length % 2 = 0))
def d12 (m : Cu) : Cu := flC (d11 m) 1
def d13 (m : Cu) : Cu := reC (d12 m) 2
theorem d8_c (b : List UInt8) : c8 b = d8 (c5 b) := rfl
theorem d9_c (b : List UInt8) : c9 b = d9 (c5 b) := rfl
theorem d10_c (b : List UInt8) : c10 b = d10 (c5 b) := rfl
theorem d11_c (b : List UInt8) : c11 b = d11 (c5 b) := rfl
theorem d13_c (b : List UInt8) : c13 b = d13 (c5 b) := rfl

/-- extensions, one behind the other -/
def unX : Nat → List UInt8 → Option (List (Int × List UInt8))
  | _, [] => some []
  | 0, _ :: _ => none
  | n + 1, c :: r => match flC (tkC (some (c :: r)) 2) 2 with
    | none => none
    | some R => (unX n R).map (((nmV (some (c :: r)) 2 : Int), flV (tkC (some (c :: r)) 2) 2) :: ·)
def unA (R : List UInt8) : Option (List (Int × List UInt8)) := unX R.length R
theorem fl_shorter {R R' : List UInt8} (h : flC (tkC (some R) 2) 2 = some R') : R'.length + 4 ≤ R.length := by
  obtain ⟨e1, e2⟩ := fl_some (c := tkC (some R) 2) (k := 2) h
  obtain ⟨e3, e4⟩ := nm_some e1
  have := congrArg List.length (Option.some.inj e3)
  unfold fillB at this
  simp only [List.length_append, rowB_len] at this
  omega
theorem unX_more : ∀ (n : Nat) (R : List UInt8), R.length ≤ n → ∀ m, R.length ≤ m → unX n R = unX m R
  | 0, [], _, m, _ => by cases m <;> rfl
  | 0, _ :: _, h, _, _ => by simp at h
  | n + 1, [], _, m, _ => by cases m <;> rfl
  | n + 1, c :: r, h, 0, h2 => by simp at h2
  | n + 1, c :: r, h, m + 1, h2 => by
    unfold unX
    cases hq : flC (tkC (some (c :: r)) 2) 2 with
    | none => rfl
    | some R =>
      have := fl_shorter hq
      simp only [List.length_cons] at this h h2
      simp only
      rw [unX_more n R (by omega) m (by omega)]
theorem unA_nil : unA [] = some [] := rfl
theorem unA_none {c : UInt8} {r : List UInt8} (h : flC (tkC (some (c :: r)) 2) 2 = none) : unA (c :: r) = none := by
  unfold unA
  rw [List.length_cons, unX, h]
theorem unA_some {c : UInt8} {r R : List UInt8} (h : flC (tkC (some (c :: r)) 2) 2 = some R) :
    unA (c :: r) = (unA R).map (((nmV (some (c :: r)) 2 : Int), flV (tkC (some (c :: r)) 2) 2) :: ·) := by
  have hl := fl_shorter h
  simp only [List.length_cons] at hl
  unfold unA
  rw [List.length_cons, unX, h]
  simp only
  rw [unX_more r.length R (by omega) R.length (Nat.le_refl _)]
def extR (x : Int × List UInt8) : Prop := 0 ≤ x.1 ∧ x.1 ≤ 65535 ∧ x.2.length ≤ 65535
theorem unA_enc : ∀ (l : List (Int × List UInt8)), (∀ x ∈ l, extR x) → unA (encX l) = some l
  | [], _ => rfl
  | x :: l, h => by
    obtain ⟨h1, h2, h3⟩ := h x (List.mem_cons_self ..)
    have ih := unA_enc l fun y hy => h y (List.mem_cons_of_mem _ hy)
    obtain ⟨e1, e2⟩ := nm_app (n := x.1.toNat) (k := 2) (fillB x.2 2 ++ encX l) (by omega)
    obtain ⟨f1, f2⟩ := fl_app (d := x.2) (k := 2) (encX l) (by omega)
    have he : encX (x :: l) = rowB x.1.toNat 2 ++ (fillB x.2 2 ++ encX l) := by rw [encX_cons]; unfold encE; rw [List.append_assoc]
    rw [← he] at e1 e2
    have hx : encX (x :: l) = UInt8.ofNat (x.1.toNat / 256) :: UInt8.ofNat x.1.toNat :: (fillB x.2 2 ++ encX l) := by rw [he, row2]; rfl
    rw [hx] at e1 e2 ⊢
    rw [unA_some (by rw [e2]; exact f2), e1, e2, f1, ih]
    have : ((x.1.toNat : Int), x.2) = x := by rw [show (x.1.toNat : Int) = x.1 by omega]
    rw [Option.map_some, this]
theorem unX_back : ∀ (n : Nat) (R : List UInt8), R.length ≤ n → ∀ l, unA R = some l → R = encX l ∧ ∀ x ∈ l, extR x
  | n, [], _, l, h => by
    obtain rfl := Option.some.inj (unA_nil.symm.trans h)
    exact ⟨rfl, fun x hx => by cases hx⟩
  | 0, _ :: _, h, _, _ => by simp at h
  | n + 1, c :: r, hn, l, h => by
    cases hq : flC (tkC (some (c :: r)) 2) 2 with
    | none => rw [unA_none hq] at h; cases h
    | some R =>
      rw [unA_some hq] at h
      obtain ⟨l', hl', rfl⟩ := Option.map_eq_some_iff.1 h
      have hs := fl_shorter hq
      simp only [List.length_cons] at hs hn
      obtain ⟨k1, k2⟩ := unX_back n R (by omega) l' hl'
      obtain ⟨e1, e2⟩ := fl_some (c := tkC (some (c :: r)) 2) (k := 2) hq
      obtain ⟨e3, e4⟩ := nm_some e1
      refine ⟨?_, fun x hx => ?_⟩
      · rw [encX_cons]
        unfold encE
        rw [List.append_assoc, Int.toNat_natCast, ← k1]
        exact Option.some.inj e3
      · rcases List.mem_cons.1 hx with rfl | hx
        · refine ⟨?_, ?_, ?_⟩
          · show (0 : Int) ≤ (nmV _ 2 : Nat); omega
          · show ((nmV _ 2 : Nat) : Int) ≤ 65535; omega
          · show (flV _ 2).length ≤ 65535; omega
        · exact k2 x hx
theorem unA_back {R : List UInt8} {l : List (Int × List UInt8)} (h : unA R = some l) : R = encX l ∧ ∀ x ∈ l, extR x := unX_back R.length R (Nat.le_refl _) l h

/-- the host in the data of its extension -/
def hoC (d : List UInt8) : Cu := reC (naC1 d) 2
theorem ho_some {d h : List UInt8} (e : hoC d = some h) : d = encN h := by
  obtain ⟨e1, e2⟩ := re_some e
  obtain ⟨h5, h6⟩ := mu_some e1
  obtain ⟨h7, _⟩ := nm_some h5
  rw [of_decide_eq_true h6] at h7
  obtain ⟨h8, _⟩ := re_some h7
  exact Option.some.inj h8
theorem ho_enc {h : List UInt8} (hl : h.length < 65000) : hoC (encN h) = some h := by
  have e0 : reC (some (encN h)) 2 = some (0 :: fillB h 2) := re_app (by unfold fillB; simp [rowB_len]; omega)
  have e1 : naC1 (encN h) = some (fillB h 2) := by
    unfold naC1
    rw [e0, (nm1 0 _).1, (nm1 0 _).2]; rfl
  unfold hoC
  rw [e1]
  exact re_app (by omega)
/-- where the host's extension stands -/
def atX (l : List (Int × List UInt8)) : Nat := l.findIdx fun x => decide (x.1 = 0)
theorem atX_app : ∀ (a : List (Int × List UInt8)) (d : List UInt8) (r : List (Int × List UInt8)), (∀ x ∈ a, 1 ≤ x.1) → atX (a ++ (0, d) :: r) = a.length
  | [], d, r, _ => by unfold atX; rw [List.nil_append, List.findIdx_cons]; rfl
  | x :: a, d, r, h => by
    have ih := atX_app a d r fun y hy => h y (List.mem_cons_of_mem _ hy)
    have hx := h x (List.mem_cons_self ..)
    unfold atX at ih ⊢
    rw [List.cons_append, List.findIdx_cons, ih, decide_eq_false (show ¬ x.1 = 0 by omega)]; rfl
theorem atX_at {l : List (Int × List UInt8)} (h : atX l < l.length) : (l[atX l]).1 = 0 := by
  have := List.findIdx_getElem (w := h)
  exact of_decide_eq_true this
def grtP (b : List UInt8) (l : List (Int × List UInt8)) (host : List UInt8) : Grt :=
  ⟨(nmV (c2 b) 1 : Int), tkV (d8 (c4 b)) 32, flV (d9 (c4 b)) 1, suitesL (flV (d10 (c4 b)) 2), flV (d11 (c4 b)) 1, host, (atX l : Nat), l.eraseIdx (atX l)⟩
def okG (g : Grt) : Bool := mayG g && decide ((msgG g).length ≤ 16384)
def progG (b : List UInt8) : Option Grt :=
  match d13 (c4 b) with
  | none => none
  | some x => match unA x with
    | none => none
    | some l => if h : atX l < l.length then match hoC (l[atX l]).2 with
        | none => none
        | some s => if okG (grtP b l s) then some (grtP b l s) else none
      else none
theorem prog_some {b : List UInt8} {g : Grt} (h : progG b = some g) : ∃ x l s, d13 (c4 b) = some x ∧ unA x = some l ∧ (∃ hi : atX l < l.length, hoC (l[atX l]).2 = some s) ∧ okG g = true ∧ g = grtP b l s := by
  unfold progG at h
  cases h1 : d13 (c4 b) with
  | none => rw [h1] at h; cases h
  | some x =>
    rw [h1] at h
    simp only at h
    cases h2 : unA x with
    | none => rw [h2] at h; cases h
    | some l =>
      rw [h2] at h
      simp only at h
      by_cases hi : atX l < l.length
      · rw [dif_pos hi] at h
        cases h3 : hoC (l[atX l]).2 with
        | none => rw [h3] at h; cases h
        | some s =>
          rw [h3] at h
          simp only at h
          by_cases h4 : okG (grtP b l s) = true
          · rw [if_pos h4] at h
            obtain rfl := Option.some.inj h
            exact ⟨x, l, s, rfl, h2, ⟨hi, h3⟩, h4, rfl⟩
          · rw [if_neg h4] at h; cases h
      · rw [dif_neg hi] at h; cases h
theorem tail_back {m : Cu} {x : List UInt8} (k13 : d13 m = some x) :
    m = some (1 :: fillB (rowB 771 2 ++ (tkV (d8 m) 32 ++ (fillB (flV (d9 m) 1) 1 ++ (fillB (flV (d10 m) 2) 2 ++ (fillB (flV (d11 m) 1) 1 ++ fillB x 2))))) 3)
      ∧ (tkV (d8 m) 32).length = 32 ∧ (flV (d10 m) 2).length % 2 = 0 := by
  obtain ⟨k12, l13⟩ := re_some (c := d12 m) (k := 2) k13
  obtain ⟨k11, _⟩ := fl_some (c := d11 m) (k := 1) k12
  obtain ⟨k10, b11⟩ := mu_some (c := flC (d10 m) 2) k11
  obtain ⟨k10, _⟩ := fl_some (c := d10 m) (k := 2) k10
  obtain ⟨k9, _⟩ := fl_some (c := d9 m) (k := 1) k10
  obtain ⟨k8, r32⟩ := tk_some (c := d8 m) (n := 32) k9
  obtain ⟨k7, b8⟩ := mu_some (c := tkC (d7 m) 2) k8
  obtain ⟨k7, _⟩ := nm_some (c := d7 m) (k := 2) k7
  obtain ⟨k6, l7⟩ := re_some (c := d6 m) (k := 3) k7
  obtain ⟨k5, b6⟩ := mu_some (c := tkC m 1) k6
  obtain ⟨k5, _⟩ := nm_some (c := m) (k := 1) k5
  have b6 := of_decide_eq_true b6
  have b8 := of_decide_eq_true b8
  have b11 := of_decide_eq_true b11
  have r1 : rowB 1 1 = [1] := by rw [row1]; rfl
  rw [b6, b8, r1] at k5
  exact ⟨k5, r32, b11⟩
theorem front_back {b B : List UInt8} (k4 : c4 b = some B) : b = 22 :: 3 :: (rowB (nmV (c2 b) 1) 1 ++ fillB B 2) := by
  obtain ⟨k3, l4⟩ := re_some (c := c3 b) (k := 2) k4
  obtain ⟨k2, lmin⟩ := nm_some (c := c2 b) (k := 1) k3
  obtain ⟨k1, b2⟩ := mu_some (c := tkC (c1 b) 1) k2
  obtain ⟨k1, _⟩ := nm_some (c := c1 b) (k := 1) k1
  obtain ⟨k0, b1⟩ := mu_some (c := tkC (some b) 1) k1
  obtain ⟨k0, _⟩ := nm_some (c := some b) (k := 1) k0
  have b1 := of_decide_eq_true b1
  have b2 := of_decide_eq_true b2
  injection k0 with k0
  have r22 : rowB 22 1 = [22] := by rw [row1]; rfl
  have r3 : rowB 3 1 = [3] := by rw [row1]; rfl
  rw [b1, b2, r22, r3] at k0
  exact k0
set_option maxRecDepth 10000 in
theorem write_of_prog {g : Grt} {b : List UInt8} (h : progG b = some g) : writeG g = some b ∧ g.rnd.length = 32 := by
  obtain ⟨x, l, s, k13, hu, ⟨hi, hs⟩, hok, hg⟩ := prog_some h
  obtain ⟨k4, r32, b11⟩ := tail_back k13
  have k0 := front_back k4
  obtain ⟨hx, _⟩ := unA_back hu
  have hd := ho_some hs
  have h0 := atX_at hi
  unfold okG at hok
  rw [Bool.and_eq_true, decide_eq_true_iff] at hok
  obtain ⟨hm, hml⟩ := hok
  have hall : allX g = x := by
    have e1 : g.pos.toNat = atX l := by rw [hg]; unfold grtP; dsimp only; rw [Int.toNat_natCast]
    have e2 : g.exts = l.eraseIdx (atX l) := by rw [hg]; unfold grtP; dsimp only
    have e3 : g.host = s := by rw [hg]; unfold grtP; dsimp only
    unfold allX
    rw [e1, e2, e3, hx]
    have e4 : l = l.take (atX l) ++ (l[atX l] :: l.drop (atX l + 1)) := by rw [List.getElem_cons_drop, List.take_append_drop]
    have e5 : l.eraseIdx (atX l) = l.take (atX l) ++ l.drop (atX l + 1) := List.eraseIdx_eq_take_drop_succ ..
    have e6 : (l.take (atX l)).length = atX l := by rw [List.length_take]; omega
    rw [e5, List.take_append_of_le_length (by omega), List.drop_append_of_le_length (by omega), List.take_of_length_le (by omega), List.drop_of_length_le (Nat.le_of_eq e6), List.nil_append]
    conv => rhs; rw [e4]
    rw [encX_app, encX_cons, h0, hd, List.append_assoc]; rfl
  have hs' := suites_back b11
  have hsu : encS g.suites = flV (d10 (c4 b)) 2 := by rw [hg]; unfold grtP; dsimp only; exact hs'.1
  have hrnd : g.rnd = tkV (d8 (c4 b)) 32 := by rw [hg]; unfold grtP; dsimp only
  have hses : g.ses = flV (d9 (c4 b)) 1 := by rw [hg]; unfold grtP; dsimp only
  have hmeth : g.meth = flV (d11 (c4 b)) 1 := by rw [hg]; unfold grtP; dsimp only
  have hmin : g.minor = (nmV (c2 b) 1 : Int) := by rw [hg]; unfold grtP; dsimp only
  have hbody : bodyG g = rowB 771 2 ++ (tkV (d8 (c4 b)) 32 ++ (fillB (flV (d9 (c4 b)) 1) 1 ++ (fillB (flV (d10 (c4 b)) 2) 2 ++ (fillB (flV (d11 (c4 b)) 1) 1 ++ fillB x 2)))) := by
    rw [row2, ← hrnd, ← hses, ← hmeth, ← hsu, ← hall]; unfold bodyG; simp
  rw [← hbody] at k0
  have hk : b = 22 :: 3 :: UInt8.ofNat g.minor.toNat :: fillB (msgG g) 2 := by
    rw [row1] at k0
    rw [hmin, Int.toNat_natCast]
    exact k0
  refine ⟨?_, by rw [hrnd, r32]⟩
  unfold writeG
  rw [hm, decide_eq_true hml]
  show some _ = some b
  rw [← hk]
theorem parse_head {g : Grt} {b : List UInt8} (h : parseG b = some g) : c13 b = some (allX g) ∧ grtOf b (last7 b) = g := by
  have hw := (write_of_parse h).1
  unfold parseG at h
  by_cases hc : ((last7 b).c.isSome && (last7 b).named && mayG (grtOf b (last7 b))) = true
  rotate_left
  · rw [if_neg hc] at h; cases h
  rw [if_pos hc] at h
  have hg := Option.some.inj h
  rw [Bool.and_eq_true, Bool.and_eq_true, hg] at hc
  obtain ⟨⟨h1, h2⟩, hm⟩ := hc
  obtain ⟨R, hR⟩ := Option.isSome_iff_exists.1 h1
  obtain ⟨x, k13, kx, kp⟩ := run_back b.length (start7 b) R hR (Nat.le_refl _)
  have es : (start7 b).c = c13 b := by unfold start7; dsimp only
  rw [es] at k13
  obtain ⟨k0, r32, b11, b5⟩ := head_back k13
  have hlen : lenC (c13 b) ≤ b.length := by
    rw [k13]
    show (x ++ R).length ≤ _
    have := congrArg List.length k0
    unfold fillB at this
    simp only [List.length_cons, List.length_append, rowB_len] at this ⊢
    omega
  have hdead := run_dead b.length (start7 b) (by rw [es]; exact hlen) (Nat.le_refl _)
  have hR0 : R = [] := by
    have hR' : (runX b.length (start7 b)).c = some R := hR
    cases R with
    | nil => rfl
    | cons c r => unfold live at hdead; rw [hR'] at hdead; cases hdead
  subst hR0
  rw [List.append_nil] at k13
  have hall : allX g = x := by
    have : encP (last7 b) = x := by
      have h0 : encP (start7 b) = [] := rfl
      show encP (runX b.length (start7 b)) = x
      rw [kx, h0, List.nil_append]
    rw [← this]
    unfold encP
    rw [h2, ← hg, if_pos rfl]
    unfold allX grtOf
    dsimp only
    rw [Int.toNat_natCast]
  exact ⟨by rw [hall]; exact k13, hg⟩
theorem prog_of_parse {g : Grt} {b : List UInt8} (h : parseG b = some g) : progG b = some g := by
  obtain ⟨hw, hr⟩ := write_of_parse h
  obtain ⟨hm, hml, _⟩ := write_some hw
  obtain ⟨k13, hg⟩ := parse_head h
  have k13c := k13
  rw [d13_c] at k13
  have h54 : c5 b = c4 b := by
    have hs : (c5 b).isSome = true := by rw [(tail_back k13).1]; rfl
    obtain ⟨B, hB⟩ := Option.isSome_iff_exists.1 hs
    rw [hB, (mu_some (c := c4 b) hB).1]
  rw [h54] at k13
  obtain ⟨_, _, _, _, hh, hx, _⟩ := mayG_iff hm
  have hh60 := isH_len hh
  unfold extsOk at hx
  rw [Bool.and_eq_true, Bool.and_eq_true, decide_eq_true_iff, decide_eq_true_iff] at hx
  obtain ⟨⟨x0, x1⟩, ht⟩ := hx
  have hmem := typesOk_all ht
  have e6 : (g.exts.take g.pos.toNat).length = g.pos.toNat := by rw [List.length_take]; omega
  have hl : allX g = encX (g.exts.take g.pos.toNat ++ (0, encN g.host) :: g.exts.drop g.pos.toNat) := by
    unfold allX
    rw [encX_app, encX_cons, List.append_assoc]; rfl
  have hu : unA (allX g) = some (g.exts.take g.pos.toNat ++ (0, encN g.host) :: g.exts.drop g.pos.toNat) := by
    rw [hl]
    refine unA_enc _ fun x hx => ?_
    rcases List.mem_append.1 hx with hx | hx
    · obtain ⟨a, b, c⟩ := hmem x (List.mem_of_mem_take hx); exact ⟨by omega, b, c⟩
    · rcases List.mem_cons.1 hx with rfl | hx
      · exact ⟨Int.le_refl _, by show (0 : Int) ≤ 65535; decide, by show (encN g.host).length ≤ 65535; rw [encN_len]; omega⟩
      · obtain ⟨a, b, c⟩ := hmem x (List.mem_of_mem_drop hx); exact ⟨by omega, b, c⟩
  have hat := atX_app (g.exts.take g.pos.toNat) (encN g.host) (g.exts.drop g.pos.toNat) fun x hx => (hmem x (List.mem_of_mem_take hx)).1
  have hgp : grtP b (g.exts.take g.pos.toNat ++ (0, encN g.host) :: g.exts.drop g.pos.toNat) g.host = g := by
    have hp32 : tkV (d8 (c4 b)) 32 = g.rnd := by
      have hr2 := (tail_back k13).2.1
      have := congrArg Grt.rnd hg
      unfold grtOf at this
      dsimp only at this
      rw [d8_c, h54, pad_32 hr2] at this
      exact this
    have hmin := congrArg Grt.minor hg
    have hses := congrArg Grt.ses hg
    have hsui := congrArg Grt.suites hg
    have hmet := congrArg Grt.meth hg
    unfold grtOf at hmin hses hsui hmet
    dsimp only at hmin hses hsui hmet
    rw [d9_c, h54] at hses
    rw [d10_c, h54] at hsui
    rw [d11_c, h54] at hmet
    unfold grtP
    rw [hp32, hmin, hses, hsui, hmet, hat, e6]
    have e7 : (g.exts.take g.pos.toNat ++ (0, encN g.host) :: g.exts.drop g.pos.toNat).eraseIdx g.pos.toNat = g.exts := by
      rw [List.eraseIdx_append_of_length_le (by omega), e6, Nat.sub_self, List.eraseIdx_cons_zero, List.take_append_drop]
    rw [e7, show ((g.pos.toNat : Nat) : Int) = g.pos by omega]
  unfold progG
  rw [k13]
  simp only
  rw [hu]
  simp only
  have hi : atX (g.exts.take g.pos.toNat ++ (0, encN g.host) :: g.exts.drop g.pos.toNat) < (g.exts.take g.pos.toNat ++ (0, encN g.host) :: g.exts.drop g.pos.toNat).length := by
    rw [hat, List.length_append, List.length_cons]; omega
  rw [dif_pos hi]
  have hget : (g.exts.take g.pos.toNat ++ (0, encN g.host) :: g.exts.drop g.pos.toNat)[atX (g.exts.take g.pos.toNat ++ (0, encN g.host) :: g.exts.drop g.pos.toNat)]'hi = (0, encN g.host) := by
    simp only [hat]
    rw [List.getElem_append_right (Nat.le_refl _)]
    simp
  rw [hget, ho_enc (by omega)]
  simp only
  rw [hgp]
  unfold okG
  rw [hm, decide_eq_true hml]; rfl
/-- both tell the same -/
theorem prog_eq (b : List UInt8) : progG b = parseG b := by
  cases hp : parseG b with
  | some g => exact prog_of_parse hp
  | none =>
    cases hq : progG b with
    | none => rfl
    | some g =>
      obtain ⟨hw, hr⟩ := write_of_prog hq
      rw [parse_of_write hr hw] at hp
      cases hp
end Go.Proofs.YtiakbmllpnabnaaGreatDoor
