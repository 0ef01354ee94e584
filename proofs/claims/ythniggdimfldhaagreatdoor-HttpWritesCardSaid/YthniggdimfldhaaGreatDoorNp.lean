/- Plain facts of layer 5: messages, their bytes, in chunks, too, and a reader of bytes; no program. -/
import Derived.Lib.IndexLaws
import Derived.Test.YthniggdimfldhaaGreatDoorHp
namespace Go.Proofs.YthniggdimfldhaaGreatDoor
open Go

/-! A reader: of bytes, a value and what is left; or an error's number. -/
abbrev Rdr (α : Type) := List UInt8 → Except Int (α × List UInt8)
def rPure {α : Type} (a : α) : Rdr α := fun x => .ok (a, x)
def rFail {α : Type} (e : Int) : Rdr α := fun _ => .error e
def rBind {α β : Type} (p : Rdr α) (q : α → Rdr β) : Rdr β := fun x => match p x with
  | .error e => .error e
  | .ok (a, r) => q a r
/-- What was read stands in front; less of it is too little; whatever stands behind it stays. -/
def Strm {α : Type} (p : Rdr α) : Prop := ∀ x a r, p x = .ok (a, r) → ∃ u, x = u ++ r ∧ (∀ t, t <+: u → t ≠ u → p t = .error 3) ∧ ∀ y, p (u ++ y) = .ok (a, y)
theorem strm_pure {α : Type} (a : α) : Strm (rPure a) := fun x b r h => by
  unfold rPure at h
  simp only [Except.ok.injEq, Prod.mk.injEq] at h
  obtain ⟨rfl, rfl⟩ := h
  exact ⟨[], rfl, fun t h1 h2 => absurd (List.prefix_nil.1 h1) h2, fun y => rfl⟩
theorem strm_fail {α : Type} (e : Int) : Strm (rFail (α := α) e) := fun x b r h => by cases h
theorem pre_app {α : Type} : ∀ {a b t : List α}, t <+: a ++ b → t <+: a ∨ ∃ t2, t = a ++ t2 ∧ t2 <+: b
  | [], b, t, h => .inr ⟨t, rfl, h⟩
  | x :: a, b, [], h => .inl List.nil_prefix
  | x :: a, b, y :: t, h => by
    rw [List.cons_append] at h
    obtain ⟨e, h2⟩ := List.cons_prefix_cons.1 h
    subst e
    rcases pre_app h2 with h3 | ⟨t2, rfl, h3⟩
    · exact .inl (List.cons_prefix_cons.2 ⟨rfl, h3⟩)
    · exact .inr ⟨t2, rfl, h3⟩
theorem strm_bind {α β : Type} {p : Rdr α} {q : α → Rdr β} (hp : Strm p) (hq : ∀ a, Strm (q a)) : Strm (rBind p q) := fun x b r h => by
  unfold rBind at h
  cases h1 : p x with
  | error e => rw [h1] at h; cases h
  | ok v =>
    obtain ⟨a, r1⟩ := v
    rw [h1] at h
    dsimp only at h
    obtain ⟨u1, rfl, s1, e1⟩ := hp x a r1 h1
    obtain ⟨u2, rfl, s2, e2⟩ := hq a r1 b r h
    refine ⟨u1 ++ u2, by rw [List.append_assoc], fun t ht hn => ?_, fun y => ?_⟩
    · unfold rBind
      rcases pre_app ht with ht1 | ⟨t2, rfl, ht2⟩
      · by_cases he : t = u1
        · subst he
          have := e1 []
          rw [List.append_nil] at this
          rw [this]
          dsimp only
          refine s2 [] (List.nil_prefix) (fun e => hn ?_)
          rw [← e, List.append_nil]
        · rw [s1 t ht1 he]
      · rw [e1 t2]
        dsimp only
        exact s2 t2 ht2 (fun e => hn (by rw [e]))
    · unfold rBind
      rw [List.append_assoc, e1]
      exact e2 y
/-- Where 0D 0A stands first. -/
def eolI (x : List UInt8) : Int := Lib.index x [13, 10]
def crB (c : UInt8) : Bool := decide (c = 13) || decide (c = 10)
/-- A line: its bytes; 0D 0A is behind it. -/
def lineR : Rdr (List UInt8) := fun x =>
  if eolI x < 0 then .error 3 else if 300 < (x.take (eolI x).toNat).length ∨ (x.take (eolI x).toNat).any crB = true then .error 4
  else .ok (x.take (eolI x).toNat, x.drop ((eolI x).toNat + 2))
theorem occ_eol {x : List UInt8} {i : Nat} (h : Lib.occAt x [13, 10] i = true) : ∃ r, x.drop i = 13 :: 10 :: r := by
  unfold Lib.occAt at h
  obtain ⟨r, hr⟩ := List.isPrefixOf_iff_prefix.1 h
  exact ⟨r, hr.symm⟩
theorem occ_at {x : List UInt8} {i : Nat} (h : Lib.occAt x [13, 10] i = true) : i + 1 < x.length ∧ x[i]? = some 13 ∧ x[i + 1]? = some 10 := by
  obtain ⟨r, hr⟩ := occ_eol h
  have hl : (x.drop i).length = r.length + 2 := by rw [hr]; rfl
  rw [List.length_drop] at hl
  refine ⟨by omega, ?_, ?_⟩
  · have : (x.drop i)[0]? = some 13 := by rw [hr]; rfl
    rwa [List.getElem?_drop] at this
  · have : (x.drop i)[1]? = some 10 := by rw [hr]; rfl
    rwa [List.getElem?_drop] at this
theorem eol_ge (x : List UInt8) : -1 ≤ eolI x := Lib.index_ge _ _
theorem eol_room {x : List UInt8} (h : 0 ≤ eolI x) : (eolI x).toNat + 2 ≤ x.length := by
  have : eolI x + 2 ≤ x.length := Lib.index_room x [13, 10] h
  omega
theorem eol_first {s : List UInt8} (hs : ∀ c ∈ s, c ≠ 10 ∧ c ≠ 13) (r : List UInt8) : eolI (s ++ 13 :: 10 :: r) = s.length := by
  refine Lib.index_first (by simp) ?_ fun j hj => ?_
  · unfold Lib.occAt
    rw [List.drop_left' rfl]
    simp [List.isPrefixOf]
  · rw [Bool.eq_false_iff]
    intro h
    obtain ⟨_, h1, _⟩ := occ_at h
    rw [List.getElem?_append_left hj, List.getElem?_eq_getElem hj] at h1
    exact (hs _ (List.getElem_mem hj)).2 (Option.some.inj h1)
theorem no_cr {s : List UInt8} (hs : ∀ c ∈ s, c ≠ 10 ∧ c ≠ 13) : s.any crB = false := by
  rw [List.any_eq_false]
  intro c hc
  obtain ⟨h1, h2⟩ := hs c hc
  simp [crB, h1, h2]
theorem lineR_at (s r : List UInt8) (h : ∀ c ∈ s, c ≠ 10 ∧ c ≠ 13) (hl : s.length ≤ 300) : lineR (s ++ 13 :: 10 :: r) = .ok (s, r) := by
  unfold lineR
  rw [eol_first h r, if_neg (by omega), Int.toNat_natCast, List.take_left' rfl, no_cr h, if_neg (by simp; omega), ← List.drop_drop, List.drop_left' rfl]
  rfl
theorem lineR_short (s t : List UInt8) (h : ∀ c ∈ s, c ≠ 10 ∧ c ≠ 13) (ht : t <+: s ++ [13, 10]) (hn : t ≠ s ++ [13, 10]) : lineR t = .error 3 := by
  have hi : eolI t = -1 := by
    rcases Lib.index_spec t [13, 10] with ⟨e, _⟩ | ⟨i, _, _, ho, _⟩
    · exact e
    · exfalso
      obtain ⟨h1, h2, _⟩ := occ_at ho
      have hlen := ht.length_le
      have hne : t.length ≠ (s ++ [13, 10]).length := fun e => hn (ht.eq_of_length e)
      simp only [List.length_append, List.length_cons, List.length_nil] at hlen hne
      obtain ⟨u, hu⟩ := ht
      have h3 : (s ++ [13, 10])[i]? = some 13 := by rw [← hu, List.getElem?_append_left (by omega), h2]
      rw [List.getElem?_append_left (by omega), List.getElem?_eq_getElem (by omega)] at h3
      exact (h _ (List.getElem_mem (by omega))).2 (Option.some.inj h3)
  unfold lineR
  rw [hi, if_pos (by omega)]
theorem lineR_ok {x s r : List UInt8} (h : lineR x = .ok (s, r)) : x = s ++ 13 :: 10 :: r ∧ (∀ c ∈ s, c ≠ 10 ∧ c ≠ 13) ∧ s.length ≤ 300 := by
  unfold lineR at h
  split at h
  · cases h
  · rename_i h0
    split at h
    · cases h
    · rename_i h1
      simp only [Except.ok.injEq, Prod.mk.injEq] at h
      obtain ⟨hs, hr⟩ := h
      rw [hs] at h1
      refine ⟨?_, fun c hc => ?_, by omega⟩
      · rcases Lib.index_spec x [13, 10] with ⟨e, _⟩ | ⟨i, e, _, ho, _⟩
        · have : eolI x = -1 := e
          omega
        · have e' : eolI x = i := e
          rw [e', Int.toNat_natCast] at hs hr
          obtain ⟨r', hr'⟩ := occ_eol ho
          have h2 : x = x.take i ++ x.drop i := (List.take_append_drop i x).symm
          rw [← List.drop_drop, hr'] at hr
          have hr : r' = r := hr
          rw [h2, hs, hr', hr]
      · have h2 : s.any crB = false := by cases hb : s.any crB with | false => rfl | true => exact absurd (.inr hb) h1
        have := List.any_eq_false.1 h2 c hc
        simpa [crB, not_or, and_comm] using this
theorem strm_line : Strm lineR := fun x s r h => by
  obtain ⟨e, hs, hl⟩ := lineR_ok h
  refine ⟨s ++ [13, 10], by rw [e]; simp, fun t ht hn => lineR_short s t hs ht hn, fun y => ?_⟩
  have := lineR_at s y hs hl
  simpa using this
/-- So many bytes. -/
def takeR (n : Nat) : Rdr (List UInt8) := fun x => if x.length < n then .error 3 else .ok (x.take n, x.drop n)
theorem strm_take (n : Nat) : Strm (takeR n) := fun x a r h => by
  unfold takeR at h
  split at h
  · cases h
  · rename_i hl
    simp only [Except.ok.injEq, Prod.mk.injEq] at h
    obtain ⟨rfl, rfl⟩ := h
    have hn : (x.take n).length = n := by rw [List.length_take]; omega
    refine ⟨x.take n, (List.take_append_drop n x).symm, fun t ht hne => ?_, fun y => ?_⟩
    · have := ht.length_le
      have h2 : t.length ≠ (x.take n).length := fun e => hne (ht.eq_of_length e)
      unfold takeR
      rw [if_pos (by omega)]
    · unfold takeR
      rw [if_neg (by rw [List.length_append]; omega), List.take_append_of_le_length (by omega), List.drop_append_of_le_length (by omega), List.take_of_length_le (by omega), List.drop_of_length_le (by omega)]
      rfl

/-! Messages. -/
structure Msg where
  meth : List UInt8
  path : List UInt8
  status : Int
  heads : List Hd
  body : List UInt8
def sGET : List UInt8 := [71, 69, 84]
def sPUT : List UInt8 := [80, 85, 84]
def sPOST : List UInt8 := [80, 79, 83, 84]
def sDELETE : List UInt8 := [68, 69, 76, 69, 84, 69]
def sHEAD : List UInt8 := [72, 69, 65, 68]
def isMeth (s : List UInt8) : Bool := s == sGET || (s == sPUT || (s == sPOST || (s == sDELETE || s == sHEAD)))
def ptB (c : UInt8) : Bool := decide (33 ≤ c.toNat) && (decide (c.toNat ≤ 126) && decide (c.toNat ≠ 35))
def isPath (s : List UInt8) : Bool := s.all ptB && (decide (1 ≤ s.length) && (decide (s.length ≤ 60) && decide (s.headD 0 = 47)))
def isSt (n : Int) : Bool := decide (100 ≤ n) && decide (n ≤ 599)
/-- Content-Length, Transfer-Encoding, Connection, Host -/
def nCL : List UInt8 := [67, 111, 110, 116, 101, 110, 116, 45, 76, 101, 110, 103, 116, 104]
def nTE : List UInt8 := [84, 114, 97, 110, 115, 102, 101, 114, 45, 69, 110, 99, 111, 100, 105, 110, 103]
def nCo : List UInt8 := [67, 111, 110, 110, 101, 99, 116, 105, 111, 110]
def nHo : List UInt8 := [72, 111, 115, 116]
def sChunked : List UInt8 := [99, 104, 117, 110, 107, 101, 100]
def keptN (s : List UInt8) : Bool := !alikeS s nCL && (!alikeS s nTE && !alikeS s nCo)
def isReq (m : Msg) : Bool := isMeth m.meth && (isPath m.path && decide (m.status = 0))
def isAns (m : Msg) : Bool := m.meth == [] && (m.path == [] && isSt m.status)
def okM (m : Msg) : Bool := (isReq m || isAns m) && (decide (chkE m.heads = 0) && (decide (m.body.length ≤ 2000) && (m.heads.all (fun h => keptN h.1) &&
  (!isReq m || (decide ((getL m.heads nHo).length = 1) && !(fstV (getL m.heads nHo) == []))))))
def ver : List UInt8 := [72, 84, 84, 80, 47, 49, 46, 49]
def wordOf (n : Int) : List UInt8 :=
  if n = 200 then [79, 75] else if n = 400 then [66, 97, 100, 32, 82, 101, 113, 117, 101, 115, 116] else if n = 403 then [70, 111, 114, 98, 105, 100, 100, 101, 110]
  else if n = 404 then [78, 111, 116, 32, 70, 111, 117, 110, 100] else if n = 503 then [83, 101, 114, 118, 105, 99, 101, 32, 85, 110, 97, 118, 97, 105, 108, 97, 98, 108, 101]
  else if n = 504 then [71, 97, 116, 101, 119, 97, 121, 32, 84, 105, 109, 101, 111, 117, 116] else [79, 116, 104, 101, 114]
def dgt (n : Nat) : UInt8 := if n < 10 then UInt8.ofNat (48 + n) else UInt8.ofNat (87 + n)
/-- A number's digits, up to four. -/
def digs (base n : Nat) : List UInt8 :=
  if n < base then [dgt n] else if n < base * base then [dgt (n / base), dgt (n % base)] else if n < base * base * base then [dgt (n / (base * base)), dgt (n / base % base), dgt (n % base)]
  else [dgt (n / (base * base * base)), dgt (n / (base * base) % base), dgt (n / base % base), dgt (n % base)]
def firstS (m : Msg) : List UInt8 := if m.status ≠ 0 then ver ++ [32] ++ digs 10 m.status.toNat ++ [32] ++ wordOf m.status else m.meth ++ [32] ++ m.path ++ [32] ++ ver
def clH (n : Nat) : Hd := (nCL, digs 10 n)
def teH : Hd := (nTE, sChunked)
def encB (m : Msg) : List UInt8 := firstS m ++ [13, 10] ++ bytesL m.heads ++ lineB (clH m.body.length) ++ [13, 10] ++ m.body
def chunkL : Nat → Nat → List UInt8 → List UInt8
  | 0, _, _ => []
  | _, _, [] => [48, 13, 10, 13, 10]
  | f + 1, n, c :: b => digs 16 ((c :: b).take n).length ++ [13, 10] ++ (c :: b).take n ++ [13, 10] ++ chunkL f n ((c :: b).drop n)
def chunkB (m : Msg) (n : Nat) : List UInt8 := firstS m ++ [13, 10] ++ bytesL m.heads ++ lineB teH ++ [13, 10] ++ chunkL (m.body.length + 1) n m.body

/-! How bytes are read. -/
def valD (base : Nat) (c : UInt8) : Option Nat :=
  if 48 ≤ c.toNat ∧ c.toNat ≤ 57 then some (c.toNat - 48) else if base = 16 ∧ 97 ≤ c.toNat ∧ c.toNat ≤ 102 then some (c.toNat - 87) else if base = 16 ∧ 65 ≤ c.toNat ∧ c.toNat ≤ 70 then some (c.toNat - 55) else none
def numF (base : Nat) (n : Nat) : List UInt8 → Option Nat
  | [] => some n
  | c :: r => match valD base c with
    | none => none
    | some v => numF base (base * n + v) r
def numO (base : Nat) (s : List UInt8) : Option Nat := if 1 ≤ s.length ∧ s.length ≤ 4 then numF base 0 s else none
/-- A text ahead of a byte, and behind it. -/
def uptoB (d : UInt8) (l : List UInt8) : List UInt8 := l.takeWhile fun c => decide (c ≠ d)
def pastB (d : UInt8) (l : List UInt8) : List UInt8 := (l.dropWhile fun c => decide (c ≠ d)).drop 1
/-- A first line: method, path, status. -/
def reqP (s : List UInt8) : Option (List UInt8 × List UInt8 × Int) :=
  if Lib.hasSuffix (pastB 32 s) (32 :: ver) = true ∧ isMeth (uptoB 32 s) = true ∧ isPath ((pastB 32 s).take ((pastB 32 s).length - 9)) = true then some (uptoB 32 s, (pastB 32 s).take ((pastB 32 s).length - 9), 0) else none
def ansP (s : List UInt8) : Option (List UInt8 × List UInt8 × Int) :=
  if Lib.hasPrefix s (ver ++ [32]) = true then
    (if 32 ∈ s.drop 9 then match numO 10 (uptoB 32 (s.drop 9)) with
      | none => none
      | some n => if (uptoB 32 (s.drop 9)).length = 3 ∧ isSt n = true ∧ (pastB 32 (s.drop 9)).all vlB = true then some ([], [], (n : Int)) else none
     else none)
  else none
def firstP (s : List UInt8) : Option (List UInt8 × List UInt8 × Int) := match reqP s with
  | some v => some v
  | none => ansP s
def headsR : Nat → Rdr (List Hd)
  | 0 => rBind lineR fun s => if s = [] then rPure [] else rFail 4
  | k + 1 => rBind lineR fun s => if s = [] then rPure [] else match lineP s with
    | none => rFail 40
    | some h => rBind (headsR k) fun l => rPure (h :: l)
/-- How long a body is; none: it is in chunks. -/
def lenP (l : List Hd) : Except Int (Option Nat) :=
  if 1 < (getL l nTE).length + (getL l nCL).length then .error 50
  else if (getL l nTE).length = 1 ∧ lowS (fstV (getL l nTE)) ≠ sChunked then .error 50
  else match numO 10 (fstV (getL l nCL)) with
    | none => if (getL l nCL).length = 1 then .error 50 else .ok (if (getL l nTE).length = 1 then none else some 0)
    | some n => if 2000 < n then .error 5 else .ok (if (getL l nTE).length = 1 then none else some n)
def chunksR : Nat → Nat → Rdr (List UInt8)
  | 0, _ => rFail 5
  | f + 1, have_ => rBind lineR fun s => match numO 16 s with
    | none => rFail 4
    | some n => if 2000 < have_ + n then rFail 5 else rBind (takeR (n + 2)) fun p => if Lib.hasSuffix p [13, 10] = true then (if n = 0 then rPure [] else rBind (chunksR f (have_ + n)) fun b => rPure (p.take n ++ b)) else rFail 4
def restR (l : List Hd) : Rdr (List UInt8) := match lenP l with
  | .error e => rFail e
  | .ok (some n) => takeR n
  | .ok none => chunksR 2001 0
def msgR : Rdr Msg := rBind lineR fun s => match firstP s with
  | none => rFail 4
  | some (a, p, n) => rBind (headsR 20) fun l => rBind (restR l) fun b => rPure ⟨a, p, n, l.filter (fun h => keptN h.1), b⟩
def parseM (x : List UInt8) : Except Int Msg := if 8192 < x.length then .error 5 else match msgR x with
  | .error e => .error e
  | .ok (m, []) => if okM m then .ok m else .error 2
  | .ok (_, _ :: _) => .error 4

theorem strm_ite {α : Type} {c : Prop} [Decidable c] {p q : Rdr α} (hp : Strm p) (hq : Strm q) : Strm (if c then p else q) := by split <;> assumption
theorem strm_heads : ∀ k, Strm (headsR k)
  | 0 => strm_bind strm_line fun s => strm_ite (strm_pure _) (strm_fail _)
  | k + 1 => strm_bind strm_line fun s => strm_ite (strm_pure _) (by
    cases lineP s with
    | none => exact strm_fail _
    | some h => exact strm_bind (strm_heads k) fun l => strm_pure _)
theorem strm_chunks : ∀ f n, Strm (chunksR f n)
  | 0, _ => strm_fail _
  | f + 1, n => strm_bind strm_line fun s => by
    cases numO 16 s with
    | none => exact strm_fail _
    | some k => exact strm_ite (strm_fail _) (strm_bind (strm_take _) fun c => strm_ite (strm_ite (strm_pure _) (strm_bind (strm_chunks f _) fun b => strm_pure _)) (strm_fail _))
theorem strm_rest (l : List Hd) : Strm (restR l) := by
  unfold restR
  cases lenP l with
  | error e => exact strm_fail _
  | ok o =>
    cases o with
    | none => exact strm_chunks _ _
    | some n => exact strm_take _
theorem strm_msg : Strm msgR := strm_bind strm_line fun s => by
  cases firstP s with
  | none => exact strm_fail _
  | some v => exact strm_bind (strm_heads _) fun l => strm_bind (strm_rest _) fun b => strm_pure _
/-- What is read as a message, and no more, is read whole by the reader. -/
theorem parse_whole {x : List UInt8} {m : Msg} (h : parseM x = .ok m) : x.length ≤ 8192 ∧ msgR x = .ok (m, []) ∧ okM m = true := by
  unfold parseM at h
  split at h
  · cases h
  · rename_i hl
    split at h
    · cases h
    · rename_i m' hm
      split at h
      · rename_i ho
        simp only [Except.ok.injEq] at h
        subst h
        exact ⟨by omega, hm, ho⟩
      · cases h
    · cases h
/-- P5.6: of bytes that are read as a message no beginning is. -/
theorem parse_cut {x : List UInt8} {m : Msg} (h : parseM x = .ok m) (k : Nat) (hk : k < x.length) : parseM (x.take k) = .error 3 := by
  obtain ⟨hl, hm, _⟩ := parse_whole h
  obtain ⟨u, e, hs, _⟩ := strm_msg x m [] hm
  rw [List.append_nil] at e
  subst e
  have hlen : (x.take k).length = k := by rw [List.length_take]; omega
  have := hs (x.take k) (List.take_prefix _ _) (fun e => by rw [e] at hlen; omega)
  unfold parseM
  rw [if_neg (by omega), this]
/-- P5.6: with bytes behind them they are read as none. -/
theorem parse_more {x y : List UInt8} {m : Msg} (h : parseM x = .ok m) (hy : y ≠ []) : parseM (x ++ y) = .error (if 8192 < (x ++ y).length then 5 else 4) := by
  obtain ⟨hl, hm, _⟩ := parse_whole h
  obtain ⟨u, e, _, he⟩ := strm_msg x m [] hm
  rw [List.append_nil] at e
  subst e
  unfold parseM
  split
  · rfl
  · rw [he y]
    cases y with
    | nil => exact absurd rfl hy
    | cons c y => rfl

/-! What was written is read. -/
theorem val10 {v : Nat} (h : v < 10) : valD 10 (dgt v) = some v := (by decide : ∀ v : Fin 10, valD 10 (dgt v) = some v.val) ⟨v, h⟩
theorem val16 {v : Nat} (h : v < 16) : valD 16 (dgt v) = some v := (by decide : ∀ v : Fin 16, valD 16 (dgt v) = some v.val) ⟨v, h⟩
theorem digs_len (b n : Nat) : 1 ≤ (digs b n).length ∧ (digs b n).length ≤ 4 := by unfold digs; split <;> (try split) <;> (try split) <;> simp
theorem num10 {n : Nat} (h : n < 10000) : numO 10 (digs 10 n) = some n := by
  have hl := digs_len 10 n
  unfold numO
  rw [if_pos hl]
  unfold digs
  split
  · simp only [numF, val10 (show n < 10 by omega)]; simp
  · split
    · simp only [numF, val10 (show n / 10 < 10 by omega), val10 (show n % 10 < 10 by omega)]; congr 1; omega
    · split
      · simp only [numF, val10 (show n / (10 * 10) < 10 by omega), val10 (show n / 10 % 10 < 10 by omega), val10 (show n % 10 < 10 by omega)]; congr 1; omega
      · simp only [numF, val10 (show n / (10 * 10 * 10) < 10 by omega), val10 (show n / (10 * 10) % 10 < 10 by omega), val10 (show n / 10 % 10 < 10 by omega), val10 (show n % 10 < 10 by omega)]; congr 1; omega
theorem num16 {n : Nat} (h : n < 65536) : numO 16 (digs 16 n) = some n := by
  have hl := digs_len 16 n
  unfold numO
  rw [if_pos hl]
  unfold digs
  split
  · simp only [numF, val16 (show n < 16 by omega)]; simp
  · split
    · simp only [numF, val16 (show n / 16 < 16 by omega), val16 (show n % 16 < 16 by omega)]; congr 1; omega
    · split
      · simp only [numF, val16 (show n / (16 * 16) < 16 by omega), val16 (show n / 16 % 16 < 16 by omega), val16 (show n % 16 < 16 by omega)]; congr 1; omega
      · simp only [numF, val16 (show n / (16 * 16 * 16) < 16 by omega), val16 (show n / (16 * 16) % 16 < 16 by omega), val16 (show n / 16 % 16 < 16 by omega), val16 (show n % 16 < 16 by omega)]; congr 1; omega
/-- A byte from 21 to 7E (hexadecimal). -/
def grB (c : UInt8) : Bool := decide (33 ≤ c.toNat) && decide (c.toNat ≤ 126)
theorem grB_dgt {v : Nat} (h : v < 16) : grB (dgt v) = true := (by decide : ∀ v : Fin 16, grB (dgt v) = true) ⟨v, h⟩
theorem digs_gr {b n : Nat} (hb : 1 ≤ b) (hb2 : b ≤ 16) (hn : n < b * b * b * b) : ∀ c ∈ digs b n, grB c = true := by
  have hm : ∀ x, x % b < 16 := fun x => Nat.lt_of_lt_of_le (Nat.mod_lt x hb) hb2
  intro c hc
  unfold digs at hc
  split at hc
  · simp at hc; subst hc; exact grB_dgt (by omega)
  · split at hc
    · rename_i h
      have := Nat.div_lt_of_lt_mul h
      simp at hc
      rcases hc with rfl | rfl
      · exact grB_dgt (by omega)
      · exact grB_dgt (hm _)
    · split at hc
      · rename_i h
        have := Nat.div_lt_of_lt_mul h
        simp at hc
        rcases hc with rfl | rfl | rfl
        · exact grB_dgt (by omega)
        · exact grB_dgt (hm _)
        · exact grB_dgt (hm _)
      · have := Nat.div_lt_of_lt_mul hn
        simp at hc
        rcases hc with rfl | rfl | rfl | rfl
        · exact grB_dgt (by omega)
        · exact grB_dgt (hm _)
        · exact grB_dgt (hm _)
        · exact grB_dgt (hm _)
theorem gr_vl {c : UInt8} (h : grB c = true) : vlB c = true := by unfold grB at h; unfold vlB; simp at h ⊢; omega
theorem vl_ends {s : List UInt8} (h : ∀ c ∈ s, vlB c = true) : ∀ c ∈ s, c ≠ 10 ∧ c ≠ 13 := fun c hc => by
  have := h c hc
  constructor <;> (rintro rfl; revert this; decide)
theorem nm_vl {s : List UInt8} (h : isNm s = true) : ∀ c ∈ s, vlB c = true := fun c hc => by
  have := nm_at h c hc
  unfold nmB at this
  unfold vlB
  simp at this ⊢
  omega
theorem line_vl {h : Hd} (ho : okH h = true) : ∀ c ∈ h.1 ++ [58, 32] ++ h.2, vlB c = true := fun c hc => by
  obtain ⟨h1, h2⟩ := okH_one.1 ho
  simp only [List.mem_append, List.mem_cons, List.not_mem_nil, or_false] at hc
  rcases hc with (hc | rfl | rfl) | hc
  · exact nm_vl h1 c hc
  · decide
  · decide
  · exact vl_at h2 c hc
theorem line_read {h : Hd} (ho : okH h = true) (r : List UInt8) : lineR (lineB h ++ r) = .ok (h.1 ++ [58, 32] ++ h.2, r) := by
  obtain ⟨h1, h2⟩ := okH_one.1 ho
  have l1 := isNm_len h1
  have l2 := isVl_len h2
  have := lineR_at (h.1 ++ [58, 32] ++ h.2) r (vl_ends (line_vl ho)) (by simp; omega)
  rw [← this]
  unfold lineB
  simp
theorem heads_read : ∀ (l : List Hd) (k : Nat) (r : List UInt8), (∀ h ∈ l, okH h = true) → l.length ≤ k → headsR k (bytesL l ++ 13 :: 10 :: r) = .ok (l, r)
  | [], k, r, _, _ => by
    have h0 : lineR (13 :: 10 :: r) = .ok ([], r) := lineR_at [] r (by simp) (by simp)
    have e : bytesL [] ++ 13 :: 10 :: r = 13 :: 10 :: r := rfl
    rw [e]
    cases k <;> (unfold headsR rBind; rw [h0]; rfl)
  | h :: l, k, r, ho, hl => by
    obtain ⟨k, rfl⟩ : ∃ j, k = j + 1 := ⟨k - 1, by simp at hl; omega⟩
    have ih := heads_read l k r (fun x hx => ho x (List.mem_cons_of_mem _ hx)) (by simp at hl; omega)
    have hh := ho h List.mem_cons_self
    have e : bytesL (h :: l) ++ 13 :: 10 :: r = lineB h ++ (bytesL l ++ 13 :: 10 :: r) := by simp [bytesL]
    have hne : ¬ (h.1 ++ [58, 32] ++ h.2 = []) := by simp
    rw [e]
    unfold headsR rBind
    rw [line_read hh]
    dsimp only
    rw [if_neg hne, lineP_back hh]
    dsimp only
    rw [ih]
    rfl

theorem okM_split {m : Msg} (h : okM m = true) : (isReq m = true ∨ isAns m = true) ∧ chkE m.heads = 0 ∧ m.body.length ≤ 2000 ∧ (∀ x ∈ m.heads, keptN x.1 = true) := by
  unfold okM at h
  simp only [Bool.and_eq_true, Bool.or_eq_true, decide_eq_true_eq, List.all_eq_true] at h
  obtain ⟨h1, h2, h3, h4, _⟩ := h
  exact ⟨h1, h2, h3, h4⟩
theorem chk_ok {l : List Hd} (h : chkE l = 0) : l.length ≤ 16 ∧ ∀ x ∈ l, okH x = true := by
  unfold chkE at h
  split at h
  · omega
  · split at h
    · rename_i h1 h2
      exact ⟨by omega, List.all_eq_true.1 h2⟩
    · omega
theorem word_vl (n : Int) : (wordOf n).all vlB = true ∧ (wordOf n).length ≤ 19 := by
  unfold wordOf
  split <;> (try split) <;> (try split) <;> (try split) <;> (try split) <;> (try split) <;> decide
theorem digs3 {n : Nat} (h1 : 100 ≤ n) (h2 : n < 1000) : digs 10 n = [dgt (n / (10 * 10)), dgt (n / 10 % 10), dgt (n % 10)] := by
  unfold digs
  rw [if_neg (by omega), if_neg (by omega), if_pos (by omega)]
theorem upto_at {d : UInt8} {a : List UInt8} (b : List UInt8) (h : ∀ c ∈ a, c ≠ d) : uptoB d (a ++ d :: b) = a ∧ pastB d (a ++ d :: b) = b := by
  induction a with
  | nil => simp [uptoB, pastB]
  | cons c a ih =>
    obtain ⟨h1, h2⟩ := ih (fun x hx => h x (List.mem_cons_of_mem _ hx))
    have hc := h c List.mem_cons_self
    unfold uptoB pastB at *
    rw [List.cons_append, List.takeWhile_cons, if_pos (by simpa using hc), List.dropWhile_cons, if_pos (by simpa using hc), h1, h2]
    exact ⟨rfl, rfl⟩
theorem digs_no32 {n : Nat} (hn : n < 10000) : ∀ c ∈ digs 10 n, c ≠ 32 := fun c hc e => by
  have := digs_gr (b := 10) (n := n) (by omega) (by omega) (by omega) c hc
  subst e
  revert this
  decide
theorem meth_not : isMeth ver = false := by decide
theorem ver_no32 : ∀ c ∈ ver, c ≠ 32 := by decide
theorem reqP_ans {r : List UInt8} : reqP (ver ++ 32 :: r) = none := by
  obtain ⟨e1, _⟩ := upto_at r ver_no32
  unfold reqP
  rw [e1, meth_not, if_neg (by simp)]
theorem firstP_ans {m : Msg} (h : isAns m = true) : firstP (firstS m) = some (m.meth, m.path, m.status) ∧ (firstS m).length ≤ 300 ∧ ∀ c ∈ firstS m, vlB c = true := by
  unfold isAns isSt at h
  simp only [Bool.and_eq_true, beq_iff_eq, decide_eq_true_eq] at h
  obtain ⟨h1, h2, h3, h4⟩ := h
  obtain ⟨n, hn⟩ : ∃ n : Nat, m.status = n := ⟨m.status.toNat, by omega⟩
  have hd := digs3 (n := n) (by omega) (by omega)
  have hnum := num10 (n := n) (by omega)
  have hgr := digs_gr (b := 10) (n := n) (by omega) (by omega) (by omega)
  have h32 := digs_no32 (n := n) (by omega)
  have e : firstS m = ver ++ 32 :: (digs 10 n ++ 32 :: wordOf m.status) := by
    unfold firstS
    rw [if_pos (by omega), hn]
    simp
  obtain ⟨w1, w2⟩ := word_vl m.status
  have hdl : (digs 10 n).length = 3 := by rw [hd]; rfl
  have hlen : (firstS m).length = 13 + (wordOf m.status).length := by rw [e]; simp [hdl, ver]; omega
  have hst : isSt (n : Int) = true := by unfold isSt; simp; omega
  refine ⟨?_, by omega, fun c hc => ?_⟩
  · have hpre : Lib.hasPrefix (firstS m) (ver ++ [32]) = true := by
      unfold Lib.hasPrefix
      rw [List.isPrefixOf_iff_prefix, e]
      exact ⟨digs 10 n ++ 32 :: wordOf m.status, by simp⟩
    have hdr : (firstS m).drop 9 = digs 10 n ++ 32 :: wordOf m.status := by rw [e]; rfl
    obtain ⟨u1, u2⟩ := upto_at (wordOf m.status) h32
    unfold firstP
    rw [show reqP (firstS m) = none by rw [e]; exact reqP_ans]
    dsimp only
    unfold ansP
    rw [if_pos hpre, hdr, if_pos (by simp), u1, u2, hnum]
    dsimp only
    rw [if_pos ⟨hdl, hst, w1⟩, h1, h2, hn]
  · rw [e] at hc
    simp only [List.mem_append, List.mem_cons] at hc
    rcases hc with hc | rfl | hc | rfl | hc
    · exact (by decide : ∀ c ∈ ver, vlB c = true) c hc
    · decide
    · exact gr_vl (hgr c hc)
    · decide
    · exact List.all_eq_true.1 w1 c hc
theorem meth_is {s : List UInt8} (h : isMeth s = true) : s = sGET ∨ s = sPUT ∨ s = sPOST ∨ s = sDELETE ∨ s = sHEAD := by
  unfold isMeth at h
  simpa [Bool.or_eq_true, beq_iff_eq] using h
theorem suf_at (a b : List UInt8) : Lib.hasSuffix (a ++ b) b = true := by
  unfold Lib.hasSuffix
  rw [List.isSuffixOf_iff_suffix]
  exact ⟨a, rfl⟩
theorem firstP_req {m : Msg} (h : isReq m = true) : firstP (firstS m) = some (m.meth, m.path, m.status) ∧ (firstS m).length ≤ 300 ∧ ∀ c ∈ firstS m, vlB c = true := by
  unfold isReq at h
  simp only [Bool.and_eq_true, decide_eq_true_eq] at h
  obtain ⟨h1, h2, h3⟩ := h
  have hm := meth_is h1
  have hp := h2
  unfold isPath at hp
  simp only [Bool.and_eq_true, decide_eq_true_eq, List.all_eq_true] at hp
  obtain ⟨p1, p2, p3, p4⟩ := hp
  have e : firstS m = m.meth ++ 32 :: (m.path ++ (32 :: ver)) := by
    unfold firstS
    rw [if_neg (by omega)]
    simp
  have hml : m.meth.length ≤ 6 ∧ 3 ≤ m.meth.length := by rcases hm with h | h | h | h | h <;> rw [h] <;> decide
  have hmv : ∀ c ∈ m.meth, vlB c = true ∧ c ≠ 32 := by rcases hm with h | h | h | h | h <;> rw [h] <;> decide
  have hv : ver.length = 8 := rfl
  have hlen : (firstS m).length = m.meth.length + m.path.length + 10 := by rw [e]; simp [hv]; omega
  have hpv : ∀ c ∈ m.path, vlB c = true := fun c hc => by have := p1 c hc; unfold ptB at this; unfold vlB; simp at this ⊢; omega
  refine ⟨?_, by omega, fun c hc => ?_⟩
  · obtain ⟨u1, u2⟩ := upto_at (m.path ++ (32 :: ver)) (fun c hc => (hmv c hc).2)
    rw [← e] at u1 u2
    have hl : (m.path ++ (32 :: ver)).length - 9 = m.path.length := by simp [hv]
    unfold firstP reqP
    rw [u1, u2, hl, List.take_left' rfl, if_pos ⟨suf_at _ _, h1, h2⟩, h3]
  · rw [e] at hc
    simp only [List.mem_append, List.mem_cons] at hc
    rcases hc with hc | rfl | hc | rfl | hc
    · exact (hmv c hc).1
    · decide
    · exact hpv c hc
    · decide
    · exact (by decide : ∀ c ∈ ver, vlB c = true) c hc
theorem kept_parts {s : List UInt8} (h : keptN s = true) : alikeS s nCL = false ∧ alikeS s nTE = false ∧ alikeS s nCo = false := by
  unfold keptN at h
  simpa using h
theorem kept_cl {l : List Hd} (h : ∀ x ∈ l, keptN x.1 = true) : getL l nCL = [] := by
  unfold getL
  rw [List.filter_eq_nil_iff]
  intro x hx
  rw [(kept_parts (h x hx)).1]
  exact Bool.false_ne_true
theorem kept_te {l : List Hd} (h : ∀ x ∈ l, keptN x.1 = true) : getL l nTE = [] := by
  unfold getL
  rw [List.filter_eq_nil_iff]
  intro x hx
  rw [(kept_parts (h x hx)).2.1]
  exact Bool.false_ne_true
theorem fr_cl (n : Nat) : alikeS (clH n).1 nCL = true ∧ alikeS (clH n).1 nTE = false ∧ keptN (clH n).1 = false := by
  show alikeS nCL nCL = true ∧ alikeS nCL nTE = false ∧ keptN nCL = false
  decide
theorem fr_te : alikeS teH.1 nCL = false ∧ alikeS teH.1 nTE = true ∧ keptN teH.1 = false := by decide
theorem get_snoc (l : List Hd) (x : Hd) (y : List UInt8) : getL (l ++ [x]) y = getL l y ++ (if alikeS x.1 y then [x] else []) := by
  unfold getL
  rw [List.filter_append]
  congr 1
  cases h : alikeS x.1 y <;> simp [h]
theorem len_cl {l : List Hd} (h : ∀ x ∈ l, keptN x.1 = true) {n : Nat} (hn : n ≤ 2000) : lenP (l ++ [clH n]) = .ok (some n) := by
  obtain ⟨f1, f2, _⟩ := fr_cl n
  unfold lenP
  rw [get_snoc, get_snoc, kept_cl h, kept_te h, f1, f2]
  simp only [List.nil_append, if_true, Bool.false_eq_true, if_false, List.length_nil, List.length_cons]
  rw [if_neg (by omega), if_neg (by omega), show fstV [clH n] = digs 10 n from rfl, num10 (by omega)]
  dsimp only
  rw [if_neg (by omega), if_neg (by omega)]
theorem len_te {l : List Hd} (h : ∀ x ∈ l, keptN x.1 = true) : lenP (l ++ [teH]) = .ok none := by
  obtain ⟨f1, f2, _⟩ := fr_te
  unfold lenP
  rw [get_snoc, get_snoc, kept_cl h, kept_te h, f1, f2]
  simp only [List.nil_append, if_true, Bool.false_eq_true, if_false, List.length_nil, List.length_cons]
  rw [if_neg (by omega), if_neg (by decide), show numO 10 (fstV []) = none by decide]
  dsimp only
  rw [if_neg (by omega)]
theorem kept_all {l : List Hd} (h : ∀ x ∈ l, keptN x.1 = true) {x : Hd} (hx : keptN x.1 = false) : ((l ++ [x]).filter fun h => keptN h.1) = l := by
  rw [List.filter_append, List.filter_eq_self.2 h]
  simp [hx]
theorem cl_ok {n : Nat} (h : n < 10000) : okH (clH n) = true := by
  have hg := digs_gr (b := 10) (n := n) (by omega) (by omega) (by omega)
  have hl := digs_len 10 n
  refine okH_one.2 ⟨by show isNm nCL = true; decide, ?_⟩
  show isVl (digs 10 n) = true
  have hh : ∀ c ∈ digs 10 n, c.toNat ≠ 32 := fun c hc => by have := hg c hc; unfold grB at this; simp at this; omega
  unfold isVl
  simp only [Bool.and_eq_true, List.all_eq_true, decide_eq_true_eq]
  refine ⟨fun c hc => gr_vl (hg c hc), by omega, ?_⟩
  unfold endsV
  simp only [Bool.or_eq_true, Bool.and_eq_true, decide_eq_true_eq]
  right
  cases hd : digs 10 n with
  | nil => rw [hd] at hl; simp at hl
  | cons c r =>
    rw [hd] at hh
    refine ⟨hh c List.mem_cons_self, ?_⟩
    rw [List.getLastD_eq_getLast?, List.getLast?_eq_getElem?, List.getElem?_eq_getElem (by simp)]
    exact hh _ (List.getElem_mem _)
theorem te_ok : okH teH = true := by decide

theorem first_ok {m : Msg} (h : okM m = true) : firstP (firstS m) = some (m.meth, m.path, m.status) ∧ (firstS m).length ≤ 300 ∧ ∀ c ∈ firstS m, vlB c = true := by
  rcases (okM_split h).1 with h | h
  · exact firstP_req h
  · exact firstP_ans h
theorem msg_read {m : Msg} (h : okM m = true) {x : Hd} (hx : okH x = true) (hk : keptN x.1 = false) {b r : List UInt8} (hr : restR (m.heads ++ [x]) b = .ok (m.body, r)) :
    msgR (firstS m ++ 13 :: 10 :: (bytesL (m.heads ++ [x]) ++ 13 :: 10 :: b)) = .ok (m, r) := by
  obtain ⟨_, h2, _, h4⟩ := okM_split h
  obtain ⟨hl, ho⟩ := chk_ok h2
  obtain ⟨f1, f2, f3⟩ := first_ok h
  have e1 := lineR_at (firstS m) (bytesL (m.heads ++ [x]) ++ 13 :: 10 :: b) (vl_ends f3) (by omega)
  have e2 := heads_read (m.heads ++ [x]) 20 b (fun y hy => by
    rcases List.mem_append.1 hy with hy | hy
    · exact ho y hy
    · simp at hy; subst hy; exact hx) (by simp; omega)
  unfold msgR rBind
  rw [e1]
  dsimp only
  rw [f1]
  dsimp only
  rw [e2]
  dsimp only
  rw [hr, kept_all h4 hk]
  rfl
theorem take_all (b : List UInt8) : takeR b.length b = .ok (b, []) := by
  unfold takeR
  rw [if_neg (by omega), List.take_length, List.drop_length]
theorem bytes_app (l : List Hd) (x : Hd) : bytesL (l ++ [x]) = bytesL l ++ lineB x := bytesL_snoc l x
theorem enc_len {m : Msg} (h : okM m = true) : (encB m).length ≤ 8192 := by
  obtain ⟨_, h2, h3, _⟩ := okM_split h
  obtain ⟨hl, ho⟩ := chk_ok h2
  obtain ⟨_, f2, _⟩ := first_ok h
  have hb := bytesL_len (List.all_eq_true.2 ho)
  have hd := digs_len 10 m.body.length
  unfold encB
  simp only [List.length_append, List.length_cons, List.length_nil]
  have : (lineB (clH m.body.length)).length = 18 + (digs 10 m.body.length).length := by simp [lineB, clH, nCL]; omega
  omega
/-- P5.5: what was written is read as it was. -/
theorem parse_enc {m : Msg} (h : okM m = true) : parseM (encB m) = .ok m := by
  obtain ⟨_, h2, h3, h4⟩ := okM_split h
  have hr : restR (m.heads ++ [clH m.body.length]) m.body = .ok (m.body, []) := by
    unfold restR
    rw [len_cl h4 h3]
    exact take_all _
  have := msg_read h (cl_ok (show m.body.length < 10000 by omega)) (fr_cl _).2.2 hr
  have e : encB m = firstS m ++ 13 :: 10 :: (bytesL (m.heads ++ [clH m.body.length]) ++ 13 :: 10 :: m.body) := by
    unfold encB
    rw [bytes_app]
    simp
  unfold parseM
  rw [if_neg (by have := enc_len h; omega), e, this]
  dsimp only
  rw [if_pos h]
theorem hex_line {n : Nat} (h : n < 65536) (r : List UInt8) : lineR (digs 16 n ++ 13 :: 10 :: r) = .ok (digs 16 n, r) :=
  lineR_at _ r (vl_ends fun c hc => gr_vl (digs_gr (by omega) (by omega) (by omega) c hc)) (by have := digs_len 16 n; omega)
theorem suf_no {n : Nat} (c : List UInt8) (hc : c.length = n) : Lib.hasSuffix (c ++ [13, 10]) [13, 10] = true ∧ (c ++ [13, 10]).take n = c := ⟨suf_at _ _, by rw [List.take_left' hc]⟩
theorem take_at (c r : List UInt8) : takeR c.length (c ++ r) = .ok (c, r) := by
  unfold takeR
  rw [if_neg (by simp), List.take_left' rfl, List.drop_left' rfl]
theorem chunks_read : ∀ (f g k n : Nat) (b r : List UInt8), b.length < f → b.length < g → 1 ≤ n → k + b.length ≤ 2000 → chunksR f k (chunkL g n b ++ r) = .ok (b, r)
  | 0, _, _, _, _, _, h, _, _, _ => absurd h (Nat.not_lt_zero _)
  | _ + 1, 0, _, _, _, _, _, h, _, _ => absurd h (Nat.not_lt_zero _)
  | f + 1, g + 1, k, n, [], r, _, _, _, hk => by
    have e : chunkL (g + 1) n [] ++ r = [48] ++ 13 :: 10 :: ([13, 10] ++ r) := by simp [chunkL]
    have h0 := lineR_at [48] ([13, 10] ++ r) (by decide) (by decide)
    rw [← e] at h0
    have h1 := take_at [13, 10] r
    simp only [List.length_nil, Nat.add_zero] at hk
    unfold chunksR rBind
    rw [h0]
    dsimp only
    rw [show numO 16 [48] = some 0 by decide]
    dsimp only
    rw [if_neg (by omega), show (0 : Nat) + 2 = ([13, 10] : List UInt8).length from rfl, h1]
    dsimp only
    rw [if_pos (by decide), if_pos rfl]
    rfl
  | f + 1, g + 1, k, n, c :: b, r, hf, hg, hn, hk => by
    have hl : ((c :: b).take n).length = min n (b.length + 1) := by rw [List.length_take]; rfl
    have hlc : (c :: b).length = b.length + 1 := rfl
    have hd : ((c :: b).drop n).length = b.length + 1 - n := by rw [List.length_drop]; rfl
    obtain ⟨j, hj⟩ : ∃ j, ((c :: b).take n).length = j := ⟨_, rfl⟩
    have hj1 : 1 ≤ j := by omega
    have ih := chunks_read f g (k + j) n ((c :: b).drop n) r (by omega) (by omega) hn (by omega)
    have e : chunkL (g + 1) n (c :: b) ++ r = digs 16 j ++ 13 :: 10 :: (((c :: b).take n ++ [13, 10]) ++ (chunkL g n ((c :: b).drop n) ++ r)) := by
      rw [← hj]
      simp only [chunkL, List.append_assoc, List.cons_append, List.nil_append]
    have h0 := hex_line (n := j) (by omega) (((c :: b).take n ++ [13, 10]) ++ (chunkL g n ((c :: b).drop n) ++ r))
    rw [← e] at h0
    have ht := take_at ((c :: b).take n ++ [13, 10]) (chunkL g n ((c :: b).drop n) ++ r)
    have hp : ((c :: b).take n ++ [13, 10]).length = j + 2 := by rw [List.length_append, hj]; rfl
    rw [hp] at ht
    obtain ⟨s1, s2⟩ := suf_no _ hj
    unfold chunksR rBind
    rw [h0]
    dsimp only
    rw [num16 (by omega)]
    dsimp only
    rw [if_neg (by omega), ht]
    dsimp only
    rw [if_pos s1, if_neg (by omega), ih, s2]
    dsimp only
    unfold rPure
    rw [List.take_append_drop]
/-- P5.5: and of its chunks, whatever their size. -/
theorem parse_chunks {m : Msg} (h : okM m = true) {n : Nat} (hn : 1 ≤ n) (hl : (chunkB m n).length ≤ 8192) : parseM (chunkB m n) = .ok m := by
  obtain ⟨_, h2, h3, h4⟩ := okM_split h
  have hr : restR (m.heads ++ [teH]) (chunkL (m.body.length + 1) n m.body) = .ok (m.body, []) := by
    unfold restR
    rw [len_te h4]
    have := chunks_read 2001 (m.body.length + 1) 0 n m.body [] (by omega) (by omega) hn (by omega)
    rwa [List.append_nil] at this
  have := msg_read h te_ok fr_te.2.2 hr
  have e : chunkB m n = firstS m ++ 13 :: 10 :: (bytesL (m.heads ++ [teH]) ++ 13 :: 10 :: chunkL (m.body.length + 1) n m.body) := by
    unfold chunkB
    rw [bytes_app]
    simp
  unfold parseM
  rw [if_neg (by omega), e, this]
  dsimp only
  rw [if_pos h]
/-- P5.5: what is read, written and read again is the same. -/
theorem parse_again {x : List UInt8} {m : Msg} (h : parseM x = .ok m) : okM m = true ∧ parseM (encB m) = .ok m := ⟨(parse_whole h).2.2, parse_enc (parse_whole h).2.2⟩

/-- P5.6: two things that tell how long a body is are never read as a message. -/
theorem parse_frames {f : List UInt8} {v : List UInt8 × List UInt8 × Int} (hf : firstP f = some v) (hl : f.length ≤ 300) (hv : ∀ c ∈ f, vlB c = true) {l : List Hd} (ho : ∀ x ∈ l, okH x = true) (h20 : l.length ≤ 20)
    (h2 : 2 ≤ (getL l nTE).length + (getL l nCL).length) (b : List UInt8) (hb : (f ++ 13 :: 10 :: (bytesL l ++ 13 :: 10 :: b)).length ≤ 8192) : parseM (f ++ 13 :: 10 :: (bytesL l ++ 13 :: 10 :: b)) = .error 50 := by
  obtain ⟨a, p, n⟩ := v
  have e1 := lineR_at f (bytesL l ++ 13 :: 10 :: b) (vl_ends hv) (by omega)
  have e2 := heads_read l 20 b ho h20
  have e3 : lenP l = .error 50 := by
    unfold lenP
    rw [if_pos (by omega)]
  unfold parseM
  rw [if_neg (by omega)]
  unfold msgR rBind
  rw [e1]
  dsimp only
  rw [hf]
  dsimp only
  rw [e2]
  dsimp only
  unfold restR
  rw [e3]
  rfl
theorem chunkL_len : ∀ (g n : Nat) (b : List UInt8), 1 ≤ n → (chunkL g n b).length ≤ 9 * b.length + 5
  | 0, _, _, _ => by simp [chunkL]
  | g + 1, n, [], _ => by simp [chunkL]
  | g + 1, n, c :: b, hn => by
    have ih := chunkL_len g n ((c :: b).drop n) hn
    have hd := digs_len 16 ((c :: b).take n).length
    have h1 : ((c :: b).take n).length + ((c :: b).drop n).length = b.length + 1 := by rw [← List.length_append, List.take_append_drop]; rfl
    have h2 : 1 ≤ ((c :: b).take n).length := by rw [List.length_take]; simp; omega
    rw [chunkL]
    simp only [List.length_append, List.length_cons, List.length_nil]
    have hc : (c :: b).length = b.length + 1 := rfl
    omega
end Go.Proofs.YthniggdimfldhaaGreatDoor
