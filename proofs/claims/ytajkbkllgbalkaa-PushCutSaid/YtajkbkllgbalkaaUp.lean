/- Plain facts of packets: which may be, their bytes, and what is read of bytes. No program stands here; no conditions. -/
import Derived.Test.YtajkbkllgbalkaaPl
import Derived.WalkKit
namespace Go.Proofs.Ytajkbkllgbalkaa
open Go Go.RowKit

abbrev Bs := List UInt8
/-- a number in so many bytes -/
def rowB (n : Nat) : Nat → Bs
  | 0 => []
  | k + 1 => UInt8.ofNat (n / 256 ^ k) :: rowB n k
def be (l : Bs) : Nat := l.foldl (fun n c => n * 256 + c.toNat) 0
theorem rowB_len (n : Nat) : ∀ k, (rowB n k).length = k
  | 0 => rfl
  | k + 1 => by rw [rowB, List.length_cons, rowB_len n k]
theorem foldl_be (l : Bs) : ∀ a, l.foldl (fun n c => n * 256 + c.toNat) a = a * 256 ^ l.length + be l := by
  unfold be
  induction l with
  | nil => intro a; simp
  | cons c l ih =>
    intro a
    rw [List.foldl_cons, List.foldl_cons, ih, ih (0 * 256 + c.toNat), List.length_cons, Nat.pow_succ']
    rw [Nat.zero_mul, Nat.zero_add, Nat.add_mul, Nat.mul_assoc, Nat.add_assoc]
theorem be_cons (c : UInt8) (l : Bs) : be (c :: l) = c.toNat * 256 ^ l.length + be l := by
  show (c :: l).foldl _ 0 = _
  rw [List.foldl_cons, foldl_be]; simp
theorem be_snoc (l : Bs) (c : UInt8) : be (l ++ [c]) = be l * 256 + c.toNat := by unfold be; rw [List.foldl_append]; rfl
theorem be_lt (l : Bs) : be l < 256 ^ l.length := by
  induction l with
  | nil => simp [be]
  | cons c l ih =>
    rw [be_cons, List.length_cons, Nat.pow_succ']
    have := c.toNat_lt
    have h2 : c.toNat * 256 ^ l.length ≤ 255 * 256 ^ l.length := Nat.mul_le_mul_right _ (by omega)
    have : 256 * 256 ^ l.length = 255 * 256 ^ l.length + 256 ^ l.length := by rw [← Nat.succ_mul]
    omega
theorem be_row (n : Nat) : ∀ k, n < 256 ^ k → be (rowB n k) = n
  | 0, h => by simp at h; subst h; rfl
  | k + 1, h => by
    have hk : ∀ m j, be (rowB m j) = m % 256 ^ j := by
      intro m j
      induction j with
      | zero => simp [rowB, be, Nat.mod_one]
      | succ j ih =>
        have e := Nat.mod_mul (x := m) (a := 256 ^ j) (b := 256)
        have u : (UInt8.ofNat (m / 256 ^ j)).toNat = m / 256 ^ j % 256 := by rw [UInt8.toNat_ofNat']
        rw [rowB, be_cons, ih, rowB_len, u, Nat.pow_succ, e, Nat.mul_comm, Nat.add_comm]
    rw [hk, Nat.mod_eq_of_lt h]
theorem row_be (l : Bs) : rowB (be l) l.length = l := by
  have key : ∀ (l : Bs) (q : Nat), rowB (q * 256 ^ l.length + be l) l.length = l := by
    intro l
    induction l with
    | nil => intro q; rfl
    | cons c l ih =>
      intro q
      rw [List.length_cons, rowB, be_cons]
      congr 1
      · have h1 : (q * 256 ^ (l.length + 1) + (c.toNat * 256 ^ l.length + be l)) / 256 ^ l.length = q * 256 + c.toNat := by
          have : q * 256 ^ (l.length + 1) + (c.toNat * 256 ^ l.length + be l) = be l + (q * 256 + c.toNat) * 256 ^ l.length := by
            rw [Nat.pow_succ, Nat.add_mul, Nat.mul_assoc q, Nat.mul_comm (256 ^ l.length) 256]; omega
          rw [this, Nat.add_mul_div_right _ _ (Nat.pow_pos (by decide)), Nat.div_eq_of_lt (be_lt l), Nat.zero_add]
        rw [h1]
        have := c.toNat_lt
        apply UInt8.toNat_inj.1
        rw [UInt8.toNat_ofNat']
        omega
      · have h2 : q * 256 ^ (l.length + 1) + (c.toNat * 256 ^ l.length + be l) = (q * 256 + c.toNat) * 256 ^ l.length + be l := by
          rw [Nat.pow_succ, Nat.add_mul, Nat.mul_assoc q, Nat.mul_comm (256 ^ l.length) 256]; omega
        rw [h2, ih]
  have := key l 0
  rwa [Nat.zero_mul, Nat.zero_add] at this

/-- a packet -/
structure Psh where
  kind : Int
  ver : Int
  frm : Int
  node : Int
  tick : Int
  head : Int
  tail : Int
  text : Bs
  lines : List Bs
def zeroP : Psh := ⟨0, 0, 0, 0, 0, 0, 0, [], []⟩
/-- the fields of a kind -/
def fldL (k : Int) : List Nat := if k = 1 then [0, 3, 6] else if k = 2 then [0, 1, 3, 4, 5, 7] else if k = 3 then [0, 3] else if k = 4 ∨ k = 5 then [0, 2] else []
/-- as bits -/
def fldN (k : Int) : Int := if k = 1 then 73 else if k = 2 then 187 else if k = 3 then 9 else if k = 4 ∨ k = 5 then 5 else 0
theorem kinds (k : Int) : (k = 1 ∨ k = 2 ∨ k = 3 ∨ k = 4 ∨ k = 5) ∨ (fldL k = [] ∧ fldN k = 0) := by
  by_cases h1 : k = 1
  · exact .inl (by simp [h1])
  by_cases h2 : k = 2
  · exact .inl (by simp [h2])
  by_cases h3 : k = 3
  · exact .inl (by simp [h3])
  by_cases h4 : k = 4
  · exact .inl (by simp [h4])
  by_cases h5 : k = 5
  · exact .inl (by simp [h5])
  exact .inr (by simp [fldL, fldN, h1, h2, h3, h4, h5])
def sumL (l : List Bs) : Nat := (l.map List.length).sum
def noLf (s : Bs) : Bool := !s.contains 10
def areL (l : List Bs) : Bool := l.all noLf && decide (l.length ≤ 1000) && decide (sumL l ≤ 65536)
def numF (p : Psh) : Nat → Int
  | 0 => p.ver
  | 1 => p.frm
  | 2 => p.node
  | 3 => p.tick
  | 4 => p.head
  | _ => p.tail
def leastV (k : Int) : Int := if k = 4 ∨ k = 5 then 0 else 1
def inR (n a b : Int) : Bool := decide (a ≤ n) && decide (n ≤ b)
def fitsF (p : Psh) : Nat → Bool
  | 0 => inR p.ver (leastV p.kind) 9007199254740991
  | 1 => decide (1 ≤ p.frm) && decide (p.frm < p.ver)
  | 2 => inR p.node 0 6
  | 3 => inR p.tick 0 9007199254740991
  | 4 => inR p.head 0 65536
  | 5 => inR p.tail 0 65536
  | 6 => decide (p.text.length ≤ 65536)
  | _ => areL p.lines
def equalF (p q : Psh) : Nat → Bool
  | 6 => p.text == q.text
  | 7 => p.lines == q.lines
  | k => decide (numF p k = numF q k)
def all8 (f : Nat → Bool) : Bool := f 0 && f 1 && f 2 && f 3 && f 4 && f 5 && f 6 && f 7
def stepK (p : Psh) (k : Nat) : Bool := if (fldL p.kind).contains k then fitsF p k else equalF p zeroP k
def checkP (p : Psh) : Bool := decide (fldN p.kind ≠ 0) && all8 (stepK p)
def sameB (p q : Psh) : Bool := decide (p.kind = q.kind) && all8 (equalF p q)
theorem sameB_iff (p q : Psh) : sameB p q = true ↔ p = q := by
  obtain ⟨a0, a1, a2, a3, a4, a5, a6, a7, a8⟩ := p
  obtain ⟨b0, b1, b2, b3, b4, b5, b6, b7, b8⟩ := q
  simp [sameB, all8, equalF, numF, and_assoc]
theorem sameB_refl (p : Psh) : sameB p p = true := (sameB_iff p p).2 rfl
def cntL (s : Bs) : Bs := rowB s.length 3 ++ s
def writeF (p : Psh) : Nat → Bs
  | 6 => cntL p.text
  | 7 => rowB p.lines.length 2 ++ p.lines.flatMap cntL
  | k => rowB (numF p k).toNat 7
def bytesP (p : Psh) : Bs := rowB p.kind.toNat 1 ++ (fldL p.kind).flatMap (writeF p)

/-! ### reading -/
abbrev St := Except Int Bs
def tkV : St → Nat → Bs
  | .ok B, n => if n ≤ B.length then B.take n else []
  | .error _, _ => []
def tkC : St → Nat → St
  | .ok B, n => if n ≤ B.length then .ok (B.drop n) else .error 3
  | .error e, _ => .error e
def nmV (st : St) (k : Nat) : Nat := be (tkV st k)
def flC : St → Int → St
  | .ok _, e => .error e
  | .error e', _ => .error e'
def cnV (st : St) (k most : Nat) : Nat := if nmV st k ≤ most then nmV st k else 0
def cnC (st : St) (k most : Nat) : St := if nmV st k ≤ most then tkC st k else flC (tkC st k) 5
def txV (st : St) : Bs := tkV (cnC st 3 65536) (cnV st 3 65536)
def txC (st : St) : St := tkC (cnC st 3 65536) (cnV st 3 65536)
def lnC : Nat → St → St
  | 0, st => st
  | n + 1, st => lnC n (txC st)
def lnV : Nat → St → List Bs
  | 0, _ => []
  | n + 1, st => txV st :: lnV n (txC st)
def lsV (st : St) : List Bs := lnV (cnV st 2 1000) (cnC st 2 1000)
def lsC (st : St) : St := lnC (cnV st 2 1000) (cnC st 2 1000)
def setF (p : Psh) (st : St) : Nat → Psh
  | 0 => { p with ver := nmV st 7 }
  | 1 => { p with frm := nmV st 7 }
  | 2 => { p with node := nmV st 7 }
  | 3 => { p with tick := nmV st 7 }
  | 4 => { p with head := nmV st 7 }
  | 5 => { p with tail := nmV st 7 }
  | 6 => { p with text := txV st }
  | _ => { p with lines := lsV st }
def rdC (st : St) : Nat → St
  | 6 => txC st
  | 7 => lsC st
  | _ => tkC st 7
def rdF (x : Psh × St) (k : Nat) : Psh × St := (setF x.1 x.2 k, rdC x.2 k)
def readP (b : Bs) : Psh × St := (fldL (nmV (.ok b) 1)).foldl rdF ({ zeroP with kind := nmV (.ok b) 1 }, tkC (.ok b) 1)
def endP (x : Psh × St) : Psh × Int := match x.2 with
  | .error e => (zeroP, e)
  | .ok B => if B = [] ∧ checkP x.1 = true then (x.1, 0) else (zeroP, 4)
def parseP (b : Bs) : Psh × Int := endP (readP b)

/-! ### what is written is read -/
theorem tkV_ok (B : Bs) (n : Nat) : tkV (.ok B) n = if n ≤ B.length then B.take n else [] := rfl
theorem tkC_ok (B : Bs) (n : Nat) : tkC (.ok B) n = if n ≤ B.length then .ok (B.drop n) else .error 3 := rfl
theorem tk_app {a : Bs} (r : Bs) {n : Nat} (h : a.length = n) : tkV (.ok (a ++ r)) n = a ∧ tkC (.ok (a ++ r)) n = .ok r := by
  subst h
  rw [tkV_ok, tkC_ok, if_pos (by simp), if_pos (by simp)]
  exact ⟨List.take_left, by rw [List.drop_left]⟩
theorem nm_app {n k : Nat} (r : Bs) (h : n < 256 ^ k) : nmV (.ok (rowB n k ++ r)) k = n ∧ tkC (.ok (rowB n k ++ r)) k = .ok r := by
  obtain ⟨h1, h2⟩ := tk_app (a := rowB n k) r (rowB_len n k)
  exact ⟨by unfold nmV; rw [h1, be_row n k h], h2⟩
theorem cn_app {n k most : Nat} (r : Bs) (h : n < 256 ^ k) (hm : n ≤ most) : cnV (.ok (rowB n k ++ r)) k most = n ∧ cnC (.ok (rowB n k ++ r)) k most = .ok r := by
  obtain ⟨h1, h2⟩ := nm_app r h
  unfold cnV cnC
  rw [h1, h2, if_pos hm, if_pos hm]
  exact ⟨rfl, rfl⟩
theorem tx_app {s : Bs} (r : Bs) (h : s.length ≤ 65536) : txV (.ok (cntL s ++ r)) = s ∧ txC (.ok (cntL s ++ r)) = .ok r := by
  unfold txV txC cntL
  obtain ⟨h1, h2⟩ := cn_app (n := s.length) (k := 3) (most := 65536) (s ++ r) (by omega) h
  rw [List.append_assoc, h1, h2]
  exact tk_app r rfl
theorem ln_app (l : List Bs) (r : Bs) (h : ∀ s ∈ l, s.length ≤ 65536) : lnV l.length (.ok (l.flatMap cntL ++ r)) = l ∧ lnC l.length (.ok (l.flatMap cntL ++ r)) = .ok r := by
  induction l with
  | nil => exact ⟨rfl, rfl⟩
  | cons s l ih =>
    obtain ⟨h1, h2⟩ := tx_app (l.flatMap cntL ++ r) (h s (by simp))
    obtain ⟨h3, h4⟩ := ih fun v hv => h v (by simp [hv])
    rw [List.flatMap_cons, List.append_assoc, List.length_cons, lnV, lnC, h1, h2, h3, h4]
    exact ⟨rfl, rfl⟩
theorem sum_mem {l : List Bs} {s : Bs} (h : s ∈ l) : s.length ≤ sumL l := by
  induction l with
  | nil => cases h
  | cons a l ih =>
    unfold sumL at ih ⊢
    rw [List.map_cons, List.sum_cons]
    rcases List.mem_cons.1 h with rfl | h
    · omega
    · have := ih h; omega
theorem ls_app {l : List Bs} (r : Bs) (h : areL l = true) : lsV (.ok (rowB l.length 2 ++ l.flatMap cntL ++ r)) = l ∧ lsC (.ok (rowB l.length 2 ++ l.flatMap cntL ++ r)) = .ok r := by
  unfold areL at h
  rw [Bool.and_eq_true, Bool.and_eq_true, decide_eq_true_iff, decide_eq_true_iff] at h
  obtain ⟨⟨_, h1⟩, h2⟩ := h
  unfold lsV lsC
  obtain ⟨k1, k2⟩ := cn_app (n := l.length) (k := 2) (most := 1000) (l.flatMap cntL ++ r) (by omega) h1
  rw [List.append_assoc, k1, k2]
  exact ln_app l r fun s hs => Nat.le_trans (sum_mem hs) h2
theorem inR_iff (n a b : Int) : inR n a b = true ↔ a ≤ n ∧ n ≤ b := by unfold inR; rw [Bool.and_eq_true, decide_eq_true_iff, decide_eq_true_iff]
theorem int_app {n : Int} (r : Bs) (h : 0 ≤ n) (h' : n ≤ 9007199254740991) : ((nmV (.ok (rowB n.toNat 7 ++ r)) 7 : Nat) : Int) = n ∧ tkC (.ok (rowB n.toNat 7 ++ r)) 7 = .ok r := by
  obtain ⟨h1, h2⟩ := nm_app (n := n.toNat) (k := 7) r (by omega)
  exact ⟨by rw [h1]; omega, h2⟩
theorem check_kind {p : Psh} (h : checkP p = true) : p.kind = 1 ∨ p.kind = 2 ∨ p.kind = 3 ∨ p.kind = 4 ∨ p.kind = 5 := by
  rcases kinds p.kind with h1 | ⟨_, h1⟩
  · exact h1
  · unfold checkP at h
    rw [h1] at h
    cases h
theorem check_all {p : Psh} (h : checkP p = true) : ∀ k, k < 8 → stepK p k = true := by
  unfold checkP all8 at h
  simp only [Bool.and_eq_true] at h
  intro k hk
  match k, hk with
  | 0, _ => exact h.2.1.1.1.1.1.1.1
  | 1, _ => exact h.2.1.1.1.1.1.1.2
  | 2, _ => exact h.2.1.1.1.1.1.2
  | 3, _ => exact h.2.1.1.1.1.2
  | 4, _ => exact h.2.1.1.1.2
  | 5, _ => exact h.2.1.1.2
  | 6, _ => exact h.2.1.2
  | 7, _ => exact h.2.2
theorem least_pos (k : Int) : 0 ≤ leastV k := by unfold leastV; split <;> omega
/-- a field out of another packet -/
def putF (p q : Psh) : Nat → Psh
  | 0 => { q with ver := p.ver }
  | 1 => { q with frm := p.frm }
  | 2 => { q with node := p.node }
  | 3 => { q with tick := p.tick }
  | 4 => { q with head := p.head }
  | 5 => { q with tail := p.tail }
  | 6 => { q with text := p.text }
  | _ => { q with lines := p.lines }
/-- one field -/
theorem rd_app {p q : Psh} {k : Nat} (r : Bs) (h : fitsF p k = true) (h0 : 0 ≤ p.ver ∧ p.ver ≤ 9007199254740991) (hk : k < 8) : (rdF (q, .ok (writeF p k ++ r)) k).2 = .ok r ∧ (rdF (q, .ok (writeF p k ++ r)) k).1 = putF p q k := by
  have num : ∀ n : Int, 0 ≤ n → n ≤ 9007199254740991 → ((nmV (.ok (rowB n.toNat 7 ++ r)) 7 : Nat) : Int) = n ∧ tkC (.ok (rowB n.toNat 7 ++ r)) 7 = .ok r := fun n a b => int_app r a b
  match k, hk, h with
  | 0, _, h =>
    obtain ⟨a, b⟩ := num p.ver h0.1 h0.2
    exact ⟨b, congrArg (fun n => ({ q with ver := n } : Psh)) a⟩
  | 1, _, h =>
    have h : (decide (1 ≤ p.frm) && decide (p.frm < p.ver)) = true := h
    rw [Bool.and_eq_true, decide_eq_true_iff, decide_eq_true_iff] at h
    obtain ⟨a, b⟩ := num p.frm (by omega) (by omega)
    exact ⟨b, congrArg (fun n => ({ q with frm := n } : Psh)) a⟩
  | 2, _, h =>
    have h := (inR_iff _ _ _).1 h
    obtain ⟨a, b⟩ := num p.node (by omega) (by omega)
    exact ⟨b, congrArg (fun n => ({ q with node := n } : Psh)) a⟩
  | 3, _, h =>
    have h := (inR_iff _ _ _).1 h
    obtain ⟨a, b⟩ := num p.tick (by omega) (by omega)
    exact ⟨b, congrArg (fun n => ({ q with tick := n } : Psh)) a⟩
  | 4, _, h =>
    have h := (inR_iff _ _ _).1 h
    obtain ⟨a, b⟩ := num p.head (by omega) (by omega)
    exact ⟨b, congrArg (fun n => ({ q with head := n } : Psh)) a⟩
  | 5, _, h =>
    have h := (inR_iff _ _ _).1 h
    obtain ⟨a, b⟩ := num p.tail (by omega) (by omega)
    exact ⟨b, congrArg (fun n => ({ q with tail := n } : Psh)) a⟩
  | 6, _, h =>
    obtain ⟨a, b⟩ := tx_app (s := p.text) r (of_decide_eq_true h)
    exact ⟨b, congrArg (fun n => ({ q with text := n } : Psh)) a⟩
  | 7, _, h =>
    obtain ⟨a, b⟩ := ls_app (l := p.lines) r h
    exact ⟨b, congrArg (fun n => ({ q with lines := n } : Psh)) a⟩
theorem rd_fst (x : Psh × St) (k : Nat) : rdF x k = ((rdF x k).1, (rdF x k).2) := rfl
theorem check_ver {p : Psh} (h : checkP p = true) : 0 ≤ p.ver ∧ p.ver ≤ 9007199254740991 := by
  have h0 := check_all h 0 (by omega)
  have hk := check_kind h
  unfold stepK at h0
  rw [if_pos (by rcases hk with e | e | e | e | e <;> rw [e] <;> rfl)] at h0
  have := (inR_iff _ _ _).1 h0
  have := least_pos p.kind
  omega
/-- What may be is read of its bytes as it was, and all that stands behind them is left. -/
theorem read_bytes {p : Psh} (h : checkP p = true) (z : Bs) : readP (bytesP p ++ z) = (p, .ok z) := by
  have hk := check_kind h
  have hv := check_ver h
  have ha := check_all h
  have hk1 : nmV (.ok (bytesP p ++ z)) 1 = p.kind.toNat ∧ tkC (.ok (bytesP p ++ z)) 1 = .ok ((fldL p.kind).flatMap (writeF p) ++ z) := by
    unfold bytesP
    rw [List.append_assoc]
    exact nm_app _ (by omega)
  unfold readP
  rw [hk1.1, hk1.2]
  have hkk : ((p.kind.toNat : Nat) : Int) = p.kind := by omega
  rw [hkk]
  have st : ∀ (k : Nat) (q : Psh) (r : Bs), k < 8 → (fldL p.kind).contains k = true → _ := fun k q r h1 h2 => rd_app (p := p) (q := q) (k := k) r (by have := ha k h1; unfold stepK at this; rwa [if_pos h2] at this) hv h1
  have zs : ∀ k, k < 8 → (fldL p.kind).contains k = false → equalF p zeroP k = true := fun k h1 h2 => by have := ha k h1; unfold stepK at this; rwa [if_neg (by rw [h2]; simp)] at this
  have two : ∀ (k : Nat) (q : Psh) (r : Bs) (q' : Psh), k < 8 → (fldL p.kind).contains k = true → putF p q k = q' → rdF (q, .ok (writeF p k ++ r)) k = (q', .ok r) := fun k q r q' h1 h2 e => by
    obtain ⟨a, b⟩ := st k q r h1 h2
    rw [rd_fst, a, b, e]
  clear st hk1
  obtain ⟨k, a1, a2, a3, a4, a5, a6, a7, a8⟩ := p
  dsimp only at hk hkk
  rcases hk with rfl | rfl | rfl | rfl | rfl
  · have e1 := zs 1 (by omega) rfl; have e2 := zs 2 (by omega) rfl; have e4 := zs 4 (by omega) rfl; have e5 := zs 5 (by omega) rfl; have e7 := zs 7 (by omega) rfl
    simp only [equalF, numF, zeroP, decide_eq_true_eq, beq_iff_eq] at e1 e2 e4 e5 e7
    subst e1 e2 e4 e5 e7
    show List.foldl rdF (_, .ok (List.flatMap _ [0, 3, 6] ++ z)) [0, 3, 6] = _
    simp only [List.flatMap_cons, List.flatMap_nil, List.append_assoc, List.foldl_cons, List.foldl_nil, List.nil_append]
    rw [two 0 _ _ _ (by omega) rfl rfl, two 3 _ _ _ (by omega) rfl rfl, two 6 _ _ _ (by omega) rfl rfl]
    rfl
  · have e2 := zs 2 (by omega) rfl; have e6 := zs 6 (by omega) rfl
    simp only [equalF, numF, zeroP, decide_eq_true_eq, beq_iff_eq] at e2 e6
    subst e2 e6
    show List.foldl rdF (_, .ok (List.flatMap _ [0, 1, 3, 4, 5, 7] ++ z)) [0, 1, 3, 4, 5, 7] = _
    simp only [List.flatMap_cons, List.flatMap_nil, List.append_assoc, List.foldl_cons, List.foldl_nil, List.nil_append]
    rw [two 0 _ _ _ (by omega) rfl rfl, two 1 _ _ _ (by omega) rfl rfl, two 3 _ _ _ (by omega) rfl rfl, two 4 _ _ _ (by omega) rfl rfl, two 5 _ _ _ (by omega) rfl rfl, two 7 _ _ _ (by omega) rfl rfl]
    rfl
  · have e1 := zs 1 (by omega) rfl; have e2 := zs 2 (by omega) rfl; have e4 := zs 4 (by omega) rfl; have e5 := zs 5 (by omega) rfl; have e6 := zs 6 (by omega) rfl; have e7 := zs 7 (by omega) rfl
    simp only [equalF, numF, zeroP, decide_eq_true_eq, beq_iff_eq] at e1 e2 e4 e5 e6 e7
    subst e1 e2 e4 e5 e6 e7
    show List.foldl rdF (_, .ok (List.flatMap _ [0, 3] ++ z)) [0, 3] = _
    simp only [List.flatMap_cons, List.flatMap_nil, List.append_assoc, List.foldl_cons, List.foldl_nil, List.nil_append]
    rw [two 0 _ _ _ (by omega) rfl rfl, two 3 _ _ _ (by omega) rfl rfl]
    rfl
  all_goals
    have e1 := zs 1 (by omega) rfl; have e3 := zs 3 (by omega) rfl; have e4 := zs 4 (by omega) rfl; have e5 := zs 5 (by omega) rfl; have e6 := zs 6 (by omega) rfl; have e7 := zs 7 (by omega) rfl
    simp only [equalF, numF, zeroP, decide_eq_true_eq, beq_iff_eq] at e1 e3 e4 e5 e6 e7
    subst e1 e3 e4 e5 e6 e7
    show List.foldl rdF (_, .ok (List.flatMap _ [0, 2] ++ z)) [0, 2] = _
    simp only [List.flatMap_cons, List.flatMap_nil, List.append_assoc, List.foldl_cons, List.foldl_nil, List.nil_append]
    rw [two 0 _ _ _ (by omega) rfl rfl, two 2 _ _ _ (by omega) rfl rfl]
    rfl
theorem parse_bytes {p : Psh} (h : checkP p = true) : parseP (bytesP p) = (p, 0) := by
  have := read_bytes h []
  rw [List.append_nil] at this
  unfold parseP endP
  rw [this]
  simp [h]
theorem parse_more {p : Psh} (h : checkP p = true) (c : UInt8) : parseP (bytesP p ++ [c]) = (zeroP, 4) := by
  unfold parseP endP
  rw [read_bytes h [c]]
  simp

/-! ### what is read was written -/
theorem tk_ok {st : St} {n : Nat} {r : Bs} (h : tkC st n = .ok r) : st = .ok (tkV st n ++ r) ∧ (tkV st n).length = n := by
  cases st with
  | error e => cases h
  | ok B =>
    rw [tkC_ok] at h
    rw [tkV_ok]
    split at h
    · rename_i hl
      rw [if_pos hl]
      obtain rfl : B.drop n = r := by injection h
      exact ⟨by rw [List.take_append_drop], by rw [List.length_take]; omega⟩
    · cases h
theorem nm_ok {st : St} {k : Nat} {r : Bs} (h : tkC st k = .ok r) : st = .ok (rowB (nmV st k) k ++ r) := by
  obtain ⟨h1, h2⟩ := tk_ok h
  have e := row_be (tkV st k)
  rw [h2] at e
  have e : rowB (nmV st k) k = tkV st k := e
  rw [e]; exact h1
theorem fl_ok {st : St} {e : Int} {r : Bs} (h : flC st e = .ok r) : False := by cases st <;> cases h
theorem cn_ok {st : St} {k most : Nat} {r : Bs} (h : cnC st k most = .ok r) : st = .ok (rowB (cnV st k most) k ++ r) := by
  unfold cnC at h
  unfold cnV
  split at h
  · rename_i hl
    rw [if_pos hl]; exact nm_ok h
  · exact (fl_ok h).elim
theorem tx_ok {st : St} {r : Bs} (h : txC st = .ok r) : st = .ok (cntL (txV st) ++ r) := by
  obtain ⟨h1, h2⟩ := tk_ok h
  have h3 := cn_ok h1
  unfold cntL
  rw [show (txV st).length = cnV st 3 65536 from h2, List.append_assoc]
  exact h3
theorem ln_ok : ∀ (n : Nat) {st : St} {r : Bs}, lnC n st = .ok r → st = .ok ((lnV n st).flatMap cntL ++ r) ∧ (lnV n st).length = n
  | 0, st, r, h => ⟨h, rfl⟩
  | n + 1, st, r, h => by
    obtain ⟨h1, h2⟩ := ln_ok n h
    have h3 := tx_ok h1
    rw [lnV, List.flatMap_cons, List.append_assoc, List.length_cons, h2]
    exact ⟨h3, rfl⟩
theorem ls_ok {st : St} {r : Bs} (h : lsC st = .ok r) : st = .ok (rowB (lsV st).length 2 ++ (lsV st).flatMap cntL ++ r) := by
  obtain ⟨h1, h2⟩ := ln_ok _ h
  have h3 := cn_ok h1
  rw [show (lsV st).length = cnV st 2 1000 from h2, List.append_assoc]
  exact h3
theorem rd_ok {p : Psh} {st : St} {k : Nat} {r : Bs} (hk : k < 8) (h : (rdF (p, st) k).2 = .ok r) : st = .ok (writeF (rdF (p, st) k).1 k ++ r) := by
  have num : tkC st 7 = .ok r → ∀ n : Int, n = (nmV st 7 : Nat) → st = .ok (rowB n.toNat 7 ++ r) := fun h n e => by
    subst e
    exact nm_ok h
  match k, hk, h with
  | 0, _, h => exact num h _ rfl
  | 1, _, h => exact num h _ rfl
  | 2, _, h => exact num h _ rfl
  | 3, _, h => exact num h _ rfl
  | 4, _, h => exact num h _ rfl
  | 5, _, h => exact num h _ rfl
  | 6, _, h => exact tx_ok h
  | 7, _, h => exact ls_ok h
theorem rd_err {p : Psh} {e : Int} (k : Nat) (hk : k < 8) : (rdF (p, .error e) k).2 = .error e := by
  have hn : ∀ k most, cnC (.error e) k most = .error e := fun k most => by unfold cnC; split <;> rfl
  have ht : txC (.error e) = .error e := by unfold txC; rw [hn]; rfl
  have hl : ∀ n, lnC n (.error e) = .error e := fun n => by
    induction n with
    | zero => rfl
    | succ n ih => rw [lnC, ht, ih]
  match k, hk with
  | 0, _ => rfl
  | 1, _ => rfl
  | 2, _ => rfl
  | 3, _ => rfl
  | 4, _ => rfl
  | 5, _ => rfl
  | 6, _ => exact ht
  | 7, _ => show lsC _ = _; unfold lsC; rw [hn]; exact hl _
theorem wr_set {p : Psh} {st : St} (k j : Nat) (hk : k < 8) (hj : j < 8) (h : j ≠ k) : writeF (rdF (p, st) k).1 j = writeF p j ∧ (rdF (p, st) k).1.kind = p.kind := by
  match k, hk with
  | 0, _ => match j, hj with
    | 0, _ => exact absurd rfl h
    | 1, _ | 2, _ | 3, _ | 4, _ | 5, _ | 6, _ | 7, _ => exact ⟨rfl, rfl⟩
  | 1, _ => match j, hj with
    | 1, _ => exact absurd rfl h
    | 0, _ | 2, _ | 3, _ | 4, _ | 5, _ | 6, _ | 7, _ => exact ⟨rfl, rfl⟩
  | 2, _ => match j, hj with
    | 2, _ => exact absurd rfl h
    | 0, _ | 1, _ | 3, _ | 4, _ | 5, _ | 6, _ | 7, _ => exact ⟨rfl, rfl⟩
  | 3, _ => match j, hj with
    | 3, _ => exact absurd rfl h
    | 0, _ | 1, _ | 2, _ | 4, _ | 5, _ | 6, _ | 7, _ => exact ⟨rfl, rfl⟩
  | 4, _ => match j, hj with
    | 4, _ => exact absurd rfl h
    | 0, _ | 1, _ | 2, _ | 3, _ | 5, _ | 6, _ | 7, _ => exact ⟨rfl, rfl⟩
  | 5, _ => match j, hj with
    | 5, _ => exact absurd rfl h
    | 0, _ | 1, _ | 2, _ | 3, _ | 4, _ | 6, _ | 7, _ => exact ⟨rfl, rfl⟩
  | 6, _ => match j, hj with
    | 6, _ => exact absurd rfl h
    | 0, _ | 1, _ | 2, _ | 3, _ | 4, _ | 5, _ | 7, _ => exact ⟨rfl, rfl⟩
  | 7, _ => match j, hj with
    | 7, _ => exact absurd rfl h
    | 0, _ | 1, _ | 2, _ | 3, _ | 4, _ | 5, _ | 6, _ => exact ⟨rfl, rfl⟩
theorem rdF_kind (x : Psh × St) (k : Nat) : (rdF x k).1.kind = x.1.kind := by unfold rdF setF; dsimp only; split <;> rfl
theorem fold_kind (L : List Nat) : ∀ x : Psh × St, (L.foldl rdF x).1.kind = x.1.kind := by
  induction L with
  | nil => intro x; rfl
  | cons k L ih => intro x; rw [List.foldl_cons, ih, rdF_kind]
theorem fold_write (L : List Nat) (hL : ∀ k ∈ L, k < 8) : ∀ x : Psh × St, ∀ j, j < 8 → j ∉ L → writeF (L.foldl rdF x).1 j = writeF x.1 j := by
  induction L with
  | nil => intro x j _ _; rfl
  | cons k L ih =>
    intro x j hj hn
    rw [List.foldl_cons, ih (fun i hi => hL i (by simp [hi])) _ j hj (fun h => hn (by simp [h]))]
    exact (wr_set k j (hL k (by simp)) hj (fun e => hn (by simp [e]))).1
theorem fold_ok (L : List Nat) (hL : ∀ k ∈ L, k < 8) (hn : L.Nodup) : ∀ (x : Psh × St) (r : Bs), (L.foldl rdF x).2 = .ok r → x.2 = .ok (L.flatMap (writeF (L.foldl rdF x).1) ++ r) := by
  induction L with
  | nil => intro x r h; exact h
  | cons k L ih =>
    intro x r h
    obtain ⟨h1, h2⟩ := List.nodup_cons.1 hn
    rw [List.foldl_cons] at h ⊢
    have h3 := ih (fun i hi => hL i (by simp [hi])) h2 _ r h
    have h4 := rd_ok (p := x.1) (st := x.2) (hL k (by simp)) h3
    rw [List.flatMap_cons, List.append_assoc, fold_write L (fun i hi => hL i (by simp [hi])) _ k (hL k (by simp)) h1]
    exact h4
theorem fldL_lt (k : Int) : ∀ i ∈ fldL k, i < 8 := by
  unfold fldL
  repeat' split
  all_goals decide
theorem fldL_nodup (k : Int) : (fldL k).Nodup := by
  unfold fldL
  repeat' split
  all_goals decide
/-- What is read of bytes has just these bytes, and may be. -/
theorem bytes_read {b : Bs} (h : (parseP b).2 = 0) (hok : ∀ e, (readP b).2 = .error e → e ≠ 0) : checkP (parseP b).1 = true ∧ bytesP (parseP b).1 = b := by
  unfold parseP endP at h ⊢
  generalize hq : readP b = x at h ⊢
  obtain ⟨q, st⟩ := x
  cases st with
  | error e => exact absurd h (hok e (by rw [hq]))
  | ok B =>
    dsimp only at h ⊢
    split at h
    · rename_i hc
      rw [if_pos hc]
      obtain ⟨rfl, hc⟩ := hc
      refine ⟨hc, ?_⟩
      unfold readP at hq
      have hk := fold_kind (fldL (nmV (.ok b) 1)) ({ zeroP with kind := nmV (.ok b) 1 }, tkC (.ok b) 1)
      have hf := fold_ok (fldL (nmV (.ok b) 1)) (fldL_lt _) (fldL_nodup _) ({ zeroP with kind := nmV (.ok b) 1 }, tkC (.ok b) 1) [] (by rw [hq])
      rw [hq] at hk hf
      dsimp only at hk hf
      have h1 := nm_ok hf
      have h2 : b = rowB (nmV (.ok b) 1) 1 ++ ((fldL (nmV (.ok b) 1 : Nat)).flatMap (writeF q) ++ []) := by injection h1
      unfold bytesP
      rw [hk]
      refine Eq.trans ?_ h2.symm
      rw [List.append_nil]
      rfl
    · cases h
def errOk (st : St) : Prop := ∀ e, st = .error e → e = 3 ∨ e = 5
theorem tk_err {st : St} (n : Nat) (h : errOk st) : errOk (tkC st n) := fun e he => by
  cases st with
  | error e' => exact h e he
  | ok B =>
    rw [tkC_ok] at he
    split at he
    · cases he
    · cases he; exact .inl rfl
theorem cn_err {st : St} (k most : Nat) (h : errOk st) : errOk (cnC st k most) := fun e he => by
  unfold cnC at he
  split at he
  · exact tk_err k h e he
  · cases hq : tkC st k with
    | error e' => rw [hq] at he; exact tk_err k h e (by rw [hq]; exact he)
    | ok B => rw [hq] at he; cases he; exact .inr rfl
theorem tx_err {st : St} (h : errOk st) : errOk (txC st) := tk_err _ (cn_err _ _ h)
theorem ln_err : ∀ (n : Nat) {st : St}, errOk st → errOk (lnC n st)
  | 0, _, h => h
  | n + 1, _, h => ln_err n (tx_err h)
theorem rdC_err {st : St} (k : Nat) (h : errOk st) : errOk (rdC st k) := by
  unfold rdC
  split
  · exact tx_err h
  · exact ln_err _ (cn_err _ _ h)
  · exact tk_err _ h
theorem fold_err (L : List Nat) : ∀ x : Psh × St, errOk x.2 → errOk (L.foldl rdF x).2 := by
  induction L with
  | nil => intro x h; exact h
  | cons k L ih => intro x h; rw [List.foldl_cons]; exact ih _ (rdC_err k h)
theorem ok_err (b : Bs) : errOk (.ok b) := fun e h => (by cases h)
theorem read_err (b : Bs) : errOk (readP b).2 := fold_err _ _ (tk_err _ (ok_err b))
theorem parse_ok {b : Bs} (h : (parseP b).2 = 0) : checkP (parseP b).1 = true ∧ bytesP (parseP b).1 = b :=
  bytes_read h fun e he => by rcases read_err b e he with rfl | rfl <;> decide
theorem parse_bad {b : Bs} (h : (parseP b).2 ≠ 0) : (parseP b).1 = zeroP := by
  unfold parseP endP at h ⊢
  split
  · rfl
  · rename_i B hB
    rw [hB] at h
    dsimp only at h
    split
    · rename_i hc; rw [if_pos hc] at h; exact absurd rfl h
    · rfl
/-! ### bytes that are cut -/
/-- what is read of a beginning is what is read of all, or there are too few -/
def Pre (y : Bs) (st st' : St) : Prop := (∃ r, st = .ok (r ++ y) ∧ st' = .ok r) ∨ st' = .error 3
theorem tk_pre {y r : Bs} {n : Nat} {q : Bs} (_h : tkC (.ok (r ++ y)) n = .ok q) : (tkV (.ok (r ++ y)) n = tkV (.ok r) n ∧ Pre y (.ok q) (tkC (.ok r) n)) ∨ tkC (.ok r) n = .error 3 := by
  by_cases hl : n ≤ r.length
  · left
    rw [tkC_ok, if_pos (by rw [List.length_append]; omega)] at _h
    obtain rfl : (r ++ y).drop n = q := by injection _h
    refine ⟨?_, .inl ⟨r.drop n, ?_, ?_⟩⟩
    · rw [tkV_ok, tkV_ok, if_pos (by rw [List.length_append]; omega), if_pos hl, List.take_append_of_le_length hl]
    · rw [List.drop_append_of_le_length hl]
    · rw [tkC_ok, if_pos hl]
  · right
    rw [tkC_ok, if_neg hl]
theorem tk3 (n : Nat) : tkC (.error 3) n = .error 3 := rfl
theorem cn3 (k most : Nat) : cnC (.error 3) k most = .error 3 := by unfold cnC; split <;> rfl
theorem tx3 : txC (.error 3) = .error 3 := by unfold txC; rw [cn3]; rfl
theorem ln3 (n : Nat) : lnC n (.error 3) = .error 3 := by
  induction n with
  | zero => rfl
  | succ n ih => rw [lnC, tx3, ih]
theorem cn_pre {y r : Bs} {k most : Nat} {q : Bs} (h : cnC (.ok (r ++ y)) k most = .ok q) : (cnV (.ok (r ++ y)) k most = cnV (.ok r) k most ∧ Pre y (.ok q) (cnC (.ok r) k most)) ∨ cnC (.ok r) k most = .error 3 := by
  unfold cnC at h
  split at h
  · rename_i hl
    rcases tk_pre h with ⟨h1, h2⟩ | h1
    · have e : nmV (.ok (r ++ y)) k = nmV (.ok r) k := by unfold nmV; rw [h1]
      left
      have hl' : nmV (.ok r) k ≤ most := by rw [← e]; exact hl
      unfold cnV cnC
      rw [if_pos hl, if_pos hl', if_pos hl']
      exact ⟨e, h2⟩
    · right
      unfold cnC
      rw [h1]
      split <;> rfl
  · exact (fl_ok h).elim
theorem tx_pre {y r q : Bs} (h : txC (.ok (r ++ y)) = .ok q) : Pre y (.ok q) (txC (.ok r)) := by
  unfold txC at h ⊢
  cases hc : cnC (.ok (r ++ y)) 3 65536 with
  | error e => rw [hc] at h; cases h
  | ok B =>
    rcases cn_pre hc with ⟨h1, h2⟩ | h1
    · rcases h2 with ⟨r', h3, h4⟩ | h4
      · rw [hc] at h
        rw [← h1, h4]
        have h3 : B = r' ++ y := by injection h3
        subst h3
        rcases tk_pre h with ⟨_, h6⟩ | h6
        · exact h6
        · exact .inr h6
      · rw [h4]; exact .inr rfl
    · rw [h1]; exact .inr rfl
theorem ln_pre {y : Bs} : ∀ (n : Nat) {r q : Bs}, lnC n (.ok (r ++ y)) = .ok q → Pre y (.ok q) (lnC n (.ok r))
  | 0, r, q, h => .inl ⟨r, by rw [lnC] at h; exact h.symm, rfl⟩
  | n + 1, r, q, h => by
    rw [lnC] at h ⊢
    cases hc : txC (.ok (r ++ y)) with
    | error e =>
      rw [hc] at h
      have hl : ∀ n, lnC n (.error e) = .error e := fun n => by
        induction n with
        | zero => rfl
        | succ n ih => rw [lnC, show txC (.error e) = .error e from rd_err (p := zeroP) 6 (by decide), ih]
      rw [hl] at h; cases h
    | ok B =>
      rw [hc] at h
      rcases tx_pre hc with ⟨r', h3, h4⟩ | h4
      · have h3 : B = r' ++ y := by injection h3
        subst h3
        rw [h4]; exact ln_pre n h
      · rw [h4, ln3]; exact .inr rfl
theorem rdC_pre {y r q : Bs} {k : Nat} (h : rdC (.ok (r ++ y)) k = .ok q) : Pre y (.ok q) (rdC (.ok r) k) := by
  unfold rdC at h ⊢
  split at h
  · exact tx_pre h
  · unfold lsC at h ⊢
    cases hc : cnC (.ok (r ++ y)) 2 1000 with
    | error e =>
      rw [hc] at h
      have hl : ∀ n, lnC n (.error e) = .error e := fun n => by
        induction n with
        | zero => rfl
        | succ n ih => rw [lnC, show txC (.error e) = .error e from rd_err (p := zeroP) 6 (by decide), ih]
      rw [hl] at h; cases h
    | ok B =>
      rw [hc] at h
      rcases cn_pre hc with ⟨h1, h2⟩ | h1
      · rw [← h1]
        rcases h2 with ⟨r', h3, h4⟩ | h4
        · have h3 : B = r' ++ y := by injection h3
          subst h3
          rw [h4]; exact ln_pre _ h
        · rw [h4, ln3]; exact .inr rfl
      · rw [h1, ln3]; exact .inr rfl
  · rcases tk_pre h with ⟨_, h6⟩ | h6
    · exact h6
    · exact .inr h6
theorem fold_pre {y : Bs} (L : List Nat) (hL : ∀ k ∈ L, k < 8) : ∀ (x x' : Psh × St) (q : Bs), Pre y x.2 x'.2 → (L.foldl rdF x).2 = .ok q → Pre y (.ok q) (L.foldl rdF x').2 := by
  induction L with
  | nil => intro x x' q h e; rw [List.foldl_nil] at e; rw [← e]; exact h
  | cons k L ih =>
    intro x x' q h e
    rw [List.foldl_cons] at e ⊢
    refine ih (fun i hi => hL i (by simp [hi])) _ _ q ?_ e
    rcases h with ⟨r, h1, h2⟩ | h1
    · cases hc : (rdF x k).2 with
      | error e' =>
        have : ∀ (L : List Nat) (z : Psh × St), (∀ i ∈ L, i < 8) → z.2 = .error e' → (L.foldl rdF z).2 = .error e' := fun L => by
          induction L with
          | nil => intro z _ h; exact h
          | cons j L ih => intro z hz h; rw [List.foldl_cons]; exact ih _ (fun i hi => hz i (by simp [hi])) (by rw [show z = (z.1, z.2) from rfl, h]; exact rd_err j (hz j (by simp)))
        rw [this L _ (fun i hi => hL i (by simp [hi])) hc] at e
        cases e
      | ok B =>
        have hc' : rdC x.2 k = .ok B := hc
        rw [h1] at hc'
        show Pre y _ (rdC x'.2 k)
        rw [h2]
        exact rdC_pre hc'
    · right
      show (rdF (x'.1, x'.2) k).2 = _
      rw [h1]
      exact rd_err k (hL k (by simp))
/-- A beginning of a packet's bytes has too few. -/
theorem parse_cut {p : Psh} (h : checkP p = true) {r y : Bs} (e : bytesP p = r ++ y) (hy : y ≠ []) : parseP r = (zeroP, 3) := by
  have h1 := read_bytes h []
  rw [List.append_nil, e] at h1
  have h2 : (readP r).2 = .error 3 := by
    have hk : Pre y (tkC (.ok (r ++ y)) 1) (tkC (.ok r) 1) ∧ (nmV (.ok (r ++ y)) 1 = nmV (.ok r) 1 ∨ tkC (.ok r) 1 = .error 3) := by
      cases hc : tkC (.ok (r ++ y)) 1 with
      | error e' =>
        unfold readP at h1
        rw [hc] at h1
        have : ∀ (L : List Nat) (z : Psh × St), (∀ i ∈ L, i < 8) → z.2 = .error e' → (L.foldl rdF z).2 = .error e' := fun L => by
          induction L with
          | nil => intro z _ h; exact h
          | cons j L ih => intro z hz h; rw [List.foldl_cons]; exact ih _ (fun i hi => hz i (by simp [hi])) (by rw [show z = (z.1, z.2) from rfl, h]; exact rd_err j (hz j (by simp)))
        have := this (fldL (nmV (.ok (r ++ y)) 1 : Nat)) ({ zeroP with kind := (nmV (.ok (r ++ y)) 1 : Nat) }, .error e') (fldL_lt _) rfl
        rw [h1] at this
        cases this
      | ok B =>
        rcases tk_pre hc with ⟨h3, h4⟩ | h3
        · exact ⟨h4, .inl (by unfold nmV; rw [h3])⟩
        · exact ⟨.inr h3, .inr h3⟩
    have h5 : (readP (r ++ y)).2 = .ok [] := by rw [h1]
    unfold readP at h5 ⊢
    rcases hk.2 with h6 | h6
    · rw [← h6]
      rcases fold_pre _ (fldL_lt _) _ ({ zeroP with kind := nmV (.ok (r ++ y)) 1 }, tkC (.ok r) 1) [] hk.1 h5 with ⟨r', h7, _⟩ | h7
      · have h7 : [] = r' ++ y := by injection h7
        have := congrArg List.length h7
        rw [List.length_append] at this
        exact absurd (List.eq_nil_of_length_eq_zero (by simp at this; omega)) hy
      · exact h7
    · rw [h6]
      have : ∀ (L : List Nat) (z : Psh × St), (∀ i ∈ L, i < 8) → z.2 = .error 3 → (L.foldl rdF z).2 = .error 3 := fun L => by
        induction L with
        | nil => intro z _ h; exact h
        | cons j L ih => intro z hz h; rw [List.foldl_cons]; exact ih _ (fun i hi => hz i (by simp [hi])) (by rw [show z = (z.1, z.2) from rfl, h]; exact rd_err j (hz j (by simp)))
      exact this (fldL (nmV (.ok r) 1 : Nat)) ({ zeroP with kind := (nmV (.ok r) 1 : Nat) }, .error 3) (fldL_lt _) rfl
  unfold parseP endP
  rw [h2]
end Go.Proofs.Ytajkbkllgbalkaa
