/- A reader in memory (the program's and the chapter's have the same cells); the program's fail, cut, number, count, text. -/
import Derived.Test.YtajkbkllgbalkaaUi
import Derived.Laws.BitsAllLaws
namespace Go.Proofs.Ytajkbkllgbalkaa
open Go Go.RowKit

/-- What a call of a reader's leaves as it was: all below a block, but the reader's own. -/
structure Kp (g B : Nat) (w w' : World) : Prop where
  os : w'.os = w.os
  tape : w'.tape = w.tape
  output : w'.output = w.output
  size : w.heap.size ≤ w'.heap.size
  block : ∀ k, k < B → k ≠ g → w'.heap[k]? = w.heap[k]?
theorem Kp.refl (g B : Nat) (w : World) : Kp g B w w := ⟨rfl, rfl, rfl, Nat.le_refl _, fun _ _ _ => rfl⟩
theorem Kp.trans {g B : Nat} {a b c : World} (h : Kp g B a b) (k : Kp g B b c) : Kp g B a c :=
  ⟨k.os.trans h.os, k.tape.trans h.tape, k.output.trans h.output, Nat.le_trans h.size k.size, fun i hi hn => (k.block i hi hn).trans (h.block i hi hn)⟩
theorem Kp.mono {g B B' : Nat} {w w' : World} (h : Kp g B w w') (hB : B' ≤ B) : Kp g B' w w' := ⟨h.os, h.tape, h.output, h.size, fun k hk => h.block k (Nat.lt_of_lt_of_le hk hB)⟩
/-- one behind the other, each over all that was there -/
theorem Kp.then {g : Nat} {a b c : World} (h : Kp g a.heap.size a b) (k : Kp g b.heap.size b c) : Kp g a.heap.size a c := h.trans (k.mono h.size)
theorem kp_below {g B : Nat} {w w' : World} (h : Below B w w') : Kp g B w w' := ⟨h.os, h.tape, h.output, h.size, fun k hk _ => h.block k hk⟩
theorem kp_set {g B : Nat} (w : World) (k : Nat) (v : Value) : Kp g B w (w.setCell ⟨g, k, none⟩ v) := ⟨rfl, rfl, rfl, by simp [World.setCell], fun j _ hn => Below.heap_setCell _ _ _ _ hn⟩
theorem Kp.to {g B : Nat} {w w' : World} (h : Kp g B w w') {D : Nat} (h1 : D ≤ g) (h2 : D ≤ B) : Below D w w' := ⟨h.os, h.tape, h.output, h.size, fun k hk => h.block k (by omega) (by omega)⟩
theorem Box.set {w : World} {g : Nat} {t : TypeId} {vs : Array Value} (h : Box w g t vs) (j : Nat) (v : Value) : Box (w.setCell ⟨g, j, none⟩ v) g t (vs.setIfInBounds j v) := by
  have hlt := h.lt
  have h' : w.heap[g] = .cells vs t (0, 0) := by
    have : w.heap[g]? = _ := h
    simpa [Array.getElem?_eq_getElem hlt] using this
  show (w.heap.modify g _)[g]? = _
  rw [Array.getElem?_eq_getElem (by simpa using hlt), Array.getElem_modify_self, h']
  rfl
theorem Box.kp {w w' : World} {g i B : Nat} {t : TypeId} {vs : Array Value} (h : Box w i t vs) (hk : Kp g B w w') (hi : i < B) (hn : i ≠ g) : Box w' i t vs := (hk.block i hi hn).trans h
def rdV (A : Option Addr) (n c : Nat) (e : Int) : Array Value := #[.slice A n c, .int .i64 e]
/-- a reader: what is left lies in blocks below 'D' -/
structure Rdm (T : TypeId) (w : World) (g D : Nat) (st : St) (A : Option Addr) (n c : Nat) (e : Int) : Prop where
  box : Box w g T (rdV A n c e)
  dg : D ≤ g
  ok : ∀ B, st = .ok B → e = 0 ∧ n = B.length ∧ Rb D w A c B ∧ B.length ≤ 1000000000
  err : ∀ x, st = .error x → e = x ∧ x ≠ 0
theorem Rdm.c0 {T : TypeId} {w : World} {g D : Nat} {st : St} {A : Option Addr} {n c : Nat} {e : Int} (h : Rdm T w g D st A n c e) : w.cell? ⟨g, 0, none⟩ = some (.slice A n c) := h.box.cell 0
theorem Rdm.c1 {T : TypeId} {w : World} {g D : Nat} {st : St} {A : Option Addr} {n c : Nat} {e : Int} (h : Rdm T w g D st A n c e) : w.cell? ⟨g, 1, none⟩ = some (.int .i64 e) := h.box.cell 1
theorem Rdm.below {T : TypeId} {w w' : World} {g D : Nat} {st : St} {A : Option Addr} {n c : Nat} {e : Int} (h : Rdm T w g D st A n c e) (hb : Below w.heap.size w w') : Rdm T w' g D st A n c e :=
  ⟨h.box.below hb, h.dg, fun B hB => by
    obtain ⟨h1, h2, h3, h4⟩ := h.ok B hB
    exact ⟨h1, h2, h3.keep fun k hk => hb.block k (by have := h.dg; have := h.box.lt; omega), h4⟩, h.err⟩
/-- what a call of a reader's leaves -/
def RdP (T : TypeId) (g D : Nat) (st : St) (w w' : World) : Prop := Kp g w.heap.size w w' ∧ ∃ A n c e, Rdm T w' g D st A n c e
theorem Rdm.bad {T : TypeId} {w : World} {g D : Nat} {B : Bs} {A : Option Addr} {n c : Nat} {e : Int} (h : Rdm T w g D (.ok B) A n c e) {x : Int} (hx : x ≠ 0) : Rdm T (w.setCell ⟨g, 1, none⟩ (.int .i64 x)) g D (.error x) A n c x :=
  ⟨h.box.set 1 _, h.dg, (fun _ e => by cases e), (fun y hy => by cases hy; exact ⟨rfl, hx⟩)⟩
def FlP (T : TypeId) (g D : Nat) (st : St) (w : World) (E : Ending) (w' : World) : Prop := E = .returned (.tuple #[]) ∧ RdP T g D st w w'
set_option maxRecDepth 100000 in
theorem fail_prog {w : World} {g D : Nat} {st : St} {A : Option Addr} {n c : Nat} {e : Int} (h : Rdm 75 w g D st A n c e) {x : Int} (hx : x ≠ 0) :
    Calls Try.prog 57 #[.pointer (some ⟨g, 0, none⟩), .int .i64 x] w (FlP 75 g D (flC st x) w) := by
  have c1 := h.c1
  have f1 := h.box.frozen 1
  unfold FlP RdP
  cases st with
  | error y =>
    obtain ⟨rfl, hy⟩ := h.err y rfl
    have H := Lib.hid h
    have hq : (e == 0) = false := by rw [beq_eq_false_iff_ne]; exact hy
    clear h hx hy
    go_enter Try.func57, Try.ntmps57
    go_wp2_with fail
    go_end0
    exact ⟨rfl, Kp.refl _ _ _, A, n, c, e, H.out⟩
  | ok B =>
    obtain ⟨rfl, _⟩ := h.ok B rfl
    have H := Lib.hid (h.bad hx)
    clear h hx
    go_enter Try.func57, Try.ntmps57
    go_wp2_with fail
    go_end0
    exact ⟨rfl, kp_set _ _ _, A, n, c, x, H.out⟩
/-- what cut hands back -/
def CutP (T : TypeId) (g D : Nat) (st : St) (m : Nat) (w : World) (E : Ending) (w' : World) : Prop :=
  ∃ A c, E = .returned (.slice A (tkV st m).length c) ∧ Rb D w' A c (tkV st m) ∧ RdP T g D (tkC st m) w w'
theorem rb_none (D : Nat) (w : World) : Rb D w none 0 [] := ⟨Nat.le_refl _, fun _ => rfl, fun i hi => by simp at hi⟩
theorem Rdm.cut {T : TypeId} {w : World} {g D : Nat} {B : Bs} {A : Option Addr} {n c : Nat} {e : Int} (h : Rdm T w g D (.ok B) A n c e) {m : Nat} (hm : m ≤ B.length) {A' : Option Addr} (hA : A' = if c = m then A else A.map fun a => a.add m) :
    Rb D (w.setCell ⟨g, 0, none⟩ (.slice A' (n - m : Nat) (c - m))) A c (B.take m) ∧ RdP T g D (.ok (B.drop m)) w (w.setCell ⟨g, 0, none⟩ (.slice A' (n - m : Nat) (c - m))) := by
  obtain ⟨rfl, h2, h3, h4⟩ := h.ok B rfl
  subst hA
  have hd := h.dg
  refine ⟨(h3.take m).keep fun k hk => Below.heap_setCell _ _ _ _ (show k ≠ g by omega), kp_set _ _ _, _, n - m, c - m, 0, h.box.set 0 _, h.dg, fun B' hB' => ?_, fun y hy => by cases hy⟩
  obtain rfl : B.drop m = B' := by injection hB'
  exact ⟨rfl, by rw [List.length_drop, h2], (h3.drop m hm).keep fun k hk => Below.heap_setCell _ _ _ _ (show k ≠ g by omega), by rw [List.length_drop]; omega⟩
set_option maxRecDepth 100000 in
set_option maxHeartbeats 400000 in
theorem cut_prog {w : World} {g D : Nat} {st : St} {A : Option Addr} {n c : Nat} {e : Int} (h : Rdm 75 w g D st A n c e) (m : Nat) (hm : m ≤ 1000000000) :
    Calls Try.prog 75 #[.pointer (some ⟨g, 0, none⟩), .int .i64 m] w (CutP 75 g D st m w) := by
  have c0 := h.c0
  have f0 := h.box.frozen 0
  have c1 := h.c1
  have CF := Lib.hid (fail_prog h (x := 3) (by decide))
  unfold CutP RdP at *
  unfold FlP RdP at CF
  cases st with
  | error y =>
    obtain ⟨rfl, hy⟩ := h.err y rfl
    have H := Lib.hid h
    have hq : (e == 0) = false := by rw [beq_eq_false_iff_ne]; exact hy
    have HV : Hid (tkV (.error e) m = [] ∧ tkC (.error e) m = .error e ∧ flC (.error e) 3 = .error e) := Lib.hid ⟨rfl, rfl, rfl⟩
    rw [HV.out.1, HV.out.2.1]
    rw [HV.out.2.2] at CF
    clear h hy
    by_cases hl : n < m
    · have q1 : (n : Int) < m := by omega
      go_enter Try.func75, Try.ntmps75
      go_wp2_with (go_at_call 57; refine CF.out.mono ?_; rintro E w1 ⟨rfl, hk1, A1, n1, c1', e1, hr1⟩; have K1 := Lib.hid hk1; have R1 := Lib.hid hr1; have d1 := hr1.c1; have hq1 : (e1 == 0) = false := (by rw [(hr1.err e rfl).1]; exact hq); clear hk1 hr1)
      go_ret
      exact ⟨none, 0, rfl, rb_none _ _, K1.out, A1, n1, c1', e1, R1.out⟩
    · have q1 : ¬ (n : Int) < m := by omega
      go_enter Try.func75, Try.ntmps75
      go_wp2_with fail
      go_ret
      exact ⟨none, 0, rfl, rb_none _ _, Kp.refl _ _ _, A, n, c, e, H.out⟩
  | ok B =>
    obtain ⟨rfl, hn, hrb, hB⟩ := h.ok B rfl
    have hcap := hrb.cap
    rw [← hn] at hcap
    by_cases hl : n < m
    · have q1 : (n : Int) < m := by omega
      have HV : Hid (tkV (.ok B) m = [] ∧ tkC (.ok B) m = .error 3 ∧ flC (.ok B) 3 = .error 3) := Lib.hid ⟨by rw [tkV_ok, if_neg (by omega)], by rw [tkC_ok, if_neg (by omega)], rfl⟩
      rw [HV.out.1, HV.out.2.1]
      rw [HV.out.2.2] at CF
      clear h hrb hn hl hcap
      go_enter Try.func75, Try.ntmps75
      go_wp2_with (go_at_call 57; refine CF.out.mono ?_; rintro E w1 ⟨rfl, hk1, A1, n1, c1', e1, hr1⟩; have K1 := Lib.hid hk1; have R1 := Lib.hid hr1; have d1 := hr1.c1; have hq1 : (e1 == 0) = false := (by rw [(hr1.err 3 rfl).1]; rfl); clear hk1 hr1)
      go_ret
      exact ⟨none, 0, rfl, rb_none _ _, K1.out, A1, n1, c1', e1, R1.out⟩
    · have q1 : ¬ (n : Int) < m := by omega
      have q2 : (m : Int) ≤ n := by omega
      have q3 : (m : Int) ≤ c := by omega
      have HV : Hid (tkV (.ok B) m = B.take m ∧ tkC (.ok B) m = .ok (B.drop m)) := Lib.hid ⟨by rw [tkV_ok, if_pos (by omega)], by rw [tkC_ok, if_pos (by omega)]⟩
      have HL : Hid ((B.take m).length = m) := Lib.hid (by rw [List.length_take]; omega)
      rw [HV.out.1, HV.out.2, HL.out]
      by_cases hcm : c = m
      · have HC := Lib.hid (h.cut (m := m) (by omega) (A' := A) (by rw [if_pos hcm]))
        obtain rfl : n = m := by omega
        subst hcm
        rw [Nat.sub_self] at HC
        unfold RdP at HC
        clear h hrb hn hl hcap CF
        go_enter Try.func75, Try.ntmps75
        go_wp2_with fail
        go_ret
        exact ⟨A, _, rfl, HC.out.1, HC.out.2⟩
      · obtain ⟨ad, rfl⟩ : ∃ ad, A = some ad := by
          cases A with
          | none => exact absurd (show c = m by have := hrb.nil rfl; have := hrb.cap; omega) hcm
          | some ad => exact ⟨ad, rfl⟩
        have HC := Lib.hid (h.cut (m := m) (by omega) (A' := some (ad.add m)) (by rw [if_neg hcm]; rfl))
        unfold RdP at HC
        clear h hrb hn hl CF
        go_enter Try.func75, Try.ntmps75
        go_wp2_with fail
        go_ret
        exact ⟨some ad, _, rfl, HC.out.1, HC.out.2⟩
theorem tkV_len (st : St) (k : Nat) : (tkV st k).length ≤ k := by
  cases st with
  | error e => exact Nat.zero_le _
  | ok B =>
    rw [tkV_ok]
    split
    · rw [List.length_take]; omega
    · exact Nat.zero_le _
theorem be_step {X : List UInt8} {k : Nat} (h : k < X.length) : be (X.take (k + 1)) = be (X.take k) * 256 + X[k].toNat := by
  rw [List.take_succ_eq_append_getElem h, be_snoc]
theorem ofInt_u56 (y : Nat) (h : y < 72057594037927936) : (BitVec.ofInt 64 (y : Int)).toNat = y := by
  rw [BitVec.toNat_ofInt]; omega
theorem or_byte (y x : Nat) (hy : y < 281474976710656) (hx : x < 256) : bits BinOp.or IntKind.i64 ((y : Int) * 256) x = ((y * 256 + x : Nat) : Int) := by
  rw [show (y : Int) * 256 = ((y * 256 : Nat) : Int) by omega]
  show IntKind.i64.wrap ((BitVec.ofInt 64 ((y * 256 : Nat) : Int) ||| BitVec.ofInt 64 (x : Int)).toNat : Int) = _
  have e : y * 256 ||| x = y * 256 + x := by rw [show y * 256 = 2 ^ 8 * y by omega, Nat.two_pow_add_eq_or_of_lt (by omega)]
  rw [BitVec.toNat_or, ofInt_u56 _ (by omega), ofInt_u56 x (by omega), e]
  simp [IntKind.wrap, IntKind.bits, IntKind.signed]
  split <;> omega
def NumP (T : TypeId) (g D : Nat) (v : Nat) (st : St) (w : World) (E : Ending) (w' : World) : Prop := E = .returned (.int .i64 (v : Nat)) ∧ RdP T g D st w w'
set_option maxRecDepth 100000 in
set_option maxHeartbeats 400000 in
theorem rnumber_prog {w : World} {g D : Nat} {st : St} {A : Option Addr} {n c : Nat} {e : Int} (h : Rdm 75 w g D st A n c e) (k : Nat) (hk : k ≤ 7) :
    Calls Try.prog 54 #[.pointer (some ⟨g, 0, none⟩), .int .i64 k] w (NumP 75 g D (nmV st k) (tkC st k) w) := by
  have CT := Lib.hid (cut_prog h k (by omega))
  have hl := tkV_len st k
  have HV : Hid (nmV st k = be (tkV st k)) := Lib.hid rfl
  have hDg := h.dg
  have hgw := h.box.lt
  unfold CutP at CT
  unfold NumP
  generalize tkV st k = X at *
  generalize nmV st k = N at *
  generalize tkC st k = S at *
  clear h
  go_enter Try.func54, Try.ntmps54
  go_wp2_with (go_at_call 75; refine CT.out.mono ?_; rintro e w1 ⟨A1, c1, rfl, hr1, hc1⟩; have R2 := Lib.hid hr1; have C1 := Lib.hid hc1; clear hr1 hc1)
  go_loop [5, 12] (fun v i => ∃ j : Nat, j ≤ X.length ∧ i = .int .i64 j ∧ v = .int .i64 (be (X.take j) : Nat)) (fun _ i => X.length - (intOf i).toNat)
  case atStart => exact ⟨0, Nat.zero_le _, rfl, rfl⟩
  case round =>
    obtain ⟨j, hj, rfl, rfl⟩ := hrel
    by_cases hlt : j < X.length
    · obtain ⟨b, off, rfl, _, hc⟩ := R2.out.rd j hlt
      have hcap := R2.out.cap
      have q0 : (0 : Int) ≤ j := by omega
      have q1 : (j : Int) < X.length := by omega
      have hbe : be (X.take j) < 281474976710656 := by
        have h1 := be_lt (X.take j)
        have h2 : (X.take j).length ≤ 6 := by rw [List.length_take]; omega
        have h3 : (256 : Nat) ^ (X.take j).length ≤ 256 ^ 6 := Nat.pow_le_pow_right (by decide) h2
        omega
      have HE := Lib.hid (be_step hlt)
      generalize be (X.take j) = y at *
      have hx := (X[j]'hlt).toNat_lt
      generalize (X[j]'hlt).toNat = x at *
      go_wp2_with fail
      rw [or_byte y x hbe hx]
      exact ⟨⟨j + 1, by omega, by go_num, by rw [HE.out]⟩, by simp [intOf]; omega⟩
    · obtain rfl : j = X.length := by omega
      rw [List.take_length]
      go_wp2_with fail
      go_ret
      exact ⟨by rw [HV.out] <;> rfl, C1.out⟩
theorem nmV_lt (st : St) (k : Nat) (hk : k ≤ 7) : nmV st k < 72057594037927936 := by
  have h1 := be_lt (tkV st k)
  have h3 : (256 : Nat) ^ (tkV st k).length ≤ 256 ^ 7 := Nat.pow_le_pow_right (by decide) (Nat.le_trans (tkV_len st k) hk)
  unfold nmV
  omega
set_option maxRecDepth 100000 in
theorem count_prog {w : World} {g D : Nat} {st : St} {A : Option Addr} {n c : Nat} {e : Int} (h : Rdm 75 w g D st A n c e) (k : Nat) (hk : k ≤ 7) (most : Nat) :
    Calls Try.prog 82 #[.pointer (some ⟨g, 0, none⟩), .int .i64 k, .int .i64 most] w (NumP 75 g D (cnV st k most) (cnC st k most) w) := by
  have CN := Lib.hid (rnumber_prog h k hk)
  have CF := Lib.hid fun (w1 : World) (A1 : Option Addr) (n1 c1 : Nat) (e1 : Int) (h1 : Rdm 75 w1 g D (tkC st k) A1 n1 c1 e1) => fail_prog h1 (x := 5) (by decide)
  clear h
  unfold NumP RdP at *
  unfold FlP RdP at CF
  by_cases hl : nmV st k ≤ most
  · have HV : Hid (cnV st k most = nmV st k ∧ cnC st k most = tkC st k) := Lib.hid ⟨by unfold cnV; rw [if_pos hl], by unfold cnC; rw [if_pos hl]⟩
    rw [HV.out.1, HV.out.2]
    have q1 : ¬ ((most : Int) < (nmV st k : Nat)) := by omega
    clear CF hl HV
    generalize nmV st k = N at *
    generalize tkC st k = S at *
    go_enter Try.func82, Try.ntmps82
    go_wp2_with (go_at_call 54; refine CN.out.mono ?_; rintro E w1 ⟨rfl, hk1, A1, n1, c1, e1, hr1⟩; have K1 := Lib.hid hk1; have R1 := Lib.hid hr1; clear hk1 hr1)
    go_ret
    exact ⟨rfl, K1.out, A1, n1, c1, e1, R1.out⟩
  · have HV : Hid (cnV st k most = 0 ∧ cnC st k most = flC (tkC st k) 5) := Lib.hid ⟨by unfold cnV; rw [if_neg hl], by unfold cnC; rw [if_neg hl]⟩
    rw [HV.out.1, HV.out.2]
    have q1 : ((most : Int) < (nmV st k : Nat)) := by omega
    clear hl HV
    generalize nmV st k = N at *
    generalize flC (tkC st k) 5 = S2 at *
    generalize tkC st k = S at *
    go_enter Try.func82, Try.ntmps82
    go_wp2_with (first
      | (go_at_call 54; refine CN.out.mono ?_; rintro E w1 ⟨rfl, hk1, A1, n1, c1, e1, hr1⟩; have K1 := Lib.hid hk1; have R1 := Lib.hid hr1; clear hk1 hr1)
      | (go_at_call 57; refine (CF.out _ _ _ _ _ R1.out).mono ?_; rintro E w2 ⟨rfl, hk2, A2, n2, c2, e2, hr2⟩; have K2 := Lib.hid (K1.out.then hk2); have R2 := Lib.hid hr2; clear hk2 hr2))
    go_ret
    exact ⟨rfl, K2.out, A2, n2, c2, e2, R2.out⟩
theorem cnV_le (st : St) (k most : Nat) : cnV st k most ≤ most := by unfold cnV; split <;> omega
theorem txV_len (st : St) : (txV st).length ≤ 65536 := Nat.le_trans (tkV_len _ _) (cnV_le _ _ _)
def TxtP (T : TypeId) (g D : Nat) (s : Bs) (st : St) (w : World) (E : Ending) (w' : World) : Prop := E = .returned (.string ⟨s.toArray⟩) ∧ RdP T g D st w w'
set_option maxRecDepth 100000 in
theorem text_prog {w : World} {g D : Nat} {st : St} {A : Option Addr} {n c : Nat} {e : Int} (h : Rdm 75 w g D st A n c e) :
    Calls Try.prog 76 #[.pointer (some ⟨g, 0, none⟩)] w (TxtP 75 g D (txV st) (txC st) w) := by
  have CC := Lib.hid (count_prog h 3 (by decide) 65536)
  have hle := cnV_le st 3 65536
  have CK := Lib.hid fun (w1 : World) (A1 : Option Addr) (n1 c1 : Nat) (e1 : Int) (h1 : Rdm 75 w1 g D (cnC st 3 65536) A1 n1 c1 e1) => cut_prog h1 (cnV st 3 65536) (by omega)
  have HV : Hid (txV st = tkV (cnC st 3 65536) (cnV st 3 65536) ∧ txC st = tkC (cnC st 3 65536) (cnV st 3 65536)) := Lib.hid ⟨rfl, rfl⟩
  clear h hle
  unfold NumP RdP at *
  unfold CutP RdP at CK
  unfold TxtP RdP
  rw [HV.out.1, HV.out.2]
  generalize tkV (cnC st 3 65536) (cnV st 3 65536) = X at *
  generalize tkC (cnC st 3 65536) (cnV st 3 65536) = S2 at *
  generalize cnC st 3 65536 = S at *
  generalize cnV st 3 65536 = N at *
  clear HV
  go_enter Try.func76, Try.ntmps76
  go_wp2_with (first
    | (go_at_call 82; refine CC.out.mono ?_; rintro E w1 ⟨rfl, hk1, A1, n1, c1, e1, hr1⟩; have K1 := Lib.hid hk1; have R1 := Lib.hid hr1; clear hk1 hr1)
    | (go_at_call 75; refine (CK.out _ _ _ _ _ R1.out).mono ?_; rintro E w2 ⟨B2, d2, rfl, hb2, hk2, A2, n2, c2, e2, hr2⟩; have K2 := Lib.hid (K1.out.then hk2); have R2 := Lib.hid hr2; have hcv := hb2.conv; clear hk2 hr2))
  go_ret
  exact ⟨rfl, K2.out, A2, n2, c2, e2, R2.out⟩
end Go.Proofs.Ytajkbkllgbalkaa
