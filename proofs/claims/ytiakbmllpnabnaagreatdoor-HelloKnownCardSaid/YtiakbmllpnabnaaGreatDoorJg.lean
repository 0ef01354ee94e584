/- The chapter's cursor: take, must. The chapter's cursor: number. -/
import Derived.Test.YtiakbmllpnabnaaGreatDoorJf
import Derived.Laws.BitsAllLaws
namespace Go.Proofs.YtiakbmllpnabnaaGreatDoor
open Go Go.RowKit

/-- Cells of one block, that may be written. -/
structure Cs (w : World) (g : Nat) (l : List Value) : Prop where
  lt : g < w.heap.size
  cell : ∀ j, j < l.length → w.cell? ⟨g, j, none⟩ = l[j]?
  free : ∀ j, j < l.length → w.frozen? ⟨g, j, none⟩ = false
theorem Cs.set {w : World} {g : Nat} {l : List Value} (h : Cs w g l) (k : Nat) (hk : k < l.length) (v : Value) : Cs (w.setCell ⟨g, k, none⟩ v) g (l.set k v) := by
  refine ⟨by simpa using h.lt, fun j hj => ?_, fun j hj => by simpa using h.free j (by simpa using hj)⟩
  rw [List.length_set] at hj
  by_cases e : j = k
  · subst e
    rw [World.cell?_setCell_same _ _ _ ((h.cell j hj).trans (List.getElem?_eq_getElem hj)), List.getElem?_set_self hj]
  · rw [World.cell?_setCell_other _ _ _ _ (fun x => e (by simpa using x.symm)), h.cell j hj, List.getElem?_set_ne (fun x => e x.symm)]
theorem Cs.keep {w w' : World} {g : Nat} {l : List Value} (h : Cs w g l) (hs : w.heap.size ≤ w'.heap.size) (hb : w'.heap[g]? = w.heap[g]?) : Cs w' g l :=
  ⟨Nat.lt_of_lt_of_le h.lt hs, fun j hj => by unfold World.cell?; rw [hb]; exact h.cell j hj, fun j hj => by unfold World.frozen?; rw [hb]; exact h.free j hj⟩
theorem Cs.below {w w' : World} {g : Nat} {l : List Value} (h : Cs w g l) (hb : Below w.heap.size w w') : Cs w' g l := h.keep hb.size (hb.block g h.lt)

/-- What a call of the reader's leaves as it was: all below a block, but the reader's own. -/
structure Kp (g B : Nat) (w w' : World) : Prop where
  os : w'.os = w.os
  tape : w'.tape = w.tape
  output : w'.output = w.output
  size : w.heap.size ≤ w'.heap.size
  block : ∀ k, k < B → k ≠ g → w'.heap[k]? = w.heap[k]?
theorem Kp.refl (g B : Nat) (w : World) : Kp g B w w := ⟨rfl, rfl, rfl, Nat.le_refl _, fun _ _ _ => rfl⟩
theorem Kp.trans {g B : Nat} {a b c : World} (h : Kp g B a b) (k : Kp g B b c) : Kp g B a c :=
  ⟨k.os.trans h.os, k.tape.trans h.tape, k.output.trans h.output, Nat.le_trans h.size k.size, fun i hi hn => (k.block i hi hn).trans (h.block i hi hn)⟩
theorem Kp.mono {g B B' : Nat} {w w' : World} (h : Kp g B w w') (hB : B' ≤ B) : Kp g B' w w' := ⟨h.os, h.tape, h.output, h.size, fun k hk => h.block k (Nat.lt_of_lt_of_le hk hB)⟩
theorem kp_below {g B : Nat} {w w' : World} (h : Below B w w') : Kp g B w w' := ⟨h.os, h.tape, h.output, h.size, fun k hk _ => h.block k hk⟩
theorem kp_fresh {g B : Nat} {w w' : World} (hB : B ≤ w.heap.size) (h : Below w.heap.size w w') : Kp g B w w' := kp_below (h.mono hB)
theorem kp_set {g B : Nat} (w : World) (k : Nat) (v : Value) : Kp g B w (w.setCell ⟨g, k, none⟩ v) := ⟨rfl, rfl, rfl, by simp [World.setCell], fun j _ hn => Below.heap_setCell _ _ _ _ hn⟩
theorem Kp.to {g B : Nat} {w w' : World} (h : Kp g B w w') {D : Nat} (h1 : D ≤ g) (h2 : D ≤ B) : Below D w w' := ⟨h.os, h.tape, h.output, h.size, fun k hk => h.block k (by omega) (by omega)⟩
theorem kp_drew {g B : Nat} {a w : World} (h : Kp g B a w) : Kp g B a w.drew := ⟨h.os, h.tape, h.output, h.size, h.block⟩
/-- the cursor's cells -/
structure Cur (w : World) (g D : Nat) (st : Cu) (A : Option Addr) (n c : Nat) : Prop where
  cs : Cs w g [.slice A n c, .bool st.isNone]
  dg : D ≤ g
  rb : ∀ B, st = some B → n = B.length ∧ Rb D w A c B ∧ B.length ≤ 1000000
/-- what a call of the cursor's leaves -/
def CurP (g D : Nat) (st : Cu) (w w' : World) : Prop := Kp g w.heap.size w w' ∧ ∃ A n c, Cur w' g D st A n c
theorem cur_c0 {w : World} {g D : Nat} {st : Cu} {A : Option Addr} {n c : Nat} (h : Cur w g D st A n c) : w.cell? ⟨g, 0, none⟩ = some (.slice A n c) := h.cs.cell 0 (by simp)
theorem cur_c1 {w : World} {g D : Nat} {st : Cu} {A : Option Addr} {n c : Nat} (h : Cur w g D st A n c) : w.cell? ⟨g, 1, none⟩ = some (.bool st.isNone) := h.cs.cell 1 (by simp)
theorem cur_f0 {w : World} {g D : Nat} {st : Cu} {A : Option Addr} {n c : Nat} (h : Cur w g D st A n c) : w.frozen? ⟨g, 0, none⟩ = false := h.cs.free 0 (by simp)
theorem cur_f1 {w : World} {g D : Nat} {st : Cu} {A : Option Addr} {n c : Nat} (h : Cur w g D st A n c) : w.frozen? ⟨g, 1, none⟩ = false := h.cs.free 1 (by simp)
theorem cur_bad {w : World} {g D : Nat} {st : Cu} {A : Option Addr} {n c : Nat} (h : Cur w g D st A n c) : Cur (w.setCell ⟨g, 1, none⟩ (.bool true)) g D none A n c :=
  ⟨h.cs.set 1 (by simp) _, h.dg, fun B e => by cases e⟩
theorem cur_same {w : World} {g D : Nat} {st : Cu} {A : Option Addr} {n c : Nat} (h : Cur w g D st A n c) : Cur (w.setCell ⟨g, 1, none⟩ (.bool st.isNone)) g D st A n c :=
  ⟨h.cs.set 1 (by simp) _, h.dg, fun B e => by
    obtain ⟨h1, h2, h3⟩ := h.rb B e
    exact ⟨h1, h2.keep fun k hk => Below.heap_setCell _ _ _ _ (by have := h.dg; show k ≠ g; omega), h3⟩⟩
set_option maxRecDepth 100000 in
set_option maxHeartbeats 400000 in
theorem must_ref7 {w : World} {g D : Nat} {st : Cu} {A : Option Addr} {n c : Nat} (h : Cur w g D st A n c) (b : Bool) :
    Calls Tryz.prog 30 #[.pointer (some ⟨g, 0, none⟩), .bool b] w fun e w' => e = .returned (.tuple #[]) ∧ CurP g D (muC st b) w w' := by
  have d1 := cur_c1 h
  have f1 := cur_f1 h
  have H := Lib.hid h
  clear h
  unfold CurP
  cases st with
  | none =>
    replace d1 : w.cell? ⟨g, 1, none⟩ = some (.bool true) := d1
    go_enter Tryz.func30, Tryz.ntmps30
    go_wp2_with fail
    go_end0
    refine ⟨rfl, kp_set _ _ _, A, n, c, ?_⟩
    have := cur_bad H.out
    cases b <;> exact this
  | some B =>
    replace d1 : w.cell? ⟨g, 1, none⟩ = some (.bool false) := d1
    cases b with
    | true =>
      go_enter Tryz.func30, Tryz.ntmps30
      go_wp2_with fail
      go_end0
      exact ⟨rfl, kp_set _ _ _, A, n, c, cur_same H.out⟩
    | false =>
      go_enter Tryz.func30, Tryz.ntmps30
      go_wp2_with fail
      go_end0
      exact ⟨rfl, kp_set _ _ _, A, n, c, cur_bad H.out⟩
/-- what take hands back -/
def TakeP (g D : Nat) (st : Cu) (n : Nat) (w : World) (e : Ending) (w' : World) : Prop :=
  ∃ A c, e = .returned (.slice A (tkV st n).length c) ∧ RowG w' w.heap.size A c (tkV st n) ∧ CurP g D (tkC st n) w w'
theorem take_fin {w w1 : World} {g D : Nat} {B : List UInt8} {A A1 A' : Option Addr} {c c1 c' m : Nat} (H : Cur w g D (some B) A B.length c) (hb : Below w.heap.size w w1) (R : RowG w1 w.heap.size A1 c1 (B.take m)) (hD : Rb D w A' c' (B.drop m)) :
    RowG (w1.setCell ⟨g, 0, none⟩ (.slice A' (B.length - m) c')) w.heap.size A1 c1 (B.take m) ∧ CurP g D (some (B.drop m)) w (w1.setCell ⟨g, 0, none⟩ (.slice A' (B.length - m) c')) := by
  have hg := H.cs.lt
  have hdg := H.dg
  obtain ⟨_, _, hB⟩ := H.rb B rfl
  refine ⟨R.keep (by simp [World.setCell]) fun g' e => Below.heap_setCell _ _ _ _ (by have := (R.lt e).1; show g' ≠ g; omega), (kp_fresh (Nat.le_refl _) hb).trans (kp_set _ _ _), A', B.length - m, c', (H.cs.below hb).set 0 (by simp) _, hdg, fun B' e => ?_⟩
  obtain rfl := Option.some.inj e
  refine ⟨by rw [List.length_drop], hD.keep fun k hk => ?_, by rw [List.length_drop]; omega⟩
  rw [Below.heap_setCell _ _ _ _ (show k ≠ g by omega)]
  exact hb.block k (by omega)
set_option maxRecDepth 100000 in
set_option maxHeartbeats 400000 in
theorem take_ref7 {w : World} {g D : Nat} {st : Cu} {A : Option Addr} {n c : Nat} (h : Cur w g D st A n c) (m : Nat) (hm : m ≤ 1000000000) :
    Calls Tryz.prog 33 #[.pointer (some ⟨g, 0, none⟩), .int .i64 m] w (TakeP g D st m w) := by
  have d0 := cur_c0 h
  have f0 := cur_f0 h
  have d1 := cur_c1 h
  have f1 := cur_f1 h
  have H := Lib.hid h
  clear h
  unfold TakeP CurP
  cases st with
  | none =>
    replace d1 : w.cell? ⟨g, 1, none⟩ = some (.bool true) := d1
    go_enter Tryz.func33, Tryz.ntmps33
    go_wp2_with fail
    go_ret
    exact ⟨none, 0, rfl, RowG.nil _ _, kp_set _ _ _, A, n, c, cur_bad H.out⟩
  | some B =>
    replace d1 : w.cell? ⟨g, 1, none⟩ = some (.bool false) := d1
    obtain ⟨rfl, hrb, hB⟩ := H.out.rb B rfl
    have hcap := hrb.cap
    by_cases hl : B.length < m
    · have hq : (B.length : Int) < m := by omega
      have HE : Hid (tkV (some B) m = [] ∧ tkC (some B) m = none) := Lib.hid ⟨if_neg (by omega), if_neg (by omega)⟩
      clear hl hrb hcap
      go_enter Tryz.func33, Tryz.ntmps33
      go_wp2_with fail
      go_ret
      rw [HE.out.1, HE.out.2]
      exact ⟨none, 0, rfl, RowG.nil _ _, kp_set _ _ _, A, B.length, c, cur_bad H.out⟩
    · have hq : ¬ (B.length : Int) < m := by omega
      have hq2 : (m : Int) ≤ B.length := by omega
      have hq3 : (m : Int) ≤ c := by omega
      have HE : Hid (tkV (some B) m = B.take m ∧ tkC (some B) m = some (B.drop m)) := Lib.hid ⟨if_pos (by omega), if_pos (by omega)⟩
      have HT := Lib.hid (hrb.take m)
      have HD := Lib.hid (hrb.drop m (by omega))
      have htl : (B.take m).length = m := by rw [List.length_take]; omega
      have hDw : D ≤ w.heap.size := Nat.le_trans H.out.dg (Nat.le_of_lt H.out.cs.lt)
      have CC := Lib.hid (copyB_any (n := m) ((hrb.take m).mono hDw) htl.symm (by omega))
      unfold MadeP at CC
      have HC := Lib.hid fun (w1 : World) (hb : Below w.heap.size w w1) => H.out.cs.below hb
      clear hl hrb hcap htl hDw HT
      by_cases hcm : c = m
      · have HD2 : Hid (Rb D w A (c - m) (B.drop m)) := Lib.hid (by have := HD.out; rwa [if_pos hcm] at this)
        clear HD
        subst hcm
        rw [Nat.sub_self] at HD2
        go_enter Tryz.func33, Tryz.ntmps33
        go_wp2_with (go_at_call 10; refine CC.out.mono ?_; rintro e w1 ⟨A1, c1, rfl, hr1, hb1⟩; have R1 := Lib.hid hr1; have B1 := Lib.hid hb1; have e0 := (HC.out w1 hb1).cell 0 (by simp); have f0 := (HC.out w1 hb1).free 0 (by simp); simp only [List.getElem?_cons_zero] at e0; clear hr1 hb1)
        go_ret
        rw [HE.out.1, HE.out.2]
        obtain ⟨t1, t2⟩ := take_fin H.out B1.out R1.out HD2.out
        exact ⟨A1, c1, by rw [List.length_take]; rfl, t1, t2⟩
      · have HD := HD.out
        rw [if_neg hcm] at HD
        obtain ⟨ad, rfl⟩ : ∃ ad, A = some ad := by
          cases A with
          | none => exact absurd (show c = m by have := (H.out.rb B rfl).2.1.nil rfl; have := (H.out.rb B rfl).2.1.cap; omega) hcm
          | some ad => exact ⟨ad, rfl⟩
        have HD : Hid (Rb D w (some (ad.add m)) (c - m) (B.drop m)) := Lib.hid HD
        go_enter Tryz.func33, Tryz.ntmps33
        go_wp2_with (go_at_call 10; refine CC.out.mono ?_; rintro e w1 ⟨A1, c1, rfl, hr1, hb1⟩; have R1 := Lib.hid hr1; have B1 := Lib.hid hb1; have e0 := (HC.out w1 hb1).cell 0 (by simp); have f0 := (HC.out w1 hb1).free 0 (by simp); simp only [List.getElem?_cons_zero] at e0; clear hr1 hb1)
        go_ret
        rw [HE.out.1, HE.out.2]
        obtain ⟨t1, t2⟩ := take_fin H.out B1.out R1.out HD.out
        exact ⟨A1, c1, by rw [List.length_take]; rfl, t1, t2⟩
end Go.Proofs.YtiakbmllpnabnaaGreatDoor
namespace Go.Proofs.YtiakbmllpnabnaaGreatDoor
open Go Go.RowKit

theorem tkV_len (st : Cu) (k : Nat) : (tkV st k).length ≤ k := by
  unfold tkV
  split
  · split
    · rw [List.length_take]; omega
    · exact Nat.zero_le _
  · exact Nat.zero_le _
theorem be_step {X : List UInt8} {k : Nat} (h : k < X.length) : be (X.take (k + 1)) = be (X.take k) * 256 + X[k].toNat := by
  rw [List.take_succ_eq_append_getElem h, be_snoc]
theorem or_byte (y x : Nat) (hy : y < 65536) (hx : x < 256) : bits BinOp.or IntKind.i64 ((y : Int) * 256) x = ((y * 256 + x : Nat) : Int) := by
  rw [show (y : Int) * 256 = ((y * 256 : Nat) : Int) by omega]
  show IntKind.i64.wrap ((BitVec.ofInt 64 ((y * 256 : Nat) : Int) ||| BitVec.ofInt 64 (x : Int)).toNat : Int) = _
  have e : y * 256 ||| x = y * 256 + x := by rw [show y * 256 = 2 ^ 8 * y by omega, Nat.two_pow_add_eq_or_of_lt (by omega)]
  rw [BitVec.toNat_or, ofInt_u64 _ (by omega), ofInt_u64 x (by omega), e]
  simp [IntKind.wrap, IntKind.bits, IntKind.signed]
  split <;> omega
set_option maxRecDepth 100000 in
set_option maxHeartbeats 400000 in
theorem number_ref7 {w : World} {g D : Nat} {st : Cu} {A : Option Addr} {n c : Nat} (h : Cur w g D st A n c) (k : Nat) (hk : k ≤ 3) :
    Calls Tryz.prog 31 #[.pointer (some ⟨g, 0, none⟩), .int .i64 k] w fun e w' => e = .returned (.int .i64 (nmV st k : Nat)) ∧ CurP g D (tkC st k) w w' := by
  have CT := Lib.hid (take_ref7 h k (by omega))
  have hl := tkV_len st k
  have HV : Hid (nmV st k = be (tkV st k)) := Lib.hid rfl
  unfold TakeP at CT
  generalize tkV st k = X at *
  generalize nmV st k = N at *
  generalize tkC st k = S at *
  clear h
  go_enter Tryz.func31, Tryz.ntmps31
  go_wp2_with (go_at_call 33; refine CT.out.mono ?_; rintro e w1 ⟨A1, c1, rfl, hr1, hc1⟩; have R1 := Lib.hid hr1; have C1 := Lib.hid hc1; clear hr1 hc1)
  have R2 := Lib.hid R1.out.rb
  go_loop [5, 7] (fun v i => ∃ j : Nat, j ≤ X.length ∧ i = .int .i64 j ∧ v = .int .i64 (be (X.take j) : Nat)) (fun _ i => X.length - (intOf i).toNat)
  case atStart => exact ⟨0, Nat.zero_le _, rfl, rfl⟩
  case round =>
    obtain ⟨j, hj, rfl, rfl⟩ := hrel
    by_cases hlt : j < X.length
    · obtain ⟨b, off, rfl, _, hc⟩ := R2.out.rd j hlt
      have q0 : (0 : Int) ≤ j := by omega
      have q1 : (j : Int) < X.length := by omega
      have hbe : be (X.take j) < 65536 := by
        have h1 := be_lt (X.take j)
        have h2 : (X.take j).length ≤ 2 := by rw [List.length_take]; omega
        have h3 : (256 : Nat) ^ (X.take j).length ≤ 256 ^ 2 := Nat.pow_le_pow_right (by decide) h2
        omega
      have HE := Lib.hid (be_step hlt)
      generalize be (X.take j) = y at *
      have hx := (X[j]'hlt).toNat_lt
      generalize (X[j]'hlt).toNat = x at *
      go_wp2_with fail
      rw [or_byte y x hbe hx]
      exact ⟨⟨j + 1, by omega, by go_num, by rw [HE.out]⟩, by simp [intOf]; omega⟩
    · obtain rfl : X.length = j := by omega
      rw [List.take_length]
      go_wp2_with fail
      go_ret
      exact ⟨by rw [HV.out] <;> rfl, C1.out⟩
theorem nmV_lt (st : Cu) (k : Nat) (hk : k ≤ 3) : nmV st k ≤ 1000000000 := by
  have h1 := be_lt (tkV st k)
  have h3 : (256 : Nat) ^ (tkV st k).length ≤ 256 ^ 3 := Nat.pow_le_pow_right (by decide) (Nat.le_trans (tkV_len st k) hk)
  unfold nmV
  omega
set_option maxRecDepth 100000 in
set_option maxHeartbeats 400000 in
theorem cfilled_ref7 {w : World} {g D : Nat} {st : Cu} {A : Option Addr} {n c : Nat} (h : Cur w g D st A n c) (k : Nat) (hk : k ≤ 3) :
    Calls Tryz.prog 34 #[.pointer (some ⟨g, 0, none⟩), .int .i64 k] w fun e w' => ∃ A c, e = .returned (.slice A (flV st k).length c) ∧ RowG w' w.heap.size A c (flV st k) ∧ CurP g D (flC st k) w w' := by
  have CN := Lib.hid (number_ref7 h k hk)
  have hm := nmV_lt st k hk
  have CT := Lib.hid fun (w1 : World) (A1 : Option Addr) (n1 c1 : Nat) (h1 : Cur w1 g D (tkC st k) A1 n1 c1) => take_ref7 h1 (nmV st k) hm
  unfold flV flC
  generalize nmV st k = N at *
  unfold TakeP CurP at *
  generalize tkV (tkC st k) N = X at *
  generalize tkC (tkC st k) N = S2 at *
  generalize tkC st k = S at *
  clear h hm
  go_enter Tryz.func34, Tryz.ntmps34
  go_wp2_with (first
    | (go_at_call 31; refine CN.out.mono ?_; rintro e w1 ⟨rfl, hk1, A1, n1, c1, hc1⟩; have K1 := Lib.hid hk1; have C1 := Lib.hid hc1; clear hk1 hc1)
    | (go_at_call 33; refine (CT.out _ _ _ _ C1.out).mono ?_; rintro e w2 ⟨A2, c2, rfl, hr2, hk2, hc2⟩; have R2 := Lib.hid hr2; have K2 := Lib.hid hk2; have C2 := Lib.hid hc2; clear hr2 hk2 hc2))
  go_ret
  exact ⟨A2, c2, rfl, R2.out.up K1.out.size, K1.out.trans (K2.out.mono K1.out.size), C2.out⟩
end Go.Proofs.YtiakbmllpnabnaaGreatDoor
