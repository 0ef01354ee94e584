/- The program's reader: must, cut, number, expect, part, last. The program's reader: part, last, hostIn, suites. -/
import Derived.Test.YtiakbmllpnabnaaGreatDoorKd
import Derived.Recover
import Derived.Test.YtiakbmllpnabnaaGreatDoorJg
namespace Go.Proofs.YtiakbmllpnabnaaGreatDoor
open Go Go.RowKit

/-- how the reader gives up -/
abbrev PanE : Ending := .panicked [{ v := .iface 29 (.int .i64 70), recovered := false }]
/-- it gives up, or it does not -/
def Out {α : Type} (o : Option α) (g : Nat) (w : World) (good : α → Ending → World → Prop) (e : Ending) (w' : World) : Prop := (o = none → e = PanE ∧ Kp g w.heap.size w w') ∧ ∀ x, o = some x → good x e w'
set_option maxRecDepth 100000 in
set_option maxHeartbeats 400000 in
theorem must_prog (b : Bool) (w : World) : Calls Tryz.prog 50 #[.bool b] w fun e w' => (b = true → e = .returned (.tuple #[])) ∧ (b = false → e = PanE) ∧ w = w' := by
  cases b with
  | true =>
    go_enter Tryz.func50, Tryz.ntmps50
    go_wp2_with fail
    go_end0
    exact ⟨fun _ => rfl, (fun e => by cases e), rfl⟩
  | false =>
    go_enter Tryz.func50, Tryz.ntmps50
    go_wp2_with fail
    exact ⟨rfl, (fun e => by cases e), fun _ => rfl, rfl⟩
theorem must_yes (w : World) : Calls Tryz.prog 50 #[.bool true] w fun e w' => e = .returned (.tuple #[]) ∧ w = w' := (must_prog true w).mono fun _ _ h => ⟨h.1 rfl, h.2.2⟩
theorem must_not (w : World) : Calls Tryz.prog 50 #[.bool false] w fun e w' => e = PanE ∧ w = w' := (must_prog false w).mono fun _ _ h => ⟨h.2.1 rfl, h.2.2⟩
/-- a reader's cell -/
structure Rdr (w : World) (g D : Nat) (B : List UInt8) (A : Option Addr) (c : Nat) : Prop where
  cs : Cs w g [.slice A B.length c]
  dg : D ≤ g
  rb : Rb D w A c B
  le : B.length ≤ 1000000
theorem rdr_c {w : World} {g D : Nat} {B : List UInt8} {A : Option Addr} {c : Nat} (h : Rdr w g D B A c) : w.cell? ⟨g, 0, none⟩ = some (.slice A B.length c) := h.cs.cell 0 (by simp)
theorem rdr_f {w : World} {g D : Nat} {B : List UInt8} {A : Option Addr} {c : Nat} (h : Rdr w g D B A c) : w.frozen? ⟨g, 0, none⟩ = false := h.cs.free 0 (by simp)
theorem Rdr.below {w w' : World} {g D : Nat} {B : List UInt8} {A : Option Addr} {c : Nat} (h : Rdr w g D B A c) (hb : Below w.heap.size w w') : Rdr w' g D B A c :=
  ⟨h.cs.below hb, h.dg, h.rb.keep fun k hk => hb.block k (Nat.lt_of_lt_of_le hk (Nat.le_trans h.dg (Nat.le_of_lt h.cs.lt))), h.le⟩
theorem Rdr.kp {w w' : World} {g g' D : Nat} {B : List UInt8} {A : Option Addr} {c : Nat} (h : Rdr w g D B A c) (hb : Kp g' w.heap.size w w') (hg : D ≤ g') (hne : g ≠ g') : Rdr w' g D B A c :=
  ⟨h.cs.keep hb.size (hb.block g h.cs.lt hne), h.dg, h.rb.keep fun k hk => hb.block k (Nat.lt_of_lt_of_le hk (Nat.le_trans h.dg (Nat.le_of_lt h.cs.lt))) (by omega), h.le⟩
theorem rdr_new (w : World) (D : Nat) (B : List UInt8) (A : Option Addr) (c : Nat) (hD : D ≤ w.heap.size) (hr : Rb D w A c B) (hl : B.length ≤ 1000000) : Rdr (w.alloc (.cells #[.slice A B.length c] 86)) w.heap.size D B A c := by
  refine ⟨⟨by simp, fun j hj => ?_, fun j hj => ?_⟩, hD, hr.keep fun k hk => heap_alloc_old w _ (by omega), hl⟩
  · obtain rfl : j = 0 := by simpa using hj
    rw [World.cell?_alloc_at _ _ _ _ rfl]; rfl
  · obtain rfl : j = 0 := by simpa using hj
    unfold World.frozen?
    rw [show (w.alloc (.cells #[.slice A B.length c] 86)).heap[w.heap.size]? = some (.cells #[.slice A B.length c] 86) from heap_alloc_new w _]
    rfl
/-- what a cut leaves -/
def CutP (g D : Nat) (w : World) (x R : List UInt8) (e : Ending) (w' : World) : Prop := ∃ (F : Option Addr) (A : Option Addr) (c : Nat), e = .returned (.slice F x.length x.length) ∧ Rb D w' F x.length x ∧ Rdr w' g D R A c ∧ Kp g w.heap.size w w'
set_option maxRecDepth 100000 in
set_option maxHeartbeats 400000 in
theorem cut_ok {w : World} {g D : Nat} {B : List UInt8} {A : Option Addr} {c : Nat} (h : Rdr w g D B A c) (n : Nat) (hn : n ≤ B.length) :
    Calls Tryz.prog 64 #[.pointer (some ⟨g, 0, none⟩), .int .i64 n] w (CutP g D w (B.take n) (B.drop n)) := by
  have d0 := rdr_c h
  have f0 := rdr_f h
  have H := Lib.hid h
  have hcap := h.rb.cap
  have hl := h.le
  have hq : (n : Int) ≤ B.length := by omega
  have hq3 : (n : Int) ≤ c := by omega
  have htl : (B.take n).length = n := by rw [List.length_take]; omega
  have HT : Hid (Rb D w A n (B.take n)) := Lib.hid ⟨Nat.le_of_eq htl, fun e => by have := h.rb.nil e; omega, (h.rb.take n).rd⟩
  have HD := Lib.hid (h.rb.drop n hn)
  have HL := Lib.hid htl
  unfold CutP
  rw [htl]
  clear h htl hcap
  have FIN : Hid (∀ A' c', Rb D w A' c' (B.drop n) → Rb D (w.setCell ⟨g, 0, none⟩ (.slice A' (B.length - n) c')) A n (B.take n) ∧ Rdr (w.setCell ⟨g, 0, none⟩ (.slice A' (B.length - n) c')) g D (B.drop n) A' c' ∧ Kp g w.heap.size w (w.setCell ⟨g, 0, none⟩ (.slice A' (B.length - n) c'))) := Lib.hid fun A' c' hr => by
    have hdg := H.out.dg
    have hk : ∀ k, k < D → (w.setCell ⟨g, 0, none⟩ (.slice A' (B.length - n) c')).heap[k]? = w.heap[k]? := fun k hk => Below.heap_setCell _ _ _ _ (show k ≠ g by omega)
    refine ⟨HT.out.keep hk, ⟨?_, hdg, hr.keep hk, by rw [List.length_drop]; omega⟩, kp_set _ _ _⟩
    have := H.out.cs.set 0 (by simp) (.slice A' (B.length - n) c')
    rw [List.length_drop]
    exact this
  by_cases hcm : c = n
  · have HD2 : Hid (Rb D w A (c - n) (B.drop n)) := Lib.hid (by have := HD.out; rwa [if_pos hcm] at this)
    clear HD
    subst hcm
    rw [Nat.sub_self] at HD2
    go_enter Tryz.func64, Tryz.ntmps64
    go_wp2_with (go_at_call 50; refine (must_yes _).mono ?_; rintro e w' ⟨rfl, rfl⟩)
    go_ret
    obtain ⟨q1, q2, q3⟩ := FIN.out _ _ HD2.out
    exact ⟨A, A, 0, rfl, q1, q2, q3⟩
  · have HD := HD.out
    rw [if_neg hcm] at HD
    obtain ⟨ad, rfl⟩ : ∃ ad, A = some ad := by
      cases A with
      | none => exact absurd (show c = n by have := H.out.rb.nil rfl; omega) hcm
      | some ad => exact ⟨ad, rfl⟩
    have HD : Hid (Rb D w (some (ad.add n)) (c - n) (B.drop n)) := Lib.hid HD
    go_enter Tryz.func64, Tryz.ntmps64
    go_wp2_with (go_at_call 50; refine (must_yes _).mono ?_; rintro e w' ⟨rfl, rfl⟩)
    go_ret
    obtain ⟨q1, q2, q3⟩ := FIN.out _ _ HD.out
    exact ⟨some ad, some (ad.add n), c - n, rfl, q1, q2, q3⟩
set_option maxRecDepth 100000 in
set_option maxHeartbeats 400000 in
theorem cut_no {w : World} {g D : Nat} {B : List UInt8} {A : Option Addr} {c : Nat} (h : Rdr w g D B A c) (n : Nat) (hn : B.length < n) :
    Calls Tryz.prog 64 #[.pointer (some ⟨g, 0, none⟩), .int .i64 n] w fun e w' => e = PanE ∧ w = w' := by
  have d0 := rdr_c h
  have hq : decide ((n : Int) ≤ B.length) = false := decide_eq_false (by omega)
  have hq2 : ¬ (n : Int) ≤ B.length := by omega
  clear h
  go_enter Tryz.func64, Tryz.ntmps64
  go_wp2_with (go_at_call 50; refine (must_not _).mono ?_; rintro e w' ⟨rfl, rfl⟩)
  exact ⟨rfl, rfl, rfl⟩
/-- what a call of the reader's leaves: a value, and the reader with what is left -/
def RdP (g D : Nat) (w : World) (v : Value) (R : List UInt8) (e : Ending) (w' : World) : Prop := e = .returned v ∧ (∃ A c, Rdr w' g D R A c) ∧ Kp g w.heap.size w w'
theorem tk_no {B : List UInt8} {n : Nat} (h : tkC (some B) n = none) : B.length < n := by
  have h' : (if n ≤ B.length then some (B.drop n) else none) = none := h
  by_cases hn : n ≤ B.length
  · rw [if_pos hn] at h'; cases h'
  · omega
theorem tk_yes {B R : List UInt8} {n : Nat} (h : tkC (some B) n = some R) : n ≤ B.length ∧ R = B.drop n ∧ tkV (some B) n = B.take n := by
  have h' : (if n ≤ B.length then some (B.drop n) else none) = some R := h
  by_cases hn : n ≤ B.length
  · rw [if_pos hn] at h'
    exact ⟨hn, (Option.some.inj h').symm, if_pos hn⟩
  · rw [if_neg hn] at h'; cases h'
theorem muN (b : Bool) : muC none b = none := by cases b <;> rfl
theorem muF (c : Cu) : muC c false = none := rfl
set_option maxRecDepth 100000 in
set_option maxHeartbeats 400000 in
theorem number_ok {w : World} {g D : Nat} {B R : List UInt8} {A : Option Addr} {c : Nat} (h : Rdr w g D B A c) (k : Nat) (hk : k ≤ 3) (hR : tkC (some B) k = some R) :
    Calls Tryz.prog 47 #[.pointer (some ⟨g, 0, none⟩), .int .i64 k] w (RdP g D w (.int .i64 (nmV (some B) k : Nat)) R) := by
  obtain ⟨hkl, rfl, hV⟩ := tk_yes hR
  have CT := Lib.hid (cut_ok h k hkl)
  have HV : Hid (nmV (some B) k = be (B.take k)) := Lib.hid (by unfold nmV; rw [hV])
  have hl : (B.take k).length ≤ 3 := by rw [List.length_take]; omega
  unfold CutP at CT
  unfold RdP
  generalize B.take k = X at *
  generalize B.drop k = R at *
  generalize nmV (some B) k = N at *
  clear h hV hR hkl
  go_enter Tryz.func47, Tryz.ntmps47
  go_wp2_with (go_at_call 64; refine CT.out.mono ?_; rintro e w1 ⟨F1, A1, c1, rfl, hr1, hd1, hk1⟩; have R1 := Lib.hid hr1; have D1 := Lib.hid hd1; have K1 := Lib.hid hk1; clear hr1 hd1 hk1)
  go_loop [5, 12] (fun v i => ∃ j : Nat, j ≤ X.length ∧ i = .int .i64 j ∧ v = .int .i64 (be (X.take j) : Nat)) (fun _ i => X.length - (intOf i).toNat)
  case atStart => exact ⟨0, Nat.zero_le _, rfl, rfl⟩
  case round =>
    obtain ⟨j, hj, rfl, rfl⟩ := hrel
    by_cases hlt : j < X.length
    · obtain ⟨b, off, rfl, _, hc⟩ := R1.out.rd j hlt
      have q0 : (0 : Int) ≤ j := by omega
      have q1 : (j : Int) < X.length := by omega
      have hbe : be (X.take j) < 65536 := by
        have h1 := be_lt (X.take j)
        have h2 : (X.take j).length ≤ 2 := by rw [List.length_take]; omega
        have h3 : (256 : Nat) ^ (X.take j).length ≤ 256 ^ 2 := Nat.pow_le_pow_right (by decide) h2
        omega
      have HE := Lib.hid (be_step hlt)
      generalize be (X.take j) = y at *
      have hx := (X[j]'hlt).toNat_lt
      generalize (X[j]'hlt).toNat = x at *
      go_wp2_with fail
      rw [or_byte y x hbe hx]
      exact ⟨⟨j + 1, by omega, by go_num, by rw [HE.out]⟩, by simp [intOf]; omega⟩
    · obtain rfl : X.length = j := by omega
      rw [List.take_length]
      go_wp2_with fail
      go_ret
      exact ⟨by rw [HV.out] <;> rfl, ⟨A1, c1, D1.out⟩, K1.out⟩
set_option maxRecDepth 100000 in
set_option maxHeartbeats 400000 in
theorem number_no {w : World} {g D : Nat} {B : List UInt8} {A : Option Addr} {c : Nat} (h : Rdr w g D B A c) (k : Nat) (hR : tkC (some B) k = none) :
    Calls Tryz.prog 47 #[.pointer (some ⟨g, 0, none⟩), .int .i64 k] w fun e w' => e = PanE ∧ w = w' := by
  have CT := Lib.hid (cut_no h k (tk_no hR))
  clear h hR
  go_enter Tryz.func47, Tryz.ntmps47
  go_wp2_with (go_at_call 64; refine CT.out.mono ?_; rintro e w1 ⟨rfl, rfl⟩)
  exact ⟨rfl, rfl, rfl⟩
theorem rnumber_any {w : World} {g D : Nat} {B : List UInt8} {A : Option Addr} {c : Nat} (h : Rdr w g D B A c) (k : Nat) (hk : k ≤ 3) :
    Calls Tryz.prog 47 #[.pointer (some ⟨g, 0, none⟩), .int .i64 k] w (Out (tkC (some B) k) g w fun R => RdP g D w (.int .i64 (nmV (some B) k : Nat)) R) := by
  cases hR : tkC (some B) k with
  | none => exact (number_no h k hR).mono fun e w' hh => ⟨fun _ => ⟨hh.1, by rw [← hh.2]; exact Kp.refl _ _ _⟩, fun x e => by cases e⟩
  | some R => exact (number_ok h k hk hR).mono fun e w' hh => ⟨fun e => by (cases e), fun x e => by cases e; exact hh⟩
set_option maxRecDepth 100000 in
set_option maxHeartbeats 400000 in
theorem rexpect_any {w : World} {g D : Nat} {B : List UInt8} {A : Option Addr} {c : Nat} (h : Rdr w g D B A c) (k v : Nat) (hk : k ≤ 3) :
    Calls Tryz.prog 46 #[.pointer (some ⟨g, 0, none⟩), .int .i64 k, .int .i64 v] w (Out (muC (tkC (some B) k) (decide (nmV (some B) k = v))) g w fun R => RdP g D w (.tuple #[]) R) := by
  have CN := Lib.hid (rnumber_any h k hk)
  clear h
  generalize hM : muC (tkC (some B) k) (decide (nmV (some B) k = v)) = M
  have HM := Lib.hid hM
  clear hM
  go_enter Tryz.func46, Tryz.ntmps46
  go_wp2_with fail
  refine CN.out.mono ?_
  intro e w1 hh
  cases hR : tkC (some B) k with
  | none =>
    obtain ⟨rfl, hk1⟩ := hh.1 hR
    have K1 := Lib.hid hk1
    have HM2 : Hid (M = none) := Lib.hid (by rw [← HM.out, hR, muN])
    clear hh hk1 hR HM
    go_wp2_with fail
    exact ⟨rfl, fun _ => ⟨rfl, K1.out⟩, fun x e => by rw [HM2.out] at e; cases e⟩
  | some R =>
    obtain ⟨rfl, hd1, hk1⟩ := hh.2 R hR
    have K1 := Lib.hid hk1
    have D1 := Lib.hid hd1
    clear hh hk1 hd1
    by_cases hv : nmV (some B) k = v
    · have hb : (((nmV (some B) k : Nat) : Int) == (v : Nat)) = true := by rw [hv]; simp
      have HM : Hid (M = some R) := Lib.hid (by rw [← HM.out, hR, decide_eq_true hv]; rfl)
      clear hv hR
      go_wp2_with (go_at_call 50; refine (must_yes _).mono ?_; rintro e w' ⟨rfl, rfl⟩)
      go_end0
      exact ⟨(fun e => by rw [HM.out] at e; cases e), fun x e => by
        rw [HM.out] at e
        obtain rfl := Option.some.inj e
        exact ⟨rfl, D1.out, K1.out⟩⟩
    · have hb : (((nmV (some B) k : Nat) : Int) == (v : Nat)) = false := by rw [beq_eq_false_iff_ne]; omega
      have HM : Hid (M = none) := Lib.hid (by rw [← HM.out, hR, decide_eq_false hv]; rfl)
      clear hv hR
      go_wp2_with (go_at_call 50; refine (must_not _).mono ?_; rintro e w' ⟨rfl, rfl⟩)
      exact ⟨rfl, (fun _ => ⟨rfl, K1.out⟩), fun x e => by rw [HM.out] at e; cases e⟩
end Go.Proofs.YtiakbmllpnabnaaGreatDoor
namespace Go.Proofs.YtiakbmllpnabnaaGreatDoor
open Go Go.RowKit

theorem rcut_any {w : World} {g D : Nat} {B : List UInt8} {A : Option Addr} {c : Nat} (h : Rdr w g D B A c) (n : Nat) :
    Calls Tryz.prog 64 #[.pointer (some ⟨g, 0, none⟩), .int .i64 n] w (Out (tkC (some B) n) g w fun R => CutP g D w (tkV (some B) n) R) := by
  cases hR : tkC (some B) n with
  | none => exact (cut_no h n (tk_no hR)).mono fun e w' hh => ⟨fun _ => ⟨hh.1, by rw [← hh.2]; exact Kp.refl _ _ _⟩, fun x e => by cases e⟩
  | some R =>
    obtain ⟨h1, rfl, h3⟩ := tk_yes hR
    rw [h3]
    exact (cut_ok h n h1).mono fun e w' hh => ⟨fun e => by (cases e), fun x e => by cases e; exact hh⟩
theorem tkN (n : Nat) : tkC none n = none := rfl
set_option maxRecDepth 100000 in
set_option maxHeartbeats 400000 in
theorem rpart_any {w : World} {g D : Nat} {B : List UInt8} {A : Option Addr} {c : Nat} (h : Rdr w g D B A c) (k : Nat) (hk : k ≤ 3) :
    Calls Tryz.prog 65 #[.pointer (some ⟨g, 0, none⟩), .int .i64 k] w (Out (flC (some B) k) g w fun R => CutP g D w (flV (some B) k) R) := by
  have CN := Lib.hid (rnumber_any h k hk)
  generalize hM : flC (some B) k = M
  generalize hX : flV (some B) k = X
  have HM := Lib.hid hM
  have HX := Lib.hid hX
  clear h hM hX
  go_enter Tryz.func65, Tryz.ntmps65
  go_wp2_with fail
  refine CN.out.mono ?_
  intro e w1 hh
  cases hR : tkC (some B) k with
  | none =>
    obtain ⟨rfl, hk1⟩ := hh.1 hR
    have K1 := Lib.hid hk1
    have HM2 : Hid (M = none) := Lib.hid (by rw [← HM.out]; unfold flC; rw [hR]; rfl)
    clear hh hk1 hR HM HX
    go_wp2_with fail
    exact ⟨rfl, fun _ => ⟨rfl, K1.out⟩, fun x e => by rw [HM2.out] at e; cases e⟩
  | some R =>
    obtain ⟨rfl, ⟨A1, c1, hd1⟩, hk1⟩ := hh.2 R hR
    have K1 := Lib.hid hk1
    have CC := Lib.hid (rcut_any hd1 (nmV (some B) k))
    have HM2 : Hid (tkC (some R) (nmV (some B) k) = M ∧ tkV (some R) (nmV (some B) k) = X) := Lib.hid (by rw [← HM.out, ← HX.out]; unfold flC flV; rw [hR]; exact ⟨rfl, rfl⟩)
    clear hh hk1 hR HM HX hd1
    generalize nmV (some B) k = n at *
    go_wp2_with fail
    refine CC.out.mono ?_
    intro e w2 hh
    rw [HM2.out.1, HM2.out.2] at hh
    cases hq : M with
    | none =>
      obtain ⟨rfl, hk2⟩ := hh.1 hq
      have K2 := Lib.hid (K1.out.trans (hk2.mono K1.out.size))
      clear hh hk2 HM2 CC
      subst hq
      go_wp2_with fail
      exact ⟨rfl, fun _ => ⟨rfl, K2.out⟩, fun x e => by cases e⟩
    | some R2 =>
      obtain ⟨F2, A2, c2, rfl, hf2, hd2, hk2⟩ := hh.2 R2 hq
      have K2 := Lib.hid (K1.out.trans (hk2.mono K1.out.size))
      have F2' := Lib.hid hf2
      have D2 := Lib.hid hd2
      clear hh hk2 HM2 CC hf2 hd2
      subst hq
      go_wp2_with fail
      go_ret
      exact ⟨(fun e => by cases e), fun x e => by
        obtain rfl := Option.some.inj e
        exact ⟨F2, A2, c2, rfl, F2'.out, D2.out, K2.out⟩⟩
theorem re_fl (B : List UInt8) (k : Nat) : (∀ R, flC (some B) k = some R → R ≠ [] → reC (some B) k = none) ∧ (flC (some B) k = some [] → reC (some B) k = some (flV (some B) k)) ∧ (flC (some B) k = none → reC (some B) k = none) := by
  unfold flC flV reC
  cases hR : tkC (some B) k with
  | none => exact ⟨(fun R e => by cases e), (fun e => by cases e), fun _ => muN _⟩
  | some R1 =>
    generalize nmV (some B) k = n
    refine ⟨fun R e hne => ?_, fun e => ?_, fun e => ?_⟩
    · obtain ⟨h1, h2, h3⟩ := tk_yes e
      rw [decide_eq_false (show ¬ n = lenC (some R1) from fun h => hne (by rw [h2, h]; exact List.drop_length ..))]; rfl
    · obtain ⟨h1, h2, h3⟩ := tk_yes e
      have hl : n = R1.length := by
        have := congrArg List.length h2
        rw [List.length_nil, List.length_drop] at this
        omega
      rw [h3, hl, List.take_length, decide_eq_true (show R1.length = lenC (some R1) from rfl)]; rfl
    · have := tk_no e
      rw [decide_eq_false (show ¬ n = lenC (some R1) from fun h => by rw [h] at this; exact Nat.lt_irrefl _ this)]; rfl
/-- a new reader for what is left -/
def LastP (g D : Nat) (w : World) (R : List UInt8) (e : Ending) (w' : World) : Prop := ∃ (g' : Nat) (A : Option Addr) (c : Nat), e = .returned (.pointer (some ⟨g', 0, none⟩)) ∧ Rdr w' g' D R A c ∧ w.heap.size ≤ g' ∧ Kp g w.heap.size w w'
set_option maxRecDepth 100000 in
set_option maxHeartbeats 400000 in
theorem rlast_any {w : World} {g D : Nat} {B : List UInt8} {A : Option Addr} {c : Nat} (h : Rdr w g D B A c) (k : Nat) (hk : k ≤ 3) :
    Calls Tryz.prog 48 #[.pointer (some ⟨g, 0, none⟩), .int .i64 k] w (Out (reC (some B) k) g w fun R => LastP g D w R) := by
  have CP := Lib.hid (rpart_any h k hk)
  obtain ⟨r1, r2, r3⟩ := re_fl B k
  have hxl : (flV (some B) k).length ≤ 1000000 := by
    unfold flV tkV
    split
    · rename_i R1 n hR
      have := (tk_yes hR).2.1
      have h2 := h.le
      split
      · rw [List.length_take, this, List.length_drop]; omega
      · simp
    · simp
  generalize hM : reC (some B) k = M at *
  have R1 := Lib.hid r1
  have R2 := Lib.hid r2
  have R3 := Lib.hid r3
  have HXL := Lib.hid hxl
  clear h hM r1 r2 r3 hxl
  generalize flC (some B) k = C at *
  generalize flV (some B) k = X at *
  go_enter Tryz.func48, Tryz.ntmps48
  go_wp2_with fail
  refine CP.out.mono ?_
  intro e w1 hh
  cases C with
  | none =>
    obtain ⟨rfl, hk1⟩ := hh.1 rfl
    have K1 := Lib.hid hk1
    obtain rfl := R3.out rfl
    clear hh hk1 R1 R2 R3 CP
    go_wp2_with fail
    exact ⟨rfl, fun _ => ⟨rfl, K1.out⟩, fun x e => by cases e⟩
  | some R =>
    obtain ⟨F2, A2, c2, rfl, hf2, hd2, hk2⟩ := hh.2 R rfl
    have K2 := Lib.hid hk2
    have F2' := Lib.hid hf2
    have D2 := Lib.hid hd2
    have d0 := rdr_c hd2
    clear hh hk2 hf2 hd2 CP
    cases R with
    | nil =>
      obtain rfl := R2.out rfl
      clear R1 R2 R3
      rw [List.length_nil] at d0
      go_wp2_with (go_at_call 50; refine (must_yes _).mono ?_; rintro e w' ⟨rfl, rfl⟩)
      go_ret
      refine ⟨(fun e => by cases e), fun x e => ?_⟩
      obtain rfl := Option.some.inj e
      have hDw : D ≤ w1.heap.size := Nat.le_trans D2.out.dg (Nat.le_of_lt D2.out.cs.lt)
      exact ⟨w1.heap.size, F2, X.length, rfl, rdr_new w1 D X F2 _ hDw F2'.out HXL.out, K2.out.size, K2.out.trans (kp_fresh K2.out.size (below_new _ _))⟩
    | cons x R =>
      obtain rfl := R1.out _ rfl (fun e => by cases e)
      clear R1 R2 R3
      have hne : (((x :: R).length : Nat) : Int) ≠ 0 := by rw [List.length_cons]; omega
      have hb : ((((x :: R).length : Nat) : Int) == 0) = false := by rw [beq_eq_false_iff_ne]; exact hne
      generalize (x :: R).length = n at *
      clear hne
      go_wp2_with (go_at_call 50; refine (must_not _).mono ?_; rintro e w' ⟨rfl, rfl⟩)
      exact ⟨rfl, (fun _ => ⟨rfl, K2.out⟩), fun x e => by cases e⟩
end Go.Proofs.YtiakbmllpnabnaaGreatDoor
