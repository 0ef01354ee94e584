/- The program: Check. -/
import Derived.Test.YthniggdimfldhaaGreatDoorNo
namespace Go.Proofs.YthniggdimfldhaaGreatDoor
open Go Go.RowKit

/-- a request, its Host too -/
def reqB (a p : List UInt8) (n : Int) (l : List Hd) : Bool := isMeth a && (isPath p && (decide (n = 0) && (decide ((getL l nHo).length = 1) && !(fstV (getL l nHo) == []))))
def ansB (a p : List UInt8) (n : Int) : Bool := a == [] && (p == [] && isSt n)
theorem all_kept (l : List Hd) : l.all (fun h => keptN h.1) = (decide ((getL l nCL).length = 0) && (decide ((getL l nTE).length = 0) && decide ((getL l nCo).length = 0))) := by
  have e : ∀ y, decide ((getL l y).length = 0) = l.all fun h => !alikeS h.1 y := fun y => by
    unfold getL
    induction l with
    | nil => rfl
    | cons h l ih =>
      rw [List.filter_cons, List.all_cons, ← ih]
      cases alikeS h.1 y <;> simp
  rw [e, e, e]
  clear e
  induction l with
  | nil => rfl
  | cons h l ih =>
    rw [List.all_cons, List.all_cons, List.all_cons, List.all_cons, ih]
    unfold keptN
    cases alikeS h.1 nCL <;> cases alikeS h.1 nTE <;> cases alikeS h.1 nCo <;> simp
theorem okM_is (m : Msg) : okM m = ((reqB m.meth m.path m.status m.heads || ansB m.meth m.path m.status) && (decide (chkE m.heads = 0) && (decide (m.body.length ≤ 2000) && m.heads.all (fun h => keptN h.1)))) := by
  unfold okM isReq isAns reqB ansB
  cases h1 : isMeth m.meth with
  | false =>
    simp only [Bool.false_and, Bool.false_or, Bool.not_false, Bool.true_or, Bool.and_true]
  | true =>
    have hne : (m.meth == []) = false := by
      rw [beq_eq_false_iff_ne]
      intro e
      rw [e] at h1
      revert h1
      decide
    rw [hne]
    cases isPath m.path <;> cases decide (m.status = 0) <;> cases decide ((getL m.heads nHo).length = 1) <;> cases (fstV (getL m.heads nHo) == []) <;> cases decide (chkE m.heads = 0) <;> cases decide (m.body.length ≤ 2000) <;> cases m.heads.all (fun h => keptN h.1) <;> rfl
theorem box_cs (w : World) (a p : List UInt8) (n : Int) (hV bV : Value) : Cs (w.alloc (.cells #[.string ⟨a.toArray⟩, .string ⟨p.toArray⟩, .int .i64 n, hV, bV] 25)) w.heap.size [.string ⟨a.toArray⟩, .string ⟨p.toArray⟩, .int .i64 n, hV, bV] := Cs.new w _ _
set_option maxRecDepth 100000 in
theorem isResponse_any (a p : List UInt8) (n : Int) (hV bV : Value) (w : World) : Calls Tryz.prog 30 #[.agg #[.string ⟨a.toArray⟩, .string ⟨p.toArray⟩, .int .i64 n, hV, bV]] w fun e w' => e = .returned (.bool (ansB a p n)) ∧ Below w.heap.size w w' := by
  have hb := Lib.hid (below_new w (.cells #[.string ⟨a.toArray⟩, .string ⟨p.toArray⟩, .int .i64 n, hV, bV] 25))
  cases a with
  | cons y a =>
    have hE : Hid (ansB (y :: a) p n = false) := rfl
    go_enter Tryz.func30, Tryz.ntmps30
    go_wp2_with fail
    go_ret
    exact ⟨by rw [hE.out]; rfl, hb.out⟩
  | nil =>
    cases p with
    | cons y p =>
      have hE : Hid (ansB [] (y :: p) n = false) := rfl
      go_enter Tryz.func30, Tryz.ntmps30
      go_wp2_with fail
      go_ret
      exact ⟨by rw [hE.out]; rfl, hb.out⟩
    | nil =>
      have hE : Hid (ansB [] [] n = isSt n) := rfl
      have C := Lib.hid fun w => isStatus_any n w
      generalize isSt n = z at *
      go_enter Tryz.func30, Tryz.ntmps30
      go_wp2_with (go_at_call 46; refine (C.out _).mono ?_; rintro e w' ⟨rfl, rfl⟩)
      go_ret
      exact ⟨by rw [hE.out]; rfl, hb.out⟩
theorem reqB_is (a p : List UInt8) (n : Int) (l : List Hd) (z1 z2 z3 z4 z5 : Bool) (h1 : isMeth a = z1) (h2 : isPath p = z2) (h3 : (n == 0) = z3) (h4 : ((((getL l nHo).length : Nat) : Int) == 1) = z4) (h5 : (fstV (getL l nHo)).isEmpty = z5) :
    reqB a p n l = (z1 && (z2 && (z3 && (z4 && !z5)))) := by
  have e3 : decide (n = 0) = z3 := by rw [← h3, Bool.eq_iff_iff, decide_eq_true_eq, beq_iff_eq]
  have e4 : decide ((getL l nHo).length = 1) = z4 := by rw [← h4, Bool.eq_iff_iff, decide_eq_true_eq, beq_iff_eq]; omega
  have e5 : (fstV (getL l nHo) == []) = z5 := by rw [← h5]; cases fstV (getL l nHo) <;> rfl
  unfold reqB
  rw [h1, h2, e3, e4, e5]
set_option maxRecDepth 100000 in
set_option maxHeartbeats 2000000 in
theorem isRequest_any (a p : List UInt8) (n : Int) (hV bV : Value) (l : List Hd) (w : World) (hv : Hs w hV l) (hsm : Sm l) (hp : p.length ≤ 1000000) :
    Calls Tryz.prog 29 #[.agg #[.string ⟨a.toArray⟩, .string ⟨p.toArray⟩, .int .i64 n, hV, bV]] w fun e w' => e = .returned (.bool (reqB a p n l)) ∧ Below w.heap.size w w' := by
  have hb := below_new w (.cells #[.string ⟨a.toArray⟩, .string ⟨p.toArray⟩, .int .i64 n, hV, bV] 25)
  have C1 := Lib.hid (get_any hV l nHo _ (hv.below hb) hsm (by decide))
  have CS := Lib.hid (box_cs w a p n hV bV)
  have B1 := Lib.hid hb
  have C2 := Lib.hid fun w => isMethod_any a w
  have C3 := Lib.hid fun w => isPath_any p w hp
  have hE := Lib.hid (reqB_is a p n l)
  clear hb hv hp
  generalize reqB a p n l = R at *
  have hm0 : (0 : Int) ≤ ((getL l nHo).length : Nat) := by omega
  generalize ((getL l nHo).length : Nat) = mn at *
  generalize fstV (getL l nHo) = ho at *
  cases q1 : (isMeth a) with
  | false =>
    have HE := Lib.hid (hE.out _ _ _ _ _ q1 rfl rfl rfl rfl)
    rw [q1] at C2
    clear hE q1
    go_enter Tryz.func29, Tryz.ntmps29
    go_wp2_with fail
    generalize w.alloc (.cells #[.string ⟨a.toArray⟩, .string ⟨p.toArray⟩, .int .i64 n, hV, bV] 25) = w1 at *
    go_at_call 32
    refine C1.out.mono ?_
    rintro e w2 ⟨rfl, hb2⟩
    have HC := Lib.hid (CS.out.keep hb2.size (hb2.block _ CS.out.lt))
    have B2 := Lib.hid (Below.trans B1.out (hb2.mono B1.out.size))
    have d0 := HC.out.c 0 (by simp)
    have d1 := HC.out.c 1 (by simp)
    have d2 := HC.out.c 2 (by simp)
    clear hb2 C1
    go_wp2_with fail
    go_at_call 56
    refine (C2.out _).mono ?_
    rintro e w3 ⟨rfl, rfl⟩
    go_wp2_with fail
    go_ret
    exact ⟨by rw [HE.out]; rfl, B2.out⟩
  | true =>
    rw [q1] at C2
    cases q2 : (isPath p) with
    | false =>
      have HE := Lib.hid (hE.out _ _ _ _ _ q1 q2 rfl rfl rfl)
      rw [q2] at C3
      clear hE q1 q2
      go_enter Tryz.func29, Tryz.ntmps29
      go_wp2_with fail
      generalize w.alloc (.cells #[.string ⟨a.toArray⟩, .string ⟨p.toArray⟩, .int .i64 n, hV, bV] 25) = w1 at *
      go_at_call 32
      refine C1.out.mono ?_
      rintro e w2 ⟨rfl, hb2⟩
      have HC := Lib.hid (CS.out.keep hb2.size (hb2.block _ CS.out.lt))
      have B2 := Lib.hid (Below.trans B1.out (hb2.mono B1.out.size))
      have d0 := HC.out.c 0 (by simp)
      have d1 := HC.out.c 1 (by simp)
      have d2 := HC.out.c 2 (by simp)
      clear hb2 C1
      go_wp2_with fail
      go_at_call 56
      refine (C2.out _).mono ?_
      rintro e w3 ⟨rfl, rfl⟩
      go_wp2_with fail
      go_at_call 57
      refine (C3.out _).mono ?_
      rintro e w3 ⟨rfl, rfl⟩
      go_wp2_with fail
      go_ret
      exact ⟨by rw [HE.out]; rfl, B2.out⟩
    | true =>
      rw [q2] at C3
      cases q3 : (n == 0) with
      | false =>
        have HE := Lib.hid (hE.out _ _ _ _ _ q1 q2 q3 rfl rfl)
        clear hE q1 q2
        go_enter Tryz.func29, Tryz.ntmps29
        go_wp2_with fail
        generalize w.alloc (.cells #[.string ⟨a.toArray⟩, .string ⟨p.toArray⟩, .int .i64 n, hV, bV] 25) = w1 at *
        go_at_call 32
        refine C1.out.mono ?_
        rintro e w2 ⟨rfl, hb2⟩
        have HC := Lib.hid (CS.out.keep hb2.size (hb2.block _ CS.out.lt))
        have B2 := Lib.hid (Below.trans B1.out (hb2.mono B1.out.size))
        have d0 := HC.out.c 0 (by simp)
        have d1 := HC.out.c 1 (by simp)
        have d2 := HC.out.c 2 (by simp)
        clear hb2 C1
        go_wp2_with fail
        go_at_call 56
        refine (C2.out _).mono ?_
        rintro e w3 ⟨rfl, rfl⟩
        go_wp2_with fail
        go_at_call 57
        refine (C3.out _).mono ?_
        rintro e w3 ⟨rfl, rfl⟩
        go_wp2_with fail
        go_ret
        exact ⟨by rw [HE.out]; rfl, B2.out⟩
      | true =>
        cases q4 : ((mn : Int) == 1) with
        | false =>
          have HE := Lib.hid (hE.out _ _ _ _ _ q1 q2 q3 q4 rfl)
          clear hE q1 q2
          go_enter Tryz.func29, Tryz.ntmps29
          go_wp2_with fail
          generalize w.alloc (.cells #[.string ⟨a.toArray⟩, .string ⟨p.toArray⟩, .int .i64 n, hV, bV] 25) = w1 at *
          go_at_call 32
          refine C1.out.mono ?_
          rintro e w2 ⟨rfl, hb2⟩
          have HC := Lib.hid (CS.out.keep hb2.size (hb2.block _ CS.out.lt))
          have B2 := Lib.hid (Below.trans B1.out (hb2.mono B1.out.size))
          have d0 := HC.out.c 0 (by simp)
          have d1 := HC.out.c 1 (by simp)
          have d2 := HC.out.c 2 (by simp)
          clear hb2 C1
          go_wp2_with fail
          go_at_call 56
          refine (C2.out _).mono ?_
          rintro e w3 ⟨rfl, rfl⟩
          go_wp2_with fail
          go_at_call 57
          refine (C3.out _).mono ?_
          rintro e w3 ⟨rfl, rfl⟩
          go_wp2_with fail
          go_ret
          exact ⟨by rw [HE.out]; rfl, B2.out⟩
        | true =>
          cases q5 : (ho.isEmpty) with
          | true =>
            have HE := Lib.hid (hE.out _ _ _ _ _ q1 q2 q3 q4 q5)
            clear hE q1 q2
            go_enter Tryz.func29, Tryz.ntmps29
            go_wp2_with fail
            generalize w.alloc (.cells #[.string ⟨a.toArray⟩, .string ⟨p.toArray⟩, .int .i64 n, hV, bV] 25) = w1 at *
            go_at_call 32
            refine C1.out.mono ?_
            rintro e w2 ⟨rfl, hb2⟩
            have HC := Lib.hid (CS.out.keep hb2.size (hb2.block _ CS.out.lt))
            have B2 := Lib.hid (Below.trans B1.out (hb2.mono B1.out.size))
            have d0 := HC.out.c 0 (by simp)
            have d1 := HC.out.c 1 (by simp)
            have d2 := HC.out.c 2 (by simp)
            clear hb2 C1
            go_wp2_with fail
            go_at_call 56
            refine (C2.out _).mono ?_
            rintro e w3 ⟨rfl, rfl⟩
            go_wp2_with fail
            go_at_call 57
            refine (C3.out _).mono ?_
            rintro e w3 ⟨rfl, rfl⟩
            go_wp2_with fail
            go_ret
            exact ⟨by rw [HE.out]; rfl, B2.out⟩
          | false =>
            have HE := Lib.hid (hE.out _ _ _ _ _ q1 q2 q3 q4 q5)
            clear hE q1 q2
            go_enter Tryz.func29, Tryz.ntmps29
            go_wp2_with fail
            generalize w.alloc (.cells #[.string ⟨a.toArray⟩, .string ⟨p.toArray⟩, .int .i64 n, hV, bV] 25) = w1 at *
            go_at_call 32
            refine C1.out.mono ?_
            rintro e w2 ⟨rfl, hb2⟩
            have HC := Lib.hid (CS.out.keep hb2.size (hb2.block _ CS.out.lt))
            have B2 := Lib.hid (Below.trans B1.out (hb2.mono B1.out.size))
            have d0 := HC.out.c 0 (by simp)
            have d1 := HC.out.c 1 (by simp)
            have d2 := HC.out.c 2 (by simp)
            clear hb2 C1
            go_wp2_with fail
            go_at_call 56
            refine (C2.out _).mono ?_
            rintro e w3 ⟨rfl, rfl⟩
            go_wp2_with fail
            go_at_call 57
            refine (C3.out _).mono ?_
            rintro e w3 ⟨rfl, rfl⟩
            go_wp2_with fail
            go_ret
            exact ⟨by rw [HE.out]; rfl, B2.out⟩
def ckE (b : Bool) : Int := if b = true then 0 else 2
set_option maxRecDepth 100000 in
set_option maxHeartbeats 8000000 in
theorem check_all (a p : List UInt8) (n : Int) (hV : Value) (Ab : Option Addr) (bl cb : Nat) (l : List Hd) (w : World) (hv : Hs w hV l) (hsm : Sm l) (hp : p.length ≤ 1000000) (hG : Gl w) :
    Calls Tryz.prog 9 #[.agg #[.string ⟨a.toArray⟩, .string ⟨p.toArray⟩, .int .i64 n, hV, .slice Ab bl cb]] w fun e w' =>
      e = .returned (.int .i64 (ckE ((reqB a p n l || ansB a p n) && (decide (chkE l = 0) && (decide (bl ≤ 2000) && l.all fun h => keptN h.1))))) ∧ Below w.heap.size w w' := by
  have hb := below_new w (.cells #[.string ⟨a.toArray⟩, .string ⟨p.toArray⟩, .int .i64 n, hV, .slice Ab bl cb] 25)
  have C1 := Lib.hid (isRequest_any a p n hV (.slice Ab bl cb) l _ (hv.below hb) hsm hp)
  have C2 := Lib.hid fun w => isResponse_any a p n hV (.slice Ab bl cb) w
  have CS := Lib.hid (box_cs w a p n hV (.slice Ab bl cb))
  have HG := Lib.hid fun w' (h : Below w.heap.size w w') => hG.fresh h
  have HV := Lib.hid fun w' (h : Below w.heap.size w w') => hv.below h
  have G3 := Lib.hid fun w' (h : Below w.heap.size w w') => check_any hV l w' (hv.below h) hsm
  have B1 := Lib.hid hb
  have HSM := Lib.hid hsm
  clear hb hv hp hsm hG
  generalize reqB a p n l = R at *
  generalize ansB a p n = An at *
  generalize chkE l = k at *
  cases hRA : (R || An) with
  | false =>
    obtain ⟨rfl, rfl⟩ : R = false ∧ An = false := by simpa using hRA
    rw [Bool.false_and]
    have HE := Lib.hid (show ckE false = 2 from rfl)
    clear hRA
    go_enter Tryz.func9, Tryz.ntmps9
    go_wp2_with fail
    generalize w.alloc (.cells #[.string ⟨a.toArray⟩, .string ⟨p.toArray⟩, .int .i64 n, hV, .slice Ab bl cb] 25) = w1 at *
    go_at_call 29
    refine C1.out.mono ?_
    rintro e w2 ⟨rfl, hb2⟩
    have HC2 := Lib.hid (CS.out.keep hb2.size (hb2.block _ CS.out.lt))
    have B2 := Lib.hid (Below.trans B1.out (hb2.mono B1.out.size))
    clear hb2 C1
    have d0 := HC2.out.c 0 (by simp)
    have d1 := HC2.out.c 1 (by simp)
    have d2 := HC2.out.c 2 (by simp)
    have d3 := HC2.out.c 3 (by simp)
    have d4 := HC2.out.c 4 (by simp)
    go_wp2_with fail
    go_at_call 30
    refine (C2.out _).mono ?_
    rintro e w3 ⟨rfl, hb3⟩
    have HC3 := Lib.hid (HC2.out.keep hb3.size (hb3.block _ HC2.out.lt))
    have B3 := Lib.hid (Below.trans B2.out (hb3.mono B2.out.size))
    clear hb3 d0 d1 d2 d3 d4
    have d0 := HC3.out.c 0 (by simp)
    have d1 := HC3.out.c 1 (by simp)
    have d2 := HC3.out.c 2 (by simp)
    have d3 := HC3.out.c 3 (by simp)
    have d4 := HC3.out.c 4 (by simp)
    go_wp2_with fail
    go_ret
    exact ⟨by rw [HE.out]; rfl, B3.out⟩
  | true =>
    rw [Bool.true_and]
    by_cases hk : k = 0
    · subst hk
      rw [decide_eq_true rfl, Bool.true_and]
      by_cases hl2 : bl ≤ 2000
      · rw [decide_eq_true hl2, Bool.true_and]
        have hlz : ¬ ((2000 : Int) < (bl : Int)) := by omega
        have hE : Hid (∀ x y z : Bool, (l.all fun h => keptN h.1) = z → ckE (l.all fun h => keptN h.1) = if z = true then 0 else 2) := fun x y z h => by rw [h]; rfl
        generalize hAK : ckE (l.all fun h => keptN h.1) = R2 at *
        clear hAK hl2
        cases R with
        | true =>
          clear hRA C2
          go_enter Tryz.func9, Tryz.ntmps9
          go_wp2_with fail
          generalize w.alloc (.cells #[.string ⟨a.toArray⟩, .string ⟨p.toArray⟩, .int .i64 n, hV, .slice Ab bl cb] 25) = w1 at *
          go_at_call 29
          refine C1.out.mono ?_
          rintro e w2 ⟨rfl, hb2⟩
          have HC2 := Lib.hid (CS.out.keep hb2.size (hb2.block _ CS.out.lt))
          have B2 := Lib.hid (Below.trans B1.out (hb2.mono B1.out.size))
          clear hb2 C1
          have d0 := HC2.out.c 0 (by simp)
          have d1 := HC2.out.c 1 (by simp)
          have d2 := HC2.out.c 2 (by simp)
          have d3 := HC2.out.c 3 (by simp)
          have d4 := HC2.out.c 4 (by simp)
          have C3 := Lib.hid (G3.out w2 B2.out)
          go_wp2_with fail
          go_at_call 31
          refine C3.out.mono ?_
          rintro e w4 ⟨rfl, hb4⟩
          have HC4 := Lib.hid (HC2.out.keep hb4.size (hb4.block _ HC2.out.lt))
          have B4 := Lib.hid (Below.trans B2.out (hb4.mono B2.out.size))
          clear hb4 C3 d0 d1 d2 d3 d4
          have d0 := HC4.out.c 0 (by simp)
          have d1 := HC4.out.c 1 (by simp)
          have d2 := HC4.out.c 2 (by simp)
          have d3 := HC4.out.c 3 (by simp)
          have d4 := HC4.out.c 4 (by simp)
          have g0 : _ = some (Value.string ⟨nCL.toArray⟩) := (HG.out w4 B4.out).e0
          have g1 : _ = some (Value.string ⟨nTE.toArray⟩) := (HG.out w4 B4.out).e1
          have g2 : _ = some (Value.string ⟨nCo.toArray⟩) := (HG.out w4 B4.out).e2
          go_wp2_with fail
          clear g0 g1 g2 d0 d1 d2 d3 d4
          go_loopg [28] 3 (fun f i wr => ∃ j : Nat, i = .int .i64 j ∧ f + j = 3 ∧ Hid (Cs wr w.heap.size [.string ⟨a.toArray⟩, .string ⟨p.toArray⟩, .int .i64 n, hV, .slice Ab bl cb] ∧ Below w.heap.size w wr ∧
            (0 < j → (getL l nCL).length = 0) ∧ (1 < j → (getL l nTE).length = 0) ∧ (2 < j → (getL l nCo).length = 0)))
          case atStart => exact ⟨0, rfl, rfl, ⟨HC4.out, B4.out, fun h => absurd h (by decide), fun h => absurd h (by decide), fun h => absurd h (by decide)⟩⟩
          case round =>
            obtain ⟨j, rfl, hfj, HI⟩ := hrel
            obtain ⟨hC, hB, hn0, hn1, hn2⟩ := HI.out
            have d3 := hC.c 3 (by simp)
            have HC5 := Lib.hid hC
            have B5 := Lib.hid hB
            cases gk with
            | zero =>
              obtain rfl : j = 3 := by omega
              have HE := Lib.hid (hE.out true true true (by rw [all_kept, hn0 (by decide), hn1 (by decide), hn2 (by decide)]; rfl))
              clear HI hC hB hn0 hn1 hn2 d3 hE
              go_wp2_with fail
              go_ret
              exact ⟨by rw [HE.out]; rfl, B5.out⟩
            | succ f =>
              have CG := Lib.hid fun y (hy : y.length ≤ 1000) => get_any hV l y wr (HV.out wr B5.out) HSM.out hy
              have i0 : ∀ w, (Instr.index 51 (.agg #[.string ⟨nCL.toArray⟩, .string ⟨nTE.toArray⟩, .string ⟨nCo.toArray⟩]) (.int .i64 0)).run Tryz.prog w = .ok (.string ⟨nCL.toArray⟩) w := fun _ => by kernel_rfl
              have i1 : ∀ w, (Instr.index 51 (.agg #[.string ⟨nCL.toArray⟩, .string ⟨nTE.toArray⟩, .string ⟨nCo.toArray⟩]) (.int .i64 1)).run Tryz.prog w = .ok (.string ⟨nTE.toArray⟩) w := fun _ => by kernel_rfl
              have i2 : ∀ w, (Instr.index 51 (.agg #[.string ⟨nCL.toArray⟩, .string ⟨nTE.toArray⟩, .string ⟨nCo.toArray⟩]) (.int .i64 2)).run Tryz.prog w = .ok (.string ⟨nCo.toArray⟩) w := fun _ => by kernel_rfl
              clear HI hC hB
              rcases (show j = 0 ∨ j = 1 ∨ j = 2 by omega) with rfl | rfl | rfl
              · by_cases hz : (getL l nCL).length = 0
                · have HZ := Lib.hid hz
                  have hzz : ¬ ((0 : Int) < ((getL l nCL).length : Nat)) := by omega
                  clear hn0 hn1 hn2 hz
                  have CC := Lib.hid (CG.out nCL (by decide))
                  generalize (getL l nCL).length = mn at *
                  generalize fstV (getL l nCL) = hh at *
                  go_wp2_with fail
                  go_at_call 32
                  refine CC.out.mono ?_
                  rintro e w7 ⟨rfl, hb7⟩
                  have HC7 := Lib.hid (HC5.out.keep hb7.size (hb7.block _ HC5.out.lt))
                  have B7 := Lib.hid (Below.and B5.out hb7)
                  clear hb7 CC
                  go_wp2_with fail
                  go_roundg f
                  case measure => omega
                  case rel => exact ⟨_, by first | rfl | go_num, by omega, ⟨HC7.out, B7.out, fun _ => HZ.out, fun h => absurd h (by decide), fun h => absurd h (by decide)⟩⟩
                · have HE := Lib.hid (hE.out true true false (by rw [all_kept, decide_eq_false hz]; simp))
                  have hzz : ((0 : Int) < ((getL l nCL).length : Nat)) := by omega
                  clear hn0 hn1 hn2 hz hE
                  have CC := Lib.hid (CG.out nCL (by decide))
                  generalize (getL l nCL).length = mn at *
                  generalize fstV (getL l nCL) = hh at *
                  go_wp2_with fail
                  go_at_call 32
                  refine CC.out.mono ?_
                  rintro e w7 ⟨rfl, hb7⟩
                  have B7 := Lib.hid (Below.and B5.out hb7)
                  clear hb7 CC
                  go_wp2_with fail
                  go_ret
                  exact ⟨by rw [HE.out]; rfl, B7.out⟩
              · by_cases hz : (getL l nTE).length = 0
                · have HZ := Lib.hid hz
                  have hzz : ¬ ((0 : Int) < ((getL l nTE).length : Nat)) := by omega
                  have H0 := Lib.hid (hn0 (by decide))
                  clear hn0 hn1 hn2 hz
                  have CC := Lib.hid (CG.out nTE (by decide))
                  generalize (getL l nTE).length = mn at *
                  generalize fstV (getL l nTE) = hh at *
                  go_wp2_with fail
                  go_at_call 32
                  refine CC.out.mono ?_
                  rintro e w7 ⟨rfl, hb7⟩
                  have HC7 := Lib.hid (HC5.out.keep hb7.size (hb7.block _ HC5.out.lt))
                  have B7 := Lib.hid (Below.and B5.out hb7)
                  clear hb7 CC
                  go_wp2_with fail
                  go_roundg f
                  case measure => omega
                  case rel => exact ⟨_, by first | rfl | go_num, by omega, ⟨HC7.out, B7.out, fun _ => H0.out, fun _ => HZ.out, fun h => absurd h (by decide)⟩⟩
                · have HE := Lib.hid (hE.out true true false (by rw [all_kept, decide_eq_false hz]; simp))
                  have hzz : ((0 : Int) < ((getL l nTE).length : Nat)) := by omega
                  clear hn0 hn1 hn2 hz hE
                  have CC := Lib.hid (CG.out nTE (by decide))
                  generalize (getL l nTE).length = mn at *
                  generalize fstV (getL l nTE) = hh at *
                  go_wp2_with fail
                  go_at_call 32
                  refine CC.out.mono ?_
                  rintro e w7 ⟨rfl, hb7⟩
                  have B7 := Lib.hid (Below.and B5.out hb7)
                  clear hb7 CC
                  go_wp2_with fail
                  go_ret
                  exact ⟨by rw [HE.out]; rfl, B7.out⟩
              · by_cases hz : (getL l nCo).length = 0
                · have HZ := Lib.hid hz
                  have hzz : ¬ ((0 : Int) < ((getL l nCo).length : Nat)) := by omega
                  have H0 := Lib.hid (hn0 (by decide))
                  have H1 := Lib.hid (hn1 (by decide))
                  clear hn0 hn1 hn2 hz
                  have CC := Lib.hid (CG.out nCo (by decide))
                  generalize (getL l nCo).length = mn at *
                  generalize fstV (getL l nCo) = hh at *
                  go_wp2_with fail
                  go_at_call 32
                  refine CC.out.mono ?_
                  rintro e w7 ⟨rfl, hb7⟩
                  have HC7 := Lib.hid (HC5.out.keep hb7.size (hb7.block _ HC5.out.lt))
                  have B7 := Lib.hid (Below.and B5.out hb7)
                  clear hb7 CC
                  go_wp2_with fail
                  go_roundg f
                  case measure => omega
                  case rel => exact ⟨_, by first | rfl | go_num, by omega, ⟨HC7.out, B7.out, fun _ => H0.out, fun _ => H1.out, fun _ => HZ.out⟩⟩
                · have HE := Lib.hid (hE.out true true false (by rw [all_kept, decide_eq_false hz]; simp))
                  have hzz : ((0 : Int) < ((getL l nCo).length : Nat)) := by omega
                  clear hn0 hn1 hn2 hz hE
                  have CC := Lib.hid (CG.out nCo (by decide))
                  generalize (getL l nCo).length = mn at *
                  generalize fstV (getL l nCo) = hh at *
                  go_wp2_with fail
                  go_at_call 32
                  refine CC.out.mono ?_
                  rintro e w7 ⟨rfl, hb7⟩
                  have B7 := Lib.hid (Below.and B5.out hb7)
                  clear hb7 CC
                  go_wp2_with fail
                  go_ret
                  exact ⟨by rw [HE.out]; rfl, B7.out⟩
        | false =>
          obtain rfl : An = true := by simpa using hRA
          clear hRA
          go_enter Tryz.func9, Tryz.ntmps9
          go_wp2_with fail
          generalize w.alloc (.cells #[.string ⟨a.toArray⟩, .string ⟨p.toArray⟩, .int .i64 n, hV, .slice Ab bl cb] 25) = w1 at *
          go_at_call 29
          refine C1.out.mono ?_
          rintro e w2 ⟨rfl, hb2⟩
          have HC2 := Lib.hid (CS.out.keep hb2.size (hb2.block _ CS.out.lt))
          have B2 := Lib.hid (Below.trans B1.out (hb2.mono B1.out.size))
          clear hb2 C1
          have d0 := HC2.out.c 0 (by simp)
          have d1 := HC2.out.c 1 (by simp)
          have d2 := HC2.out.c 2 (by simp)
          have d3 := HC2.out.c 3 (by simp)
          have d4 := HC2.out.c 4 (by simp)
          go_wp2_with fail
          go_at_call 30
          refine (C2.out _).mono ?_
          rintro e w3 ⟨rfl, hb3⟩
          have HC3 := Lib.hid (HC2.out.keep hb3.size (hb3.block _ HC2.out.lt))
          have B3 := Lib.hid (Below.trans B2.out (hb3.mono B2.out.size))
          clear hb3 d0 d1 d2 d3 d4
          have d0 := HC3.out.c 0 (by simp)
          have d1 := HC3.out.c 1 (by simp)
          have d2 := HC3.out.c 2 (by simp)
          have d3 := HC3.out.c 3 (by simp)
          have d4 := HC3.out.c 4 (by simp)
          have C3 := Lib.hid (G3.out w3 B3.out)
          go_wp2_with fail
          go_at_call 31
          refine C3.out.mono ?_
          rintro e w4 ⟨rfl, hb4⟩
          have HC4 := Lib.hid (HC3.out.keep hb4.size (hb4.block _ HC3.out.lt))
          have B4 := Lib.hid (Below.trans B3.out (hb4.mono B3.out.size))
          clear hb4 C3 d0 d1 d2 d3 d4
          have d0 := HC4.out.c 0 (by simp)
          have d1 := HC4.out.c 1 (by simp)
          have d2 := HC4.out.c 2 (by simp)
          have d3 := HC4.out.c 3 (by simp)
          have d4 := HC4.out.c 4 (by simp)
          have g0 : _ = some (Value.string ⟨nCL.toArray⟩) := (HG.out w4 B4.out).e0
          have g1 : _ = some (Value.string ⟨nTE.toArray⟩) := (HG.out w4 B4.out).e1
          have g2 : _ = some (Value.string ⟨nCo.toArray⟩) := (HG.out w4 B4.out).e2
          go_wp2_with fail
          clear g0 g1 g2 d0 d1 d2 d3 d4
          go_loopg [28] 3 (fun f i wr => ∃ j : Nat, i = .int .i64 j ∧ f + j = 3 ∧ Hid (Cs wr w.heap.size [.string ⟨a.toArray⟩, .string ⟨p.toArray⟩, .int .i64 n, hV, .slice Ab bl cb] ∧ Below w.heap.size w wr ∧
            (0 < j → (getL l nCL).length = 0) ∧ (1 < j → (getL l nTE).length = 0) ∧ (2 < j → (getL l nCo).length = 0)))
          case atStart => exact ⟨0, rfl, rfl, ⟨HC4.out, B4.out, fun h => absurd h (by decide), fun h => absurd h (by decide), fun h => absurd h (by decide)⟩⟩
          case round =>
            obtain ⟨j, rfl, hfj, HI⟩ := hrel
            obtain ⟨hC, hB, hn0, hn1, hn2⟩ := HI.out
            have d3 := hC.c 3 (by simp)
            have HC5 := Lib.hid hC
            have B5 := Lib.hid hB
            cases gk with
            | zero =>
              obtain rfl : j = 3 := by omega
              have HE := Lib.hid (hE.out true true true (by rw [all_kept, hn0 (by decide), hn1 (by decide), hn2 (by decide)]; rfl))
              clear HI hC hB hn0 hn1 hn2 d3 hE
              go_wp2_with fail
              go_ret
              exact ⟨by rw [HE.out]; rfl, B5.out⟩
            | succ f =>
              have CG := Lib.hid fun y (hy : y.length ≤ 1000) => get_any hV l y wr (HV.out wr B5.out) HSM.out hy
              have i0 : ∀ w, (Instr.index 51 (.agg #[.string ⟨nCL.toArray⟩, .string ⟨nTE.toArray⟩, .string ⟨nCo.toArray⟩]) (.int .i64 0)).run Tryz.prog w = .ok (.string ⟨nCL.toArray⟩) w := fun _ => by kernel_rfl
              have i1 : ∀ w, (Instr.index 51 (.agg #[.string ⟨nCL.toArray⟩, .string ⟨nTE.toArray⟩, .string ⟨nCo.toArray⟩]) (.int .i64 1)).run Tryz.prog w = .ok (.string ⟨nTE.toArray⟩) w := fun _ => by kernel_rfl
              have i2 : ∀ w, (Instr.index 51 (.agg #[.string ⟨nCL.toArray⟩, .string ⟨nTE.toArray⟩, .string ⟨nCo.toArray⟩]) (.int .i64 2)).run Tryz.prog w = .ok (.string ⟨nCo.toArray⟩) w := fun _ => by kernel_rfl
              clear HI hC hB
              rcases (show j = 0 ∨ j = 1 ∨ j = 2 by omega) with rfl | rfl | rfl
              · by_cases hz : (getL l nCL).length = 0
                · have HZ := Lib.hid hz
                  have hzz : ¬ ((0 : Int) < ((getL l nCL).length : Nat)) := by omega
                  clear hn0 hn1 hn2 hz
                  have CC := Lib.hid (CG.out nCL (by decide))
                  generalize (getL l nCL).length = mn at *
                  generalize fstV (getL l nCL) = hh at *
                  go_wp2_with fail
                  go_at_call 32
                  refine CC.out.mono ?_
                  rintro e w7 ⟨rfl, hb7⟩
                  have HC7 := Lib.hid (HC5.out.keep hb7.size (hb7.block _ HC5.out.lt))
                  have B7 := Lib.hid (Below.and B5.out hb7)
                  clear hb7 CC
                  go_wp2_with fail
                  go_roundg f
                  case measure => omega
                  case rel => exact ⟨_, by first | rfl | go_num, by omega, ⟨HC7.out, B7.out, fun _ => HZ.out, fun h => absurd h (by decide), fun h => absurd h (by decide)⟩⟩
                · have HE := Lib.hid (hE.out true true false (by rw [all_kept, decide_eq_false hz]; simp))
                  have hzz : ((0 : Int) < ((getL l nCL).length : Nat)) := by omega
                  clear hn0 hn1 hn2 hz hE
                  have CC := Lib.hid (CG.out nCL (by decide))
                  generalize (getL l nCL).length = mn at *
                  generalize fstV (getL l nCL) = hh at *
                  go_wp2_with fail
                  go_at_call 32
                  refine CC.out.mono ?_
                  rintro e w7 ⟨rfl, hb7⟩
                  have B7 := Lib.hid (Below.and B5.out hb7)
                  clear hb7 CC
                  go_wp2_with fail
                  go_ret
                  exact ⟨by rw [HE.out]; rfl, B7.out⟩
              · by_cases hz : (getL l nTE).length = 0
                · have HZ := Lib.hid hz
                  have hzz : ¬ ((0 : Int) < ((getL l nTE).length : Nat)) := by omega
                  have H0 := Lib.hid (hn0 (by decide))
                  clear hn0 hn1 hn2 hz
                  have CC := Lib.hid (CG.out nTE (by decide))
                  generalize (getL l nTE).length = mn at *
                  generalize fstV (getL l nTE) = hh at *
                  go_wp2_with fail
                  go_at_call 32
                  refine CC.out.mono ?_
                  rintro e w7 ⟨rfl, hb7⟩
                  have HC7 := Lib.hid (HC5.out.keep hb7.size (hb7.block _ HC5.out.lt))
                  have B7 := Lib.hid (Below.and B5.out hb7)
                  clear hb7 CC
                  go_wp2_with fail
                  go_roundg f
                  case measure => omega
                  case rel => exact ⟨_, by first | rfl | go_num, by omega, ⟨HC7.out, B7.out, fun _ => H0.out, fun _ => HZ.out, fun h => absurd h (by decide)⟩⟩
                · have HE := Lib.hid (hE.out true true false (by rw [all_kept, decide_eq_false hz]; simp))
                  have hzz : ((0 : Int) < ((getL l nTE).length : Nat)) := by omega
                  clear hn0 hn1 hn2 hz hE
                  have CC := Lib.hid (CG.out nTE (by decide))
                  generalize (getL l nTE).length = mn at *
                  generalize fstV (getL l nTE) = hh at *
                  go_wp2_with fail
                  go_at_call 32
                  refine CC.out.mono ?_
                  rintro e w7 ⟨rfl, hb7⟩
                  have B7 := Lib.hid (Below.and B5.out hb7)
                  clear hb7 CC
                  go_wp2_with fail
                  go_ret
                  exact ⟨by rw [HE.out]; rfl, B7.out⟩
              · by_cases hz : (getL l nCo).length = 0
                · have HZ := Lib.hid hz
                  have hzz : ¬ ((0 : Int) < ((getL l nCo).length : Nat)) := by omega
                  have H0 := Lib.hid (hn0 (by decide))
                  have H1 := Lib.hid (hn1 (by decide))
                  clear hn0 hn1 hn2 hz
                  have CC := Lib.hid (CG.out nCo (by decide))
                  generalize (getL l nCo).length = mn at *
                  generalize fstV (getL l nCo) = hh at *
                  go_wp2_with fail
                  go_at_call 32
                  refine CC.out.mono ?_
                  rintro e w7 ⟨rfl, hb7⟩
                  have HC7 := Lib.hid (HC5.out.keep hb7.size (hb7.block _ HC5.out.lt))
                  have B7 := Lib.hid (Below.and B5.out hb7)
                  clear hb7 CC
                  go_wp2_with fail
                  go_roundg f
                  case measure => omega
                  case rel => exact ⟨_, by first | rfl | go_num, by omega, ⟨HC7.out, B7.out, fun _ => H0.out, fun _ => H1.out, fun _ => HZ.out⟩⟩
                · have HE := Lib.hid (hE.out true true false (by rw [all_kept, decide_eq_false hz]; simp))
                  have hzz : ((0 : Int) < ((getL l nCo).length : Nat)) := by omega
                  clear hn0 hn1 hn2 hz hE
                  have CC := Lib.hid (CG.out nCo (by decide))
                  generalize (getL l nCo).length = mn at *
                  generalize fstV (getL l nCo) = hh at *
                  go_wp2_with fail
                  go_at_call 32
                  refine CC.out.mono ?_
                  rintro e w7 ⟨rfl, hb7⟩
                  have B7 := Lib.hid (Below.and B5.out hb7)
                  clear hb7 CC
                  go_wp2_with fail
                  go_ret
                  exact ⟨by rw [HE.out]; rfl, B7.out⟩
      · rw [decide_eq_false hl2, Bool.false_and]
        have hlz : ((2000 : Int) < (bl : Int)) := by omega
        have HE := Lib.hid (show ckE false = 2 from rfl)
        clear hl2
        cases R with
        | true =>
          clear hRA C2
          go_enter Tryz.func9, Tryz.ntmps9
          go_wp2_with fail
          generalize w.alloc (.cells #[.string ⟨a.toArray⟩, .string ⟨p.toArray⟩, .int .i64 n, hV, .slice Ab bl cb] 25) = w1 at *
          go_at_call 29
          refine C1.out.mono ?_
          rintro e w2 ⟨rfl, hb2⟩
          have HC2 := Lib.hid (CS.out.keep hb2.size (hb2.block _ CS.out.lt))
          have B2 := Lib.hid (Below.trans B1.out (hb2.mono B1.out.size))
          clear hb2 C1
          have d0 := HC2.out.c 0 (by simp)
          have d1 := HC2.out.c 1 (by simp)
          have d2 := HC2.out.c 2 (by simp)
          have d3 := HC2.out.c 3 (by simp)
          have d4 := HC2.out.c 4 (by simp)
          have C3 := Lib.hid (G3.out w2 B2.out)
          go_wp2_with fail
          go_at_call 31
          refine C3.out.mono ?_
          rintro e w4 ⟨rfl, hb4⟩
          have HC4 := Lib.hid (HC2.out.keep hb4.size (hb4.block _ HC2.out.lt))
          have B4 := Lib.hid (Below.trans B2.out (hb4.mono B2.out.size))
          clear hb4 C3 d0 d1 d2 d3 d4
          have d0 := HC4.out.c 0 (by simp)
          have d1 := HC4.out.c 1 (by simp)
          have d2 := HC4.out.c 2 (by simp)
          have d3 := HC4.out.c 3 (by simp)
          have d4 := HC4.out.c 4 (by simp)
          go_wp2_with fail
          go_ret
          exact ⟨by rw [HE.out]; rfl, B4.out⟩
        | false =>
          obtain rfl : An = true := by simpa using hRA
          clear hRA
          go_enter Tryz.func9, Tryz.ntmps9
          go_wp2_with fail
          generalize w.alloc (.cells #[.string ⟨a.toArray⟩, .string ⟨p.toArray⟩, .int .i64 n, hV, .slice Ab bl cb] 25) = w1 at *
          go_at_call 29
          refine C1.out.mono ?_
          rintro e w2 ⟨rfl, hb2⟩
          have HC2 := Lib.hid (CS.out.keep hb2.size (hb2.block _ CS.out.lt))
          have B2 := Lib.hid (Below.trans B1.out (hb2.mono B1.out.size))
          clear hb2 C1
          have d0 := HC2.out.c 0 (by simp)
          have d1 := HC2.out.c 1 (by simp)
          have d2 := HC2.out.c 2 (by simp)
          have d3 := HC2.out.c 3 (by simp)
          have d4 := HC2.out.c 4 (by simp)
          go_wp2_with fail
          go_at_call 30
          refine (C2.out _).mono ?_
          rintro e w3 ⟨rfl, hb3⟩
          have HC3 := Lib.hid (HC2.out.keep hb3.size (hb3.block _ HC2.out.lt))
          have B3 := Lib.hid (Below.trans B2.out (hb3.mono B2.out.size))
          clear hb3 d0 d1 d2 d3 d4
          have d0 := HC3.out.c 0 (by simp)
          have d1 := HC3.out.c 1 (by simp)
          have d2 := HC3.out.c 2 (by simp)
          have d3 := HC3.out.c 3 (by simp)
          have d4 := HC3.out.c 4 (by simp)
          have C3 := Lib.hid (G3.out w3 B3.out)
          go_wp2_with fail
          go_at_call 31
          refine C3.out.mono ?_
          rintro e w4 ⟨rfl, hb4⟩
          have HC4 := Lib.hid (HC3.out.keep hb4.size (hb4.block _ HC3.out.lt))
          have B4 := Lib.hid (Below.trans B3.out (hb4.mono B3.out.size))
          clear hb4 C3 d0 d1 d2 d3 d4
          have d0 := HC4.out.c 0 (by simp)
          have d1 := HC4.out.c 1 (by simp)
          have d2 := HC4.out.c 2 (by simp)
          have d3 := HC4.out.c 3 (by simp)
          have d4 := HC4.out.c 4 (by simp)
          go_wp2_with fail
          go_ret
          exact ⟨by rw [HE.out]; rfl, B4.out⟩
    · rw [decide_eq_false hk, Bool.false_and]
      have hkz : ((k : Int) != 0) = true := by rw [bne_iff_ne]; exact hk
      have HE := Lib.hid (show ckE false = 2 from rfl)
      clear hk
      cases R with
      | true =>
        clear hRA C2
        go_enter Tryz.func9, Tryz.ntmps9
        go_wp2_with fail
        generalize w.alloc (.cells #[.string ⟨a.toArray⟩, .string ⟨p.toArray⟩, .int .i64 n, hV, .slice Ab bl cb] 25) = w1 at *
        go_at_call 29
        refine C1.out.mono ?_
        rintro e w2 ⟨rfl, hb2⟩
        have HC2 := Lib.hid (CS.out.keep hb2.size (hb2.block _ CS.out.lt))
        have B2 := Lib.hid (Below.trans B1.out (hb2.mono B1.out.size))
        clear hb2 C1
        have d0 := HC2.out.c 0 (by simp)
        have d1 := HC2.out.c 1 (by simp)
        have d2 := HC2.out.c 2 (by simp)
        have d3 := HC2.out.c 3 (by simp)
        have d4 := HC2.out.c 4 (by simp)
        have C3 := Lib.hid (G3.out w2 B2.out)
        go_wp2_with fail
        go_at_call 31
        refine C3.out.mono ?_
        rintro e w4 ⟨rfl, hb4⟩
        have HC4 := Lib.hid (HC2.out.keep hb4.size (hb4.block _ HC2.out.lt))
        have B4 := Lib.hid (Below.trans B2.out (hb4.mono B2.out.size))
        clear hb4 C3 d0 d1 d2 d3 d4
        have d0 := HC4.out.c 0 (by simp)
        have d1 := HC4.out.c 1 (by simp)
        have d2 := HC4.out.c 2 (by simp)
        have d3 := HC4.out.c 3 (by simp)
        have d4 := HC4.out.c 4 (by simp)
        go_wp2_with fail
        go_ret
        exact ⟨by rw [HE.out]; rfl, B4.out⟩
      | false =>
        obtain rfl : An = true := by simpa using hRA
        clear hRA
        go_enter Tryz.func9, Tryz.ntmps9
        go_wp2_with fail
        generalize w.alloc (.cells #[.string ⟨a.toArray⟩, .string ⟨p.toArray⟩, .int .i64 n, hV, .slice Ab bl cb] 25) = w1 at *
        go_at_call 29
        refine C1.out.mono ?_
        rintro e w2 ⟨rfl, hb2⟩
        have HC2 := Lib.hid (CS.out.keep hb2.size (hb2.block _ CS.out.lt))
        have B2 := Lib.hid (Below.trans B1.out (hb2.mono B1.out.size))
        clear hb2 C1
        have d0 := HC2.out.c 0 (by simp)
        have d1 := HC2.out.c 1 (by simp)
        have d2 := HC2.out.c 2 (by simp)
        have d3 := HC2.out.c 3 (by simp)
        have d4 := HC2.out.c 4 (by simp)
        go_wp2_with fail
        go_at_call 30
        refine (C2.out _).mono ?_
        rintro e w3 ⟨rfl, hb3⟩
        have HC3 := Lib.hid (HC2.out.keep hb3.size (hb3.block _ HC2.out.lt))
        have B3 := Lib.hid (Below.trans B2.out (hb3.mono B2.out.size))
        clear hb3 d0 d1 d2 d3 d4
        have d0 := HC3.out.c 0 (by simp)
        have d1 := HC3.out.c 1 (by simp)
        have d2 := HC3.out.c 2 (by simp)
        have d3 := HC3.out.c 3 (by simp)
        have d4 := HC3.out.c 4 (by simp)
        have C3 := Lib.hid (G3.out w3 B3.out)
        go_wp2_with fail
        go_at_call 31
        refine C3.out.mono ?_
        rintro e w4 ⟨rfl, hb4⟩
        have HC4 := Lib.hid (HC3.out.keep hb4.size (hb4.block _ HC3.out.lt))
        have B4 := Lib.hid (Below.trans B3.out (hb4.mono B3.out.size))
        clear hb4 C3 d0 d1 d2 d3 d4
        have d0 := HC4.out.c 0 (by simp)
        have d1 := HC4.out.c 1 (by simp)
        have d2 := HC4.out.c 2 (by simp)
        have d3 := HC4.out.c 3 (by simp)
        have d4 := HC4.out.c 4 (by simp)
        go_wp2_with fail
        go_ret
        exact ⟨by rw [HE.out]; rfl, B4.out⟩
end Go.Proofs.YthniggdimfldhaaGreatDoor
