/- The chapter: methods, paths, statuses, words, which headers are kept, digits. The chapter: Check. The chapter: digits, what stands ahead of a body. The chapter: Bytes. -/
import Derived.Test.YthniggdimfldhaaGreatDoorNc
import Derived.Test.YthniggdimfldhaaGreatDoorHf
import Derived.Test.YthniggdimfldhaaGreatDoorNza
import Derived.BigQuiet
import Derived.Test.YthniggdimfldhaaGreatDoorNzb
import Derived.Deep.DeepCutAuto
import Derived.Test.YthniggdimfldhaaGreatDoorNx
import Derived.Deep.RegionHeld3
import Derived.Deep.AppendLies
namespace Go.Proofs.YthniggdimfldhaaGreatDoor
open Go Go.RowKit

set_option maxRecDepth 100000 in
theorem isMethod_ref (s : List UInt8) (w : World) : Calls Tryz.prog 33 #[.string ⟨s.toArray⟩] w fun e w' => e = .returned (.bool (isMeth s)) ∧ w = w' := by
  go_enter Tryz.func33, Tryz.ntmps33
  go_wp2
  all_goals (first | (exfalso; simp_all; done) | (go_ret; refine ⟨ret_bool ?_, rfl⟩; unfold isMeth sGET sPUT sPOST sDELETE sHEAD; first | (simp_all; done) | (simp only [Bool.or_assoc]; done)))
set_option maxRecDepth 100000 in
theorem isStatus_ref (n : Int) (w : World) : Calls Tryz.prog 35 #[.int .i64 n] w fun e w' => e = .returned (.bool (isSt n)) ∧ w = w' := by
  go_enter Tryz.func35, Tryz.ntmps35
  go_wp2
  all_goals (go_ret; refine ⟨ret_bool ?_, rfl⟩; unfold isSt; rw [Bool.eq_iff_iff]; simp only [Bool.and_eq_true, decide_eq_true_eq, false_iff, Bool.false_eq_true, not_and]; omega)
set_option maxRecDepth 100000 in
theorem word_ref (n : Int) (w : World) : Calls Tryz.prog 15 #[.int .i64 n] w fun e w' => e = .returned (.string ⟨(wordOf n).toArray⟩) ∧ w = w' := by
  unfold wordOf
  by_cases h1 : n = 200
  · subst h1
    go_enter Tryz.func15, Tryz.ntmps15
    go_wp2_with fail
    go_ret
    exact ⟨rfl, rfl⟩
  by_cases h2 : n = 400
  · subst h2
    go_enter Tryz.func15, Tryz.ntmps15
    go_wp2_with fail
    go_ret
    exact ⟨rfl, rfl⟩
  by_cases h3 : n = 403
  · subst h3
    go_enter Tryz.func15, Tryz.ntmps15
    go_wp2_with fail
    go_ret
    exact ⟨rfl, rfl⟩
  by_cases h4 : n = 404
  · subst h4
    go_enter Tryz.func15, Tryz.ntmps15
    go_wp2_with fail
    go_ret
    exact ⟨rfl, rfl⟩
  by_cases h5 : n = 503
  · subst h5
    go_enter Tryz.func15, Tryz.ntmps15
    go_wp2_with fail
    go_ret
    exact ⟨rfl, rfl⟩
  by_cases h6 : n = 504
  · subst h6
    go_enter Tryz.func15, Tryz.ntmps15
    go_wp2_with fail
    go_ret
    exact ⟨rfl, rfl⟩
  rw [if_neg h1, if_neg h2, if_neg h3, if_neg h4, if_neg h5, if_neg h6]
  go_enter Tryz.func15, Tryz.ntmps15
  go_wp2_with fail
  go_ret
  exact ⟨rfl, rfl⟩
set_option maxRecDepth 100000 in
theorem isPath_ref (s : List UInt8) (w : World) (hs : s.length ≤ 1000000) : Calls Tryz.prog 34 #[.string ⟨s.toArray⟩] w fun e w' => e = .returned (.bool (isPath s)) ∧ w = w' := by
  have hsz := mk_size s
  go_enter Tryz.func34, Tryz.ntmps34
  go_wp2
  go_loop [3] (fun i => ∃ k : Nat, k ≤ s.length ∧ i = .int .i64 k ∧ Hid ((s.take k).all ptB = true)) (fun i => s.length - (intOf i).toNat)
  case atStart => exact ⟨0, Nat.zero_le _, rfl, by show _ = _; simp⟩
  case round =>
    obtain ⟨k, hk, rfl, hall⟩ := hrel
    by_cases hlt : k < s.length
    · have ha := all_take (p := ptB) hlt
      rw [hall.out, Bool.true_and] at ha
      have HA := Lib.hid ha
      clear ha
      have hat := at_lst s k hlt
      have hlt' : k < (⟨s.toArray⟩ : ByteArray).size := by rw [hsz]; exact hlt
      have hno : ptB s[k] = false → Hid (isPath s = false) := fun h => by
        show _ = _
        unfold isPath
        rw [all_false (p := ptB) hlt h]
        rfl
      by_cases h1 : 33 ≤ s[k].toNat
      · by_cases h2 : s[k].toNat ≤ 126
        · by_cases h3 : s[k].toNat = 35
          · have hfin := hno (by unfold ptB; rw [decide_eq_false (p := s[k].toNat ≠ 35) (by omega)]; simp)
            have h3' : ((s[k].toNat : Int) == 35) = true := by rw [h3]; rfl
            clear hall HA hno
            go_wp2
            go_ret
            exact ⟨ret_bool hfin.out.symm, rfl⟩
          · have hall' : Hid ((s.take (k + 1)).all ptB = true) := by show _ = _; rw [HA.out]; unfold ptB; rw [decide_eq_true h1, decide_eq_true h2, decide_eq_true h3]; rfl
            have h3' : ((s[k].toNat : Int) == 35) = false := by rw [beq_eq_false_iff_ne]; omega
            clear hall HA hno
            go_wp2
            go_round
            case rel => exact ⟨k + 1, by omega, by go_num, hall'⟩
            case measure => simp [intOf]; omega
        · have hfin := hno (by unfold ptB; rw [decide_eq_false h2]; simp)
          clear hall HA hno
          go_wp2
          go_ret
          exact ⟨ret_bool hfin.out.symm, rfl⟩
      · have hfin := hno (by unfold ptB; rw [decide_eq_false h1]; simp)
        clear hall HA hno
        go_wp2
        go_ret
        exact ⟨ret_bool hfin.out.symm, rfl⟩
    · have hfin : Hid (s.all ptB = true) := by have := hall.out; rwa [List.take_of_length_le (by omega)] at this
      have hE : Hid (isPath s = (decide (1 ≤ s.length) && (decide (s.length ≤ 60) && decide (s.headD 0 = 47)))) := by show _ = _; unfold isPath; rw [hfin.out]; rfl
      clear hall hfin
      by_cases g1 : 1 ≤ s.length
      · by_cases g2 : s.length ≤ 60
        · have hat0 := at_lst s 0 (by omega)
          have hlt0 : 0 < (⟨s.toArray⟩ : ByteArray).size := by rw [hsz]; omega
          have hE2 : Hid (isPath s = decide (s[0] = 47)) := by
            show _ = _
            rw [hE.out, decide_eq_true g1, decide_eq_true g2]
            cases s with
            | nil => simp at g1
            | cons c s => rfl
          clear hE
          by_cases g3 : s[0] = 47
          · have g3' : ((s[0].toNat : Int) == 47) = true := by rw [g3]; rfl
            have hE3 : Hid (isPath s = true) := by show _ = _; rw [hE2.out, decide_eq_true g3]
            clear hE2
            go_wp2
            all_goals (go_ret; exact ⟨ret_bool hE3.out.symm, rfl⟩)
          · have g3' : ((s[0].toNat : Int) == 47) = false := by
              rw [beq_eq_false_iff_ne]
              intro e
              exact g3 (UInt8.toNat_inj.1 (by show _ = 47; omega))
            have hE3 : Hid (isPath s = false) := by show _ = _; rw [hE2.out, decide_eq_false g3]
            clear hE2
            go_wp2
            all_goals (go_ret; exact ⟨ret_bool hE3.out.symm, rfl⟩)
        · have hE3 : Hid (isPath s = false) := by show _ = _; rw [hE.out, decide_eq_false g2]; simp
          clear hE
          go_wp2
          all_goals (go_ret; exact ⟨ret_bool hE3.out.symm, rfl⟩)
      · have hE3 : Hid (isPath s = false) := by show _ = _; rw [hE.out, decide_eq_false g1]; simp
        clear hE
        go_wp2
        all_goals (go_ret; exact ⟨ret_bool hE3.out.symm, rfl⟩)
set_option maxRecDepth 100000 in
theorem framing_ref (z : List UInt8) (hz : z.length ≤ 1000) (w : World) : Calls Tryz.prog 65 #[.string ⟨z.toArray⟩] w fun e w' => e = .returned (.bool (alikeS z nCL || alikeS z nTE)) ∧ Below w.heap.size w w' := by
  have C1 := Lib.hid (alike_refL z nCL hz (by decide) _ rfl)
  have C2 := Lib.hid (alike_refL z nTE hz (by decide) _ rfl)
  unfold nCL nTE at *
  cases h1 : alikeS z [67, 111, 110, 116, 101, 110, 116, 45, 76, 101, 110, 103, 116, 104] with
  | true =>
    rw [h1] at C1
    clear h1 C2
    go_enter Tryz.func65, Tryz.ntmps65
    go_wp2_with fail
    go_at_call 66
    refine (C1.out _).mono ?_
    rintro e w1 ⟨rfl, hb1⟩
    go_wp2_with fail
    go_ret
    exact ⟨rfl, hb1⟩
  | false =>
    rw [h1] at C1
    rw [Bool.false_or]
    clear h1
    go_enter Tryz.func65, Tryz.ntmps65
    go_wp2_with fail
    go_at_call 66
    refine (C1.out _).mono ?_
    rintro e w1 ⟨rfl, hb1⟩
    have B1 := Lib.hid hb1
    clear hb1
    go_wp2_with fail
    go_at_call 66
    refine (C2.out _).mono ?_
    rintro e w2 ⟨rfl, hb2⟩
    have B2 := Lib.hid (Below.and B1.out hb2)
    clear hb2
    go_wp2_with fail
    go_ret
    exact ⟨rfl, B2.out⟩
set_option maxRecDepth 100000 in
theorem kept_ref (z : List UInt8) (hz : z.length ≤ 1000) (w : World) : Calls Tryz.prog 37 #[.string ⟨z.toArray⟩] w fun e w' => e = .returned (.bool (keptN z)) ∧ Below w.heap.size w w' := by
  have C1 := Lib.hid (framing_ref z hz)
  have C2 := Lib.hid (alike_refL z nCo hz (by decide) _ rfl)
  have hE : keptN z = (!(alikeS z nCL || alikeS z nTE) && !alikeS z nCo) := by unfold keptN; cases alikeS z nCL <;> cases alikeS z nTE <;> rfl
  rw [hE]
  clear hE
  generalize (alikeS z nCL || alikeS z nTE) = f at *
  unfold nCo at *
  cases f with
  | true =>
    clear C2
    go_enter Tryz.func37, Tryz.ntmps37
    go_wp2_with fail
    go_at_call 65
    refine (C1.out _).mono ?_
    rintro e w1 ⟨rfl, hb1⟩
    go_wp2_with fail
    go_ret
    exact ⟨rfl, hb1⟩
  | false =>
    go_enter Tryz.func37, Tryz.ntmps37
    go_wp2_with fail
    go_at_call 65
    refine (C1.out _).mono ?_
    rintro e w1 ⟨rfl, hb1⟩
    have B1 := Lib.hid hb1
    clear hb1
    go_wp2_with fail
    go_at_call 66
    refine (C2.out _).mono ?_
    rintro e w2 ⟨rfl, hb2⟩
    have B2 := Lib.hid (Below.and B1.out hb2)
    clear hb2
    go_wp2_with fail
    go_ret
    exact ⟨rfl, B2.out⟩
end Go.Proofs.YthniggdimfldhaaGreatDoor
namespace Go.Proofs.YthniggdimfldhaaGreatDoor
open Go Go.RowKit

theorem okM_parts (m : Msg) : okM m = ((isReq m || isAns m) && (decide (chkE m.heads = 0) && (decide (m.body.length ≤ 2000) && (m.heads.all (fun h => keptN h.1) && (!isReq m || (decide ((getL m.heads nHo).length = 1) && !(fstV (getL m.heads nHo) == []))))))) := rfl
set_option maxRecDepth 100000 in
set_option maxHeartbeats 1000000 in
theorem check_ref5 (m : Msg) (hV : Value) (Ab : Option Addr) (cb : Nat) (w : World) (hv : Hs w hV m.heads) (hsm : Sm m.heads) (hp : m.path.length ≤ 1000000) :
    Calls Tryz.prog 10 #[.agg #[.string ⟨m.meth.toArray⟩, .string ⟨m.path.toArray⟩, .int .i64 m.status, hV, .slice Ab m.body.length cb]] w fun e w' =>
      e = .returned (.int .i64 (if okM m = true then 0 else 2)) ∧ Below w.heap.size w w' := by
  have hb := below_new w (.cells #[.string ⟨m.meth.toArray⟩, .string ⟨m.path.toArray⟩, .int .i64 m.status, hV, .slice Ab m.body.length cb] 25)
  have CM := Lib.hid fun w => isMethod_ref m.meth w
  have CP := Lib.hid fun w => isPath_ref m.path w hp
  have CT := Lib.hid fun w => isStatus_ref m.status w
  have CS := Lib.hid (box_cs w m.meth m.path m.status hV (.slice Ab m.body.length cb))
  have HV := Lib.hid fun w' (h : Below w.heap.size w w') => hv.below h
  have C3 := Lib.hid fun w' (h : Below w.heap.size w w') => check_ref hV m.heads w' (hv.below h) hsm
  have B1 := Lib.hid hb
  have HSM := Lib.hid hsm
  have HR := Lib.hid (show isReq m = (isMeth m.meth && (isPath m.path && decide (m.status = 0))) from rfl)
  have HA := Lib.hid (show isAns m = (m.meth == [] && (m.path == [] && isSt m.status)) from rfl)
  have HO := Lib.hid (okM_parts m)
  have HK := Lib.hid (fun (b : Bool) (h : okM m = b) => (show (if okM m = true then (0 : Int) else 2) = (if b = true then 0 else 2) by rw [h]))
  generalize hrv : (if okM m = true then (0 : Int) else 2) = rv at *
  clear hrv
  obtain ⟨Ah, ch, rfl, hch, _, hrd⟩ := hv
  have HRD := Lib.hid fun w' (h : Below w.heap.size w w') => hrd.below h
  clear hb hsm hp hrd
  generalize okM m = K at *
  generalize isReq m = R at *
  generalize isAns m = An at *
  generalize m.body.length = bl at *
  generalize hs0 : m.status = st at *
  generalize m.meth = a at *
  generalize m.path = p at *
  generalize m.heads = l at *
  go_enter Tryz.func10, Tryz.ntmps10
  go_upto_region 1 with fail
  generalize w.alloc (.cells #[.string ⟨a.toArray⟩, .string ⟨p.toArray⟩, .int .i64 st, .slice Ah l.length ch, .slice Ab bl cb] 25) = w1 at *
  have d0 := CS.out.c 0 (by simp)
  have d1 := CS.out.c 1 (by simp)
  have d2 := CS.out.c 2 (by simp)
  go_cut [3] from 8 to 20 (fun c wx => c = .bool R ∧ wx = w1)
  case first =>
    cases h1 : isMeth a with
    | false =>
      have HR2 : Hid (R = false) := by show _ = _; rw [HR.out, h1]; rfl
      rw [h1] at CM
      clear h1 HR HA HO
      go_wp2_with (go_at_call 33; refine (CM.out _).mono ?_; rintro e w' ⟨rfl, rfl⟩)
      go_meet
      case rel => exact ⟨by rw [HR2.out], rfl⟩
    | true =>
      rw [h1] at CM
      cases h2 : isPath p with
      | false =>
        have HR2 : Hid (R = false) := by show _ = _; rw [HR.out, h1, h2]; rfl
        rw [h2] at CP
        clear h1 h2 HR HA HO
        go_wp2_with (first | (go_at_call 33; refine (CM.out _).mono ?_; rintro e w' ⟨rfl, rfl⟩) | (go_at_call 34; refine (CP.out _).mono ?_; rintro e w' ⟨rfl, rfl⟩))
        go_meet
        case rel => exact ⟨by rw [HR2.out], rfl⟩
      | true =>
        have HR2 : Hid (R = (st == 0)) := by show _ = _; rw [HR.out, h1, h2, Bool.true_and, Bool.true_and, Bool.eq_iff_iff, decide_eq_true_eq, beq_iff_eq]
        rw [h2] at CP
        clear h1 h2 HR HA HO
        go_wp2_with (first | (go_at_call 33; refine (CM.out _).mono ?_; rintro e w' ⟨rfl, rfl⟩) | (go_at_call 34; refine (CP.out _).mono ?_; rintro e w' ⟨rfl, rfl⟩))
        go_meet
        case rel => exact ⟨by rw [HR2.out], rfl⟩
  case rest =>
    obtain ⟨rfl, rfl⟩ := hcut
    clear HR CM CP
    go_upto_region 2 with fail
    go_cut [4] from 21 to 33 (fun c wx => c = .bool An ∧ wx = wc)
    case first =>
      cases a with
      | cons y a =>
        have HA2 : Hid (An = false) := HA.out
        clear HA HO
        go_wp2_with fail
        go_meet
        case rel => exact ⟨by rw [HA2.out], rfl⟩
      | nil =>
        cases p with
        | cons y p =>
          have HA2 : Hid (An = false) := HA.out
          clear HA HO
          go_wp2_with fail
          go_meet
          case rel => exact ⟨by rw [HA2.out], rfl⟩
        | nil =>
          have HA2 : Hid (An = isSt st) := HA.out
          clear HA HO
          go_wp2_with (go_at_call 35; refine (CT.out _).mono ?_; rintro e w' ⟨rfl, rfl⟩)
          go_meet
          case rel => exact ⟨by rw [HA2.out], rfl⟩
    case rest =>
      obtain ⟨rfl, hw⟩ := hcut
      subst hw
      clear HA CT d0 d1 d2
      have d3 := CS.out.c 3 (by simp)
      have d4 := CS.out.c 4 (by simp)
      have no : K = false → Hid ((2 : Int) = rv) := fun h => (HK.out _ h).symm
      cases hRA : (R || An) with
      | false =>
        obtain ⟨rfl, rfl⟩ : R = false ∧ An = false := by simpa using hRA
        have HE := no (by rw [HO.out]; rfl)
        clear no HO hRA
        go_wp2_with fail
        go_ret
        exact ⟨ret_int HE.out, B1.out⟩
      | true =>
        rw [hRA, Bool.true_and] at HO
        have hx : Hid (R = false → An = true) := fun h => by rw [h] at hRA; exact hRA
        clear hRA
        have C4 := Lib.hid (C3.out wc B1.out)
        clear C3
        generalize chkE l = k at *
        go_upto_region 3 with fail
        go_cut [51] from 34 to 51 (fun c wx => c = .bool (!(decide (k = 0) && decide (bl ≤ 2000))) ∧ wx = wc)
        case first =>
          have step : ∀ z : Bool, ((k != 0) = z) → ∀ y : Bool, (decide ((2000 : Int) < (bl : Int)) = y) → Hid ((!(decide (k = 0) && decide (bl ≤ 2000))) = (z || y)) := fun z hz y hy => by
            show _ = _
            rw [← hz, ← hy, Bool.eq_iff_iff]
            by_cases e : k = 0
            · simp [e]; omega
            · simp [e]
          cases hq1 : (k != 0) with
          | true =>
            have S := step _ hq1 _ rfl
            clear step HO no
            cases R with
            | true =>
              go_wp2_with (go_at_call 36; refine C4.out.mono ?_; rintro e w' ⟨rfl, rfl⟩)
              go_meet
              case rel => exact ⟨by rw [S.out]; rfl, rfl⟩
            | false =>
              obtain rfl := hx.out rfl
              go_wp2_with (go_at_call 36; refine C4.out.mono ?_; rintro e w' ⟨rfl, rfl⟩)
              go_meet
              case rel => exact ⟨by rw [S.out]; rfl, rfl⟩
          | false =>
            have S := step _ hq1 _ rfl
            clear step HO no
            cases R with
            | true =>
              go_wp2_with (go_at_call 36; refine C4.out.mono ?_; rintro e w' ⟨rfl, rfl⟩)
              go_meet
              case rel => exact ⟨by rw [S.out]; rfl, rfl⟩
            | false =>
              obtain rfl := hx.out rfl
              go_wp2_with (go_at_call 36; refine C4.out.mono ?_; rintro e w' ⟨rfl, rfl⟩)
              go_meet
              case rel => exact ⟨by rw [S.out]; rfl, rfl⟩
        case rest =>
          obtain ⟨rfl, hw⟩ := hcut
          subst hw
          clear C4 hx
          by_cases hk2 : k = 0 ∧ bl ≤ 2000
          · have e1 : (decide (k = 0) && decide (bl ≤ 2000)) = true := by simp [hk2.1, hk2.2]
            rw [e1, Bool.not_true]
            have HO2 : Hid (K = (l.all (fun h => keptN h.1) && (!R || (decide ((getL l nHo).length = 1) && !(fstV (getL l nHo) == []))))) := by
              show _ = _
              rw [HO.out, ← Bool.and_assoc, e1, Bool.true_and]
            clear HO e1 hk2
            go_wp2_with fail
            have CG := Lib.hid fun w' (h : Below w.heap.size w w') => get_ref (.slice Ah l.length ch) l nHo w' (HV.out w' h) HSM.out (by decide)
            have hln : l.length ≤ 1000 := HSM.out.1
            clear d3 d4
            go_loopw [5] (fun i wr => ∃ j : Nat, j ≤ l.length ∧ i = .int .i64 j ∧ Hid ((l.take j).all (fun h => keptN h.1) = true ∧ Below wc.heap.size wc wr)) (fun i _ => l.length - (intOf i).toNat)
            case atStart => exact ⟨0, Nat.zero_le _, rfl, ⟨by simp, Below.refl _ _⟩⟩
            case round =>
              obtain ⟨j, hj, rfl, hall⟩ := hrel
              have B2 : Hid (Below w.heap.size w wr) := Below.and B1.out hall.out.2
              have d3 := (CS.out.below hall.out.2).c 3 (by simp)
              by_cases hlt : j < l.length
              · obtain ⟨b, o, rfl, hbl, h1, h2⟩ := (HRD.out wr B2.out).head j hlt
                have z1 := (HSM.out.2 l[j] (List.getElem_mem hlt)).1
                have C5 := Lib.hid (kept_ref l[j].1 z1)
                have i1 : (0 : Int) ≤ j := by omega
                have i2 : (j : Int) < l.length := by omega
                have ha := all_take (p := fun h : Hd => keptN h.1) hlt
                rw [hall.out.1, Bool.true_and] at ha
                cases hq : keptN l[j].1 with
                | true =>
                  have HA := Lib.hid (ha.trans hq)
                  rw [hq] at C5
                  have HB := Lib.hid hall.out.2
                  clear ha hq hall no HO2
                  generalize l[j].1 = y at *
                  generalize l[j].2 = z at *
                  go_wp2_with fail
                  go_at_call 37
                  refine (C5.out _).mono ?_
                  rintro e w2 ⟨rfl, hb2⟩
                  go_wp2_with fail
                  go_roundw
                  case rel => exact ⟨j + 1, by omega, by go_num, ⟨HA.out, Below.and HB.out hb2⟩⟩
                  case measure => simp [intOf]; omega
                | false =>
                  have HE := no (by rw [HO2.out, all_false (p := fun h : Hd => keptN h.1) hlt hq]; rfl)
                  rw [hq] at C5
                  clear ha hq hall no HO2
                  generalize l[j].1 = y at *
                  generalize l[j].2 = z at *
                  go_wp2_with fail
                  go_at_call 37
                  refine (C5.out _).mono ?_
                  rintro e w2 ⟨rfl, hb2⟩
                  have B3 := Lib.hid (Below.and B2.out hb2)
                  clear hb2
                  go_wp2_with fail
                  go_ret
                  exact ⟨ret_int HE.out, B3.out⟩
              · have HO3 : Hid (K = (!R || (decide ((getL l nHo).length = 1) && !(fstV (getL l nHo) == [])))) := by
                  have := hall.out.1
                  rw [List.take_of_length_le (by omega)] at this
                  show _ = _
                  rw [HO2.out, this, Bool.true_and]
                have C5 := Lib.hid (CG.out wr B2.out)
                have hm0 : (0 : Int) ≤ ((getL l nHo).length : Nat) := by omega
                have e4 : decide ((getL l nHo).length = 1) = !((((getL l nHo).length : Nat) : Int) != 1) := by
                  rw [Bool.eq_iff_iff]; simp; omega
                have e5 : (fstV (getL l nHo) == []) = (fstV (getL l nHo)).isEmpty := by cases fstV (getL l nHo) <;> rfl
                rw [e4, e5] at HO3
                clear HO2 hall CG HRD HV e4 e5
                generalize ((getL l nHo).length : Nat) = mn at *
                generalize fstV (getL l nHo) = ho at *
                unfold nHo at C5
                cases R with
                | false =>
                  have HE := Lib.hid (HK.out true (by rw [HO3.out]; rfl))
                  clear HO3 HK no
                  go_wp2_with fail
                  go_at_call 38
                  refine C5.out.mono ?_
                  rintro e w2 ⟨rfl, hb2⟩
                  have B3 := Lib.hid (Below.and B2.out hb2)
                  clear hb2
                  go_wp2_with fail
                  go_ret
                  exact ⟨ret_int HE.out.symm, B3.out⟩
                | true =>
                  cases q4 : ((mn : Int) != 1) with
                  | true =>
                    have HE := no (by rw [HO3.out, q4]; rfl)
                    clear HO3 HK no
                    go_wp2_with fail
                    go_at_call 38
                    refine C5.out.mono ?_
                    rintro e w2 ⟨rfl, hb2⟩
                    have B3 := Lib.hid (Below.and B2.out hb2)
                    clear hb2
                    go_wp2_with fail
                    go_ret
                    exact ⟨ret_int HE.out, B3.out⟩
                  | false =>
                    cases ho with
                    | nil =>
                      have HE := no (by rw [HO3.out, q4]; rfl)
                      clear HO3 HK no
                      go_wp2_with fail
                      go_at_call 38
                      refine C5.out.mono ?_
                      rintro e w2 ⟨rfl, hb2⟩
                      have B3 := Lib.hid (Below.and B2.out hb2)
                      clear hb2
                      go_wp2_with fail
                      go_ret
                      exact ⟨ret_int HE.out, B3.out⟩
                    | cons y ho =>
                      have HE := Lib.hid (HK.out true (by rw [HO3.out, q4]; rfl))
                      clear HO3 HK no
                      go_wp2_with fail
                      go_at_call 38
                      refine C5.out.mono ?_
                      rintro e w2 ⟨rfl, hb2⟩
                      have B3 := Lib.hid (Below.and B2.out hb2)
                      clear hb2
                      go_wp2_with fail
                      go_ret
                      exact ⟨ret_int HE.out.symm, B3.out⟩
          · have e1 : (decide (k = 0) && decide (bl ≤ 2000)) = false := by
              rw [Bool.eq_false_iff]
              intro h
              simp only [Bool.and_eq_true, decide_eq_true_eq] at h
              exact hk2 h
            rw [e1, Bool.not_false]
            have HE := no (by rw [HO.out, ← Bool.and_assoc, e1]; rfl)
            clear no HO e1 hk2
            go_wp2_with fail
            go_ret
            exact ⟨ret_int HE.out, B1.out⟩
end Go.Proofs.YthniggdimfldhaaGreatDoor
namespace Go.Proofs.YthniggdimfldhaaGreatDoor
open Go Go.RowKit

theorem digs_one {b n : Nat} (h : n < b) : digs b n = [dgt n] := by unfold digs; rw [if_pos h]
theorem digs_more {b n : Nat} (hb : b = 10 ∨ b = 16) (h : ¬ n < b) (h4 : n < b * b * b * b) : digs b n = digs b (n / b) ++ [dgt (n % b)] := by
  have h0 : 0 < b := by rcases hb with rfl | rfl <;> decide
  unfold digs
  rw [if_neg h]
  by_cases h2 : n < b * b
  · have h3 : n / b < b := Nat.div_lt_of_lt_mul h2
    rw [if_pos h2, if_pos h3]
    rfl
  · have h3 : ¬ n / b < b := by
      intro e
      exact h2 ((Nat.div_lt_iff_lt_mul h0).1 e)
    rw [if_neg h2, if_neg h3]
    by_cases h5 : n < b * b * b
    · have h6 : n / b < b * b := (Nat.div_lt_iff_lt_mul h0).2 h5
      rw [if_pos h5, if_pos h6, Nat.div_div_eq_div_mul]
      rfl
    · have h6 : ¬ n / b < b * b := by
        intro e
        exact h5 ((Nat.div_lt_iff_lt_mul h0).1 e)
      have h7 : n / b < b * b * b := (Nat.div_lt_iff_lt_mul h0).2 h4
      rw [if_neg h5, if_neg h6, if_pos h7, Nat.div_div_eq_div_mul, Nat.div_div_eq_div_mul, Nat.mul_assoc]
      rfl
def hexR5 : ByteArray := ⟨#[48, 49, 50, 51, 52, 53, 54, 55, 56, 57, 97, 98, 99, 100, 101, 102]⟩
theorem hex_cut {n : Nat} (h : n < 16) : hexR5.extract n (n + 1) = ⟨[dgt n].toArray⟩ := by
  have : ∀ n : Fin 16, hexR5.extract n.val (n.val + 1) = ⟨[dgt n.val].toArray⟩ := by decide
  exact this ⟨n, h⟩
set_option maxRecDepth 100000 in
theorem digits1_ref (b n : Nat) (hb : b = 10 ∨ b = 16) (hn : n < b) (w : World) : Calls Tryz.prog 26 #[.int .i64 n, .int .i64 b] w fun e w' => e = .returned (.string ⟨[dgt n].toArray⟩) ∧ ∃ i, w' = w.drewN i := by
  have h16 : n < 16 := by omega
  have hE := hex_cut h16
  unfold hexR5 at hE
  have i1 : (n : Int) < (b : Int) := by omega
  have i2 : (0 : Int) ≤ (n : Int) := by omega
  go_enter Tryz.func26, Tryz.ntmps26
  go_wp2_with fail
  go_ret
  exact ⟨by first | rfl | exact ret_str hE, 0, rfl⟩
theorem quietQ {f : FuncId} {args : Array Value} {w : World} {k : Nat} {v : Value} (h : Calls Tryz.prog f args (w.drewN k) fun e w' => e = .returned v ∧ ∃ i, w' = (w.drewN k).drewN i) : Calls Tryz.prog f args (w.drewN k) fun e w' => e = .returned v ∧ ∃ i, w' = w.drewN i :=
  h.mono fun e w' ⟨h1, i, h2⟩ => ⟨h1, k + i, by rw [h2, World.drewN_drewN]⟩
set_option maxRecDepth 100000 in
theorem digits_refQ (b : Nat) (hb : b = 10 ∨ b = 16) : ∀ (d n : Nat) (w : World), n < b ^ d → d ≤ 4 → 1 ≤ d → Calls Tryz.prog 26 #[.int .i64 n, .int .i64 b] w fun e w' => e = .returned (.string ⟨(digs b n).toArray⟩) ∧ ∃ i, w' = w.drewN i
  | 0, n, w, h, hd, h1 => by omega
  | d + 1, n, w, h, hd, _ => by
    by_cases hl : n < b
    · rw [digs_one hl]
      exact digits1_ref b n hb hl w
    · have hd1 : 1 ≤ d := by
        cases d with
        | zero => exact absurd (by simpa using h) hl
        | succ d => omega
      have h0 : 0 < b := by omega
      have h4 : n < b * b * b * b := Nat.lt_of_lt_of_le h (by
        have : b * b * b * b = b ^ 4 := by rw [Nat.pow_succ, Nat.pow_succ, Nat.pow_succ, Nat.pow_one]
        rw [this]
        exact Nat.pow_le_pow_right h0 hd)
      have hq : n / b < b ^ d := (Nat.div_lt_iff_lt_mul h0).2 h
      have CA := Lib.hid fun k => quietQ (digits_refQ b hb d (n / b) (w.drewN k) hq (by omega) hd1)
      have CB := Lib.hid fun k => quietQ (digits1_ref b (n % b) hb (Nat.mod_lt _ h0) (w.drewN k))
      have hL := digs_len b (n / b)
      have hcat := Lib.hid (show (⟨(digs b (n / b)).toArray⟩ : ByteArray) ++ ⟨[dgt (n % b)].toArray⟩ = ⟨(digs b n).toArray⟩ by rw [cat_mk, digs_more hb hl h4])
      have q3 := mk_size (digs b (n / b))
      have s1 : ∀ w', (Op.stringOp .add ⟨(digs b (n / b)).toArray⟩ ⟨[dgt (n % b)].toArray⟩).run Tryz.prog w' = .ok (.string (⟨(digs b (n / b)).toArray⟩ ++ ⟨[dgt (n % b)].toArray⟩)) w' := fun w' => run_string_add_sum w' _ _ (by
        have : (⟨[dgt (n % b)].toArray⟩ : ByteArray).size = 1 := rfl
        omega)
      have i1 : ¬ ((n : Int) < (b : Int)) := by omega
      have i2 : ¬ ((b : Int) = 0) := by omega
      have e1 : (n : Int).tdiv (b : Int) = ((n / b : Nat) : Int) := by rw [Int.tdiv_eq_ediv_of_nonneg (by omega)]; rfl
      have e2 : (n : Int).tmod (b : Int) = ((n % b : Nat) : Int) := by rw [Int.tmod_eq_emod_of_nonneg (by omega)]; rfl
      have h65 : n < 65536 := by rcases hb with rfl | rfl <;> omega
      have hq2 : n / b ≤ 65536 := Nat.le_trans (Nat.div_le_self n b) (by omega)
      have hr2 : n % b ≤ 65536 := Nat.le_trans (Nat.mod_le n b) (by omega)
      clear h h4 hq hL q3 hl hb h0 h65
      generalize n / b = q at *
      generalize n % b = r at *
      generalize dgt r = dr at *
      generalize digs b q = dq at *
      generalize digs b n = dn at *
      have e3 : IntKind.i64.wrap (q : Int) = q := by rw [IntKind.wrap_i64]; omega
      have e4 : IntKind.i64.wrap (r : Int) = r := by rw [IntKind.wrap_i64]; omega
      go_enter Tryz.func26, Tryz.ntmps26
      go_wp2_with fail
      go_quiet (first
        | (go_at_call_of 26 (Value.int .i64 (q : Int)); exact CA.out _)
        | (go_at_call_of 26 (Value.int .i64 (r : Int)); exact CB.out _))
      go_wp2_with fail
      go_ret
      exact ⟨ret_str hcat.out, _, rfl⟩
theorem meth_len {a : List UInt8} (h : isMeth a = true) : a.length ≤ 6 := by
  unfold isMeth at h
  simp only [Bool.or_eq_true, beq_iff_eq] at h
  rcases h with rfl | rfl | rfl | rfl | rfl <;> decide
theorem ok_lens {m : Msg} (h : okM m = true) : m.meth.length ≤ 6 ∧ m.path.length ≤ 60 := by
  rcases (okM_split h).1 with h | h
  · unfold isReq isPath at h
    simp only [Bool.and_eq_true, decide_eq_true_eq] at h
    exact ⟨meth_len h.1, h.2.1.2.2.1⟩
  · unfold isAns at h
    simp only [Bool.and_eq_true, beq_iff_eq] at h
    rw [h.1, h.2.1]
    exact ⟨by decide, by decide⟩
theorem word_len (n : Int) : (wordOf n).length ≤ 20 := by
  unfold wordOf
  split
  · decide
  split
  · decide
  split
  · decide
  split
  · decide
  split
  · decide
  split <;> decide
/-- what stands ahead of the body, but how long that is -/
def topB (m : Msg) : List UInt8 := firstS m ++ [13, 10] ++ bytesL m.heads
theorem top_req {m : Msg} (h0 : m.status = 0) : (⟨m.meth.toArray⟩ : ByteArray) ++ ⟨#[32]⟩ ++ ⟨m.path.toArray⟩ ++ ⟨#[32, 72, 84, 84, 80, 47, 49, 46, 49, 13, 10]⟩ = ⟨(firstS m ++ [13, 10]).toArray⟩ := by
  rw [show (⟨#[32, 72, 84, 84, 80, 47, 49, 46, 49, 13, 10]⟩ : ByteArray) = ⟨([32] ++ ver ++ [13, 10]).toArray⟩ from rfl, show (⟨#[32]⟩ : ByteArray) = ⟨[32].toArray⟩ from rfl, cat_mk, cat_mk, cat_mk]
  unfold firstS
  rw [if_neg (by omega)]
  simp only [List.append_assoc]
theorem top_ans {m : Msg} {n : Nat} (hn : m.status = n) (h0 : m.status ≠ 0) : (⟨#[72, 84, 84, 80, 47, 49, 46, 49, 32]⟩ : ByteArray) ++ ⟨(digs 10 n).toArray⟩ ++ ⟨#[32]⟩ ++ ⟨(wordOf m.status).toArray⟩ ++ ⟨#[13, 10]⟩ = ⟨(firstS m ++ [13, 10]).toArray⟩ := by
  rw [first_ans hn h0, show (⟨#[13, 10]⟩ : ByteArray) = ⟨[13, 10].toArray⟩ from rfl, cat_mk]
set_option maxRecDepth 100000 in
set_option maxHeartbeats 1000000 in
theorem top_ref (m : Msg) (hV bV : Value) (w : World) (hv : Hs w hV m.heads) (hsm : Sm m.heads) (hok : okM m = true) :
    Calls Tryz.prog 25 #[.agg #[.string ⟨m.meth.toArray⟩, .string ⟨m.path.toArray⟩, .int .i64 m.status, hV, bV]] w fun e w' => e = .returned (.string ⟨(topB m).toArray⟩) ∧ Below w.heap.size w w' := by
  have hb := below_new w (.cells #[.string ⟨m.meth.toArray⟩, .string ⟨m.path.toArray⟩, .int .i64 m.status, hV, bV] 25)
  have CS := Lib.hid (box_cs w m.meth m.path m.status hV bV)
  have B1 := Lib.hid hb
  have HV := Lib.hid fun w' (h : Below w.heap.size w w') => bytes_ref hV m.heads w' (hv.below h) hsm
  have HR := Lib.hid (byR_ok hok)
  have HL1 := ok_lens hok
  have HS := Lib.hid (ok_status hok)
  have HW := word_len m.status
  have HF : (firstS m).length ≤ 300 := (first_ok hok).2.1
  have HBL : (bytesL m.heads).length ≤ 2004000 := Nat.le_trans (bytesL_le hsm.2) (Nat.mul_le_mul_right _ hsm.1)
  have hcat : (⟨(firstS m ++ [13, 10]).toArray⟩ : ByteArray) ++ ⟨(bytesL m.heads).toArray⟩ = ⟨(topB m).toArray⟩ := cat_mk _ _
  have hcat := Lib.hid hcat
  have hc0 : (⟨m.meth.toArray⟩ : ByteArray).size = m.meth.length := mk_size _
  have hc1 : (⟨m.path.toArray⟩ : ByteArray).size = m.path.length := mk_size _
  have hc2 : (⟨#[32]⟩ : ByteArray).size = 1 := rfl
  have hc3 : (⟨#[32, 72, 84, 84, 80, 47, 49, 46, 49, 13, 10]⟩ : ByteArray).size = 11 := rfl
  have z1 := fun w' => run_string_add_sum (P := Tryz.prog) w' (⟨m.meth.toArray⟩ : ByteArray) ⟨#[32]⟩ (by omega)
  have z2 := fun w' => run_string_add_sum (P := Tryz.prog) w' ((⟨m.meth.toArray⟩ : ByteArray) ++ ⟨#[32]⟩) ⟨m.path.toArray⟩ (by rw [ByteArray.size_append]; omega)
  have z3 := fun w' => run_string_add_sum (P := Tryz.prog) w' ((⟨m.meth.toArray⟩ : ByteArray) ++ ⟨#[32]⟩ ++ ⟨m.path.toArray⟩) ⟨#[32, 72, 84, 84, 80, 47, 49, 46, 49, 13, 10]⟩ (by rw [ByteArray.size_append, ByteArray.size_append]; omega)
  have F1 := Lib.hid fun (h : m.status = 0) => top_req h
  have F2 := Lib.hid fun (n : Nat) (hn : m.status = n) (h : m.status ≠ 0) => top_ans hn h
  have zz := fun w' => run_string_add_sum (P := Tryz.prog) w' (⟨(firstS m ++ [13, 10]).toArray⟩ : ByteArray) ⟨(bytesL m.heads).toArray⟩ (by rw [mk_size, mk_size, List.length_append]; show _ + 2 + _ ≤ _; omega)
  clear hb hok hc0 hc1 hc3 hc2 HF hv hsm HL1 HBL
  generalize (firstS m ++ [13, 10]) = fl at *
  generalize m.status = st at *
  generalize m.meth = a at *
  generalize m.path = p at *
  go_enter Tryz.func25, Tryz.ntmps25
  go_upto_region 1 with fail
  generalize w.alloc (.cells #[.string ⟨a.toArray⟩, .string ⟨p.toArray⟩, .int .i64 st, hV, bV] 25) = w1 at *
  have d0 := CS.out.c 0 (by simp)
  have d1 := CS.out.c 1 (by simp)
  have d2 := CS.out.c 2 (by simp)
  go_upto_if 15 with fail
  clear z1 z2 z3
  go_cut [3] from 16 to 25 (fun c wx => c = .string ⟨fl.toArray⟩ ∧ Hid (Below w1.heap.size w1 wx))
  case first =>
    by_cases h0 : st = 0
    · have F := Lib.hid (F1.out h0)
      subst h0
      clear F1 F2 HS zz
      go_wp2_with fail
      go_meet
      case rel => exact ⟨congrArg Value.string F.out, Below.refl _ _⟩
    · obtain ⟨n, hn, hn2⟩ := HS.out h0
      have F := F2.out n hn h0
      have q1 : (⟨#[72, 84, 84, 80, 47, 49, 46, 49, 32]⟩ : ByteArray).size = 9 := rfl
      have q2 : (⟨#[32]⟩ : ByteArray).size = 1 := rfl
      have q3 : (⟨(digs 10 n).toArray⟩ : ByteArray).size ≤ 4 := by rw [mk_size]; exact (digs_len 10 n).2
      have q4 : (⟨(wordOf st).toArray⟩ : ByteArray).size ≤ 20 := by rw [mk_size]; exact HW
      have q5 : (⟨#[13, 10]⟩ : ByteArray).size = 2 := rfl
      have CD := Lib.hid fun k => quietQ (digits_refQ 10 (.inl rfl) 4 n (w1.drewN k) (by omega) (by decide) (by decide))
      have CW := Lib.hid fun k => quietQ ((word_ref st (w1.drewN k)).mono fun e w' ⟨h1, h2⟩ => ⟨h1, 0, h2.symm⟩)
      clear F1 F2 HS zz
      generalize wordOf st = wo at *
      subst hn
      have s1 := fun w' => run_string_add_sum (P := Tryz.prog) w' (⟨#[72, 84, 84, 80, 47, 49, 46, 49, 32]⟩ : ByteArray) ⟨(digs 10 n).toArray⟩ (by omega)
      have s2 := fun w' => run_string_add_sum (P := Tryz.prog) w' ((⟨#[72, 84, 84, 80, 47, 49, 46, 49, 32]⟩ : ByteArray) ++ ⟨(digs 10 n).toArray⟩) ⟨#[32]⟩ (by rw [ByteArray.size_append]; omega)
      have s3 := fun w' => run_string_add_sum (P := Tryz.prog) w' ((⟨#[72, 84, 84, 80, 47, 49, 46, 49, 32]⟩ : ByteArray) ++ ⟨(digs 10 n).toArray⟩ ++ ⟨#[32]⟩) ⟨wo.toArray⟩ (by rw [ByteArray.size_append, ByteArray.size_append]; omega)
      have s4 := fun w' => run_string_add_sum (P := Tryz.prog) w' ((⟨#[72, 84, 84, 80, 47, 49, 46, 49, 32]⟩ : ByteArray) ++ ⟨(digs 10 n).toArray⟩ ++ ⟨#[32]⟩ ++ ⟨wo.toArray⟩) ⟨#[13, 10]⟩ (by rw [ByteArray.size_append, ByteArray.size_append, ByteArray.size_append]; omega)
      have F := Lib.hid F
      clear q1 q2 q3 q4 q5 HW
      generalize digs 10 n = ds at *
      go_wp2_with fail
      go_quiet (first
        | (go_at_call 26; exact CD.out _)
        | (go_at_call 15; exact CW.out _))
      go_wp2_with fail
      go_meet
      case rel => exact ⟨by first | rfl | exact congrArg Value.string F.out, below_drewN (Below.refl _ _) _⟩
  case rest =>
    obtain ⟨rfl, hb2⟩ := hcut
    have B2 := Lib.hid (Below.and B1.out hb2.out)
    have d3 := (CS.out.below hb2.out).c 3 (by simp)
    have C4 := Lib.hid (HV.out wc B2.out)
    rw [HR.out] at C4
    clear d0 d1 d2 HS F1 F2 HV
    go_wp2_with fail
    go_at_call 53
    refine C4.out.mono ?_
    rintro e w3 ⟨u, rfl, hu, hb3⟩
    have B3 := Lib.hid (Below.and B2.out hb3)
    have hcv := hu.conv
    clear hu hb3 C4
    go_wp2_with fail
    go_ret
    exact ⟨by first | rfl | exact ret_str hcat.out, B3.out⟩
end Go.Proofs.YthniggdimfldhaaGreatDoor
namespace Go.Proofs.YthniggdimfldhaaGreatDoor
open Go Go.RowKit

theorem step_pushG {ops : Array Oper} {o : Oper} {a : Act} {K : Act → World → Prop} {Q : Exit → Act → World → Prop} {E : Prop} (hgd : o.guard = none) (s x : Operand) (tx : TypeId)
    (ho : o.op = .call { callee := .builtin .append, args := #[s, x], argTypes := #[23, tx] }) (w : World) (base : Nat) (A : Option Addr) (c n m : Nat) (l z : List UInt8) (xv : Value) (hn : l.length = n) (hm : z.length = m)
    (hs : a.eval s = .slice A n c) (hx : a.eval x = xv) (h : RowG w base A c l) (hsrc : Src Tryz.prog 1 tx xv z.length (Lib.byteCells z) w) (hbase : base ≤ w.heap.size) (hlen : n + m ≤ 140737488355328)
    (hk : ∀ (A' : Option Addr) (c' : Nat) w', RowG w' base A' c' (l ++ z) → Below base w w' → (∀ k, k < w.heap.size → A ≠ some ⟨k, 0, none⟩ → w'.heap[k]? = w.heap[k]?) → K (a.put o.dst (.slice A' (n + m) c')) w') :
    if Region.wanted o (yielded ops a.tmps) = true then Oper.wp Tryz.prog o a w K Q else E := by
  have hw : Region.wanted o (yielded ops a.tmps) = true := by simp [Region.wanted, hgd]
  rw [if_pos hw]
  subst hn hm
  obtain ⟨A', c', w', hr, h2, h3, h4, _⟩ := run_pushG w base o.type tx A c l z xv h hsrc hbase hlen
  unfold Oper.wp execOp
  simp only [ho, resolve, invoke, builtin, Sem.run_bind, Sem.run_pure, Result.andThen_ok, List.map_toArray, List.map_cons, List.map_nil, hs, hx, hr]
  exact hk A' c' w' h2 h3 h4
theorem digits_ref (b : Nat) (hb : b = 10 ∨ b = 16) (n : Nat) (w : World) (h : n < b ^ 4) : Calls Tryz.prog 26 #[.int .i64 n, .int .i64 b] w fun e w' => e = .returned (.string ⟨(digs b n).toArray⟩) ∧ Below w.heap.size w w' :=
  (digits_refQ b hb 4 n w h (by decide) (by decide)).mono fun e w' ⟨h1, i, h2⟩ => ⟨h1, by rw [h2]; exact below_drewN (Below.refl _ _) i⟩
theorem enc_top (m : Msg) : encB m = topB m ++ [67, 111, 110, 116, 101, 110, 116, 45, 76, 101, 110, 103, 116, 104, 58, 32] ++ digs 10 m.body.length ++ [13, 10, 13, 10] ++ m.body := by
  unfold encB topB clH lineB nCL
  simp only [List.append_assoc, List.cons_append, List.nil_append]
theorem top_len {m : Msg} (hok : okM m = true) (hsm : Sm m.heads) : (topB m).length ≤ 2004400 := by
  have h1 : (firstS m).length ≤ 300 := (first_ok hok).2.1
  have h2 : (bytesL m.heads).length ≤ 2004000 := Nat.le_trans (bytesL_le hsm.2) (Nat.mul_le_mul_right _ hsm.1)
  unfold topB
  simp only [List.length_append, List.length_cons, List.length_nil]
  omega
set_option maxRecDepth 100000 in
set_option maxHeartbeats 4000000 in
theorem bytes_ref5 (m : Msg) (hV : Value) (Ab : Option Addr) (cb : Nat) (w : World) (h : MsgV w m hV Ab cb) (hok : okM m = true) :
    Calls Tryz.prog 6 #[.agg #[.string ⟨m.meth.toArray⟩, .string ⟨m.path.toArray⟩, .int .i64 m.status, hV, .slice Ab m.body.length cb]] w fun e w' =>
      ∃ (A : Option Addr) (c : Nat), e = .returned (.tuple #[.slice A (encB m).length c, .int .i64 0]) ∧ RowG w' w.heap.size A c (encB m) ∧ Below w.heap.size w w' := by
  have hb := below_new w (.cells #[.string ⟨m.meth.toArray⟩, .string ⟨m.path.toArray⟩, .int .i64 m.status, hV, .slice Ab m.body.length cb] 25)
  have C1 := check_ref5 m hV Ab cb _ (h.hs.below hb) h.sm h.pl
  rw [hok, if_pos rfl] at C1
  have C1 := Lib.hid C1
  have CS := Lib.hid (box_cs w m.meth m.path m.status hV (.slice Ab m.body.length cb))
  have B1 := Lib.hid hb
  have CT := Lib.hid fun w' (hb : Below w.heap.size w w') => top_ref m hV (.slice Ab m.body.length cb) w' (h.hs.below hb) h.sm hok
  have hbl := ok_body hok
  have CD := Lib.hid fun w' => digits_ref 10 (.inl rfl) m.body.length w' (by omega)
  have HR := Lib.hid h.rb
  have HT := top_len hok h.sm
  have HE := enc_top m
  have q1 : (⟨(topB m).toArray⟩ : ByteArray).size = (topB m).length := mk_size _
  have q2 : (⟨(digs 10 m.body.length).toArray⟩ : ByteArray).size = (digs 10 m.body.length).length := mk_size _
  have q3 := (digs_len 10 m.body.length).2
  have ec : (⟨#[67, 111, 110, 116, 101, 110, 116, 45, 76, 101, 110, 103, 116, 104, 58, 32]⟩ : ByteArray) = ⟨([67, 111, 110, 116, 101, 110, 116, 45, 76, 101, 110, 103, 116, 104, 58, 32] : List UInt8).toArray⟩ := rfl
  have ed : (⟨#[13, 10, 13, 10]⟩ : ByteArray) = ⟨([13, 10, 13, 10] : List UInt8).toArray⟩ := rfl
  have s1 := fun w' => run_string_add_sum (P := Tryz.prog) w' (⟨(topB m).toArray⟩ : ByteArray) ⟨#[67, 111, 110, 116, 101, 110, 116, 45, 76, 101, 110, 103, 116, 104, 58, 32]⟩ (by rw [q1]; show _ + 16 ≤ _; omega)
  have s2 := fun w' => run_string_add_sum (P := Tryz.prog) w' ((⟨(topB m).toArray⟩ : ByteArray) ++ ⟨#[67, 111, 110, 116, 101, 110, 116, 45, 76, 101, 110, 103, 116, 104, 58, 32]⟩) ⟨(digs 10 m.body.length).toArray⟩ (by rw [ByteArray.size_append, q1, q2]; show _ + 16 + _ ≤ _; omega)
  have s3 := fun w' => run_string_add_sum (P := Tryz.prog) w' ((⟨(topB m).toArray⟩ : ByteArray) ++ ⟨#[67, 111, 110, 116, 101, 110, 116, 45, 76, 101, 110, 103, 116, 104, 58, 32]⟩ ++ ⟨(digs 10 m.body.length).toArray⟩) ⟨#[13, 10, 13, 10]⟩ (by rw [ByteArray.size_append, ByteArray.size_append, q1, q2]; show _ + 16 + _ + 4 ≤ _; omega)
  have e3 : (⟨(topB m).toArray⟩ : ByteArray) ++ ⟨#[67, 111, 110, 116, 101, 110, 116, 45, 76, 101, 110, 103, 116, 104, 58, 32]⟩ ++ ⟨(digs 10 m.body.length).toArray⟩ ++ ⟨#[13, 10, 13, 10]⟩ = ⟨(topB m ++ [67, 111, 110, 116, 101, 110, 116, 45, 76, 101, 110, 103, 116, 104, 58, 32] ++ digs 10 m.body.length ++ [13, 10, 13, 10]).toArray⟩ := by
    rw [ec, ed, cat_mk, cat_mk, cat_mk]
  have hl3 : (topB m ++ [67, 111, 110, 116, 101, 110, 116, 45, 76, 101, 110, 103, 116, 104, 58, 32] ++ digs 10 m.body.length ++ [13, 10, 13, 10]).length ≤ 2005000 := by
    simp only [List.length_append, List.length_cons, List.length_nil]
    omega
  rw [e3] at s3
  have HE := Lib.hid HE
  clear hb h hok ec ed q1 q2 q3 HT e3
  generalize topB m ++ [67, 111, 110, 116, 101, 110, 116, 45, 76, 101, 110, 103, 116, 104, 58, 32] ++ digs 10 m.body.length ++ [13, 10, 13, 10] = hd at *
  generalize topB m = tp at *
  generalize encB m = en at *
  generalize m.body = bd at *
  generalize digs 10 bd.length = ds at *
  generalize m.status = st at *
  generalize m.meth = a at *
  generalize m.path = p at *
  go_enter Tryz.func6, Tryz.ntmps6
  go_upto_region 1 with fail
  generalize w.alloc (.cells #[.string ⟨a.toArray⟩, .string ⟨p.toArray⟩, .int .i64 st, hV, .slice Ab bd.length cb] 25) = w1 at *
  have d0 := CS.out.c 0 (by simp)
  have d1 := CS.out.c 1 (by simp)
  have d2 := CS.out.c 2 (by simp)
  have d3 := CS.out.c 3 (by simp)
  have d4 := CS.out.c 4 (by simp)
  go_wp2_with fail
  go_at_call 10
  refine C1.out.mono ?_
  rintro e w2 ⟨rfl, hb2⟩
  have B2 : Hid (Below w.heap.size w w2.drew) := Below.and B1.out (below_drewN hb2 1)
  have CS2 : Hid (Cs w2.drew w.heap.size [.string ⟨a.toArray⟩, .string ⟨p.toArray⟩, .int .i64 st, hV, .slice Ab bd.length cb]) := CS.out.below (below_drewN hb2 1)
  have HD : Hid (∀ wy, Below w2.drew.heap.size w2.drew wy → wy.cell? ⟨w.heap.size, 0, none⟩ = some (.string ⟨a.toArray⟩) ∧ wy.cell? ⟨w.heap.size, 1, none⟩ = some (.string ⟨p.toArray⟩) ∧ wy.cell? ⟨w.heap.size, 2, none⟩ = some (.int .i64 st) ∧ wy.cell? ⟨w.heap.size, 3, none⟩ = some hV ∧ wy.cell? ⟨w.heap.size, 4, none⟩ = some (.slice Ab bd.length cb)) := fun wy hb =>
    ⟨(CS2.out.below hb).c 0 (by simp), (CS2.out.below hb).c 1 (by simp), (CS2.out.below hb).c 2 (by simp), (CS2.out.below hb).c 3 (by simp), (CS2.out.below hb).c 4 (by simp)⟩
  have CT2 := Lib.hid (CT.out _ B2.out)
  clear d0 d1 d2 d3 d4 hb2 CS B1 CT C1
  have d0 := CS2.out.c 0 (by simp)
  have d1 := CS2.out.c 1 (by simp)
  have d2 := CS2.out.c 2 (by simp)
  have d3 := CS2.out.c 3 (by simp)
  have d4 := CS2.out.c 4 (by simp)
  go_wp2_with fail
  go_region_law (first
    | (go_simp; go_at_call 25; refine CT2.out.mono ?_; rintro e w3 ⟨rfl, hb3⟩; have HB3 := Lib.hid hb3; clear d0 d1 d2 d3 d4; have d4 := (HD.out _ hb3).2.2.2.2; clear hb3; dsimp only)
    | (go_simp; go_at_call 26; refine (CD.out _).mono ?_; rintro e w4 ⟨rfl, hb4⟩; have HB4 := Lib.hid (Below.and HB3.out hb4); clear d4; have d4 := (HD.out _ HB4.out).2.2.2.2; have hcv := bytes_conv w4 ⟨hd.toArray⟩; have HROW := Lib.hid (conv_rowG w4 hd (Nat.le_trans hl3 (by decide))); have HBW := Lib.hid (Below.and HB4.out (bytesWorld_below w4 ⟨hd.toArray⟩)); have d5 := (HD.out _ HBW.out).2.2.2.2; rw [mk_size] at hcv; clear hb4; dsimp only)
    | (refine step_pushG rfl (.tmp 19) (.tmp 21) 23 rfl _ w4.heap.size _ _ hd.length bd.length hd bd (.slice Ab bd.length cb) rfl rfl rfl rfl HROW.out (src_rb (HR.out.keep fun k hk => (Below.trans B2.out (HBW.out.mono B2.out.size)).block k hk)) (bytesWorld_below w4 ⟨hd.toArray⟩).size (by omega) ?_; intro A6 c6 w6 hr6 hb6 _; have HB6 := Lib.hid (Below.trans HBW.out (hb6.mono HB4.out.size)); have R6 := Lib.hid (hr6.up (Nat.le_trans B2.out.size HB4.out.size)); clear hr6 hb6))
  all_goals
    have B6 := Lib.hid (Below.and B2.out HB6.out)
    go_wp2_with fail
    go_ret2
    refine ⟨A6, c6, ?_, ?_, B6.out⟩
    · rw [HE.out, List.length_append]
      rfl
    · rw [HE.out]
      exact R6.out
end Go.Proofs.YthniggdimfldhaaGreatDoor
