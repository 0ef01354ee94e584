/- HostBytes: the walk. -/
import Derived.Test.YtlbafdffmibjoaaDoorGt
import Derived.Deep.RegionLaw
import Derived.Deep.CutBlock
namespace Go.Proofs.YtlbafdffmibjoaaDoor
open Go Go.RowKit Pl

theorem conv_one {W : World} {b : Nat} {y : UInt8} (h : W.cell? ⟨b, 0, none⟩ = some (.int .u8 (y.toNat : Int))) : (convert 40 9 (.slice (some ⟨b, 0, none⟩) 1 1)).run Tryd.prog W = .ok (.string ⟨#[y]⟩) W :=
  run_convert_bytes_back W 40 9 5 ⟨b, 0, none⟩ 1 [y] Tryd.underlying40 Tryd.underlying5 Tryd.underlying9 fun j hj => by
    have hj0 : j = 0 := by simpa using hj
    subst hj0
    rw [add_pl, h]; rfl
theorem conv_new (W : World) (y : UInt8) : (convert 40 9 (.slice (some ⟨W.heap.size, 0, none⟩) 1 1)).run Tryd.prog (W.alloc (.cells #[.int .u8 (y.toNat : Int)] 5)).drew = .ok (.string ⟨#[y]⟩) (W.alloc (.cells #[.int .u8 (y.toNat : Int)] 5)).drew :=
  conv_one (by show (W.alloc _).cell? _ = _; rw [World.cell?_alloc_at _ _ _ _ rfl]; rfl)
theorem put_text (s : ByteArray) (k : Nat) (c : UInt8) : s.extract 0 k ++ ⟨#[c]⟩ ++ s.extract k s.size = ⟨(s.data.toList.take k ++ c :: s.data.toList.drop k).toArray⟩ := by
  have e1 : s.extract 0 k = ⟨(s.data.toList.take k).toArray⟩ := by rw [← mk_data (s.extract 0 k), piece_mid]; simp
  have e2 : s.extract k s.size = ⟨(s.data.toList.drop k).toArray⟩ := by rw [← mk_data (s.extract k s.size), piece_mid, take_all s (Nat.le_refl _)]
  rw [e1, e2]
  show (⟨(s.data.toList.take k).toArray⟩ : ByteArray) ++ ⟨[c].toArray⟩ ++ _ = _
  rw [str_app, str_app]; simp
set_option maxRecDepth 100000 in
set_option maxHeartbeats 4000000 in
theorem hostBytes_any (A : Option Addr) (n c : Nat) (x : UInt8) (pos : Int) (w : World) (hG : Gl w) (hi : IntsIn w A n) (hn : n ≤ maxLen) :
    Calls Tryd.prog 8 #[.slice A n c, .int .u8 (x.toNat : Int), .int .i64 pos] w (BoolP true w) := by
  have hx256 := x.toNat_lt
  have HG := Lib.hid hG
  have HI := Lib.hid hi
  have HB := Lib.hid (Below.refl w.heap.size w)
  clear hG hi
  unfold BoolP
  go_enter Tryd.func8, Tryd.ntmps8
  go_upto_region 2 with (go_at_call 22; (with_reducible refine (plain_any A n c _ (HI.out.below HB.out) hn).mono ?_); rintro e w1 ⟨own, hh, rfl, hb⟩; have HO := Lib.hid hh; have hlo := hh.2; have HB := Lib.hid (Below.and HB.out hb); clear hb hh)
  obtain ⟨TH, hTH⟩ : ∃ TH : ByteArray, TH = ⟨own.toArray⟩ := ⟨_, rfl⟩
  rw [← hTH]
  have hTl : TH.data.toList = own := by rw [hTH]
  have hTs : TH.size ≤ 58 := by rw [Lib.size_eq, hTl]; exact hlo
  have HP : Hid (isPl TH.data.toList = true) := Lib.hid (by rw [hTl]; exact HO.out.1)
  clear HO hlo hTH hTl
  have hp0 := Int.emod_nonneg pos (show ((TH.size : Int) + 1) ≠ 0 by omega)
  have hp1 := Int.emod_lt_of_pos pos (show (0 : Int) < (TH.size : Int) + 1 by omega)
  obtain ⟨k, hk⟩ : ∃ k : Nat, pos % ((TH.size : Int) + 1) = (k : Int) := ⟨(pos % ((TH.size : Int) + 1)).toNat, by omega⟩
  have hkT : k ≤ TH.size := by omega
  have B1 : Hid (∀ w, Calls Tryd.prog 23 #[.int .i64 pos, .int .i64 ((TH.size : Int) + 1)] w fun e w' => e = .returned (.int .i64 (k : Int)) ∧ w = w') := Lib.hid fun w => by
    have := bring_any pos ((TH.size : Int) + 1) w (by omega) (by omega)
    rwa [hk] at this
  clear hp0 hp1 hk
  obtain ⟨U, V, hS⟩ := spot TH k hkT HP.out
  have HS := Lib.hid hS
  clear hS
  go_upto_region 3 with (go_at_call 23; refine (B1.out _).mono ?_; rintro e w2 ⟨rfl, rfl⟩)
  have c1 : (0 : Int) ≤ ↑k := by omega
  have c2 : (↑k : Int) ≤ ↑TH.size := by omega
  have HPT := Lib.hid (put_text TH k x)
  have l1 : (TH.extract 0 k).size = k := by rw [ByteArray.size_extract]; omega
  have l2 : (TH.extract k TH.size).size = TH.size - k := by rw [ByteArray.size_extract]; omega
  go_cut [9] from 22 to 32 (fun s wx => s = .string ⟨(TH.data.toList.take k ++ x :: TH.data.toList.drop k).toArray⟩ ∧ Below w.heap.size w wx)
  case first =>
    have cv := conv_new w1 x
    have f1 : ¬ 9223372036854775807 < k + 1 := by omega
    have f2 : ¬ 9223372036854775807 < k + 1 + (TH.size - k) := by omega
    go_region_law fail
    all_goals
      go_wp2_with fail
      go_meet
      case rel => exact ⟨by rw [HPT.out], HB.out.trans ((((Below.refl w1.heap.size w1).alloc (Nat.le_refl _) _).drew).mono HB.out.size)⟩
  case rest =>
    obtain ⟨rfl, hBx⟩ := hcut
    have HB := Lib.hid hBx
    clear hBx B1 HPT l1 l2 HI
    generalize wc = w3 at *
    obtain ⟨SS, hSS⟩ : ∃ SS : ByteArray, SS = ⟨(TH.data.toList.take k ++ x :: TH.data.toList.drop k).toArray⟩ := ⟨_, rfl⟩
    rw [← hSS]
    have hSl : SS.data.toList = TH.data.toList.take k ++ x :: TH.data.toList.drop k := by rw [hSS]
    have hSz : SS.size = TH.size + 1 := by
      rw [Lib.size_eq, hSl, List.length_append, List.length_cons, List.length_take, List.length_drop, ← Lib.size_eq]; omega
    have CP : Hid (∀ w, Calls Tryd.prog 13 #[.string SS] w (ErrP (isPl (TH.data.toList.take k ++ x :: TH.data.toList.drop k)) w)) := Lib.hid fun w => by
      rw [← hSl]; exact plain_prog SS w (by omega)
    clear hSS hSl
    obtain ⟨E, hE⟩ : ∃ E, E = (decide (U = 0) || decide (V = 0)) := ⟨_, rfl⟩
    have hUk := HS.out.hU
    have hVk := HS.out.hV
    go_upto_region 4 with fail
    go_cut [10] from 33 to 53 (fun e wx => e = .bool E ∧ wx = w3)
    case first =>
      by_cases k0 : k = 0
      · have hE1 : E = true := by rw [hE, decide_eq_true (show U = 0 by omega)]; rfl
        have i0 : ((k : Int) == 0) = true := by rw [k0]; rfl
        have i00 : (k == 0) = true := by rw [k0]; rfl
        clear k0
        have HE1 := Lib.hid hE1
        clear hE hE1
        go_wp2_with fail
        go_meet
        case rel => exact ⟨by rw [HE1.out], rfl⟩
      have i0 : ((k : Int) == 0) = false := by rw [beq_eq_false_iff_ne]; omega
      have i0' : (k == 0) = false := by rw [beq_eq_false_iff_ne]; exact k0
      by_cases k1 : k = TH.size
      · have hE1 : E = true := by rw [hE, decide_eq_true (show V = 0 by omega)]; simp
        have i1 : ((k : Int) == (TH.size : Int)) = true := by rw [k1]; simp
        have i1' : (k == TH.size) = true := by rw [k1]; simp
        clear k1
        have HE1 := Lib.hid hE1
        clear hE hE1
        go_wp2_with fail
        go_meet
        case rel => exact ⟨by rw [HE1.out], rfl⟩
      have i1 : ((k : Int) == (TH.size : Int)) = false := by rw [beq_eq_false_iff_ne]; omega
      have i1' : (k == TH.size) = false := by rw [beq_eq_false_iff_ne]; exact k1
      have b0 : k - 1 < TH.size := by omega
      have b1 : k < TH.size := by omega
      have t1 : ((k : Int) - 1).toNat = k - 1 := by omega
      have t2 : (0 : Int) ≤ (k : Int) - 1 := by omega
      have t3 : (k : Int) - 1 < (TH.size : Int) := by omega
      by_cases k2 : (TH[k - 1]'b0).toNat = 46
      · have hU0 : U = 0 := by
          rcases Nat.eq_zero_or_pos U with h | h
          · exact h
          · exact absurd k2 (HS.out.fU (k - 1) b0 (by omega) (by omega))
        have hE1 : E = true := by rw [hE, decide_eq_true hU0]; rfl
        have i2 : (((TH[k - 1]'b0).toNat : Int) == 46) = true := by rw [k2]; rfl
        clear k2 hU0
        have HE1 := Lib.hid hE1
        clear hE hE1
        go_wp2_with fail
        go_meet
        case rel => exact ⟨by rw [HE1.out], rfl⟩
      have hU1 : U ≠ 0 := by
        intro h
        rcases HS.out.eU with e | ⟨hi, _, e⟩
        · omega
        · subst h; exact k2 (by simpa using e)
      have i2 : (((TH[k - 1]'b0).toNat : Int) == 46) = false := by rw [beq_eq_false_iff_ne]; omega
      by_cases k3 : (TH[k]'b1).toNat = 46
      · have hV0 : V = 0 := by
          rcases Nat.eq_zero_or_pos V with h | h
          · exact h
          · exact absurd k3 (HS.out.fV k b1 (Nat.le_refl _) (by omega))
        have hE1 : E = true := by rw [hE, decide_eq_true hV0]; simp
        have i3 : (((TH[k]'b1).toNat : Int) == 46) = true := by rw [k3]; rfl
        clear k3 hV0
        have HE1 := Lib.hid hE1
        clear hE hE1
        go_wp2_with fail
        go_meet
        case rel => exact ⟨by rw [HE1.out], rfl⟩
      have hV1 : V ≠ 0 := by
        intro h
        rcases HS.out.eV with e | ⟨hi, e⟩
        · omega
        · subst h; exact k3 (by simpa using e)
      have i3 : (((TH[k]'b1).toNat : Int) == 46) = false := by rw [beq_eq_false_iff_ne]; omega
      have hE1 : E = false := by rw [hE, decide_eq_false hU1, decide_eq_false hV1]; rfl
      have HE1 := Lib.hid hE1
      clear hE hE1
      go_wp2_with fail
      go_meet
      case rel => exact ⟨by rw [HE1.out], rfl⟩
    case rest =>
      obtain ⟨rfl, rfl⟩ := hcut
      obtain ⟨M, hM⟩ : ∃ M, M = mayB x E := ⟨_, rfl⟩
      go_upto_region 5 with fail
      go_cut [11] from 54 to 75 (fun e wy => e = .bool M ∧ wy = wc)
      case first =>
        clear hE
        by_cases u1 : 97 ≤ x.toNat ∧ x.toNat ≤ 122
        · have HM : Hid (M = true) := Lib.hid (by rw [hM]; unfold mayB; rw [letB_iff.2 u1]; rfl)
          obtain ⟨q1, q2⟩ := u1
          clear hM
          go_wp2_with fail
          go_meet
          case rel => exact ⟨by rw [HM.out], rfl⟩
        have L0 : letB x = false := by cases e : letB x with | false => rfl | true => exact absurd (letB_iff.1 e) u1
        by_cases u2 : 48 ≤ x.toNat ∧ x.toNat ≤ 57
        · have HM : Hid (M = true) := Lib.hid (by rw [hM]; unfold mayB; rw [L0, digB_iff.2 u2]; rfl)
          obtain ⟨q1, q2⟩ := u2
          have q3 : ¬ 97 ≤ x.toNat := by omega
          clear hM u1
          go_wp2_with fail
          go_meet
          case rel => exact ⟨by rw [HM.out], rfl⟩
        have D0 : digB x = false := by cases e : digB x with | false => rfl | true => exact absurd (digB_iff.1 e) u2
        by_cases u3 : x.toNat = 45
        · have HM : Hid (M = !E) := Lib.hid (by rw [hM]; unfold mayB; rw [L0, D0, decide_eq_true u3]; simp)
          have q1 : ((x.toNat : Int) == 45) = true := by rw [u3]; rfl
          have q2 : ¬ 97 ≤ x.toNat := by omega
          have q3 : ¬ 48 ≤ x.toNat := by omega
          clear hM u1 u2 u3
          cases E
          all_goals
            go_wp2_with fail
            go_meet
            case rel => exact ⟨by rw [HM.out]; rfl, rfl⟩
        · have HM : Hid (M = false) := Lib.hid (by rw [hM]; unfold mayB; rw [L0, D0, decide_eq_false u3]; rfl)
          have q1 : ((x.toNat : Int) == 45) = false := by rw [beq_eq_false_iff_ne]; omega
          clear hM
          by_cases v1 : 97 ≤ x.toNat
          · have v2 : ¬ x.toNat ≤ 122 := fun h => u1 ⟨v1, h⟩
            have v3 : 48 ≤ x.toNat := by omega
            have v4 : ¬ x.toNat ≤ 57 := by omega
            clear u1 u2 u3
            go_wp2_with fail
            go_meet
            case rel => exact ⟨by first | (rw [HM.out]; done) | (rw [HM.out]; exact congrArg Value.bool (by simp <;> omega)), rfl⟩
          · by_cases v3 : 48 ≤ x.toNat
            · have v4 : ¬ x.toNat ≤ 57 := fun h => u2 ⟨v3, h⟩
              clear u1 u2 u3
              go_wp2_with fail
              go_meet
              case rel => exact ⟨by first | (rw [HM.out]; done) | (rw [HM.out]; exact congrArg Value.bool (by simp <;> omega)), rfl⟩
            · clear u1 u2 u3
              go_wp2_with fail
              go_meet
              case rel => exact ⟨by first | (rw [HM.out]; done) | (rw [HM.out]; exact congrArg Value.bool (by simp <;> omega)), rfl⟩
      case rest =>
        obtain ⟨rfl, rfl⟩ := hcut
        have HE := Lib.hid hE
        have HM := Lib.hid hM
        clear hE hM
        go_upto_block 0 with fail
        go_cut [12, 13] from 77 to 90 (fun l i wy => l = .int .i64 ((1 + V : Nat) : Int) ∧ wy = wc)
        case first =>
          go_wp2_with fail
          go_loop [12, 13] (fun l i => ∃ j : Nat, j ≤ V ∧ l = .int .i64 ((1 + j : Nat) : Int) ∧ i = .int .i64 ((k + j : Nat) : Int)) (fun _ i => k + V - (intOf i).toNat)
          case atStart => exact ⟨0, Nat.zero_le _, rfl, rfl⟩
          case round =>
            obtain ⟨j, hj, rfl, rfl⟩ := hrel
            by_cases hlt : j < V
            · have hks : k + j < TH.size := by omega
              have n1 : (((TH[k + j]'hks).toNat : Int) != 46) = true := by
                rw [bne_iff_ne]
                have := HS.out.fV (k + j) hks (by omega) (by omega)
                omega
              go_wp2_with fail
              go_round
              case rel => exact ⟨j + 1, by omega, by go_num, by go_num⟩
              case measure => simp [intOf]; omega
            · obtain rfl : V = j := by omega
              rcases HS.out.eV with e | ⟨hks, e⟩
              · have n2 : decide (k + V < TH.size) = false := decide_eq_false (by omega)
                have n3 : ¬ k + V < TH.size := by omega
                clear e
                go_wp2_with fail
                go_meet
                case rel => exact ⟨rfl, rfl⟩
              · have n1 : (((TH[k + V]'hks).toNat : Int) != 46) = false := by rw [e]; rfl
                clear e
                go_wp2_with fail
                go_meet
                case rel => exact ⟨rfl, rfl⟩
        case rest =>
          obtain ⟨rfl, rfl⟩ := hcut
          go_upto_block 2 with fail
          go_cut [12, 14] from 93 to 104 (fun l i wy => l = .int .i64 ((1 + V + U : Nat) : Int) ∧ wy = wc)
          case first =>
            go_wp2_with fail
            go_loop [12, 14] (fun l i => ∃ j : Nat, j ≤ U ∧ l = .int .i64 ((1 + V + j : Nat) : Int) ∧ i = .int .i64 ((k : Int) - 1 - j)) (fun _ i => (intOf i + 1).toNat)
            case atStart => exact ⟨0, Nat.zero_le _, rfl, by simp⟩
            case round =>
              obtain ⟨j, hj, rfl, rfl⟩ := hrel
              by_cases hlt : j < U
              · have hks : k - 1 - j < TH.size := by omega
                have t1 : ((k : Int) - 1 - (j : Int)).toNat = k - 1 - j := by omega
                have t2 : (0 : Int) ≤ (k : Int) - 1 - (j : Int) := by omega
                have t3 : (k : Int) - 1 - (j : Int) < (TH.size : Int) := by omega
                have n1 : (((TH[k - 1 - j]'hks).toNat : Int) != 46) = true := by
                  rw [bne_iff_ne]
                  have := HS.out.fU (k - 1 - j) hks (by omega) (by omega)
                  omega
                go_wp2_with fail
                go_round
                case rel => exact ⟨j + 1, by omega, by go_num, congrArg (Value.int .i64) (by omega)⟩
                case measure => simp [intOf]; omega
              · obtain rfl : U = j := by omega
                rcases HS.out.eU with e | ⟨hks, hlt2, e⟩
                · have t2 : ¬ (0 : Int) ≤ (k : Int) - 1 - (U : Int) := by omega
                  clear e
                  go_wp2_with fail
                  go_meet
                  case rel => exact ⟨rfl, rfl⟩
                · have hks' : k - 1 - U < TH.size := by omega
                  have e' : (TH[k - 1 - U]'hks').toNat = 46 := by
                    have : k - 1 - U = k - U - 1 := by omega
                    simp only [this]; exact e
                  have t1 : ((k : Int) - 1 - (U : Int)).toNat = k - 1 - U := by omega
                  have t2 : (0 : Int) ≤ (k : Int) - 1 - (U : Int) := by omega
                  have t3 : (k : Int) - 1 - (U : Int) < (TH.size : Int) := by omega
                  have n1 : (((TH[k - 1 - U]'hks').toNat : Int) != 46) = false := by rw [e']; rfl
                  clear e e'
                  go_wp2_with fail
                  go_meet
                  case rel => exact ⟨rfl, rfl⟩
          case rest =>
            obtain ⟨rfl, rfl⟩ := hcut
            obtain ⟨Lg, hLg⟩ : ∃ Lg, Lg = 1 + V + U := ⟨_, rfl⟩
            rw [← hLg]
            by_cases hx : x = 46
            · have n46 : ((x.toNat : Int) == 46) = true := by rw [hx]; rfl
              rw [hx, HS.out.dot] at CP
              have hL1 : ((1 : Nat) : Int) ≤ 20 := by decide
              cases E
              · have hE := HE.out
                have hU0 : U ≠ 0 := fun h => by rw [decide_eq_true h] at hE; simp at hE
                have hV0 : V ≠ 0 := fun h => by rw [decide_eq_true h] at hE; simp at hE
                have b0 : k - 1 < TH.size := by omega
                have b1 : k < TH.size := by omega
                have t1 : ((k : Int) - 1).toNat = k - 1 := by omega
                have t2 : (0 : Int) ≤ (k : Int) - 1 := by omega
                have t3 : (k : Int) - 1 < (TH.size : Int) := by omega
                rw [decide_eq_true hU0, decide_eq_true hV0, dif_pos ⟨by omega, b1⟩, Bool.true_and, Bool.true_and] at CP
                clear hx hE hU0 hV0 HM
                by_cases y0 : (TH[k - 1]'b0).toNat = 45
                · have z0 : (((TH[k - 1]'b0).toNat : Int) != 45) = false := by rw [y0]; rfl
                  have CQ : Hid (∀ w, Calls Tryd.prog 13 #[.string SS] w fun e w' => e = .returned (.int .i64 60) ∧ Below w.heap.size w w') := Lib.hid fun w => by
                    have := CP.out w
                    rw [decide_eq_true y0] at this
                    exact this
                  clear CP y0
                  go_wp2_with (first
                    | (go_at_call 13; refine (CQ.out _).mono ?_; rintro e w1 ⟨rfl, hb⟩; have HB := Lib.hid (Below.and HB.out hb); clear hb)
                    | (go_at_call 17; refine (works_any _ (HG.out.below HB.out)).mono ?_; unfold BoolP; rintro e w1 ⟨rfl, hb⟩; have HB := Lib.hid (Below.and HB.out hb); clear hb))
                  go_ret
                  first | exact ⟨rfl, HB.out⟩ | exact ⟨ret_bool (by simp <;> omega), HB.out⟩
                · have z0 : (((TH[k - 1]'b0).toNat : Int) != 45) = true := by rw [bne_iff_ne]; omega
                  by_cases y1 : (TH[k]'b1).toNat = 45
                  · have z1 : (((TH[k]'b1).toNat : Int) != 45) = false := by rw [y1]; rfl
                    have CQ : Hid (∀ w, Calls Tryd.prog 13 #[.string SS] w fun e w' => e = .returned (.int .i64 60) ∧ Below w.heap.size w w') := Lib.hid fun w => by
                      have := CP.out w
                      rw [decide_eq_true y1] at this
                      have this2 : Calls Tryd.prog 13 #[.string SS] w (ErrP false w) := by simpa using this
                      exact this2
                    clear CP y1 y0
                    go_wp2_with (first
                      | (go_at_call 13; refine (CQ.out _).mono ?_; rintro e w1 ⟨rfl, hb⟩; have HB := Lib.hid (Below.and HB.out hb); clear hb)
                      | (go_at_call 17; refine (works_any _ (HG.out.below HB.out)).mono ?_; unfold BoolP; rintro e w1 ⟨rfl, hb⟩; have HB := Lib.hid (Below.and HB.out hb); clear hb))
                    go_ret
                    first | exact ⟨rfl, HB.out⟩ | exact ⟨ret_bool (by simp <;> omega), HB.out⟩
                  · have z1 : (((TH[k]'b1).toNat : Int) != 45) = true := by rw [bne_iff_ne]; omega
                    have CR : Hid (∀ w, Calls Tryd.prog 13 #[.string SS] w fun e w' => e = .returned (.int .i64 (okE (decide (TH.size + 1 ≤ 60)))) ∧ Below w.heap.size w w') := Lib.hid fun w => by
                      have := CP.out w
                      rw [decide_eq_false y0, decide_eq_false y1] at this
                      exact this
                    clear CP y1 y0
                    by_cases h60 : (SS.size : Int) ≤ 60
                    · rw [decide_eq_true (show TH.size + 1 ≤ 60 by omega)] at CR
                      have CQ : Hid (∀ w, Calls Tryd.prog 13 #[.string SS] w fun e w' => e = .returned (.int .i64 0) ∧ Below w.heap.size w w') := CR
                      clear hSz CR
                      go_wp2_with (first
                        | (go_at_call 13; refine (CQ.out _).mono ?_; rintro e w1 ⟨rfl, hb⟩; have HB := Lib.hid (Below.and HB.out hb); clear hb)
                        | (go_at_call 17; refine (works_any _ (HG.out.below HB.out)).mono ?_; unfold BoolP; rintro e w1 ⟨rfl, hb⟩; have HB := Lib.hid (Below.and HB.out hb); clear hb))
                      go_ret
                      first | exact ⟨rfl, HB.out⟩ | exact ⟨ret_bool (by simp <;> omega), HB.out⟩
                    · rw [decide_eq_false (show ¬ TH.size + 1 ≤ 60 by omega)] at CR
                      have CQ : Hid (∀ w, Calls Tryd.prog 13 #[.string SS] w fun e w' => e = .returned (.int .i64 60) ∧ Below w.heap.size w w') := CR
                      clear hSz CR
                      go_wp2_with (first
                        | (go_at_call 13; refine (CQ.out _).mono ?_; rintro e w1 ⟨rfl, hb⟩; have HB := Lib.hid (Below.and HB.out hb); clear hb)
                        | (go_at_call 17; refine (works_any _ (HG.out.below HB.out)).mono ?_; unfold BoolP; rintro e w1 ⟨rfl, hb⟩; have HB := Lib.hid (Below.and HB.out hb); clear hb))
                      go_ret
                      first | exact ⟨rfl, HB.out⟩ | exact ⟨ret_bool (by simp <;> omega), HB.out⟩
              · have hE := HE.out
                have CQ : Hid (∀ w, Calls Tryd.prog 13 #[.string SS] w fun e w' => e = .returned (.int .i64 60) ∧ Below w.heap.size w w') := Lib.hid fun w => by
                  have := CP.out w
                  have e : (decide (U ≠ 0) && decide (V ≠ 0)) = false := by
                    by_cases h : U = 0
                    · rw [decide_eq_false (show ¬ U ≠ 0 from fun q => q h)]; rfl
                    · have hV : V = 0 := by
                        rw [decide_eq_false h, Bool.false_or] at hE
                        exact of_decide_eq_true hE.symm
                      rw [decide_eq_false (show ¬ V ≠ 0 from fun q => q hV)]; simp
                  rw [e, Bool.false_and, Bool.false_and] at this
                  exact this
                clear CP hx hE HM
                go_wp2_with (first
                  | (go_at_call 13; refine (CQ.out _).mono ?_; rintro e w1 ⟨rfl, hb⟩; have HB := Lib.hid (Below.and HB.out hb); clear hb)
                  | (go_at_call 17; refine (works_any _ (HG.out.below HB.out)).mono ?_; unfold BoolP; rintro e w1 ⟨rfl, hb⟩; have HB := Lib.hid (Below.and HB.out hb); clear hb))
                go_ret
                first | exact ⟨rfl, HB.out⟩ | exact ⟨ret_bool (by simp <;> omega), HB.out⟩
            · have n46 : ((x.toNat : Int) == 46) = false := by
                rw [beq_eq_false_iff_ne]; intro h; exact hx (by rw [eqB]; show x.toNat = 46; omega)
              rw [HS.out.put x hx, ← HE.out, ← HM.out] at CP
              clear hx
              have hLs : decide (U + V + 1 ≤ 20) = decide (Lg ≤ 20) := by rw [decide_eq_decide]; omega
              rw [hLs] at CP
              clear hLs hLg
              cases M
              · have CQ : Hid (∀ w, Calls Tryd.prog 13 #[.string SS] w fun e w' => e = .returned (.int .i64 60) ∧ Below w.heap.size w w') := Lib.hid fun w => CP.out w
                clear CP HM
                go_wp2_with (first
                  | (go_at_call 13; refine (CQ.out _).mono ?_; rintro e w1 ⟨rfl, hb⟩; have HB := Lib.hid (Below.and HB.out hb); clear hb)
                  | (go_at_call 17; refine (works_any _ (HG.out.below HB.out)).mono ?_; unfold BoolP; rintro e w1 ⟨rfl, hb⟩; have HB := Lib.hid (Below.and HB.out hb); clear hb))
                go_ret
                first | exact ⟨rfl, HB.out⟩ | exact ⟨ret_bool (by simp <;> omega), HB.out⟩
              · by_cases h20 : (Lg : Int) ≤ 20
                · have h20' : Lg ≤ 20 := by omega
                  rw [decide_eq_true h20'] at CP
                  by_cases h60 : (SS.size : Int) ≤ 60
                  · have CQ : Hid (∀ w, Calls Tryd.prog 13 #[.string SS] w fun e w' => e = .returned (.int .i64 0) ∧ Below w.heap.size w w') := Lib.hid fun w => by
                      have := CP.out w
                      rw [decide_eq_true (show TH.size + 1 ≤ 60 by omega)] at this
                      exact this
                    clear CP HM hSz
                    go_wp2_with (first
                      | (go_at_call 13; refine (CQ.out _).mono ?_; rintro e w1 ⟨rfl, hb⟩; have HB := Lib.hid (Below.and HB.out hb); clear hb)
                      | (go_at_call 17; refine (works_any _ (HG.out.below HB.out)).mono ?_; unfold BoolP; rintro e w1 ⟨rfl, hb⟩; have HB := Lib.hid (Below.and HB.out hb); clear hb))
                    go_ret
                    first | exact ⟨rfl, HB.out⟩ | exact ⟨ret_bool (by simp <;> omega), HB.out⟩
                  · have CQ : Hid (∀ w, Calls Tryd.prog 13 #[.string SS] w fun e w' => e = .returned (.int .i64 60) ∧ Below w.heap.size w w') := Lib.hid fun w => by
                      have := CP.out w
                      rw [decide_eq_false (show ¬ TH.size + 1 ≤ 60 by omega)] at this
                      exact this
                    clear CP HM hSz
                    go_wp2_with (first
                      | (go_at_call 13; refine (CQ.out _).mono ?_; rintro e w1 ⟨rfl, hb⟩; have HB := Lib.hid (Below.and HB.out hb); clear hb)
                      | (go_at_call 17; refine (works_any _ (HG.out.below HB.out)).mono ?_; unfold BoolP; rintro e w1 ⟨rfl, hb⟩; have HB := Lib.hid (Below.and HB.out hb); clear hb))
                    go_ret
                    first | exact ⟨rfl, HB.out⟩ | exact ⟨ret_bool (by simp <;> omega), HB.out⟩
                · have h20' : ¬ Lg ≤ 20 := by omega
                  have CQ : Hid (∀ w, Calls Tryd.prog 13 #[.string SS] w fun e w' => e = .returned (.int .i64 60) ∧ Below w.heap.size w w') := Lib.hid fun w => by
                    have := CP.out w
                    rw [decide_eq_false h20'] at this
                    exact this
                  clear CP HM
                  go_wp2_with (first
                    | (go_at_call 13; refine (CQ.out _).mono ?_; rintro e w1 ⟨rfl, hb⟩; have HB := Lib.hid (Below.and HB.out hb); clear hb)
                    | (go_at_call 17; refine (works_any _ (HG.out.below HB.out)).mono ?_; unfold BoolP; rintro e w1 ⟨rfl, hb⟩; have HB := Lib.hid (Below.and HB.out hb); clear hb))
                  go_ret
                  first | exact ⟨rfl, HB.out⟩ | exact ⟨ret_bool (by simp <;> omega), HB.out⟩
end Go.Proofs.YtlbafdffmibjoaaDoor
