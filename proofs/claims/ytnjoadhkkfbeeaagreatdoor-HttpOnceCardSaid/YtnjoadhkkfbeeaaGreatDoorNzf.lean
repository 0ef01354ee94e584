/- What the laws make messages of: made. -/
import Derived.Test.YtnjoadhkkfbeeaaGreatDoorNzq
namespace Go.Proofs.YtnjoadhkkfbeeaaGreatDoor
open Go Go.RowKit

set_option maxRecDepth 100000 in
set_option maxHeartbeats 16000000 in
theorem made_any (x : SeedL) (Av : Option Addr) (cv : Nat) (Ab : Option Addr) (cb : Nat) (w : World) (h : SeedV w x Av cv Ab cb) :
    Calls Tryz.prog 27 #[.agg (seedA x Av cv Ab cb)] w (MadeMsg x w) := by
  obtain ⟨k, hk⟩ : ∃ k : Nat, x.meth % 6 = k := ⟨(x.meth % 6).toNat, by have := Int.emod_nonneg x.meth (b := 6) (by decide); omega⟩
  have hk6 : k < 6 := by have := Int.emod_lt_of_pos x.meth (b := 6) (by decide); omega
  have i1 : (0 : Int) ≤ (k : Int) := by omega
  have i2 : (k : Int) < 6 := by omega
  have CB := Lib.hid fun w => bring_any x.meth 6 w (by decide) (by decide)
  rw [hk] at CB
  have hb0 := below_new w (.cells (seedA x Av cv Ab cb) 42)
  have hb1 := Below.and hb0 (below_new _ (.cells zero5 25))
  have hb2 := Below.and hb1 (below_new _ (.cells methC 9))
  have hs0 : (w.alloc (.cells (seedA x Av cv Ab cb) 42)).heap.size = w.heap.size + 1 := by simp
  have hs1 : ((w.alloc (.cells (seedA x Av cv Ab cb) 42)).alloc (.cells zero5 25)).heap.size = w.heap.size + 2 := by simp
  have hs2 : (((w.alloc (.cells (seedA x Av cv Ab cb) 42)).alloc (.cells zero5 25)).alloc (.cells methC 9)).heap.size = w.heap.size + 3 := by simp
  have c1 := Cs.new w [.int .i64 x.meth, .int .i64 x.status, .string ⟨x.path.toArray⟩, .string ⟨x.host.toArray⟩, .slice Av x.vals.length cv, .slice Ab x.body.length cb] 42
  have CS := Lib.hid ((c1.below (below_new _ (.cells zero5 25))).below (below_new _ (.cells methC 9)))
  have c2 := Cs.new (w.alloc (.cells (seedA x Av cv Ab cb) 42)) [.string ⟨#[]⟩, .string ⟨#[]⟩, .int .i64 0, .slice none 0 0, .slice none 0 0] 25
  rw [hs0] at c2
  have CR := Lib.hid (c2.below (below_new _ (.cells methC 9)))
  have c3 : (((w.alloc (.cells (seedA x Av cv Ab cb) 42)).alloc (.cells zero5 25)).alloc (.cells methC 9)).cell? ⟨w.heap.size + 2, k, none⟩ = some (.string ⟨(methAt k).toArray⟩) := by
    rw [World.cell?_alloc_at _ _ _ _ hs1.symm]
    exact methC_at k hk6
  have C3 := Lib.hid c3
  have hSV := h.below hb2
  have SV := Lib.hid hSV
  have B2 := Lib.hid hb2
  have S2 := Lib.hid hs2
  have n1 : ((min (x.body.length : Int) 2000).toNat) = (x.body.take 2000).length := by rw [List.length_take]; omega
  have n2 : (0 : Int) ≤ min (x.body.length : Int) 2000 := by omega
  have n3 : (min (x.body.length : Int) 2000) ≤ (cb : Int) := by have := h.rb.cap; omega
  have n4 : (x.body.length : Int) ≤ 9223372036854775807 := by have := h.bl; unfold maxLen at this; omega
  have hx := h.bl
  unfold maxLen at hx
  clear hb0 hb1 hb2 h c1 c2 c3 hs0 hs1 hs2 hSV
  go_enter Tryz.func27, Tryz.ntmps27
  go_wp2_with fail
  generalize ((w.alloc (.cells (seedA x Av cv Ab cb) 42)).alloc (.cells zero5 25)).alloc (.cells methC 9) = w2 at *
  generalize hg : w.heap.size = g at *
  have HD : Hid (∀ w', Below w2.heap.size w2 w' → w'.cell? ⟨g, 0, none⟩ = some (.int .i64 x.meth) ∧ w'.cell? ⟨g, 5, none⟩ = some (.slice Ab x.body.length cb) ∧ w'.cell? ⟨g + 2, k, none⟩ = some (.string ⟨(methAt k).toArray⟩)) := fun w' h =>
    ⟨((CS.out.below h).c 0 (by simp)), ((CS.out.below h).c 5 (by simp)), (h.cell (p := ⟨g + 2, k, none⟩) (by show g + 2 < _; rw [S2.out]; omega)).trans C3.out⟩
  have CC : Hid (∀ w', Below w2.heap.size w2 w' → Calls Tryz.prog 22 #[.slice Ab (x.body.take 2000).length cb] w' (MadeP (x.body.take 2000) w')) := fun w' h =>
    copyB_any ((SV.out.below h).rb.take 2000) rfl (by rw [List.length_take]; omega)
  have A0 : Hid (Below w2.heap.size w2 w2) := Below.refl _ _
  have A1 : Hid (Below w2.heap.size w2 w2.drew) := below_drewN (Below.refl _ _) 1
  have A2 : Hid (Below w2.heap.size w2 (w2.alloc (.cells zero5 25)).drew) := below_drewN (below_new w2 _) 1
  have CC1 := Lib.hid (CC.out _ A1.out)
  have CC2 := Lib.hid (CC.out _ A2.out)
  generalize hbd : x.body.take 2000 = bd at *
  go_cut [4] from 7 to 21 (fun u wx => ∃ (gm : Nat) (A : Option Addr) (c : Nat), u = .pointer (some ⟨gm, 0, none⟩) ∧ MdSt w2 wx gm (methAt k) A c bd)
  case first =>
    generalize methAt k = a at *
    go_wp2_with fail
    go_region_held3 (fun w' => w'.cell? ⟨g, 0, none⟩ = some (.int .i64 x.meth) ∧ w'.cell? ⟨g, 5, none⟩ = some (.slice Ab x.body.length cb) ∧ w'.cell? ⟨g + 2, k, none⟩ = some (.string ⟨a.toArray⟩))
      (with_reducible first | exact HD.out _ A1.out | exact HD.out _ A2.out | exact HD.out _ HB4.out | exact HD.out _ (alloc_hid HB4 _) | exact HD.out _ (msg_set_below HB4.out (Nat.le_refl _) _ _ _ _ _))
      ((first
        | (go_at_call 29; refine (CB.out _).mono ?_; rintro e w' ⟨rfl, rfl⟩)
        | (go_at_call 22; (with_reducible refine CC1.out.mono ?_); rintro e w4 ⟨A4, c4, rfl, hr4, hb4⟩; have HB4 := Lib.hid (below_next A1.out (Nat.le_refl _) hb4); have HR4 := Lib.hid hr4; clear hr4 hb4)
        | (go_at_call 22; (with_reducible refine CC2.out.mono ?_); rintro e w4 ⟨A4, c4, rfl, hr4, hb4⟩; have HB4 := Lib.hid (below_next A2.out (Nat.le_refl _) hb4); have HR4 := Lib.hid hr4; have H4 := Lib.hid (undrew hb4); have HC4 : Hid (Cs w4 w2.heap.size [.string ⟨#[]⟩, .string ⟨#[]⟩, .int .i64 0, .slice none 0 0, .slice none 0 0]) := (Cs.new w2 _ 25).below (undrew hb4); have d0 := HC4.out.c 0 (by simp); have d1 := HC4.out.c 1 (by simp); have d2 := HC4.out.c 2 (by simp); have d3 := HC4.out.c 3 (by simp); have d4 := HC4.out.c 4 (by simp); have f0 := HC4.out.free 0 (by simp); have f1 := HC4.out.free 1 (by simp); have f2 := HC4.out.free 2 (by simp); have f3 := HC4.out.free 3 (by simp); have f4 := HC4.out.free 4 (by simp); clear hr4 hb4)))
    all_goals (go_wp2_with fail; go_meet; case rel => first | exact ⟨_, _, _, rfl, mdst_after HB4 HR4 a⟩ | exact ⟨_, _, _, rfl, mdst_before A0 H4 HR4 a⟩)
  case rest =>
    obtain ⟨gm, A, c, rfl, hm⟩ := hcut
    generalize wc = wx at *
    have CSX := Lib.hid (CS.out.below hm.bel)
    have CRX := Lib.hid (CR.out.below hm.bel)
    have SVX := Lib.hid (SV.out.below hm.bel)
    have M0 := Lib.hid hm.go
    have HG2 : Hid (g + 3 = w2.heap.size) := S2.out.symm
    clear hm HD CC CC1 CC2 A0 A1 A2 CB C3 S2 n1 n2 n3 n4
    have d0 := M0.out.cs.c 0 (by simp)
    go_upto_if 24 with fail
    go_cut [4] from 24 to 44 (fun u wz => u = .pointer (some ⟨gm, 0, none⟩) ∧ ∃ v, Hid (MkSt w2 wz gm wx.heap.size (madeM x).meth (madeM x).path (madeM x).status v A c bd (preL x)))
    case first =>
      by_cases h5 : k = 5
      · have e5 : x.meth % 6 = 5 := by rw [hk, h5]; rfl
        have HP : Hid (preL x = []) := if_pos e5
        have HM : Hid ((madeM x).meth = [] ∧ (madeM x).path = [] ∧ (madeM x).status = 100 + x.status % 500) := by
          have e : madeM x = ⟨[], [], 100 + x.status % 500, _, _⟩ := if_pos e5
          show _ ∧ _
          rw [e]
          exact ⟨rfl, rfl, rfl⟩
        have b1 := Int.emod_nonneg x.status (b := 500) (by decide)
        have b2 := Int.emod_lt_of_pos x.status (b := 500) (by decide)
        have CB := Lib.hid fun w => bring_any x.status 500 w (by decide) (by decide)
        have hw := IntWalk.wrap64_in (100 + x.status % 500) ⟨by omega, by omega⟩
        generalize x.status % 500 = q at *
        have s1 := CSX.out.c 1 (by simp)
        have m2 := M0.out.cs.c 2 (by simp)
        have f2 := M0.out.cs.free 2 (by simp)
        subst h5
        have e0 : methAt 5 = [] := rfl
        rw [e0] at *
        clear d0
        go_wp2_with fail
        go_at_call 29
        refine (CB.out _).mono ?_
        rintro e w' ⟨rfl, rfl⟩
        go_wp2_with fail
        go_meet
        case rel =>
          refine ⟨rfl, .slice none 0 0, ?_⟩
          rw [HP.out, HM.out.1, HM.out.2.1, HM.out.2.2]
          exact M0.out.set 2 _ (by decide) rfl
      · have e5 : ¬ x.meth % 6 = 5 := by omega
        have HP : Hid (preL x = [hoH x.host]) := if_neg e5
        have HM : Hid ((madeM x).meth = methAt k ∧ (madeM x).path = 47 :: cleanL true 59 x.path ∧ (madeM x).status = 0) := by
          have e : madeM x = ⟨methAt (x.meth % 6).toNat, 47 :: cleanL true 59 x.path, 0, _, _⟩ := if_neg e5
          show _ ∧ _
          rw [e, hk]
          exact ⟨rfl, rfl, rfl⟩
        have hne := methAt_ne hk6 h5
        have CP := Lib.hid fun w => clean_any x.path 59 true w SVX.out.pl (by decide)
        have CH := Lib.hid fun w => clean_any x.host 50 false w SVX.out.hl (by decide)
        have l1 := cleanL_len true 59 x.path
        have l2 := cleanL_len false 50 x.host
        have E1 : Hid ((⟨#[47]⟩ : ByteArray) ++ ⟨(cleanL true 59 x.path).toArray⟩ = ⟨(47 :: cleanL true 59 x.path).toArray⟩) := cat_mk [47] _
        have E2 : Hid ((⟨#[104]⟩ : ByteArray) ++ ⟨(cleanL false 50 x.host).toArray⟩ = ⟨(104 :: cleanL false 50 x.host).toArray⟩) := cat_mk [104] _
        have HH : Hid (hoH x.host = (nHo, 104 :: cleanL false 50 x.host)) := rfl
        have s2 := CSX.out.c 2 (by simp)
        have m1 := M0.out.cs.c 1 (by simp)
        have f1 := M0.out.cs.free 1 (by simp)
        generalize cleanL true 59 x.path = pa at *
        generalize cleanL false 50 x.host = ho at *
        generalize methAt k = a at *
        rw [hne]
        clear d0 hne
        go_wp2_with fail
        go_at_call 56
        refine (CP.out _).mono ?_
        rintro e w3 ⟨rfl, hb3⟩
        have M3 := Lib.hid (M0.out.fresh hb3)
        have CS3 := Lib.hid (CSX.out.below hb3)
        have m1 := M3.out.cs.c 1 (by simp)
        have f1 := M3.out.cs.free 1 (by simp)
        clear M0 hb3
        go_wp2_with fail
        rw [E1.out]
        have M4 := Lib.hid (M3.out.set 1 (.string ⟨(47 :: pa).toArray⟩) (by decide) rfl)
        have CS4 : Hid (Cs (w3.setCell ⟨gm, 1, none⟩ (.string ⟨(47 :: pa).toArray⟩)) g [.int .i64 x.meth, .int .i64 x.status, .string ⟨x.path.toArray⟩, .string ⟨x.host.toArray⟩, .slice Av x.vals.length cv, .slice Ab x.body.length cb]) :=
          CS3.out.keep (by simp [World.setCell]) (Below.heap_setCell _ _ _ _ (by have := M4.out.ge; have := HG2.out; show g ≠ gm; omega))
        clear M3 CS3 m1 f1
        generalize w3.setCell ⟨gm, 1, none⟩ (.string ⟨(47 :: pa).toArray⟩) = w4 at *
        have s3 : w4.drew.cell? ⟨g, 3, none⟩ = some (.string ⟨x.host.toArray⟩) := CS4.out.c 3 (by simp)
        have m3 : w4.drew.cell? ⟨gm, 3, none⟩ = some (.slice none 0 0) := M4.out.cs.c 3 (by simp)
        have q1 := mk_size ho
        have s1 : ∀ w', (Op.stringOp .add ⟨#[104]⟩ ⟨ho.toArray⟩).run Tryz.prog w' = .ok (.string (⟨#[104]⟩ ++ ⟨ho.toArray⟩)) w' := fun w' => run_string_add_sum w' _ _ (by show 1 + _ ≤ _; omega)
        clear s2 q1
        go_region_law (first
            | (go_simp; go_at_call 56; refine (CH.out _).mono ?_; rintro e w5 ⟨rfl, hb5⟩; have HB5 : Hid (Below w4.heap.size w4 w5) := undrew hb5; have M5 := Lib.hid (M4.out.fresh HB5.out); have m5 := M5.out.cs.c 3 (by simp); have m5a : ∀ o, (w5.alloc o).cell? ⟨gm, 3, none⟩ = some (.slice none 0 0) := fun o => (M5.out.cs.below (below_new w5 o)).c 3 (by simp); clear hb5 m3 s3; dsimp only)
            | (have HW : Hid (Below wx.heap.size w4 (w5.alloc (.cells #[.string ⟨nHo.toArray⟩, .string (⟨#[104]⟩ ++ ⟨ho.toArray⟩)] 53))) := (HB5.out.mono M4.out.sz).alloc M5.out.sz _; refine step_pushW rfl (.tmp 36) (.tmp 42) rfl _ wx.heap.size (.slice none 0 0) [] nHo (104 :: ho) w5.heap.size rfl (OwnH.below M5.out.own (below_new w5 _)) rfl (alloc_head w5 _ _).1 (by rw [(alloc_head w5 _ _).2, E2.out]; rfl) (Nat.le_trans M4.out.sz HW.out.size) (by decide) ?_; intro A7 c7 w7 ho7 hb7; have HO7 := Lib.hid ho7; have HB7 := Lib.hid (HW.out.trans hb7); have m7 : w7.cell? ⟨gm, 3, none⟩ = some (.slice none 0 0) := (M4.out.cs.keep HB7.out.size (HB7.out.block _ M4.out.lt)).c 3 (by simp); have f7 := (M4.out.cs.keep HB7.out.size (HB7.out.block _ M4.out.lt)).free 3 (by simp); clear ho7 hb7 m5a))
        all_goals
          go_wp2_with fail
          go_meet
          case rel =>
            refine ⟨rfl, .slice A7 1 c7, ?_⟩
            rw [HP.out, HM.out.1, HM.out.2.1, HM.out.2.2, HH.out]
            exact M4.out.push HB7.out HO7.out
    case rest =>
      obtain ⟨rfl, v0, HM0⟩ := hcut
      generalize wc = wz at *
      clear d0 M0 CSX CRX SVX
      have HML : Hid ((madeM x).heads = preL x ++ xHds x.vals (min x.vals.length 12) ∧ (madeM x).body = bd) := by
        show _ ∧ _
        unfold madeM preL
        split
        · exact ⟨rfl, hbd⟩
        · exact ⟨rfl, hbd⟩
      have HPL : Hid ((preL x).length ≤ 1) := by show _ ≤ _; unfold preL; split <;> simp
      generalize hma : (madeM x).meth = a at *
      generalize hmp : (madeM x).path = p at *
      generalize hms : (madeM x).status = st at *
      generalize hmh : (madeM x).heads = mh at *
      generalize hmb : (madeM x).body = mb at *
      generalize preL x = pre at *
      have cvn := SV.out.vc
      go_wp2_with fail
      go_loopw [5] (fun i wr => ∃ (j : Nat) (v : Value), i = .int .i64 j ∧ j ≤ x.vals.length ∧ j ≤ 12 ∧ Hid (MkSt w2 wr gm wx.heap.size a p st v A c bd (pre ++ xHds x.vals j))) (fun i _ => 12 - (intOf i).toNat)
      case atStart => exact ⟨0, v0, rfl, Nat.zero_le _, Nat.zero_le _, by rw [show xHds x.vals 0 = [] from rfl, List.append_nil]; exact HM0⟩
      case round =>
        obtain ⟨j, v, rfl, hj, hj12, HM⟩ := hrel
        have s4 : wr.cell? ⟨g, 4, none⟩ = some (.slice Av x.vals.length cv) := (CS.out.below HM.out.bel).c 4 (by simp)
        by_cases hlt : j < x.vals.length
        · by_cases h12 : j < 12
          · obtain ⟨b, o, rfl, hbl0, hv0⟩ := SV.out.vs j (by rw [List.length_map]; exact hlt)
            rw [List.getElem_map] at hv0
            have hvl := SV.out.vl x.vals[j] (List.getElem_mem hlt)
            have HS : Hid (pre ++ xHds x.vals (j + 1) = (pre ++ xHds x.vals j) ++ [(xNm j, cleanL false 200 x.vals[j])]) := by
              show _ = _
              rw [xHds_snoc, ← List.append_assoc]
              unfold xHd
              rw [List.getD_eq_getElem?_getD, List.getElem?_eq_getElem hlt]
              rfl
            obtain ⟨y8, hy8, hxn⟩ : ∃ y8 : UInt8, (97 + (j : Int)) = (y8.toNat : Int) ∧ xNm j = [88, 45, y8] := ⟨UInt8.ofNat (97 + j), by rw [UInt8.toNat_ofNat']; omega, rfl⟩
            have EN : Hid ((⟨#[88, 45]⟩ : ByteArray) ++ ⟨#[y8]⟩ = ⟨(xNm j).toArray⟩) := by show _ = _; rw [hxn]; exact cat_mk [88, 45] [y8]
            clear hxn
            have hLN : Hid ((pre ++ xHds x.vals j).length ≤ 1000000000) := by show _ ≤ _; rw [List.length_append, xHds_len]; have := HPL.out; omega
            have CV := Lib.hid fun w => clean_any x.vals[j] 200 false w hvl (by decide)
            generalize x.vals[j] = y at *
            have lc := cleanL_len false 200 y
            generalize cleanL false 200 y = cy at *
            generalize pre ++ xHds x.vals j = hl at *
            have ht : wr.cell? ⟨b, o + j, none⟩ = some (.string ⟨y.toArray⟩) := (HM.out.bel.cell (p := ⟨b, o + j, none⟩) hbl0).trans hv0
            have m3 : wr.cell? ⟨gm, 3, none⟩ = some v := HM.out.cs.c 3 (by simp)
            have hbw : b < wr.heap.size := Nat.lt_of_lt_of_le hbl0 HM.out.bel.size
            have hgw : g < wr.heap.size := by have := HM.out.bel.size; have := HG2.out; omega
            have hmw := HM.out.cs.lt
            have e4 : ∀ o', (wr.alloc o').drew.cell? ⟨g, 4, none⟩ = some (.slice (some ⟨b, o, none⟩) x.vals.length cv) := fun o => ((below_new wr o).cell (p := ⟨g, 4, none⟩) hgw).trans s4
            have et : ∀ o', (wr.alloc o').drew.cell? ⟨b, o + j, none⟩ = some (.string ⟨y.toArray⟩) := fun o' => ((below_new wr o').cell (p := ⟨b, o + j, none⟩) hbw).trans ht
            have e3 : ∀ o, (wr.alloc o).drew.cell? ⟨gm, 3, none⟩ = some v := fun o => ((below_new wr o).cell (p := ⟨gm, 3, none⟩) hmw).trans m3
            have d4 : wr.drew.cell? ⟨g, 4, none⟩ = some (.slice (some ⟨b, o, none⟩) x.vals.length cv) := s4
            have dt : wr.drew.cell? ⟨b, o + j, none⟩ = some (.string ⟨y.toArray⟩) := ht
            have d3 : wr.drew.cell? ⟨gm, 3, none⟩ = some v := m3
            have i1 : (0 : Int) ≤ j := by omega
            have i2 : (j : Int) < x.vals.length := by omega
            have i3 : (j : Int) < 12 := by omega
            have hw1 : IntKind.i64.wrap (97 + (j : Int)) = 97 + j := by rw [IntKind.wrap_i64]; omega
            have hw2 : IntKind.u8.wrap (97 + (j : Int)) = 97 + j := by rw [IntKind.wrap_u8]; omega
            have HY := Lib.hid hy8
            have cv0 : (convert 23 9 (.slice (some ⟨wr.heap.size, 0, none⟩) 1 1)).run Tryz.prog (wr.alloc (.cells #[.int .u8 (97 + (j : Int))] 5)).drew = .ok (.string ⟨#[y8]⟩) (wr.alloc (.cells #[.int .u8 (97 + (j : Int))] 5)).drew :=
              conv_one HY.out (by show (wr.alloc _).cell? _ = _; rw [World.cell?_alloc_at _ _ _ _ rfl]; rfl)
            clear hy8 ht hv0
            -- SLOW BEGIN
            go_wp2_with fail
            clear m3 s4
            go_region_law (first
              | (go_simp; go_at_call 56; refine (CV.out _).mono ?_; rintro e w5 ⟨rfl, hb5⟩; have HB5 : Hid (Below wr.heap.size wr w5) := undrew hb5; have M5 := Lib.hid (HM.out.fresh HB5.out); have m5 := M5.out.cs.c 3 (by simp); have m5a : ∀ o', (w5.alloc o').cell? ⟨gm, 3, none⟩ = some v := fun o' => (M5.out.cs.below (below_new w5 o')).c 3 (by simp); have m5b : ∀ o' o'', ((w5.alloc o').alloc o'').cell? ⟨gm, 3, none⟩ = some v := fun o' o'' => ((M5.out.cs.below (below_new w5 o')).below (below_new _ o'')).c 3 (by simp); have cv5 : (convert 23 9 (.slice (some ⟨w5.heap.size, 0, none⟩) 1 1)).run Tryz.prog (w5.alloc (.cells #[.int .u8 (97 + (j : Int))] 5)) = .ok (.string ⟨#[y8]⟩) (w5.alloc (.cells #[.int .u8 (97 + (j : Int))] 5)) := conv_one HY.out (by rw [World.cell?_alloc_at _ _ _ _ rfl]; rfl); clear hb5 e4 et e3 d4 dt d3 cv0; dsimp only)
              | (go_simp; go_at_call 56; refine (CV.out _).mono ?_; rintro e w5 ⟨rfl, hb5⟩; have HB5 : Hid (Below wr.heap.size wr w5) := Below.and (below_new wr (.cells #[.int .u8 (97 + (j : Int))] 5)) (undrew hb5); have cv6 : (convert 23 9 (.slice (some ⟨wr.heap.size, 0, none⟩) 1 1)).run Tryz.prog w5 = .ok (.string ⟨#[y8]⟩) w5 := conv_one HY.out (((undrew hb5).cell (p := ⟨wr.heap.size, 0, none⟩) (by show _ < (wr.alloc _).heap.size; simp)).trans (by rw [World.cell?_alloc_at _ _ _ _ rfl]; rfl)); have M5 := Lib.hid (HM.out.fresh HB5.out); have m5 := M5.out.cs.c 3 (by simp); have m5a : ∀ o', (w5.alloc o').cell? ⟨gm, 3, none⟩ = some v := fun o' => (M5.out.cs.below (below_new w5 o')).c 3 (by simp); have m5b : ∀ o' o'', ((w5.alloc o').alloc o'').cell? ⟨gm, 3, none⟩ = some v := fun o' o'' => ((M5.out.cs.below (below_new w5 o')).below (below_new _ o'')).c 3 (by simp); have cv5 : (convert 23 9 (.slice (some ⟨w5.heap.size, 0, none⟩) 1 1)).run Tryz.prog (w5.alloc (.cells #[.int .u8 (97 + (j : Int))] 5)) = .ok (.string ⟨#[y8]⟩) (w5.alloc (.cells #[.int .u8 (97 + (j : Int))] 5)) := conv_one HY.out (by rw [World.cell?_alloc_at _ _ _ _ rfl]; rfl); clear hb5 e4 et e3 d4 dt d3 cv0; dsimp only)
              | (have HW : Hid (Below wx.heap.size wr (w5.alloc (.cells #[.string (⟨#[88, 45]⟩ ++ ⟨#[y8]⟩), .string ⟨cy.toArray⟩] 53))) := (HB5.out.mono HM.out.sz).alloc M5.out.sz _; refine step_pushW rfl (.tmp 57) (.tmp 71) rfl _ wx.heap.size v hl (xNm j) cy w5.heap.size rfl (OwnH.below M5.out.own (below_new w5 _)) rfl (by rw [(alloc_head w5 (.string (⟨#[88, 45]⟩ ++ ⟨#[y8]⟩)) (.string ⟨cy.toArray⟩)).1, EN.out]; rfl) (alloc_head w5 (.string (⟨#[88, 45]⟩ ++ ⟨#[y8]⟩)) (.string ⟨cy.toArray⟩)).2 (Nat.le_trans HM.out.sz HW.out.size) hLN.out ?_; intro A7 c7 w7 ho7 hb7; have HO7 := Lib.hid ho7; have HB7 := Lib.hid (HW.out.trans hb7); have m7 : w7.cell? ⟨gm, 3, none⟩ = some v := (HM.out.cs.keep HB7.out.size (HB7.out.block _ HM.out.lt)).c 3 (by simp); have f7 := (HM.out.cs.keep HB7.out.size (HB7.out.block _ HM.out.lt)).free 3 (by simp); clear ho7 hb7 m5a m5b)
              | (have HZ5 : Hid ((w5.alloc (.cells #[.int .u8 (97 + (j : Int))] 5)).heap.size = w5.heap.size + 1) := (by show _ = _; simp); have HW : Hid (Below wx.heap.size wr ((w5.alloc (.cells #[.int .u8 (97 + (j : Int))] 5)).alloc (.cells #[.string (⟨#[88, 45]⟩ ++ ⟨#[y8]⟩), .string ⟨cy.toArray⟩] 53))) := ((HB5.out.mono HM.out.sz).alloc M5.out.sz _).alloc (Nat.le_trans M5.out.sz (below_new w5 _).size) _; refine step_pushW rfl (.tmp 57) (.tmp 71) rfl _ wx.heap.size v hl (xNm j) cy (w5.heap.size + 1) rfl (OwnH.below (OwnH.below M5.out.own (below_new w5 _)) (below_new _ _)) rfl (by rw [← HZ5.out, (alloc_head (w5.alloc (.cells #[.int .u8 (97 + (j : Int))] 5)) (.string (⟨#[88, 45]⟩ ++ ⟨#[y8]⟩)) (.string ⟨cy.toArray⟩)).1, EN.out]; rfl) (by rw [← HZ5.out]; exact (alloc_head (w5.alloc (.cells #[.int .u8 (97 + (j : Int))] 5)) (.string (⟨#[88, 45]⟩ ++ ⟨#[y8]⟩)) (.string ⟨cy.toArray⟩)).2) (Nat.le_trans HM.out.sz HW.out.size) hLN.out ?_; intro A7 c7 w7 ho7 hb7; have HO7 := Lib.hid ho7; have HB7 := Lib.hid (HW.out.trans hb7); have m7 : w7.cell? ⟨gm, 3, none⟩ = some v := (HM.out.cs.keep HB7.out.size (HB7.out.block _ HM.out.lt)).c 3 (by simp); have f7 := (HM.out.cs.keep HB7.out.size (HB7.out.block _ HM.out.lt)).free 3 (by simp); clear ho7 hb7 m5a m5b))
            all_goals
              go_wp2_with fail
              go_roundw
              case rel => exact ⟨j + 1, .slice A7 (hl.length + 1) c7, by go_num, by omega, by omega, by rw [HS.out]; exact HM.out.push HB7.out HO7.out⟩
              case measure => simp [intOf]; omega
            -- SLOW END
          · obtain ⟨Ah, ch, rfl⟩ := OwnH.shape HM.out.own
            have HF : Hid (pre ++ xHds x.vals j = mh) := by show _ = _; rw [HML.out.1, show min x.vals.length 12 = j by omega]
            rw [HF.out] at HM
            have HC := Lib.hid (CR.out.below HM.out.bel)
            have i1 : ¬ (j : Int) < 12 := by omega
            have d0 := HM.out.cs.c 0 (by simp)
            have d1 := HM.out.cs.c 1 (by simp)
            have d2 := HM.out.cs.c 2 (by simp)
            have d3 := HM.out.cs.c 3 (by simp)
            have d4 := HM.out.cs.c 4 (by simp)
            have r0 := HC.out.c 0 (by simp)
            have r1 := HC.out.c 1 (by simp)
            have r2 := HC.out.c 2 (by simp)
            have r3 := HC.out.c 3 (by simp)
            have r4 := HC.out.c 4 (by simp)
            have f0 := HC.out.free 0 (by simp)
            have f1 := HC.out.free 1 (by simp)
            have f2 := HC.out.free 2 (by simp)
            have f3 := HC.out.free 3 (by simp)
            have f4 := HC.out.free 4 (by simp)
            go_wp2_with fail
            refine bodyPost_ret (results_msg1 rfl _ _ (g + 1) _ _ _ _ _ rfl (msg_set HC.out _ _ _ _ _)) rfl ?_
            unfold MadeMsg
            refine ⟨Ah, ch, A, c, ?_, ⟨?_, made_sm x, made_pl x, ?_⟩, ?_⟩
            · rw [hma, hmp, hms, hmh, hmb, HML.out.2, ← HF.out]
            · rw [hmh]; exact (OwnH.kept HM.out.own (by have := HM.out.lt; have := HM.out.ge; have := HG2.out; omega) (kp_msg _ _ _ _ _ _)).hs
            · rw [hmb, HML.out.2]; exact (HM.out.rb.keep (by simp [World.setCell]) fun q e => (kp_msg (g := g + 1) (B := q + 1) wr _ _ _ _ _).block q (Nat.lt_succ_self _) (by have := (HM.out.rb.lt e).1; have := HG2.out; omega)).rb
            · show Below w.heap.size _ _
              rw [hg]
              exact msg_set_below (B2.out.trans (HM.out.bel.mono (by have := HG2.out; omega))) (by omega) _ _ _ _ _
        · obtain ⟨Ah, ch, rfl⟩ := OwnH.shape HM.out.own
          have HF : Hid (pre ++ xHds x.vals j = mh) := by show _ = _; rw [HML.out.1, show min x.vals.length 12 = j by omega]
          rw [HF.out] at HM
          have HC := Lib.hid (CR.out.below HM.out.bel)
          have i1 : ¬ (j : Int) < x.vals.length := by omega
          have d0 := HM.out.cs.c 0 (by simp)
          have d1 := HM.out.cs.c 1 (by simp)
          have d2 := HM.out.cs.c 2 (by simp)
          have d3 := HM.out.cs.c 3 (by simp)
          have d4 := HM.out.cs.c 4 (by simp)
          have r0 := HC.out.c 0 (by simp)
          have r1 := HC.out.c 1 (by simp)
          have r2 := HC.out.c 2 (by simp)
          have r3 := HC.out.c 3 (by simp)
          have r4 := HC.out.c 4 (by simp)
          have f0 := HC.out.free 0 (by simp)
          have f1 := HC.out.free 1 (by simp)
          have f2 := HC.out.free 2 (by simp)
          have f3 := HC.out.free 3 (by simp)
          have f4 := HC.out.free 4 (by simp)
          go_wp2_with fail
          refine bodyPost_ret (results_msg1 rfl _ _ (g + 1) _ _ _ _ _ rfl (msg_set HC.out _ _ _ _ _)) rfl ?_
          unfold MadeMsg
          refine ⟨Ah, ch, A, c, ?_, ⟨?_, made_sm x, made_pl x, ?_⟩, ?_⟩
          · rw [hma, hmp, hms, hmh, hmb, HML.out.2, ← HF.out]
          · rw [hmh]; exact (OwnH.kept HM.out.own (by have := HM.out.lt; have := HM.out.ge; have := HG2.out; omega) (kp_msg _ _ _ _ _ _)).hs
          · rw [hmb, HML.out.2]; exact (HM.out.rb.keep (by simp [World.setCell]) fun q e => (kp_msg (g := g + 1) (B := q + 1) wr _ _ _ _ _).block q (Nat.lt_succ_self _) (by have := (HM.out.rb.lt e).1; have := HG2.out; omega)).rb
          · show Below w.heap.size _ _
            rw [hg]
            exact msg_set_below (B2.out.trans (HM.out.bel.mono (by have := HG2.out; omega))) (by omega) _ _ _ _ _
end Go.Proofs.YtnjoadhkkfbeeaaGreatDoor
