/- HelloKnown. -/
import Derived.Test.YtiakbmllpnabnaaGreatDoorMa
namespace Go.Proofs.YtiakbmllpnabnaaGreatDoor
open Go Go.RowKit

set_option maxRecDepth 100000 in
set_option maxHeartbeats 20000000 in
theorem helloKnown_any (w : World) (hG : Gl w) : Calls Tryz.prog 9 #[] w (BoolP true w) := by
  have HG := Lib.hid hG
  clear hG
  unfold BoolP
  go_enter Tryz.func9, Tryz.ntmps9
  go_wp2_with fail
  refine (plain_any w).mono ?_
  rintro e w1 ⟨a0, rfl, hgr, hb⟩
  have CW := Lib.hid (write_prog7 (grS_in hgr (Below.refl _ _)) (HG.out.below hb) (fun x hx => by cases hx))
  have B1 := Lib.hid hb
  clear hgr hb
  go_wp2_with fail
  refine CW.out.mono ?_
  rintro e w2 ⟨h1, _⟩
  obtain ⟨A2, c2, rfl, hr, hb⟩ := h1 wB_ok
  rw [wB_rec] at hr ⊢
  have B2 := Lib.hid (B1.out.trans (hb.mono B1.out.size))
  have R2 := Lib.hid hr.rb
  clear h1 hr hb CW B1
  rw [wB_len]
  go_wp2_with fail
  go_loopw [3] (fun v wr => ∃ i : Nat, i ≤ 62 ∧ v = .int .i64 i ∧ Hid (Below w2.heap.size w2 wr)) (fun v _ => 62 - (intOf v).toNat)
  case atStart => exact ⟨0, Nat.zero_le _, rfl, Lib.hid (Below.refl _ _)⟩
  case round =>
    obtain ⟨i, hi, rfl, hst⟩ := hrel
    by_cases hlt : i < 62
    · have q0 : (0 : Int) ≤ i := by omega
      have q1 : (i : Int) < 62 := by omega
      go_wp2_with fail
      go_loopw [4] (fun v wq => ∃ k : Nat, k ≤ 256 ∧ v = .int .i64 k ∧ Hid (Below w2.heap.size w2 wq)) (fun v _ => 256 - (intOf v).toNat)
      case atStart => exact ⟨0, Nat.zero_le _, rfl, hst⟩
      case round =>
        clear hst
        obtain ⟨k, hk, rfl, hst⟩ := hrel
        by_cases hlk : k < 256
        · obtain ⟨y, hy⟩ : ∃ y : UInt8, (k : Int) = (y.toNat : Int) := ⟨UInt8.ofNat k, by rw [UInt8.toNat_ofNat']; omega⟩
          have HY := Lib.hid hy
          clear hy
          have CC := Lib.hid (copyB_any (c := c2) ((R2.out.keep (w' := wr) fun j hj => hst.out.block j hj).mono hst.out.size) (wB_len 97).symm (by decide))
          unfold MadeP at CC
          rw [wB_len] at CC
          have r0 : (0 : Int) ≤ k := by omega
          have r1 : (k : Int) < 256 := by omega
          go_wp2_with fail
          refine CC.out.mono ?_
          rintro e w5 ⟨A5, c5, rfl, hr5, hb5⟩
          obtain ⟨g5, rfl⟩ := hr5.some' (by decide)
          have hg5 := (hr5.lt rfl).1
          obtain ⟨p1, p2, p3⟩ := hr5.put i hlt y k HY.out
          have B5 : Hid (Below w2.heap.size w2 (w5.setCell ⟨g5, i, none⟩ (.int .u8 k))) := Lib.hid ((hst.out.trans (hb5.mono hst.out.size)).setCell (p := ⟨g5, i, none⟩) (Nat.le_trans hst.out.size hg5) _)
          have CH := Lib.hid (helloParses_any p1.rb (n := 62) (by rw [List.length_set]; rfl) (HG.out.below (B2.out.trans (B5.out.mono B2.out.size))))
          unfold BoolP at CH
          have c62 : 62 ≤ c5 := hr5.le
          have c62i : (i : Int) < c5 := by omega
          clear p1 hr5 hb5 CC hst hg5
          by_cases k1 : i < 11
          · have k2 : (i : Int) < 11 := by omega
            go_wp2_with (go_at_call 3; refine CH.out.mono ?_; rintro e w6 ⟨rfl, hb⟩; have B6 := Lib.hid (B5.out.trans (hb.mono B5.out.size)); clear hb)
            go_roundw
            case rel => exact ⟨k + 1, by omega, by go_num, B6⟩
            case measure => simp [intOf]; omega
          · have k2 : ¬ (i : Int) < 11 := by omega
            by_cases k3 : 42 < i
            · have k4 : (42 : Int) < i := by omega
              go_wp2_with (go_at_call 3; refine CH.out.mono ?_; rintro e w6 ⟨rfl, hb⟩; have B6 := Lib.hid (B5.out.trans (hb.mono B5.out.size)); clear hb)
              go_roundw
              case rel => exact ⟨k + 1, by omega, by go_num, B6⟩
              case measure => simp [intOf]; omega
            · have k4 : ¬ (42 : Int) < i := by omega
              go_wp2_with fail
              go_roundw
              case rel => exact ⟨k + 1, by omega, by go_num, B5⟩
              case measure => simp [intOf]; omega
        · have e256 : (k : Int) = 256 := by omega
          rw [e256]
          clear e256 hlk hk
          go_wp2_with fail
          go_roundw
          case rel => exact ⟨i + 1, by omega, by go_num, hst⟩
          case measure => simp [intOf]; omega
    · have e62 : (i : Int) = 62 := by omega
      rw [e62]
      clear e62 hlt hi
      go_wp2_with fail
      have EN : Hid (Ens w2 (wr.alloc (.cells endsA 3)) wr.heap.size) := Lib.hid ⟨hst.out.trans ((below_new wr _).mono hst.out.size), heap_alloc_new wr _⟩
      clear hst
      generalize wr.heap.size = E at *
      go_loopw [7] (fun v wx => ∃ i : Nat, i ≤ 9 ∧ v = .int .i64 i ∧ Hid (Ens w2 wx E)) (fun v _ => 9 - (intOf v).toNat)
      case atStart => exact ⟨0, Nat.zero_le _, rfl, EN⟩
      case round =>
        clear EN
        obtain ⟨i, hi, rfl, hen⟩ := hrel
        by_cases hlt : i < 9
        · have q0 : (0 : Int) ≤ i := by omega
          have q1 : (i : Int) < 9 := by omega
          obtain ⟨x, hx⟩ := ends_at i hlt
          have HX := Lib.hid hx
          clear hx
          go_wp2_with (refine wpList_alloc4 rfl rfl ?_; intro B wb hB hwb; have FL : Hid (Fil w2 wb E B 0 (List.replicate 4 (zG, zA))) := Lib.hid (by rw [hwb, hB]; exact Fil.start hen.out); clear hB hwb hen)
          go_loopw [9] (fun v wx => ∃ k : Nat, k ≤ 4 ∧ v = .int .i64 k ∧ Hid (∃ l, Fil w2 wx E B k l)) (fun v _ => 4 - (intOf v).toNat)
          case atStart => exact ⟨0, Nat.zero_le _, rfl, Lib.hid ⟨_, FL.out⟩⟩
          case round =>
            clear FL
            obtain ⟨k, hk, rfl, hst⟩ := hrel
            by_cases hlk : k < 4
            · have r0 : (0 : Int) ≤ k := by omega
              have r1 : (k : Int) < 4 := by omega
              go_wp2_with fail
              refine (plain_all wr).mono ?_
              rintro e w5 ⟨a5, rfl, hg5, hb5, h25⟩
              obtain ⟨l, hl⟩ := hst.out
              have HF := Lib.hid (hl.store hlk hb5 a5 hg5 h25)
              clear hst hl hg5 hb5 h25
              go_wp2_with (refine wpList_store_ga rfl (.tmp 64) (.tmp 63) rfl B (k * 39) plG a5 rfl rfl HF.out.1 ?_; obtain ⟨-, hf⟩ := HF.out; have HF2 := Lib.hid hf; clear hf HF; generalize w5.setCells B (k * 39) (gaL (plG, a5)) = w6 at *)
              go_roundw
              case rel => exact ⟨k + 1, by omega, by go_num, Lib.hid ⟨_, HF2.out⟩⟩
              case measure => simp [intOf]; omega
            · have e4 : (k : Int) = 4 := by omega
              have e4' : k = 4 := by omega
              rw [e4]
              subst e4'
              clear e4 hlk hk
              obtain ⟨l, hl⟩ := hst.out
              obtain ⟨b0, b1, b2, b3, hf⟩ := hl.done
              clear hst hl
              obtain ⟨dE, ⟨d0, f0⟩, ⟨d1, f1⟩, ⟨d2, f2⟩, d3, f3⟩ := hf.cells HX.out
              have hne := hf.ne
              have hne2 : B ≠ E := fun e => hne e.symm
              have hB0 := hf.rwc.rws.lt
              have hB1 : B < wr.heap.size + 1 := by omega
              have hE0 := lt_of_block hf.ens.blk
              have hE1 : E < wr.heap.size + 1 := by omega
              have HF := Lib.hid hf
              clear hf
              go_upto_region 23 with fail
              go_cut [65] from 65 to 93 (fun v wx => Hid (∃ p q, St w2 E B x b0 b1 b2 b3 4 p q wx))
              case first =>
                go_region_held3 (fun w' => w'.cell? ⟨E, i, none⟩ = some (.int .i64 x)) (first | (show World.cell? _ _ = _; (repeat (with_reducible (first | exact dE | refine k_drew ?_ | refine k_alloc ?_ | refine k_set hne2 ?_))); done) | go_keep) (fail)
                all_goals
                  go_wp2_with fail
                  go_meet
                  case rel => exact Lib.hid (by with_reducible first | exact St.finA HF.out | exact St.finB HF.out)
              case rest =>
                obtain ⟨p, q, hst⟩ := hcut.out
                clear hcut HF dE d0 d1 d2 d3 f0 f1 f2 f3 hne hne2 hB0 hB1 hE0 hE1
                have ES : Hid (Ens w2 _ E ∧ ∃ l : List (Grt × Adr), l.length = 4 ∧ Rwc _ B l) := Lib.hid ⟨hst.ens, _, rfl, hst.rwc⟩
                clear hst
                go_wp2_with fail
                go_loopw [10] (fun v wx => ∃ k : Nat, k ≤ 4 ∧ v = .int .i64 k ∧ Hid (Ens w2 wx E ∧ ∃ l : List (Grt × Adr), l.length = 4 ∧ Rwc wx B l)) (fun v _ => 4 - (intOf v).toNat)
                case atStart => exact ⟨0, Nat.zero_le _, rfl, ES⟩
                case round =>
                  clear ES
                  obtain ⟨k, hk, rfl, hst⟩ := hrel
                  by_cases hlk : k < 4
                  · have r0 : (0 : Int) ≤ k := by omega
                    have r1 : (k : Int) < 4 := by omega
                    obtain ⟨y, hy⟩ : ∃ y : UInt8, (k : Int) = (y.toNat : Int) := ⟨UInt8.ofNat k, by rw [UInt8.toNat_ofNat']; omega⟩
                    obtain ⟨hen, l, h4, hr⟩ := hst.out
                    have hrow := hr.rws.row k (by omega)
                    have hgr := hr.gr k (by omega)
                    have RR : Hid (∃ l : List (Grt × Adr), l.length = 4 ∧ Rwc _ B l) := Lib.hid ⟨l, h4, hr⟩
                    clear hr hst
                    generalize l[k]'(by omega) = z at *
                    obtain ⟨g, ad⟩ := z
                    have CW := helloWrites_any (HG.out.below (B2.out.trans (hen.bel.mono B2.out.size))) (hgr.keep fun i hi => ⟨rfl, hi.2⟩) (i : Int) y
                    rw [← hy] at CW
                    have CW := Lib.hid CW
                    have HR := Lib.hid hrow
                    have HE := Lib.hid hen
                    unfold BoolP at CW
                    clear hy hrow hgr hen h4 l
                    go_wp2_with (first
                      | (refine wpList_load_ga rfl (.tmp 98) rfl B (k * 39) rfl g ad HR.out ?_)
                      | (go_at_call 4; refine CW.out.mono ?_; rintro e w6 ⟨rfl, hb⟩; have HE2 := Lib.hid (HE.out.below hb); have RR2 : Hid (∃ l : List (Grt × Adr), l.length = 4 ∧ Rwc w6 B l) := Lib.hid (by obtain ⟨l, h4, hr⟩ := RR.out; exact ⟨l, h4, hr.below hb⟩); clear hb))
                    go_roundw
                    case rel => exact ⟨k + 1, by omega, by go_num, Lib.hid ⟨HE2.out, RR2.out⟩⟩
                    case measure => simp [intOf]; omega
                  · have e4 : (k : Int) = 4 := by omega
                    rw [e4]
                    clear e4 hlk hk
                    have hen := Lib.hid hst.out.1
                    clear hst
                    go_wp2_with fail
                    go_roundw
                    case rel => exact ⟨i + 1, by omega, by go_num, hen⟩
                    case measure => simp [intOf]; omega
        · have e9 : (i : Int) = 9 := by omega
          rw [e9]
          clear e9 hlt hi
          have BW := Lib.hid hen.out.bel
          clear hen
          go_wp2_with fail
          refine (plain_all _).mono ?_
          rintro e v0 ⟨b0, rfl, hg, hb, hc⟩
          have G0 := Lib.hid (grC_new hg hc)
          have BW := Lib.hid (BW.out.trans (hb.mono BW.out.size))
          clear hg hb hc
          go_wp2_with fail
          refine (plain_all _).mono ?_
          rintro e v1 ⟨b1, rfl, hg, hb, hc⟩
          have G0 := Lib.hid (G0.out.low hb)
          have G1 := Lib.hid (grC_new hg hc)
          have BW := Lib.hid (BW.out.trans (hb.mono BW.out.size))
          clear hg hb hc
          go_wp2_with fail
          refine (plain_all _).mono ?_
          rintro e v2 ⟨b2, rfl, hg, hb, hc⟩
          have G0 := Lib.hid (G0.out.low hb)
          have G1 := Lib.hid (G1.out.low hb)
          have G2 := Lib.hid (grC_new hg hc)
          have BW := Lib.hid (BW.out.trans (hb.mono BW.out.size))
          clear hg hb hc
          go_wp2_with fail
          refine (plain_all _).mono ?_
          rintro e v3 ⟨b3, rfl, hg, hb, hc⟩
          have G0 := Lib.hid (G0.out.low hb)
          have G1 := Lib.hid (G1.out.low hb)
          have G2 := Lib.hid (G2.out.low hb)
          have G3 := Lib.hid (grC_new hg hc)
          have BW := Lib.hid (BW.out.trans (hb.mono BW.out.size))
          clear hg hb hc
          go_wp2_with fail
          refine (plain_all _).mono ?_
          rintro e v4 ⟨b4, rfl, hg, hb, hc⟩
          have G0 := Lib.hid (G0.out.low hb)
          have G1 := Lib.hid (G1.out.low hb)
          have G2 := Lib.hid (G2.out.low hb)
          have G3 := Lib.hid (G3.out.low hb)
          have G4 := Lib.hid (grC_new hg hc)
          have BW := Lib.hid (BW.out.trans (hb.mono BW.out.size))
          clear hg hb hc
          go_wp2_with fail
          refine (plain_all _).mono ?_
          rintro e v5 ⟨b5, rfl, hg, hb, hc⟩
          have G0 := Lib.hid (G0.out.low hb)
          have G1 := Lib.hid (G1.out.low hb)
          have G2 := Lib.hid (G2.out.low hb)
          have G3 := Lib.hid (G3.out.low hb)
          have G4 := Lib.hid (G4.out.low hb)
          have G5 := Lib.hid (grC_new hg hc)
          have BW := Lib.hid (BW.out.trans (hb.mono BW.out.size))
          clear hg hb hc
          have I22 := inf22
          have I25 := inf25
          have I26 := inf26
          have I9 := inf9
          have I22 := Lib.hid I22
          have I25 := Lib.hid I25
          have I26 := Lib.hid I26
          have I9 := Lib.hid I9
          go_wp2_with fail
          rename_i K hK
          refine wp_build6 ?pa ?ho [(0, .agg (grtA plG b0)), (1, .agg (grtA plG b1)), (2, .agg (grtA plG b2)), (3, .agg (grtA plG b3)), (4, .agg (grtA plG b4)), (5, .agg (grtA plG b5))] ?hl [(plG, b0), (plG, b1), (plG, b2), (plG, b3), (plG, b4), (plG, b5)] (fill6 b0 b1 b2 b3 b4 b5) ?_
          case ho => exact rfl
          case hl => kernel_rfl
          intro B y0 hB hy
          refine hK _ _ ?_
          have H0 : Hid (Odr w2 y0 B [(plG, b0), (plG, b1), (plG, b2), (plG, b3), (plG, b4), (plG, b5)]) := Lib.hid (by rw [hy, hB]; exact odr6 BW.out G0.out G1.out G2.out G3.out G4.out G5.out)
          clear hB hy BW G0 G1 G2 G3 G4 G5 hK
          go_wp2_with (first
            | (refine wpList_zrs rfl 33 33 rfl (by decide) rfl ?_; intro y1 hz; have H1 := Lib.hid (H0.out.below hz.bel); have Z1 : Hid (RbS (fun i => i ≠ B ∧ i < y1.heap.size) y1 (some ⟨y0.heap.size, 0, none⟩) 33 (List.replicate 33 0)) := Lib.hid (hz.row.keep fun k hk => ⟨rfl, by have := H0.out.rwc.rws.lt; omega, by have := hz.size; omega⟩); clear hz; generalize y0.heap.size = n0 at *; clear H0)
            | (refine store_od H1.out rfl 22 (.tmp 115) (.tmp 113) rfl 0 33 (.slice (some ⟨n0, 0, none⟩) 33 33) rfl rfl I22.out rfl (by show 0 < 6; decide) (by decide) (o0, aSes b0 n0) rfl (od0 (H1.out.rwc.gr 0 (by show 0 < 6; decide)) Z1.out) ?_; intro y2 hr; have H2 : Hid (Odr w2 y2 B [(o0, aSes b0 n0), (plG, b1), (plG, b2), (plG, b3), (plG, b4), (plG, b5)]) := Lib.hid hr; clear hr H1 Z1)
            | (refine store_od H2.out rfl 25 (.tmp 118) (.const (.slice none 0 0)) rfl 1 34 (.slice none 0 0) rfl rfl I25.out rfl (by show 1 < 6; decide) (by decide) (o1, aNoS b1) rfl (od1 (H2.out.rwc.gr 1 (by show 1 < 6; decide))) ?_; intro y3 hr; have H3 : Hid (Odr w2 y3 B [(o0, aSes b0 n0), (o1, aNoS b1), (plG, b2), (plG, b3), (plG, b4), (plG, b5)]) := Lib.hid hr; clear hr H2)
            | (refine store_od (H3.out.below (below_new y3 (.cells #[.int .u8 1, .int .u8 2] 5))) rfl 22 (.tmp 122) (.tmp 120) rfl 2 35 (.slice (some ⟨y3.heap.size, 0, none⟩) 2 2) rfl rfl I22.out rfl (by show 2 < 6; decide) (by decide) (o2, aMet b2 y3.heap.size) rfl (od2 ((H3.out.below (below_new y3 (.cells #[.int .u8 1, .int .u8 2] 5))).rwc.gr 2 (by show 2 < 6; decide)) ⟨by have := H3.out.rwc.rws.lt; omega, by simp⟩ (heap_alloc_new y3 _)) ?_; intro y4 hr; have H4 : Hid (Odr w2 y4 B [(o0, aSes b0 n0), (o1, aNoS b1), (o2, aMet b2 y3.heap.size), (plG, b3), (plG, b4), (plG, b5)]) := Lib.hid hr; clear hr H3)
            | (refine store_od H4.out rfl 9 (.tmp 125) (.const (.string ⟨#[97, 58, 56, 48]⟩)) rfl 3 36 (.string ⟨#[97, 58, 56, 48]⟩) rfl rfl I9.out rfl (by show 3 < 6; decide) (by decide) (o3, b3) rfl (od3 (H4.out.rwc.gr 3 (by show 3 < 6; decide))) ?_; intro y5 hr; have H5 : Hid (Odr w2 y5 B [(o0, aSes b0 n0), (o1, aNoS b1), (o2, aMet b2 y3.heap.size), (o3, b3), (plG, b4), (plG, b5)]) := Lib.hid hr; clear hr H4)
            | (refine store_od H5.out rfl 9 (.tmp 128) (.const (.string ⟨#[]⟩)) rfl 4 36 (.string ⟨#[]⟩) rfl rfl I9.out rfl (by show 4 < 6; decide) (by decide) (o4, b4) rfl (od4 (H5.out.rwc.gr 4 (by show 4 < 6; decide))) ?_; intro y6 hr; have H6 : Hid (Odr w2 y6 B [(o0, aSes b0 n0), (o1, aNoS b1), (o2, aMet b2 y3.heap.size), (o3, b3), (o4, b4), (plG, b5)]) := Lib.hid hr; clear hr H5)
            | (refine store_od (H6.out.below (below_new y6 (.cells #[.int .i64 5, .slice none 0 0, .int .i64 5, .slice none 0 0] 62))) rfl 26 (.tmp 134) (.tmp 132) rfl 5 38 (.slice (some ⟨y6.heap.size, 0, none⟩) 2 2) rfl rfl I26.out rfl (by show 5 < 6; decide) (by decide) (o5, aExt b5 y6.heap.size 2) rfl (od5 ((H6.out.below (below_new y6 (.cells #[.int .i64 5, .slice none 0 0, .int .i64 5, .slice none 0 0] 62))).rwc.gr 5 (by show 5 < 6; decide)) ⟨by have := H6.out.rwc.rws.lt; omega, by simp⟩ (heap_alloc_new y6 _)) ?_; intro y7 hr; have H7 : Hid (Odr w2 y7 B [(o0, aSes b0 n0), (o1, aNoS b1), (o2, aMet b2 y3.heap.size), (o3, b3), (o4, b4), (o5, aExt b5 y6.heap.size 2)]) := Lib.hid hr; clear hr H6))
          have OD : Hid (∃ l : List (Grt × Adr), l.length = 6 ∧ Odr w2 y7 B l ∧ ∀ k (h : k < l.length), BadG l[k].1) := Lib.hid ⟨_, rfl, H7.out, bad_all⟩
          clear H7 I22 I25 I26 I9
          go_loopw [12] (fun v wx => ∃ k : Nat, k ≤ 6 ∧ v = .int .i64 k ∧ Hid (∃ l : List (Grt × Adr), l.length = 6 ∧ Odr w2 wx B l ∧ ∀ k (h : k < l.length), BadG l[k].1)) (fun v _ => 6 - (intOf v).toNat)
          case atStart => exact ⟨0, Nat.zero_le _, rfl, OD⟩
          case round =>
            clear OD
            obtain ⟨k, hk, rfl, hst⟩ := hrel
            by_cases hlk : k < 6
            · have r0 : (0 : Int) ≤ k := by omega
              have r1 : (k : Int) < 6 := by omega
              obtain ⟨l, h6, ho, hbad⟩ := hst.out
              have hrow := ho.rwc.rws.row k (by omega)
              have hgr := ho.rwc.gr k (by omega)
              have hb6 := hbad k (by omega)
              have hrow2 : ∀ wx, Below wr.heap.size wr wx → wx.rangeAt B (k * 39) (gaL (l[k]'(by omega))) := fun wx hb => (ho.below hb).rwc.rws.row k (by omega)
              have ON : Hid (∀ wx, Below wr.heap.size wr wx → ∃ l : List (Grt × Adr), l.length = 6 ∧ Odr w2 wx B l ∧ ∀ k (h : k < l.length), BadG l[k].1) := Lib.hid fun wx hb => ⟨l, h6, ho.below hb, hbad⟩
              have HBw := Lib.hid ho.bel
              clear hst ho hbad
              generalize l[k]'(by omega) = z at *
              clear h6 l
              obtain ⟨g, ad⟩ := z
              obtain ⟨hno, hsm⟩ := hb6
              have HGl := HG.out.below (B2.out.trans (HBw.out.mono B2.out.size))
              have CR := Lib.hid (refused_any ((hgr.grB fun i hi => hi.2).grV hsm) HGl (fun x hx => Nat.le_trans (hsm.d x hx) (by decide)) hno)
              have CW := fun (wx : World) (hb : Below wr.heap.size wr wx) => helloWrites_any (HGl.below hb) (hgr.keep (w' := wx) (S' := fun i => i < wx.heap.size) fun i hi => ⟨hb.block i hi.2, Nat.lt_of_lt_of_le hi.2 hb.size⟩) (k : Int) 1
              rw [show (((1 : UInt8).toNat : Nat) : Int) = 1 from rfl] at CW
              have CW := Lib.hid CW
              have HR := Lib.hid hrow
              have HR2 := Lib.hid hrow2
              unfold BoolP at CW CR
              clear hrow hrow2 hgr hno hsm HGl
              go_wp2_with (first
                | (refine wpList_load_ga rfl (.tmp 143) rfl B (k * 39) rfl g ad HR.out ?_)
                | (refine wpList_load_ga rfl (.tmp 150) rfl B (k * 39) rfl g ad (HR2.out _ hb.out) ?_)
                | (go_at_call 27; refine CR.out.mono ?_; rintro e w6 ⟨rfl, hb⟩; have hb := Lib.hid hb)
                | (go_at_call 4; refine (CW.out _ hb.out).mono ?_; rintro e w7 ⟨rfl, hb7⟩; have RR := Lib.hid (ON.out _ (hb.out.trans (hb7.mono hb.out.size))); clear hb7))
              go_roundw
              case rel => exact ⟨k + 1, by omega, by go_num, RR⟩
              case measure => simp [intOf]; omega
            · have e6 : (k : Int) = 6 := by omega
              rw [e6]
              clear e6 hlk hk
              have BW : Hid (Below w2.heap.size w2 wr) := Lib.hid (by obtain ⟨l, _, ho, _⟩ := hst.out; exact ho.bel)
              clear hst
              go_wp2_with fail
              refine (plain_all _).mono ?_
              rintro e v9 ⟨a9, rfl, hg, hb, hc⟩
              have L0 := Lib.hid (lng_start (BW.out.trans (hb.mono BW.out.size)) (grC_new hg hc))
              have HA := Lib.hid (heap_alloc_new v9 (.cells (grtA plG a9) 28))
              clear hg hb hc BW
              have I26 := Lib.hid inf26
              go_wp2_with (first
                | (refine wpList_alloc7 rfl rfl v9.heap.size rfl ?_)
                | (refine wpList_store_row rfl 28 (.tmp 13) (.tmp 156) rfl v9.heap.size (grtA plG a9) rfl rfl 28 _ (heap_alloc_new v9 _) (infoGA plG a9) rfl (grtA_one plG a9) ?_; rw [World.setRow_alloc_new]; generalize v9.alloc (.cells (grtA plG a9) 28) = v10 at *; generalize v9.heap.size = N at *)
                | (refine wpList_zrs rfl 16323 16323 rfl (by decide) rfl ?_; intro vz hz; have LE := Lib.hid (lge_start L0.out HA.out hz); have TH := Lib.hid (there_of_row (((below_new vz (.cells #[.int .i64 7, .slice (some ⟨v10.heap.size, 0, none⟩) 16323 16323] 62)).block N (by have := hz.size; have := lt_of_block HA.out; omega)).trans ((hz.bel.block N (lt_of_block HA.out)).trans HA.out)) 38 (by show 38 < 39; decide)); clear hz)
                | (refine wpList_store_at rfl 26 (.tmp 160) (.tmp 159) rfl N 38 (.slice (some ⟨vz.heap.size, 0, none⟩) 1 1) rfl rfl I26.out rfl TH.out ?_; have LE2 := Lib.hid LE.out; clear LE TH L0 HA; generalize (vz.alloc (.cells #[.int .i64 7, .slice (some ⟨v10.heap.size, 0, none⟩) 16323 16323] 62)).setCell ⟨N, 38, none⟩ (.slice (some ⟨vz.heap.size, 0, none⟩) 1 1) = v11 at *; generalize vz.heap.size = n at *; generalize v10.heap.size = z at *)
                | (refine wpList_load_row rfl 28 (.tmp 13) rfl N rfl 28 _ (0, 0) _ LE2.out.bN Tryz.underlying28 rfl (infoGA (lgE 16323) (aExt a9 n 1)) ?_))
              have LE2' := LE2.out
              have CWR := Lib.hid (write_prog7 LE2'.grV (HG.out.below (B2.out.trans (LE2'.l.bel.mono B2.out.size))) (lgE_d _ (by decide)))
              clear LE2'
              refine CWR.out.mono ?_
              rintro e v12 ⟨h1, _⟩
              obtain ⟨A3, c3, rfl, hr, hb⟩ := h1 lg_ok
              have RF := Lib.hid hr
              have LE3 := Lib.hid (LE2.out.below hb)
              have hn11 := Lib.hid (lt_of_block LE2.out.bE)
              rw [lg_len]
              clear h1 hr hb CWR LE2
              have dN : v12.cell? ⟨N, 38, none⟩ = some (.slice (some ⟨n, 0, none⟩) 1 1) := (row_cell LE3.out.bN 38).1
              have hnN : n ≠ N := by have := LE3.out.hn; omega
              have e1 : v12.cell? ⟨n, 1, none⟩ = some (.slice (some ⟨z, 0, none⟩) 16323 16323) := (row_cell LE3.out.bE 1).1
              have f1 : v12.frozen? ⟨n, 1, none⟩ = false := (row_cell LE3.out.bE 1).2
              have hn0 := lt_of_block LE3.out.bE
              have hN0 := lt_of_block LE3.out.bN
              obtain ⟨M, hM1, hM2⟩ := made_zeros 16324 (by decide)
              have hmk : ∀ w : World, (Instr.makeSlice 22 (.int .i64 16324) (.int .i64 16324)).run Tryz.prog w = .ok (.slice (some ⟨w.heap.size, 0, none⟩) 16324 16324) (w.alloc (.cells M 5)) := hM1
              have LE4 := Lib.hid (lge_past LE3.out (hM2 v12)).1
              have hno : ∀ g, A3 = some ⟨g, 0, none⟩ → g ≠ n := fun g e => by
                have := (RF.out.lt e).1
                have := hn11.out
                omega
              have RF4 := Lib.hid ((rowG_set (j := 1) (v := .slice (some ⟨v12.heap.size, 0, none⟩) 16324 16324) RF.out hno).below (below_new (v12.setCell ⟨n, 1, none⟩ (.slice (some ⟨v12.heap.size, 0, none⟩) 16324 16324)) (.cells M 5)))
              clear hM1 hM2 hno
              go_upto_region 44 with fail
              go_region_held3 (fun w' => w'.cell? ⟨N, 38, none⟩ = some (.slice (some ⟨n, 0, none⟩) 1 1)) (with_reducible first | exact k_drew dN | exact k_drew (k_alloc (k_set hnN dN)) | exact k_drew (k_alloc dN) | exact k_alloc (k_drew dN) | go_keep) (fail)
              have RF5 := Lib.hid (RF4.out.below (Below.refl _ _).drew)
              clear RF4 RF LE3 hmk dN e1 f1 hn0 hN0 hnN hn11
              generalize (((v12.setCell ⟨n, 1, none⟩ (.slice (some ⟨v12.heap.size, 0, none⟩) 16324 16324)).alloc (.cells M 5)).drew) = v13 at *
              generalize v12.heap.size = z2 at *
              go_wp2_with (first
                | (go_at_call 17; refine (works_any _ (HG.out.below (B2.out.trans (LE4.out.l.bel.mono B2.out.size)))).mono ?_; rintro e v14 ⟨rfl, hb⟩; have LE5 := Lib.hid (LE4.out.below hb); have RF6 := Lib.hid (RF5.out.below hb); clear hb LE4 RF5; have CS := Lib.hid (wsni HG.out (B2.out.trans (LE5.out.l.bel.mono B2.out.size)) RF6.out.rb lg_len [97] 0 lg_sni); unfold BoolP at CS)
                | (go_at_call 24; refine CS.out.mono ?_; rintro e v15 ⟨rfl, hb⟩; have LE6 := Lib.hid (LE5.out.below hb); clear hb LE5 RF6 CS)
                | (refine wpList_load_rowG rfl 28 (.tmp 13) rfl N rfl 28 _ (0, 0) _ LE6.out.bN Tryz.underlying28 rfl (infoGA (lgE 16324) (aExt a9 n 1)) ?_)
                | (go_at_call 27; refine (refused_any LE6.out.grV (HG.out.below (B2.out.trans (LE6.out.l.bel.mono B2.out.size))) (lgE_d _ (by decide)) lg_no).mono ?_; rintro e v16 ⟨rfl, hb⟩; have BF := Lib.hid (LE6.out.l.bel.trans (hb.mono LE6.out.l.bel.size)); clear hb LE6))
              go_ret
              exact ⟨rfl, B2.out.trans (BF.out.mono B2.out.size)⟩
end Go.Proofs.YtiakbmllpnabnaaGreatDoor
