/- The law LatticeMakes, walked. -/
import Derived.Test.YtaikhdmgcffflaaDoorYj
import Derived.Test.YtaikhdmgcffflaaDoorVm
namespace Go.Proofs.YtaikhdmgcffflaaDoor
open Go Go.RowKit

theorem Rd.cut {w : World} {A : Option Addr} {vs : List Value} (h : Rd w A vs) (k : Nat) : Rd w A (vs.take k) := fun i hi => by
  have hi' : i < vs.length := by rw [List.length_take] at hi; omega
  obtain ⟨b, off, e, hl, hc⟩ := h i hi'
  exact ⟨b, off, e, hl, hc.trans (by simp)⟩
theorem sv_take (N : List (List UInt8)) (k : Nat) : (sv N).take k = sv (N.take k) := by simp [sv, List.map_take]

/-- A row of texts whose cells may be written. -/
def OwnIn (w : World) (v : Value) (n : Nat) : Prop := n = 0 ∨ ∃ g cap cur, v = .slice (some ⟨g, 0, none⟩) n cap ∧ w.heap[g]? = some (.cells cur 9 (0, 0)) ∧ n ≤ cur.size
theorem OwnIn.of {w : World} {base n : Nat} {v : Value} {xs : List Value} (h : w.ownsRow base 9 1 v n xs) : OwnIn w v n := by
  rcases h.2 with ⟨_, e⟩ | ⟨g, cap, cur, e1, _, e3, e4, _, e6, _⟩
  · exact .inl e
  · exact .inr ⟨g, cap, cur, e1, e3, by omega⟩
theorem OwnIn.at {w : World} {A : Option Addr} {n c i : Nat} (h : OwnIn w (.slice A n c) n) (hi : i < n) : ∃ g ov, A = some ⟨g, 0, none⟩ ∧ w.cell? ⟨g, i, none⟩ = some ov ∧ w.frozen? ⟨g, i, none⟩ = false ∧ ∀ u, OwnIn (w.setCell ⟨g, i, none⟩ u) (.slice A n c) n := by
  rcases h with h | ⟨g, cap, cur, e1, e2, e3⟩
  · omega
  · cases e1
    obtain ⟨hlt, hk⟩ := Array.getElem?_eq_some_iff.1 e2
    refine ⟨g, cur[i]'(by omega), rfl, ?_, ?_, fun u => .inr ⟨g, c, cur.setIfInBounds i u, rfl, ?_, by simpa using e3⟩⟩
    · simp [World.cell?, e2, show i < cur.size by omega]
    · simp [World.frozen?, e2]
    · show (w.heap.modify g _)[g]? = _
      rw [Array.getElem?_eq_getElem (by rw [Array.size_modify]; exact hlt), Array.getElem_modify_self, hk]
      rfl

/-- Behind stores into own's row both lattices stand as they did. -/
theorem bo_own {w w2 w4 wr : World} {bl b o base bn b0 : Nat} {v2 vo : Value} {An : Option Addr} {cn m : Nat} {N : List (List UInt8)} {L : List (Int × Int)} {xs : List Value} (hT : Tab w) (hw2 : w.heap.size ≤ b0) (ho2 : w2.ownsRow b0 9 1 vo m xs) (ho4 : w4.ownsRow b0 9 1 vo m xs)
    (hb4 : Below w.heap.size w w4) (hge : w.heap.size ≤ bl) (P : PL w4 bl N.length N (ofL (natL L))) (R : RefS w4 b o base bn v2 An cn N (natL L)) (hbn : w2.heap.size ≤ bn) (hg : w4.grownBy wr vo.ownBlock) : Bo w bl b o base bn v2 An cn N L wr := by
  have hbel : Below w.heap.size w wr := hb4.grown hg hb4.size (fun k e => Nat.le_trans hw2 (ho4.lt k e).1)
  obtain ⟨f, hf⟩ := P.blk
  refine ⟨⟨hT.below hbel hT.lt, P.kept hg (row_ne ho4 hf (by decide)).symm, hbel, hge⟩, R.kept hg (row_ne ho4 R.lat.blk (by decide)).symm (row_ne ho4 R.ord.blk (by decide)).symm ?_ ?_, hT.lt⟩
  · rcases ho4.2 with ⟨rfl, _⟩ | ⟨g, cap, cur, rfl, _, hh, _⟩
    · exact Classical.em _
    · exact .inr (row_ne R.ord.row hh (by decide))
  · rcases hq : (Value.slice An N.length cn).ownBlock with _ | q
    · exact .inl rfl
    · refine .inr fun e => ?_
      have h1 := (R.nms.lt q hq).1
      have h2 := (ho2.lt q e.symm).2
      omega
theorem cat_x (y : List UInt8) : (⟨y.toArray⟩ : ByteArray) ++ ⟨#[120]⟩ = ⟨(y ++ [120]).toArray⟩ := by
  apply ByteArray.ext
  simp

set_option maxHeartbeats 4000000 in
set_option maxRecDepth 100000 in
theorem latticeMakes_any (An : Option Addr) (cn : Nat) (N0 : List (List UInt8)) (Ab : Option Addr) (cb : Nat) (L0 : List (Int × Int)) (code : Int) (w : World) (hT : Tab w) (hR : Rd w An (sv N0)) (hc : N0.length ≤ cn) (hL : ∀ y ∈ N0, y.length ≤ maxLen) (hP : Rd w Ab (pvI L0)) (hcb : L0.length ≤ cb) :
    Calls Tryd.prog 3 #[.slice An N0.length cn, .slice Ab L0.length cb, .int .i64 code] w fun e w' => e = .returned (.bool true) ∧ Below w.heap.size w w' := by
  have HT := Lib.hid hT
  have HR := Lib.hid (show Rd w An (sv (N0.take 12)) by rw [← sv_take]; exact hR.cut 12)
  have HP := Lib.hid (show Rd w Ab (pvI (L0.take 40)) by rw [← pvI_take]; exact hP.cut (40 * 2))
  have HL := Lib.hid (fun y (hy : y ∈ N0.take 12) => hL y (List.mem_of_mem_take hy))
  clear hT hR hP hL
  go_enter Tryd.func3, Tryd.ntmps3
  go_upto_region 1 with fail
  go_cut [0, 1] from 26 to 35 (fun u v wx => u = .slice An (N0.take 12).length cn ∧ v = .slice Ab (L0.take 40).length cb ∧ ∃ q, wx = w.drewN q)
  case first =>
    by_cases h1 : N0.length ≤ 12
    · by_cases h2 : L0.length ≤ 40
      · have e1 : (N0.take 12).length = N0.length := by rw [List.length_take]; omega
        have e2 : (L0.take 40).length = L0.length := by rw [List.length_take]; omega
        have m1 : min (N0.length : Int) 12 = N0.length := by omega
        have m2 : min (L0.length : Int) 40 = L0.length := by omega
        go_wp2_with fail
        go_quiet (fail)
        go_wp2_with fail
        go_meet
        case rel => exact ⟨by rw [e1]; try rfl, by rw [e2]; try rfl, _, rfl⟩
      · have e1 : (N0.take 12).length = N0.length := by rw [List.length_take]; omega
        have e2 : (L0.take 40).length = 40 := by rw [List.length_take]; omega
        have m1 : min (N0.length : Int) 12 = N0.length := by omega
        have m2 : min (L0.length : Int) 40 = 40 := by omega
        have k2 : (40 : Int) ≤ cb := by omega
        go_wp2_with fail
        go_quiet (fail)
        go_wp2_with fail
        go_meet
        case rel => exact ⟨by rw [e1]; try rfl, by rw [e2]; try rfl, _, rfl⟩
    · by_cases h2 : L0.length ≤ 40
      · have e1 : (N0.take 12).length = 12 := by rw [List.length_take]; omega
        have e2 : (L0.take 40).length = L0.length := by rw [List.length_take]; omega
        have m1 : min (N0.length : Int) 12 = 12 := by omega
        have m2 : min (L0.length : Int) 40 = L0.length := by omega
        have k1 : (12 : Int) ≤ cn := by omega
        go_wp2_with fail
        go_quiet (fail)
        go_wp2_with fail
        go_meet
        case rel => exact ⟨by rw [e1]; try rfl, by rw [e2]; try rfl, _, rfl⟩
      · have e1 : (N0.take 12).length = 12 := by rw [List.length_take]; omega
        have e2 : (L0.take 40).length = 40 := by rw [List.length_take]; omega
        have m1 : min (N0.length : Int) 12 = 12 := by omega
        have m2 : min (L0.length : Int) 40 = 40 := by omega
        have k1 : (12 : Int) ≤ cn := by omega
        have k2 : (40 : Int) ≤ cb := by omega
        go_wp2_with fail
        go_quiet (fail)
        go_wp2_with fail
        go_meet
        case rel => exact ⟨by rw [e1]; try rfl, by rw [e2]; try rfl, _, rfl⟩
  case rest =>
    obtain ⟨rfl, rfl, q, rfl⟩ := hcut
    have hb0 : Below w.heap.size w (w.drewN q) := below_drewN (Below.refl _ _) q
    have hN12 : (N0.take 12).length ≤ 12 := by rw [List.length_take]; omega
    have hL40 : (L0.take 40).length ≤ 40 := by rw [List.length_take]; omega
    have hcn : (N0.take 12).length ≤ cn := by rw [List.length_take]; omega
    generalize w.drewN q = w1 at *
    generalize N0.take 12 = N at *
    generalize L0.take 40 = L at *
    clear hc hcb N0 L0
    have con := Lib.hid (copyTexts_any An cn N w1 (HR.out.below hb0) (by omega))
    go_wp2_with fail
    refine Calls.mono con.out ?_
    rintro e w2 ⟨vo, rfl, hown, hb2⟩
    obtain ⟨Ao, co, rfl, hco, hro⟩ := own_cap hown
    have bw2 := hb0.trans (hb2.mono hb0.size)
    have hb0s := hb0.size
    generalize w1.heap.size = b0 at *
    have con := Lib.hid (make_any Ao co N Ab cb L w2 (HT.out.below bw2 HT.out.lt) hro hco (by omega) HL.out (HP.out.below bw2) (by omega))
    have HO := Lib.hid hown
    clear hro hb2 hb0 hown
    go_wp2_with fail
    refine Calls.mono con.out ?_
    rintro e w3 ⟨hb3, hmk⟩
    have bw3 := bw2.trans (hb3.mono bw2.size)
    have con := Lib.hid (refMake_any An cn N Ab cb L w3 (HR.out.below bw3) (by omega) HL.out (HP.out.below bw3) (by omega))
    have HO3 := Lib.hid (row_below HO.out hb3)
    have hs23 := hb3.size
    have HB3 := Lib.hid bw3
    clear hb3 bw3
    rcases hmk with ⟨hz, rfl⟩ | ⟨hz, K, bl, rfl, hgl, P⟩
    · go_wp2_with fail
      refine Calls.mono con.out ?_
      rintro e w4 ⟨hb4, ⟨_, rfl⟩ | ⟨h0, _⟩⟩
      · have HO4 := Lib.hid (row_below HO3.out hb4)
        have bw4 := HB3.out.trans (hb4.mono HB3.out.size)
        have q0 : (mkE N L != mkE N L) = false := by simp
        have q1 : (mkE N L != 0) = true := by simpa using hz
        generalize mkE N L = z at *
        clear con hb4 hz
        go_wp2_with fail
        go_loopw [12] (fun i wr => ∃ k : Nat, k ≤ N.length ∧ i = .int .i64 k ∧ OwnIn wr (.slice Ao N.length co) N.length ∧ w4.grownBy wr (Value.slice Ao N.length co).ownBlock) (fun i _ => N.length - (intOf i).toNat)
        case atStart => exact ⟨0, Nat.zero_le _, rfl, OwnIn.of HO4.out, World.grownBy.refl _ _⟩
        case round =>
          obtain ⟨k, hk, rfl, O, G⟩ := hrel
          by_cases hlt : k < N.length
          · obtain ⟨gb, ov, rfl, o1, o2, o3⟩ := O.at hlt
            have k1 : (0 : Int) ≤ k := by omega
            have k2 : (k : Int) < N.length := by omega
            have HO5 := Lib.hid o3
            have G2 := grownBy_set G (.string ⟨#[111, 116, 104, 101, 114]⟩) k
            clear O o3
            go_wp2_with fail
            go_roundw
            case rel => exact ⟨k + 1, by omega, by go_num, HO5.out _, G2⟩
            case measure => simp [intOf]; omega
          · have bwr : Below w.heap.size w wr := bw4.grown G bw4.size (fun k e => Nat.le_trans hb0s (HO4.out.lt k e).1)
            have con := Lib.hid (works_any wr (HT.out.below bwr HT.out.lt))
            clear O G
            go_wp2_with fail
            refine Calls.mono con.out ?_
            rintro e w6 ⟨rfl, hb6⟩
            go_wp2_with fail
            go_ret
            exact ⟨rfl, bwr.trans (hb6.mono bwr.size)⟩
      · exact absurd h0 hz
    · go_wp2_with fail
      refine Calls.mono con.out ?_
      rintro e w4 ⟨hb4, ⟨h0, _⟩ | ⟨_, _, b, o, bn, v2, Am, cm, rfl, hbn, R⟩⟩
      · exact absurd hz h0
      · have HO4 := Lib.hid (row_below HO3.out hb4)
        have bw4 := HB3.out.trans (hb4.mono HB3.out.size)
        have P4 := P.kept (grownBy_below hb4 none) (by simp)
        have hge : w.heap.size ≤ bl := Nat.le_trans bw2.size hgl
        have hbn2 : w2.heap.size ≤ bn := Nat.le_trans hs23 hbn
        have HBO := Lib.hid (fun (wr : World) (hg : w4.grownBy wr (Value.slice Ao N.length co).ownBlock) => bo_own HT.out hb0s HO.out HO4.out bw4 hge P4 R hbn2 hg)
        clear con hb4 hz P P4 R HO3 HB3 hbn
        go_wp2_with fail
        go_loopw [12] (fun i wr => ∃ k : Nat, k ≤ N.length ∧ i = .int .i64 k ∧ OwnIn wr (.slice Ao N.length co) N.length ∧ w4.grownBy wr (Value.slice Ao N.length co).ownBlock) (fun i _ => N.length - (intOf i).toNat)
        case atStart => exact ⟨0, Nat.zero_le _, rfl, OwnIn.of HO4.out, World.grownBy.refl _ _⟩
        case round =>
          obtain ⟨k, hk, rfl, O, G⟩ := hrel
          by_cases hlt : k < N.length
          · obtain ⟨gb, ov, rfl, o1, o2, o3⟩ := O.at hlt
            have k1 : (0 : Int) ≤ k := by omega
            have k2 : (k : Int) < N.length := by omega
            have HO5 := Lib.hid o3
            have G2 := grownBy_set G (.string ⟨#[111, 116, 104, 101, 114]⟩) k
            clear O o3
            go_wp2_with fail
            go_roundw
            case rel => exact ⟨k + 1, by omega, by go_num, HO5.out _, G2⟩
            case measure => simp [intOf]; omega
          · have B := HBO.out wr G
            clear O G HBO HO HO4 bw4
            go_wp2_with fail
            go_loopw [13] (fun i wr => ∃ k : Nat, k ≤ N.length ∧ i = .int .i64 k ∧ Bo w bl b o w3.heap.size bn v2 Am cm N L wr) (fun i _ => N.length - (intOf i).toNat)
            case atStart => exact ⟨0, Nat.zero_le _, rfl, B⟩
            case round =>
              obtain ⟨k, hk, rfl, Bk⟩ := hrel
              clear B
              by_cases hlt : k < N.length
              · obtain ⟨ab, off, rfl, hbl, e0⟩ := HR.out.str k hlt
                have hcell := (Bk.lat.bel.cell (p := ⟨ab, off + k, none⟩) hbl).trans e0
                have hyl := fine_len K.fine N[k] (List.getElem_mem hlt)
                generalize N[k] = y at *
                obtain ⟨d1, hd1⟩ : ∃ z, (findV N.length N y).1 = z := ⟨_, rfl⟩
                obtain ⟨d2, hd2⟩ : ∃ z, (findV N.length N y).2 = z := ⟨_, rfl⟩
                obtain ⟨d3, hd3⟩ : ∃ z, (findV N.length N (y ++ [120])).1 = z := ⟨_, rfl⟩
                obtain ⟨d4, hd4⟩ : ∃ z, (findV N.length N (y ++ [120])).2 = z := ⟨_, rfl⟩
                have D1 := Lib.hid hd1
                have D2 := Lib.hid hd2
                have D3 := Lib.hid hd3
                have D4 := Lib.hid hd4
                have e1 : (d1 != d1) = false := by simp
                have e2 : (d2 != d2) = false := by simp
                have e3 : (d3 != d3) = false := by simp
                have e4 : (d4 != d4) = false := by simp
                have E0 := Lib.hid e0
                have k1 : (0 : Int) ≤ k := by omega
                have k2 : (k : Int) < N.length := by omega
                have hcat := Lib.hid (cat_x y)
                clear hd1 hd2 hd3 hd4 e0
                have con := Lib.hid (boFind Bk K y D1.out D2.out)
                clear Bk
                go_wp2_with fail
                refine Calls.mono con.out ?_
                rintro e w6 ⟨rfl, B6⟩
                have hcell := (B6.lat.bel.cell (p := ⟨ab, off + k, none⟩) hbl).trans E0.out
                have con := Lib.hid (boFindR B6 K y D1.out D2.out)
                clear B6
                go_wp2_with fail
                refine Calls.mono con.out ?_
                rintro e w7 ⟨rfl, B7⟩
                have hcell := (B7.lat.bel.cell (p := ⟨ab, off + k, none⟩) hbl).trans E0.out
                have con := Lib.hid (boFind B7 K (y ++ [120]) D3.out D4.out)
                clear B7
                go_wp2_with fail
                rw [hcat.out]
                refine Calls.mono con.out ?_
                rintro e w8 ⟨rfl, B8⟩
                have hcell := (B8.lat.bel.cell (p := ⟨ab, off + k, none⟩) hbl).trans E0.out
                have con := Lib.hid (boFindR B8 K (y ++ [120]) D3.out D4.out)
                clear B8
                go_wp2_with fail
                try rw [hcat.out]
                refine Calls.mono con.out ?_
                rintro e w9 ⟨rfl, B9⟩
                clear con hcell D1 D2 D3 D4
                go_wp2_with fail
                go_roundw
                case rel => exact ⟨k + 1, by omega, by go_num, B9⟩
                case measure => simp [intOf]; omega
              · obtain ⟨d1, hd1⟩ : ∃ z, (decV N.length (ofL (natL L)) code).1 = z := ⟨_, rfl⟩
                obtain ⟨d2, hd2⟩ : ∃ z, (decV N.length (ofL (natL L)) code).2 = z := ⟨_, rfl⟩
                have D1 := Lib.hid hd1
                have D2 := Lib.hid hd2
                have e1 : (d1 == d1) = true := by simp
                have e2 : (d2 == d2) = true := by simp
                clear hd1 hd2
                have con := Lib.hid (boDecode Bk K code D1.out D2.out)
                clear Bk
                go_wp2_with fail
                refine Calls.mono con.out ?_
                rintro e w6 ⟨rfl, B6⟩
                have con := Lib.hid (boDecodeR B6 K code D1.out D2.out)
                clear B6
                go_wp2_with fail
                refine Calls.mono con.out ?_
                rintro e w7 ⟨rfl, B7⟩
                have con := Lib.hid (lsame_any B7 K)
                clear B7
                go_wp2_with fail
                refine Calls.mono con.out ?_
                rintro e w8 ⟨rfl, B8⟩
                have con := Lib.hid (works_any w8 (HT.out.below B8.lat.bel HT.out.lt))
                have HB8 := Lib.hid B8
                clear B8
                go_wp2_with fail
                refine Calls.mono con.out ?_
                rintro e w9 ⟨rfl, hb9⟩
                clear con
                go_wp2_with fail
                go_ret
                exact ⟨rfl, HB8.out.lat.bel.trans (hb9.mono HB8.out.lat.bel.size)⟩
end Go.Proofs.YtaikhdmgcffflaaDoor
