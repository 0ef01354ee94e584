/- HelloAgain. -/
import Derived.Test.YtbmeceaefjdpaaaGreatDoorKzo
import Derived.Laws.Closers25b
namespace Go.Proofs.YtbmeceaefjdpaaaGreatDoor
open Go Go.RowKit

def TurnsIn (D : Nat) (w : World) (A : Option Addr) (l : List (Int × Int)) : Prop := ∀ i (hi : i < l.length), ∃ b off, A = some ⟨b, off, none⟩ ∧ b < D ∧ w.cell? ⟨b, off + i * 2, none⟩ = some (.int .i64 l[i].1) ∧ w.cell? ⟨b, off + i * 2 + 1, none⟩ = some (.int .i64 l[i].2)
theorem cell_far (w : World) (g j : Nat) (v : Value) (q : Addr) (hq : q.block ≠ g) : (w.setCell ⟨g, j, none⟩ v).cell? q = w.cell? q := by
  unfold World.cell?
  rw [show (w.setCell ⟨g, j, none⟩ v).heap[q.block]? = w.heap[q.block]? from Below.heap_setCell _ _ _ _ hq]
def zeG : Grt := ⟨0, List.replicate 32 0, [], [], [], [], 0, []⟩
def zeA : Adr := ⟨none, 0, none, 0, none, 0, none, 0⟩
theorem zero_grt : gArr 0 = grtA zeG zeA := rfl
theorem zero_grV (D : Nat) (w : World) : GrV D w zeG zeA :=
  ⟨⟨Nat.le_refl _, fun _ => rfl, fun i hi => absurd hi (Nat.not_lt_zero i)⟩, fun i hi => absurd hi (Nat.not_lt_zero i), ⟨Nat.le_refl _, fun _ => rfl, fun i hi => absurd hi (Nat.not_lt_zero i)⟩, fun i hi => absurd hi (Nat.not_lt_zero i), Nat.zero_le _, Nat.zero_le _, Nat.zero_le _, Nat.zero_le _, Nat.zero_le _, rfl⟩
theorem low_ne {G : Grt} (h : okG G = true) : lowV G.host ≠ [] := fun e => by
  have hH := (mayG_iff (okG_iff h).1).2.2.2.2.1
  rw [lowV_some hH] at e
  unfold isH at hH
  rw [e] at hH
  revert hH
  decide +kernel
theorem wpList_build70G {ops : Array Oper} {rest : List Oper} {o : Oper} {a : Act} {w : World} {Q : Exit → Act → World → Prop} (hw : Region.wanted o (yielded ops a.tmps) = true) (ho : o.op = .build 28 #[])
    (h : wpList Tryz.prog ops Q rest (a.put o.dst (.agg (gArr 0))) w) : wpList Tryz.prog ops Q (o :: rest) a w := by
  refine wpList_step fun K hK => ?_
  rw [if_pos hw]
  refine wp_build 28 #[] ho ?_ ?_
  · simp only [List.map_toArray, List.map_nil, built70, Option.isSome_some]
  · simp only [List.map_toArray, List.map_nil, built70, Option.getD_some]
    exact hK _ _ h
theorem same_zero (w : World) : Calls Tryz.prog 22 #[.agg (gArr 0), .agg (gArr 0)] w (BoolP true w) := by
  rw [zero_grt]
  exact lsame_any (zero_grV _ w) (zero_grV _ w)
theorem xor_byte (a b : Int) : ∃ y : UInt8, Go.bits .xor .u8 a b = (y.toNat : Int) := by
  have h := bits_within .xor .u8 a b
  have h1 : 0 ≤ Go.bits .xor .u8 a b := h.1
  have h2 : Go.bits .xor .u8 a b ≤ 255 := h.2
  refine ⟨UInt8.ofNat (Go.bits .xor .u8 a b).toNat, ?_⟩
  rw [UInt8.toNat_ofNat']
  omega
set_option maxRecDepth 100000 in
set_option maxHeartbeats 1000000 in
theorem helloAgain_any {w : World} (hG : Gl w) {A0 : Option Addr} {c0 : Nat} {bs : List UInt8} (hb0 : Rb w.heap.size w A0 c0 bs) {s : Sed} (h : SedV w.heap.size w s) {A2 : Option Addr} {c2 : Nat} {tu : List (Int × Int)} (ht : TurnsIn w.heap.size w A2 tu) :
    Calls Tryz.prog 6 #[.slice A0 bs.length c0, .agg (sedA s), .slice A2 tu.length c2] w (BoolP true w) := by
  have x0 := below_new w (.cells (sedA s) 46)
  have CM := Lib.hid (made_any (h.below x0))
  have HR := Lib.hid (heap_alloc_new w (.cells (sedA s) 46))
  have HGI := Lib.hid (infoSd s)
  have X0 := Lib.hid x0
  have HG := Lib.hid hG
  have HB0 := Lib.hid fun (wx : World) (hb : Below w.heap.size w wx) => hb0.keep (w' := wx) fun k hk => hb.block k hk
  have HTU := Lib.hid ht
  obtain ⟨mn, hmn⟩ : ∃ x, x = min bs.length 1500 := ⟨_, rfl⟩
  have HMN : Hid (min (bs.length : Int) 1500 = mn) := Lib.hid (by omega)
  have m0 : mn ≤ c0 := by have := hb0.cap; omega
  have HMT : Hid ((bs.take mn).length = mn ∧ mn ≤ 1500) := Lib.hid (by rw [List.length_take]; omega)
  clear x0 h hG hb0 hmn ht
  generalize bs.length = bl at *
  go_enter Tryz.func6, Tryz.ntmps6
  go_wp2_with (refine wpList_load_row rfl 46 (.tmp 4) rfl w.heap.size rfl 46 _ (0, 0) _ HR.out Tryz.underlying46 rfl HGI.out ?_)
  refine CM.out.mono ?_
  rintro e w1 ⟨G, ad, hh, rfl, hok, hlow, hne, hgr, hd, hb⟩
  have hb1 := below_new w1 (.cells (grtA G ad) 28)
  have B1 := X0.out.trans (hb.mono X0.out.size)
  have B2 := Lib.hid (B1.trans (hb1.mono B1.size))
  have CW := Lib.hid (write_prog7 (hgr.below hb1) (HG.out.below B2.out) hd)
  have HGI2 := Lib.hid (infoGA G ad)
  have HGO := Lib.hid (grtA_one G ad)
  have HR2 := Lib.hid (heap_alloc_new w1 (.cells (grtA G ad) 28))
  have HOK := Lib.hid hok
  clear hok hlow hne hgr hd hb hb1 B1 CM HR HGI X0
  go_wp2_with (first
    | (refine wpList_alloc7 rfl rfl w1.heap.size rfl ?_)
    | (refine wpList_store_row rfl 28 (.tmp 7) (.tmp 23) rfl w1.heap.size (grtA G ad) rfl rfl 28 _ (heap_alloc_new w1 _) HGI2.out rfl HGO.out ?_; rw [World.setRow_alloc_new])
    | (refine wpList_load_row rfl 28 (.tmp 7) rfl w1.heap.size rfl 28 _ (0, 0) _ HR2.out Tryz.underlying28 rfl HGI2.out ?_))
  refine CW.out.mono ?_
  rintro e w3 ⟨hw1, _⟩
  obtain ⟨A, c, rfl, hr, hb3⟩ := hw1 HOK.out
  have R3 := Lib.hid hr
  have B3 := Lib.hid (B2.out.trans (hb3.mono B2.out.size))
  have HW2 : Hid (w.heap.size ≤ (w1.alloc (.cells (grtA G ad) 28)).heap.size) := Lib.hid B2.out.size
  obtain ⟨n, hn⟩ : ∃ n, n = (recG G).length := ⟨_, rfl⟩
  have hrl := rec_len HOK.out
  have HN : Hid ((recG G).length = n) := Lib.hid hn.symm
  have hn9 : 9 ≤ n := by omega
  have hn1 : n ≤ 16389 := by omega
  rw [HN.out]
  clear hr hb3 hw1 CW HGI2 HGO HR2 B2 hrl hn HOK
  generalize w1.alloc (.cells (grtA G ad) 28) = w2 at *
  generalize w2.heap.size = base at *
  generalize recG G = B at *
  obtain ⟨g, rfl⟩ := R3.out.some' (by rw [HN.out]; omega)
  have n0 : ((n : Int) == 0) = false := by simp; omega
  go_wp2_with fail
  go_loopw [11] (fun v wr => ∃ (i : Nat) (X : List UInt8), i ≤ 4 ∧ v = .int .i64 i ∧ Hid (X.length = n ∧ RowG wr base (some ⟨g, 0, none⟩) c X ∧ Below w.heap.size w wr)) (fun v _ => 4 - (intOf v).toNat)
  case atStart => exact ⟨0, B, by omega, rfl, Lib.hid ⟨HN.out, R3.out, B3.out⟩⟩
  case round =>
    obtain ⟨i, X, hi, rfl, hst⟩ := hrel
    clear R3 B3 HN
    by_cases hlt : i < tu.length ∧ i < 4
    · obtain ⟨hlt1, hlt2⟩ := hlt
      obtain ⟨b, off, rfl, hbl, e0, e1⟩ := HTU.out i hlt1
      have f0 := (hst.out.2.2.cell (p := ⟨b, off + i * 2, none⟩) hbl).trans e0
      have f1 := (hst.out.2.2.cell (p := ⟨b, off + i * 2 + 1, none⟩) hbl).trans e1
      have q0 : (0 : Int) ≤ i := by omega
      have q1 : (i : Int) < tu.length := by omega
      have q2 : (i : Int) < 4 := by omega
      generalize tu[i].1 = y0 at *
      generalize tu[i].2 = y1 at *
      clear e0 e1
      have hk0 := Int.emod_nonneg y0 (show (n : Int) ≠ 0 by omega)
      have hk1 := Int.emod_lt_of_pos y0 (show (0 : Int) < n by omega)
      have B5 := Lib.hid fun w => bring_any y0 n w (by omega) (by omega)
      obtain ⟨kk, hkk⟩ : ∃ x : Nat, y0 % (n : Int) = (x : Int) := ⟨(y0 % (n : Int)).toNat, by omega⟩
      rw [hkk] at B5
      have k1 : (0 : Int) ≤ kk := by omega
      have k2 : (kk : Int) < n := by omega
      have hkl : kk < X.length := by rw [hst.out.1]; omega
      obtain ⟨y, hy⟩ := xor_byte (X[kk].toNat : Int) (y1 % 256)
      obtain ⟨p1, p2, p3⟩ := (hst.out.2.1.below (below_drewN (Below.refl _ _) 1)).put kk hkl y (Go.bits .xor .u8 (X[kk].toNat : Int) (y1 % 256)) hy
      have hgl : base ≤ g := (hst.out.2.1.lt rfl).1
      have HNE : Hid (g ≠ b) := Lib.hid (by have := HW2.out; omega)
      have HE : Hid ((X.set kk y).length = n ∧ RowG (wr.drew.setCell ⟨g, kk, none⟩ (.int .u8 (Go.bits .xor .u8 (X[kk].toNat : Int) (y1 % 256)))) base (some ⟨g, 0, none⟩) c (X.set kk y) ∧ Below w.heap.size w (wr.drew.setCell ⟨g, kk, none⟩ (.int .u8 (Go.bits .xor .u8 (X[kk].toNat : Int) (y1 % 256))))) := Lib.hid ⟨by rw [List.length_set]; exact hst.out.1, p1, (below_drewN hst.out.2.2 1).setCell (p := ⟨g, kk, none⟩) (by show w.heap.size ≤ g; have := HW2.out; omega) _⟩
      have p2' : wr.drew.cell? ⟨g, kk, none⟩ = some (.int .u8 (X[kk].toNat : Int)) := p2
      have p3' : wr.frozen? ⟨g, kk, none⟩ = false := p3
      have p4' : wr.cell? ⟨g, kk, none⟩ = some (.int .u8 (X[kk].toNat : Int)) := p2
      clear hk0 hk1 hkk p1 hy hgl p2
      go_wp2_with fail
      refine wp_region_held_drew (S := fun w' => w'.cell? ⟨b, off + i * 2, none⟩ = some (.int .i64 y0) ∧ w'.cell? ⟨b, off + i * 2 + 1, none⟩ = some (.int .i64 y1)) (by kernel_rfl) ⟨f0, f1⟩ (fun hH => ?_)
      refine wpAnyH_take (i := 0) (v := .slice (some ⟨g, 0, none⟩) n c) rfl (by kernel_rfl) (by kernel_rfl) (by kernel_rfl) (fun _ _ _ h => h) (Or.inl ⟨by rfl, fun w' hw => by go_simp⟩) hH ?_
      refine wpAnyH_take (i := 1) (v := .slice (some ⟨b, off, none⟩) tu.length c2) rfl (by kernel_rfl) (by kernel_rfl) (by kernel_rfl) (fun _ _ _ h => h) (Or.inl ⟨by rfl, fun w' hw => by go_simp⟩) hH ?_
      refine wpAnyH_take (i := 2) (v := .int .i64 i) rfl (by kernel_rfl) (by kernel_rfl) (by kernel_rfl) (fun _ _ _ h => h) (Or.inl ⟨by rfl, fun w' hw => by go_simp⟩) hH ?_
      refine wpAnyH_take (i := 3) (v := .pointer (some ⟨b, off + i * 2, none⟩)) rfl (by kernel_rfl) (by kernel_rfl) (by kernel_rfl) (fun _ _ _ h => h) (Or.inl ⟨by rfl, fun w' hw => by go_simp⟩) hH ?_
      refine wpAnyH_take (i := 4) (v := .pointer (some ⟨b, off + i * 2, none⟩)) rfl (by kernel_rfl) (by kernel_rfl) (by kernel_rfl) (fun _ _ _ h => h) (Or.inl ⟨by rfl, fun w' hw => by go_simp⟩) hH ?_
      refine wpAnyH_take (i := 5) (v := .int .i64 y0) rfl (by kernel_rfl) (by kernel_rfl) (by kernel_rfl) (fun _ _ _ h => h) (Or.inl ⟨by rfl, fun w' hw => by have hc := hw.1; go_simp⟩) hH ?_
      refine wpAnyH_take (i := 6) (v := .slice (some ⟨g, 0, none⟩) n c) rfl (by kernel_rfl) (by kernel_rfl) (by kernel_rfl) (fun _ _ _ h => h) (Or.inl ⟨by rfl, fun w' hw => by go_simp⟩) hH ?_
      refine wpAnyH_take (i := 7) (v := .int .i64 n) rfl (by kernel_rfl) (by kernel_rfl) (by kernel_rfl) (fun _ _ _ h => h) (Or.inl ⟨by rfl, fun w' hw => by go_simp⟩) hH ?_
      refine wpAnyH_take (i := 11) (v := .slice (some ⟨b, off, none⟩) tu.length c2) rfl (by kernel_rfl) (by kernel_rfl) (by kernel_rfl) (fun _ _ _ h => h) (Or.inl ⟨by rfl, fun w' hw => by go_simp⟩) hH ?_
      refine wpAnyH_take (i := 12) (v := .int .i64 i) rfl (by kernel_rfl) (by kernel_rfl) (by kernel_rfl) (fun _ _ _ h => h) (Or.inl ⟨by rfl, fun w' hw => by go_simp⟩) hH ?_
      refine wpAnyH_take (i := 13) (v := .pointer (some ⟨b, off + i * 2, none⟩)) rfl (by kernel_rfl) (by kernel_rfl) (by kernel_rfl) (fun _ _ _ h => h) (Or.inl ⟨by rfl, fun w' hw => by go_simp⟩) hH ?_
      refine wpAnyH_take (i := 14) (v := .pointer (some ⟨b, off + i * 2 + 1, none⟩)) rfl (by kernel_rfl) (by kernel_rfl) (by kernel_rfl) (fun _ _ _ h => h) (Or.inl ⟨by rfl, fun w' hw => by go_simp⟩) hH ?_
      refine wpAnyH_take (i := 15) (v := .int .i64 y1) rfl (by kernel_rfl) (by kernel_rfl) (by kernel_rfl) (fun _ _ _ h => h) (Or.inl ⟨by rfl, fun w' hw => by have hc := hw.2; go_simp⟩) hH ?_
      refine wpAnyH_take (i := 16) (v := .int .u8 (IntKind.u8.wrap y1)) rfl (by kernel_rfl) (by kernel_rfl) (by kernel_rfl) (fun _ _ _ h => h) (Or.inl ⟨by rfl, fun w' hw => by go_simp⟩) hH ?_
      refine wpAnyH_ready (rs := [8]) (by kernel_rfl) (by simp) (AllReadyH.cons rfl (fun K hK => ?_) AllReadyH.nil)
      go_simp
      refine (B5.out _).mono ?_
      rintro e wx ⟨rfl, rfl⟩
      refine hK.out _ _ hH (fun hH => ?_)
      clear hK K
      refine wpAnyH_take (i := 9) (v := .pointer (some ⟨g, kk, none⟩)) rfl (by kernel_rfl) (by kernel_rfl) (by kernel_rfl) (fun _ _ _ h => h) (Or.inl ⟨by rfl, fun w' hw => by go_simp⟩) hH ?_
      refine wpAnyH_ready (rs := [10]) (by kernel_rfl) (by simp) (AllReadyH.cons rfl (fun K hK => ?_) AllReadyH.nil)
      go_simp
      refine hK.out _ _ hH (fun hH => ?_)
      clear hK K
      refine wpAnyH_take (i := 17) (v := .int .u8 (Go.bits .xor .u8 (X[kk].toNat : Int) (IntKind.u8.wrap y1))) rfl (by kernel_rfl) (by kernel_rfl) (by kernel_rfl) (fun _ _ _ h => h) (Or.inl ⟨by rfl, fun w' hw => by go_simp⟩) hH ?_
      refine wpAnyH_take (i := 18) (v := .pointer (some ⟨g, kk, none⟩)) rfl (by kernel_rfl) (by kernel_rfl) (by kernel_rfl) (fun _ _ _ h => h) (Or.inl ⟨by rfl, fun w' hw => by go_simp⟩) hH ?_
      refine wpAnyH_ready (rs := [19]) (by kernel_rfl) (by simp) (AllReadyH.cons rfl (fun K hK => ?_) AllReadyH.nil)
      go_simp
      refine hK.out _ _ ⟨(cell_far _ _ _ _ ⟨b, off + i * 2, none⟩ (fun e => HNE.out e.symm)).trans hH.1, (cell_far _ _ _ _ ⟨b, off + i * 2 + 1, none⟩ (fun e => HNE.out e.symm)).trans hH.2⟩ (fun hH => ?_)
      clear hK K
      refine wpAnyH_done (by kernel_rfl) ?_ _
      go_wp2_with fail
      go_roundw
      case rel => exact ⟨i + 1, _, by omega, by go_num, HE⟩
      case measure => simp [intOf]; omega
    · have hcs : (¬ (i : Int) < tu.length) ∨ ((i : Int) < tu.length ∧ ¬ (i : Int) < 4) := by omega
      clear hlt HTU
      have hmn := HMN.out
      have HX : Hid (∀ wx, Below wr.heap.size wr wx → Rb wx.heap.size wx A0 c0 (bs.take mn) ∧ Rb wx.heap.size wx (some ⟨g, 0, none⟩) c X ∧ X.length = n ∧ Below w.heap.size w wx) := Lib.hid fun wx hb => by
        have hB := hst.out.2.2.trans (hb.mono hst.out.2.2.size)
        exact ⟨((HB0.out wx hB).take mn).mono hB.size, (hst.out.2.1.below hb).rb, hst.out.1, hB⟩
      clear hst HB0
      rcases hcs with hlt | ⟨hlt, hlt2⟩
      all_goals
        go_wp2_with (refine wpList_sliceB rfl (.tmp 66) (.tmp 69) rfl A0 bl c0 mn rfl rfl m0 ?_)
        have hbn := below_new wr (.cells #[.slice A0 mn c0, .slice (some ⟨g, 0, none⟩) n c] 22)
        have HRW := Lib.hid (heap_alloc_new wr (.cells #[.slice A0 mn c0, .slice (some ⟨g, 0, none⟩) n c] 22))
        have BW := Lib.hid hbn
        have HLT : Hid (wr.heap.size < (wr.alloc (.cells #[.slice A0 mn c0, .slice (some ⟨g, 0, none⟩) n c] 22)).heap.size) := Lib.hid (by simp)
        generalize wr.alloc (.cells #[.slice A0 mn c0, .slice (some ⟨g, 0, none⟩) n c] 22) = w5 at *
        clear hbn
        generalize hq0 : wr.heap.size = q0 at *
        clear hq0
        go_loopw [13] (fun v wr => ∃ i : Nat, i ≤ 2 ∧ v = .int .i64 i ∧ Hid (Below w5.heap.size w5 wr)) (fun v _ => 2 - (intOf v).toNat)
        case atStart => exact ⟨0, by omega, rfl, Lib.hid (Below.refl _ _)⟩
        case round =>
          obtain ⟨i, hi, rfl, hbx⟩ := hrel
          have hB5 := BW.out.trans (hbx.out.mono (Nat.le_of_lt HLT.out))
          obtain ⟨rb0, rb1, hXl, hBw⟩ := HX.out wr hB5
          have HRX := (hbx.out.block _ HLT.out).trans HRW.out
          have hi3 : i = 0 ∨ i = 1 ∨ i = 2 := by omega
          clear hi hB5
          rcases hi3 with rfl | rfl | rfl
          · clear rb1 hXl
            have c0' : wr.cell? ⟨q0, 0, none⟩ = some (.slice A0 mn c0) := (row_cell HRX 0).1
            have hLl : (bs.take mn).length = mn := HMT.out.1
            have RB := Lib.hid rb0
            have hcp := parse_prog (c := c0) RB.out (Nat.le_refl _) (by rw [hLl]; have := HMT.out.2; omega) (HG.out.below hBw)
            rw [hLl] at hcp
            have CP := Lib.hid hcp
            have HLL := Lib.hid hLl
            have HBW := Lib.hid hBw
            have HRX' := Lib.hid HRX
            clear hcp hLl hBw
            go_wp2_with fail
            refine CP.out.mono ?_
            intro e w6 hh
            cases hp : parG (bs.take mn) with
            | none =>
              obtain ⟨rfl, hb6⟩ := hh.1 hp
              have hb7 := below_new w6 (.cells (gArr 0) 28)
              have E7 := Lib.hid (hb6.trans (hb7.mono hb6.size))
              have B7 := Lib.hid (HBW.out.trans (E7.out.mono HBW.out.size))
              have hcs := sni_prog (c := c0) ((RB.out.keep fun k hk => E7.out.block k hk).mono E7.out.size) (Nat.le_refl _) (by rw [HLL.out]; have := HMT.out.2; omega) (HG.out.below B7.out)
              rw [HLL.out] at hcs
              have CS := Lib.hid hcs
              have d7 := (row_cell ((E7.out.block _ (lt_of_block HRX'.out)).trans HRX'.out) 0).1
              have HR7 := Lib.hid (heap_alloc_new w6 (.cells (gArr 0) 28))
              have HL7 : Hid (w6.heap.size < (w6.alloc (.cells (gArr 0) 28)).heap.size) := Lib.hid (by simp)
              have HP := Lib.hid hp
              have d7 : (w6.alloc (.cells (gArr 0) 28)).cell? ⟨q0, 0, none⟩ = some (.slice A0 mn c0) := d7
              clear hh hp hb6 hb7 hcs CP RB HRX HRX'
              go_wp2_with (first
                | (refine wpList_alloc7 rfl rfl w6.heap.size rfl ?_)
                | (refine wpList_store_row rfl 28 (.tmp 14) (.tmp 83) rfl w6.heap.size (gArr 0) rfl rfl 28 _ (heap_alloc_new w6 _) (gArr_info 0) rfl (gArr_one 0) ?_; rw [World.setRow_alloc_new]))
              refine CS.out.mono ?_
              generalize hq6 : w6.heap.size = q6 at *
              clear hq6
              generalize w6.alloc (.cells (gArr 0) 28) = w7 at *
              intro e w8 h8
              obtain rfl := h8.1 HP.out
              have hb8 := h8.2.2
              have HR8 := Lib.hid ((hb8.block q6 HL7.out).trans HR7.out)
              have E8 := Lib.hid (E7.out.trans (hb8.mono E7.out.size))
              have CSm := Lib.hid (same_zero w8)
              clear h8 hb8 CS d7 HR7 HL7 B7 E7
              go_wp2_with (first
                | (refine wpList_load_rowG (by rfl) 28 (.tmp 14) rfl q6 rfl 28 _ (0, 0) _ HR8.out Tryz.underlying28 rfl (gArr_info 0) ?_)
                | (refine wpList_build70G (by rfl) rfl ?_))
              refine CSm.out.mono ?_
              rintro e w9 ⟨rfl, hb9⟩
              have E9 := Lib.hid (hbx.out.trans ((E8.out.trans (hb9.mono E8.out.size)).mono hbx.out.size))
              clear hb9 CSm E8 HR8
              go_wp2_with fail
              go_roundw
              case rel => exact ⟨0 + 1, by omega, by go_num, E9⟩
              case measure => simp [intOf]
            | some G' =>
              obtain ⟨a', rfl, hb6, hg6, hx6⟩ := hh.2 G' hp
              obtain ⟨hok', hrec, hrl'⟩ := parG_ok hp
              have hb7 := below_new w6 (.cells (grtA G' a') 28)
              have E7 := Lib.hid (hb6.trans (hb7.mono hb6.size))
              have B7 := Lib.hid (HBW.out.trans (E7.out.mono HBW.out.size))
              have hcs := sni_prog (c := c0) ((RB.out.keep fun k hk => E7.out.block k hk).mono E7.out.size) (Nat.le_refl _) (by rw [HLL.out]; have := HMT.out.2; omega) (HG.out.below B7.out)
              rw [HLL.out] at hcs
              have CS := Lib.hid hcs
              have HRZ := Lib.hid ((E7.out.block _ (lt_of_block HRX'.out)).trans HRX'.out)
              have d7 : (w6.alloc (.cells (grtA G' a') 28)).cell? ⟨q0, 0, none⟩ = some (.slice A0 mn c0) := (row_cell HRZ.out 0).1
              have HR7 := Lib.hid (heap_alloc_new w6 (.cells (grtA G' a') 28))
              have HL7 : Hid (w6.heap.size < (w6.alloc (.cells (grtA G' a') 28)).heap.size) := Lib.hid (by simp)
              have HG7 := Lib.hid ((hg6.grV fun _ hk => hk.2 : GrV w6.heap.size w6 G' a').below hb7)
              have RB7 := Lib.hid ((RB.out.keep fun k hk => E7.out.block k hk).mono E7.out.size)
              have HP := Lib.hid hp
              have HOK := Lib.hid hok'
              have HREC := Lib.hid hrec
              have HX6 := Lib.hid hx6
              have HGI3 := Lib.hid (infoGA G' a')
              have HGO3 := Lib.hid (grtA_one G' a')
              clear hh hp hb6 hb7 hcs CP RB HRX HRX' hok' hrec hrl' hg6 hx6
              go_wp2_with (first
                | (refine wpList_alloc7 rfl rfl w6.heap.size rfl ?_)
                | (refine wpList_store_row rfl 28 (.tmp 14) (.tmp 83) rfl w6.heap.size (grtA G' a') rfl rfl 28 _ (heap_alloc_new w6 _) HGI3.out rfl HGO3.out ?_; rw [World.setRow_alloc_new]))
              refine CS.out.mono ?_
              generalize hq6 : w6.heap.size = q6 at *
              clear hq6
              generalize w6.alloc (.cells (grtA G' a') 28) = w7 at *
              intro e w8 h8
              obtain rfl := h8.2.1 G' HP.out
              have hb8 := h8.2.2
              have HR8 := Lib.hid ((hb8.block q6 HL7.out).trans HR7.out)
              have E8 := Lib.hid (E7.out.trans (hb8.mono E7.out.size))
              have B8 := Lib.hid (B7.out.trans (hb8.mono B7.out.size))
              have CW8 := Lib.hid (write_prog7 (HG7.out.below hb8) (HG.out.below B8.out) HX6.out)
              have HRZ8 := Lib.hid ((hb8.block _ (lt_of_block HRZ.out)).trans HRZ.out)
              have RB8 := Lib.hid ((RB7.out.keep fun k hk => hb8.block k hk).mono hb8.size)
              have HNE := Lib.hid (low_ne HOK.out)
              generalize lowV G'.host = hv at *
              clear h8 hb8 CS d7 HR7 HL7 B7 E7 HG7 RB7 HRZ
              go_wp2_with (refine wpList_load_row rfl 28 (.tmp 14) rfl q6 rfl 28 _ (0, 0) _ HR8.out Tryz.underlying28 rfl HGI3.out ?_)
              refine CW8.out.mono ?_
              rintro e w9 ⟨hw9, _⟩
              obtain ⟨A9, c9, rfl, hr9, hb9⟩ := hw9 HOK.out
              rw [HREC.out] at hr9 ⊢
              rw [HLL.out]
              have E9 := Lib.hid (hbx.out.trans ((E8.out.trans (hb9.mono E8.out.size)).mono hbx.out.size))
              have hce := eqSame (c := c9) (d := c0) hr9.rb ((RB8.out.keep fun k hk => hb9.block k hk).mono hb9.size)
              rw [HLL.out] at hce
              have CE := Lib.hid hce
              have d9 : w9.cell? ⟨q0, 0, none⟩ = some (.slice A0 mn c0) := (row_cell ((hb9.block _ (lt_of_block HRZ8.out)).trans HRZ8.out) 0).1
              have hse : hv.isEmpty = false := by
                cases hv with
                | nil => exact absurd rfl HNE.out
                | cons x y => rfl
              clear hw9 hr9 hb9 hce CW8 E8 B8 HRZ8 RB8 HR8
              go_wp2_with (go_at_call 14; refine (CE.out).mono ?_; rintro e w' ⟨rfl, rfl⟩)
              exact ⟨⟨0 + 1, by omega, rfl, E9⟩, by simp [intOf]⟩
          · clear rb0
            have c0' : wr.cell? ⟨q0, 1, none⟩ = some (.slice (some ⟨g, 0, none⟩) n c) := (row_cell HRX 1).1
            have hLl : (X).length = n := hXl
            have RB := Lib.hid rb1
            have hcp := parse_prog (c := c) RB.out (Nat.le_refl _) (by rw [hLl]; omega) (HG.out.below hBw)
            rw [hLl] at hcp
            have CP := Lib.hid hcp
            have HLL := Lib.hid hLl
            have HBW := Lib.hid hBw
            have HRX' := Lib.hid HRX
            clear hcp hLl hBw
            go_wp2_with fail
            refine CP.out.mono ?_
            intro e w6 hh
            cases hp : parG (X) with
            | none =>
              obtain ⟨rfl, hb6⟩ := hh.1 hp
              have hb7 := below_new w6 (.cells (gArr 0) 28)
              have E7 := Lib.hid (hb6.trans (hb7.mono hb6.size))
              have B7 := Lib.hid (HBW.out.trans (E7.out.mono HBW.out.size))
              have hcs := sni_prog (c := c) ((RB.out.keep fun k hk => E7.out.block k hk).mono E7.out.size) (Nat.le_refl _) (by rw [HLL.out]; omega) (HG.out.below B7.out)
              rw [HLL.out] at hcs
              have CS := Lib.hid hcs
              have d7 := (row_cell ((E7.out.block _ (lt_of_block HRX'.out)).trans HRX'.out) 1).1
              have HR7 := Lib.hid (heap_alloc_new w6 (.cells (gArr 0) 28))
              have HL7 : Hid (w6.heap.size < (w6.alloc (.cells (gArr 0) 28)).heap.size) := Lib.hid (by simp)
              have HP := Lib.hid hp
              have d7 : (w6.alloc (.cells (gArr 0) 28)).cell? ⟨q0, 1, none⟩ = some (.slice (some ⟨g, 0, none⟩) n c) := d7
              clear hh hp hb6 hb7 hcs CP RB HRX HRX'
              go_wp2_with (first
                | (refine wpList_alloc7 rfl rfl w6.heap.size rfl ?_)
                | (refine wpList_store_row rfl 28 (.tmp 14) (.tmp 83) rfl w6.heap.size (gArr 0) rfl rfl 28 _ (heap_alloc_new w6 _) (gArr_info 0) rfl (gArr_one 0) ?_; rw [World.setRow_alloc_new]))
              refine CS.out.mono ?_
              generalize hq6 : w6.heap.size = q6 at *
              clear hq6
              generalize w6.alloc (.cells (gArr 0) 28) = w7 at *
              intro e w8 h8
              obtain rfl := h8.1 HP.out
              have hb8 := h8.2.2
              have HR8 := Lib.hid ((hb8.block q6 HL7.out).trans HR7.out)
              have E8 := Lib.hid (E7.out.trans (hb8.mono E7.out.size))
              have CSm := Lib.hid (same_zero w8)
              clear h8 hb8 CS d7 HR7 HL7 B7 E7
              go_wp2_with (first
                | (refine wpList_load_rowG (by rfl) 28 (.tmp 14) rfl q6 rfl 28 _ (0, 0) _ HR8.out Tryz.underlying28 rfl (gArr_info 0) ?_)
                | (refine wpList_build70G (by rfl) rfl ?_))
              refine CSm.out.mono ?_
              rintro e w9 ⟨rfl, hb9⟩
              have E9 := Lib.hid (hbx.out.trans ((E8.out.trans (hb9.mono E8.out.size)).mono hbx.out.size))
              clear hb9 CSm E8 HR8
              go_wp2_with fail
              go_roundw
              case rel => exact ⟨1 + 1, by omega, by go_num, E9⟩
              case measure => simp [intOf]
            | some G' =>
              obtain ⟨a', rfl, hb6, hg6, hx6⟩ := hh.2 G' hp
              obtain ⟨hok', hrec, hrl'⟩ := parG_ok hp
              have hb7 := below_new w6 (.cells (grtA G' a') 28)
              have E7 := Lib.hid (hb6.trans (hb7.mono hb6.size))
              have B7 := Lib.hid (HBW.out.trans (E7.out.mono HBW.out.size))
              have hcs := sni_prog (c := c) ((RB.out.keep fun k hk => E7.out.block k hk).mono E7.out.size) (Nat.le_refl _) (by rw [HLL.out]; omega) (HG.out.below B7.out)
              rw [HLL.out] at hcs
              have CS := Lib.hid hcs
              have HRZ := Lib.hid ((E7.out.block _ (lt_of_block HRX'.out)).trans HRX'.out)
              have d7 : (w6.alloc (.cells (grtA G' a') 28)).cell? ⟨q0, 1, none⟩ = some (.slice (some ⟨g, 0, none⟩) n c) := (row_cell HRZ.out 1).1
              have HR7 := Lib.hid (heap_alloc_new w6 (.cells (grtA G' a') 28))
              have HL7 : Hid (w6.heap.size < (w6.alloc (.cells (grtA G' a') 28)).heap.size) := Lib.hid (by simp)
              have HG7 := Lib.hid ((hg6.grV fun _ hk => hk.2 : GrV w6.heap.size w6 G' a').below hb7)
              have RB7 := Lib.hid ((RB.out.keep fun k hk => E7.out.block k hk).mono E7.out.size)
              have HP := Lib.hid hp
              have HOK := Lib.hid hok'
              have HREC := Lib.hid hrec
              have HX6 := Lib.hid hx6
              have HGI3 := Lib.hid (infoGA G' a')
              have HGO3 := Lib.hid (grtA_one G' a')
              clear hh hp hb6 hb7 hcs CP RB HRX HRX' hok' hrec hrl' hg6 hx6
              go_wp2_with (first
                | (refine wpList_alloc7 rfl rfl w6.heap.size rfl ?_)
                | (refine wpList_store_row rfl 28 (.tmp 14) (.tmp 83) rfl w6.heap.size (grtA G' a') rfl rfl 28 _ (heap_alloc_new w6 _) HGI3.out rfl HGO3.out ?_; rw [World.setRow_alloc_new]))
              refine CS.out.mono ?_
              generalize hq6 : w6.heap.size = q6 at *
              clear hq6
              generalize w6.alloc (.cells (grtA G' a') 28) = w7 at *
              intro e w8 h8
              obtain rfl := h8.2.1 G' HP.out
              have hb8 := h8.2.2
              have HR8 := Lib.hid ((hb8.block q6 HL7.out).trans HR7.out)
              have E8 := Lib.hid (E7.out.trans (hb8.mono E7.out.size))
              have B8 := Lib.hid (B7.out.trans (hb8.mono B7.out.size))
              have CW8 := Lib.hid (write_prog7 (HG7.out.below hb8) (HG.out.below B8.out) HX6.out)
              have HRZ8 := Lib.hid ((hb8.block _ (lt_of_block HRZ.out)).trans HRZ.out)
              have RB8 := Lib.hid ((RB7.out.keep fun k hk => hb8.block k hk).mono hb8.size)
              have HNE := Lib.hid (low_ne HOK.out)
              generalize lowV G'.host = hv at *
              clear h8 hb8 CS d7 HR7 HL7 B7 E7 HG7 RB7 HRZ
              go_wp2_with (refine wpList_load_row rfl 28 (.tmp 14) rfl q6 rfl 28 _ (0, 0) _ HR8.out Tryz.underlying28 rfl HGI3.out ?_)
              refine CW8.out.mono ?_
              rintro e w9 ⟨hw9, _⟩
              obtain ⟨A9, c9, rfl, hr9, hb9⟩ := hw9 HOK.out
              rw [HREC.out] at hr9 ⊢
              rw [HLL.out]
              have E9 := Lib.hid (hbx.out.trans ((E8.out.trans (hb9.mono E8.out.size)).mono hbx.out.size))
              have hce := eqSame (c := c9) (d := c) hr9.rb ((RB8.out.keep fun k hk => hb9.block k hk).mono hb9.size)
              rw [HLL.out] at hce
              have CE := Lib.hid hce
              have d9 : w9.cell? ⟨q0, 1, none⟩ = some (.slice (some ⟨g, 0, none⟩) n c) := (row_cell ((hb9.block _ (lt_of_block HRZ8.out)).trans HRZ8.out) 1).1
              have hse : hv.isEmpty = false := by
                cases hv with
                | nil => exact absurd rfl HNE.out
                | cons x y => rfl
              clear hw9 hr9 hb9 hce CW8 E8 B8 HRZ8 RB8 HR8
              go_wp2_with (go_at_call 14; refine (CE.out).mono ?_; rintro e w' ⟨rfl, rfl⟩)
              exact ⟨⟨1 + 1, by omega, rfl, E9⟩, by simp [intOf]⟩
          · have CW := Lib.hid (works_any _ (HG.out.below hBw))
            have HBW := Lib.hid hBw
            clear rb0 rb1 hXl hBw HRX
            go_wp2_with fail
            refine CW.out.mono ?_
            rintro e w6 ⟨rfl, hb6⟩
            have B6 := Lib.hid (HBW.out.trans (hb6.mono HBW.out.size))
            clear hb6 CW
            go_wp2_with fail
            go_ret
            exact ⟨rfl, B6.out⟩
end Go.Proofs.YtbmeceaefjdpaaaGreatDoor
