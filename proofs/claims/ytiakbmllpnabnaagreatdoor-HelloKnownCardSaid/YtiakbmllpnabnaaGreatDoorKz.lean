/- The program's reader: read. -/
import Derived.Test.YtiakbmllpnabnaaGreatDoorKy
import Derived.Test.YtiakbmllpnabnaaGreatDoorKi
import Derived.Deep.WholeRow
namespace Go.Proofs.YtiakbmllpnabnaaGreatDoor
open Go Go.RowKit

/-- what stands while a hello is read: the block of the result -/
structure Rst (w W : World) : Prop where
  bl : Below w.heap.size w W
  sh : Shp W w.heap.size
  lt : w.heap.size < W.heap.size
theorem Rst.kp {w W W' : World} {g : Nat} (h : Rst w W) (hk : Kp g W.heap.size W W') (hg : w.heap.size < g) : Rst w W' :=
  ⟨h.bl.trans (hk.to (Nat.le_of_lt hg) (Nat.le_of_lt h.lt)), h.sh.keep (hk.block _ h.lt (Nat.ne_of_lt hg)), Nat.lt_of_lt_of_le h.lt hk.size⟩
theorem Rst.below {w W W' : World} {b : Nat} (h : Rst w W) (hk : Below b W W') (hb : w.heap.size < b) : Rst w W' :=
  ⟨h.bl.trans (hk.mono (Nat.le_of_lt hb)), h.sh.keep (hk.block _ hb), Nat.lt_of_lt_of_le h.lt hk.size⟩
/-- what read tells -/
def RdG (w : World) (G : Grt) (e : Ending) (w' : World) : Prop := ∃ a : Adr, e = .returned (.agg (grtA G a)) ∧ Below w.heap.size w w' ∧ GrS (New w.heap.size w') w' G a ∧ ∀ x ∈ G.exts, x.2.length ≤ 1000000
theorem outB_no {α : Type} {o : Option α} {w w' : World} {good : α → Ending → World → Prop} (h : o = none) (hb : Below w.heap.size w w') : OutB o w good PanE w' := ⟨fun _ => ⟨rfl, hb⟩, fun x e => by rw [h] at e; cases e⟩
theorem c_none (b : List UInt8) : (c1 b = none → c2 b = none) ∧ (c2 b = none → c3 b = none) ∧ (c3 b = none → c4 b = none) ∧ (c4 b = none → d6 (c4 b) = none) ∧ (d6 (c4 b) = none → d7 (c4 b) = none) ∧ (d7 (c4 b) = none → parG b = none) :=
  ⟨fun h => by unfold c2; rw [h]; exact muN _, fun h => by unfold c3; rw [h]; rfl, fun h => re_none h, fun h => by unfold d6; rw [h]; exact muN _, fun h => re_none h, fun h => by unfold parG; rw [h]⟩
theorem par_at {b B : List UInt8} (h : d7 (c4 b) = some B) : (conG (nmV (c2 b) 1 : Nat) B = none → parG b = none) ∧ ∀ G, conG (nmV (c2 b) 1 : Nat) B = some G → (okG G = true → parG b = some G) ∧ (okG G = false → parG b = none) := by
  unfold parG
  rw [h]
  refine ⟨fun e => ?_, fun G e => ⟨fun e2 => ?_, fun e2 => ?_⟩⟩
  · simp only [e]
  · simp only [e, e2, if_true]
  · simp only [e, e2]; rfl
def gArr (n : Int) : Array Value := (gCells n (List.replicate 32 0) nilS nilS nilS noStr (.int .i64 0) nilS).toArray
theorem gArr_size (n : Int) : (gArr n).size = 39 := rfl
theorem gArr_info (n : Int) : (Tryz.prog.info? 28).map (·.size) = some (gArr n).size := infoG
theorem gArr_one (n : Int) : (gArr n).all (·.oneCell') = true := by kernel_rfl
theorem built7 (n : Int) : Tryz.prog.built 28 [(0, .int .i64 n)] = some (gArr n) := by kernel_rfl
theorem wpList_build7 {ops : Array Oper} {rest : List Oper} {o : Oper} {a : Act} {w : World} {Q : Exit → Act → World → Prop} (hg : o.guard = none) (x : Operand) (n : Int) (ho : o.op = .build 28 #[(0, x)]) (hx : a.eval x = .int .i64 n)
    (h : wpList Tryz.prog ops Q rest (a.put o.dst (.agg (gArr n))) w) : wpList Tryz.prog ops Q (o :: rest) a w := by
  refine wpList_build hg 28 #[(0, x)] ho ?_ ?_
  · simp only [List.map_toArray, List.map_cons, List.map_nil, hx, built7, Option.isSome_some]
  · simp only [List.map_toArray, List.map_cons, List.map_nil, hx, built7, Option.getD_some]
    exact h
theorem below_setRow7 {B g : Nat} {w0 w : World} (hb : Below B w0 w) (hBg : B ≤ g) (cs : Array Value) : Below B w0 (w.setRow g cs) := by
  obtain ⟨h1, h2, h3, h4, h5⟩ := hb
  exact ⟨h1, h2, h3, by rw [size_setRow]; exact h4, fun k hk => (setRow_other _ _ _ _ (by omega)).trans (h5 k hk)⟩
theorem grtA_one (g : Grt) (a : Adr) : (grtA g a).all (·.oneCell') = true := by kernel_rfl
theorem cs_alloc (w : World) (arr : Array Value) (t : TypeId) : Cs (w.alloc (.cells arr t)) w.heap.size arr.toList := by
  refine ⟨by simp, fun j hj => ?_, fun j hj => ?_⟩
  · unfold World.cell?; rw [heap_alloc_new]; simp
  · unfold World.frozen?; rw [heap_alloc_new]; simp
theorem Shp.alloc (w : World) (n : Int) : Shp (w.alloc (.cells (gArr n) 28)) w.heap.size := ⟨gArr n, heap_alloc_new w _, gArr_size n⟩
set_option maxRecDepth 100000 in
set_option maxHeartbeats 1000000 in
theorem read_prog {D : Nat} {w : World} {A : Option Addr} {c : Nat} {b : List UInt8} (h : Rb D w A c b) (hD : D ≤ w.heap.size) (hl : b.length ≤ 1000000) (hG : Gl w) :
    Calls Tryz.prog 29 #[.slice A b.length c] w (OutB (parG b) w (RdG w)) := by
  have hb1 := below_new w (.cells (gArr 0) 28)
  have hS1 : Shp (w.alloc (.cells (gArr 0) 28)) w.heap.size := Shp.alloc w 0
  have hs1 : (w.alloc (.cells (gArr 0) 28)).heap.size = w.heap.size + 1 := by simp
  have hR1 := rdr_new (w.alloc (.cells (gArr 0) 28)) D b A c (by rw [hs1]; omega) (h.keep fun k hk => hb1.block k (by omega)) hl
  have hb2 := below_new (w.alloc (.cells (gArr 0) 28)) (.cells #[.slice A b.length c] 86)
  rw [hs1] at hR1
  have hst : Rst w ((w.alloc (.cells (gArr 0) 28)).alloc (.cells #[.slice A b.length c] 86)) :=
    ⟨hb1.trans (hb2.mono (by rw [hs1]; omega)), hS1.keep (hb2.block _ (by rw [hs1]; omega)), Nat.lt_of_lt_of_le (show w.heap.size < _ by rw [hs1]; exact Nat.lt_succ_self _) hb2.size⟩
  have HR1 := Lib.hid hR1
  have HST := Lib.hid hst
  have HD := Lib.hid hD
  have HGl := Lib.hid hG
  have C1 := Lib.hid (rexpect_any hR1 1 22 (by decide))
  have HC1 : Hid (muC (tkC (some b) 1) (decide (nmV (some b) 1 = 22)) = c1 b) := Lib.hid rfl
  obtain ⟨n1, n2, n3, n4, n6, n7⟩ := c_none b
  have N1 := Lib.hid n1
  have N2 := Lib.hid n2
  have N3 := Lib.hid n3
  have N4 := Lib.hid n4
  have N6 := Lib.hid n6
  have N7 := Lib.hid n7
  clear h hb1 hS1 hs1 hR1 hb2 hst hG n1 n2 n3 n4 n6 n7
  go_enter Tryz.func29, Tryz.ntmps29
  go_wp2_with fail
  have hwg : w.heap.size < w.heap.size + 1 := Nat.lt_succ_self _
  generalize w.heap.size + 1 = g at *
  refine Calls.mono (C1.out) ?_
  intro e w1 hh
  rw [HC1.out] at hh
  cases h1 : c1 b with
  | none =>
    obtain ⟨rfl, hk⟩ := hh.1 h1
    have HX : Hid (parG b = none) := Lib.hid (N7.out (N6.out (N4.out (N3.out (N2.out (N1.out h1))))))
    have B1 := Lib.hid (HST.out.kp hk hwg).bl
    clear hh hk h1 C1 HC1 N1 N2 N3 N4 N6 N7
    go_wp2_with fail
    exact ⟨rfl, outB_no HX.out B1.out⟩
  | some R1 =>
    obtain ⟨rfl, ⟨A1, k1, hr1⟩, hk⟩ := hh.2 R1 h1
    have S1 := Lib.hid (HST.out.kp hk hwg)
    have C2 := Lib.hid (rexpect_any hr1 1 3 (by decide))
    have HC2 : Hid (muC (tkC (some R1) 1) (decide (nmV (some R1) 1 = 3)) = c2 b) := Lib.hid (by unfold c2; rw [h1])
    clear hh hk h1 C1 HC1 N1 HST HR1 hr1
    go_wp2_with fail
    refine C2.out.mono ?_
    intro e w2 hh
    rw [HC2.out] at hh
    cases h2 : c2 b with
    | none =>
      obtain ⟨rfl, hk⟩ := hh.1 h2
      have HX : Hid (parG b = none) := Lib.hid (N7.out (N6.out (N4.out (N3.out (N2.out h2)))))
      have B1 := Lib.hid (S1.out.kp hk hwg).bl
      clear hh hk h2 C2 HC2 N2 N3 N4 N6 N7
      go_wp2_with fail
      exact ⟨rfl, outB_no HX.out B1.out⟩
    | some R2 =>
      obtain ⟨rfl, ⟨A2, k2, hr2⟩, hk⟩ := hh.2 R2 h2
      have S2 := Lib.hid (S1.out.kp hk hwg)
      have C3 := Lib.hid (rnumber_any hr2 1 (by decide))
      have HC3 : Hid (tkC (some R2) 1 = c3 b) := Lib.hid (by unfold c3; rw [h2])
      have HNM : Hid (nmV (c2 b) 1 = nmV (some R2) 1) := Lib.hid (by rw [h2])
      clear hh hk h2 C2 HC2 N2 S1 hr2
      generalize nmV (some R2) 1 = mi at *
      go_wp2_with fail
      refine C3.out.mono ?_
      intro e w3 hh
      rw [HC3.out] at hh
      cases h3 : c3 b with
      | none =>
        obtain ⟨rfl, hk⟩ := hh.1 h3
        have HX : Hid (parG b = none) := Lib.hid (N7.out (N6.out (N4.out (N3.out h3))))
        have B1 := Lib.hid (S2.out.kp hk hwg).bl
        clear hh hk h3 C3 HC3 N3 N4 N6 N7
        go_wp2_with fail
        exact ⟨rfl, outB_no HX.out B1.out⟩
      | some R3 =>
        obtain ⟨rfl, ⟨A3, k3, hr3⟩, hk⟩ := hh.2 R3 h3
        have S3 := Lib.hid (S2.out.kp hk hwg)
        have R3' := Lib.hid hr3
        have HC4 : Hid (reC (some R3) 2 = c4 b) := Lib.hid (by unfold c4; rw [h3])
        clear hh hk h3 C3 HC3 N3 S2 hr3
        go_wp2_with (first
          | (refine wpList_build7 rfl (.tmp 14) mi rfl rfl ?_)
          | (refine wpList_store_row rfl 28 (.tmp 4) (.tmp 15) rfl w3.heap.size (gArr mi) rfl rfl 28 _ (heap_alloc_new w3 _) (gArr_info mi) rfl (gArr_one mi) ?_; rw [World.setRow_alloc_new]))
        have hq3 : w.heap.size < w3.heap.size := S3.out.lt
        have hbn := below_new w3 (.cells (gArr mi) 28)
        have hgw3 : g < w3.heap.size := R3'.out.cs.lt
        have hDq : D ≤ w3.heap.size := by omega
        have S4 := Lib.hid (S3.out.below hbn hq3)
        have R4 := Lib.hid (R3'.out.below hbn)
        have CS4 : Hid (Cs (w3.alloc (.cells (gArr mi) 28)) w3.heap.size (gCells mi (List.replicate 32 0) nilS nilS nilS noStr (.int .i64 0) nilS)) := Lib.hid (cs_alloc w3 (gArr mi) 28)
        have SH4 := Lib.hid (Shp.alloc w3 mi)
        have hqs : w3.heap.size < (w3.alloc (.cells (gArr mi) 28)).heap.size := CS4.out.lt
        have C4 := Lib.hid (rlast_any R4.out 2 (by decide))
        clear hbn S3 R3'
        generalize w3.alloc (.cells (gArr mi) 28) = w4 at *
        generalize w3.heap.size = q at *
        have hgq : q ≠ g := by omega
        refine C4.out.mono ?_
        intro e w5 hh
        rw [HC4.out] at hh
        cases h4 : c4 b with
        | none =>
          obtain ⟨rfl, hk⟩ := hh.1 h4
          have HX : Hid (parG b = none) := Lib.hid (N7.out (N6.out (N4.out h4)))
          have B1 := Lib.hid (S4.out.kp hk hwg).bl
          clear hh hk h4 C4 HC4 N4 N6 N7
          go_wp2_with fail
          exact ⟨rfl, outB_no HX.out B1.out⟩
        | some R5 =>
          obtain ⟨g5, A5, k5, rfl, hr5, hg5, hk⟩ := hh.2 R5 h4
          have hq5 : q < g5 := by omega
          have S5 := Lib.hid (S4.out.kp hk hwg)
          have CS5 := Lib.hid (CS4.out.kp hk hgq)
          have SH5 := Lib.hid (SH4.out.keep (hk.block q hqs hgq))
          have C6 := Lib.hid (rexpect_any hr5 1 1 (by decide))
          have HC6 : Hid (muC (tkC (some R5) 1) (decide (nmV (some R5) 1 = 1)) = d6 (c4 b)) := Lib.hid (by unfold d6; rw [h4])
          clear hh hk h4 C4 HC4 N4 S4 CS4 SH4 R4 hr5 hg5
          go_wp2_with fail
          refine C6.out.mono ?_
          intro e w6 hh
          rw [HC6.out] at hh
          cases h6 : d6 (c4 b) with
          | none =>
            obtain ⟨rfl, hk⟩ := hh.1 h6
            have HX : Hid (parG b = none) := Lib.hid (N7.out (N6.out h6))
            have B1 := Lib.hid (S5.out.kp hk (Nat.lt_trans hq3 hq5)).bl
            clear hh hk h6 C6 HC6 N6 N7
            go_wp2_with fail
            exact ⟨rfl, outB_no HX.out B1.out⟩
          | some R6 =>
            obtain ⟨rfl, ⟨A6, k6, hr6⟩, hk⟩ := hh.2 R6 h6
            have S6 := Lib.hid (S5.out.kp hk (Nat.lt_trans hq3 hq5))
            have CS6 := Lib.hid (CS5.out.kp hk (Nat.ne_of_lt hq5))
            have SH6 := Lib.hid (SH5.out.keep (hk.block q CS5.out.lt (Nat.ne_of_lt hq5)))
            have C7 := Lib.hid (rlast_any hr6 3 (by decide))
            have HC7 : Hid (reC (some R6) 3 = d7 (c4 b)) := Lib.hid (by unfold d7; rw [h6])
            clear hh hk h6 C6 HC6 N6 S5 CS5 SH5 hr6
            go_wp2_with fail
            refine C7.out.mono ?_
            intro e w7 hh
            rw [HC7.out] at hh
            cases h7 : d7 (c4 b) with
            | none =>
              obtain ⟨rfl, hk⟩ := hh.1 h7
              have HX : Hid (parG b = none) := Lib.hid (N7.out h7)
              have B1 := Lib.hid (S6.out.kp hk (Nat.lt_trans hq3 hq5)).bl
              clear hh hk h7 C7 HC7 N7
              go_wp2_with fail
              exact ⟨rfl, outB_no HX.out B1.out⟩
            | some B =>
              obtain ⟨g7, A7, k7, rfl, hr7, hg7, hk⟩ := hh.2 B h7
              have hq7 : q < g7 := by have := CS6.out.lt; omega
              have S7 := Lib.hid (S6.out.kp hk (Nat.lt_trans hq3 hq5))
              have CS7 := Lib.hid (CS6.out.kp hk (Nat.ne_of_lt hq5))
              have SH7 := Lib.hid (SH6.out.keep (hk.block q CS6.out.lt (Nat.ne_of_lt hq5)))
              have CO := Lib.hid (rcontents_any (D0 := q) hr7 CS7.out SH7.out (Nat.ne_of_gt hq7) hDq (Nat.le_of_lt hq7) (Nat.le_refl _))
              have PA := Lib.hid (par_at h7)
              rw [HNM.out] at PA
              clear hh hk h7 C7 HC7 N7 S6 CS6 SH6 hr7 hg7 HNM
              go_wp2_with fail
              refine CO.out.mono ?_
              intro e w8 hh
              unfold ConP at hh
              cases hc : conG mi B with
              | none =>
                obtain ⟨rfl, hb⟩ := hh.1 hc
                have HX : Hid (parG b = none) := Lib.hid (PA.out.1 hc)
                have B1 := Lib.hid (S7.out.below hb hq3).bl
                clear hh hb hc CO PA
                go_wp2_with fail
                exact ⟨rfl, outB_no HX.out B1.out⟩
              | some G =>
                obtain ⟨rfl, hb, a, hcs, hsh, hgr, hxl⟩ := hh.2 G hc
                have PG := Lib.hid (PA.out.2 G hc)
                have S8 := Lib.hid (S7.out.below hb hq3)
                have HROW := Lib.hid (hsh.row hcs rfl)
                have HGR := Lib.hid hgr
                have HXL := Lib.hid hxl
                have HQ8 := Lib.hid hcs.lt
                have CV := Lib.hid (isValid_prog (hgr.grV fun k hk => hk.2) (HGl.out.below S8.out.bl) hxl)
                have HQW : Hid (w.heap.size < w7.heap.size) := Lib.hid S7.out.lt
                have HGI := Lib.hid (infoGA G a)
                clear hh hb hc hcs hsh hgr hxl CO PA S7 CS7 SH7
                unfold BoolP at CV
                go_wp2_with (refine wpList_load_row rfl 28 (.tmp 4) rfl q rfl 28 _ (0, 0) _ HROW.out Tryz.underlying28 rfl HGI.out ?_)
                refine CV.out.mono ?_
                rintro e w9 ⟨rfl, hb⟩
                have S9 := Lib.hid (S8.out.below hb (Nat.lt_trans hq3 HQ8.out))
                have HR9 : Hid (w9.heap[q]? = some (.cells (grtA G a) 28 (0, 0))) := Lib.hid ((hb.block q HQ8.out).trans HROW.out)
                have HG9 : Hid (GrS (New w7.heap.size w9) w9 G a) := Lib.hid (HGR.out.keep fun k hk => ⟨hb.block k hk.2, hk.1, Nat.lt_of_lt_of_le hk.2 hb.size⟩)
                clear hb CV HROW HGR S8 HQ8
                obtain ⟨arr, ha1, ha2⟩ := S9.out.sh
                have HA1 := Lib.hid ha1
                have HA2 : Hid (arr.size = (grtA G a).size) := Lib.hid (ha2.trans rfl)
                clear ha1 ha2
                cases hok : okG G with
                | false =>
                  have HX : Hid (parG b = none) := Lib.hid (PG.out.2 hok)
                  have B1 := Lib.hid S9.out.bl
                  clear hok PG
                  go_wp2_with (go_at_call 50; refine (must_not _).mono ?_; rintro e w' ⟨rfl, rfl⟩)
                  exact ⟨rfl, outB_no HX.out B1.out⟩
                | true =>
                  have HX : Hid (parG b = some G) := Lib.hid (PG.out.1 hok)
                  have HSR := Lib.hid (setRow_heap w9 w.heap.size arr (grtA G a) 28 (0, 0) HA1.out)
                  have HFB : Hid (Below w.heap.size w (w9.setRow w.heap.size (grtA G a))) := Lib.hid (below_setRow7 S9.out.bl (Nat.le_refl _) _)
                  have HFG : Hid (GrS (New w.heap.size (w9.setRow w.heap.size (grtA G a))) (w9.setRow w.heap.size (grtA G a)) G a) := Lib.hid (HG9.out.keep fun k hk => ⟨setRow_other _ _ _ _ (by have := hk.1; have := HQW.out; omega), by have := hk.1; have := HQW.out; omega, by rw [size_setRow]; exact hk.2⟩)
                  have HGO : Hid ((grtA G a).all (·.oneCell') = true) := Lib.hid (grtA_one G a)
                  clear hok PG HG9 S9
                  go_wp2_with (first
                    | (go_at_call 50; refine (must_yes _).mono ?_; rintro e w' ⟨rfl, rfl⟩)
                    | (refine wpList_load_row rfl 28 (.tmp 4) rfl q rfl 28 _ (0, 0) _ HR9.out Tryz.underlying28 rfl HGI.out ?_)
                    | (refine wpList_store_row rfl 28 (.tmp 2) (.tmp 26) rfl w.heap.size (grtA G a) rfl rfl 28 _ HA1.out HGI.out HA2.out HGO.out ?_))
                  refine bodyPost_ret (results_cell_row rfl _ _ w.heap.size 28 (grtA G a) (0, 0) _ rfl HSR.out Tryz.underlying28 rfl HGI.out) rfl ?_
                  exact ⟨(fun e => by rw [HX.out] at e; cases e), fun x e => by
                    rw [HX.out] at e
                    obtain rfl := Option.some.inj e
                    exact ⟨a, rfl, HFB.out, HFG.out, HXL.out⟩⟩
end Go.Proofs.YtiakbmllpnabnaaGreatDoor
