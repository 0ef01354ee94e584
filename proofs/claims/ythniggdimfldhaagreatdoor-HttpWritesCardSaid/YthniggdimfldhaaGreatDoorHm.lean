/- Walks of the program's Drop, Strip and Get. -/
import Derived.Test.YthniggdimfldhaaGreatDoorHl
namespace Go.Proofs.YthniggdimfldhaaGreatDoor
open Go Go.RowKit Go.Shelf
attribute [local go_sem] Oper.semAt_some

theorem cell_one (w : World) (v : Value) (t : TypeId) : (w.alloc (.cells #[v] t)).cell? ⟨w.heap.size, 0, none⟩ = some v := by rw [World.cell?_alloc_at _ _ _ _ rfl]; rfl
theorem suchSt_made (w : World) (S : Nat → Prop) (A : Option Addr) (c : Nat) (L : List Hd) (fv nm : Value) (bx : Nat) (hS : ∀ k, S k → k < w.heap.size + 2) (s1 : S w.heap.size) (s2 : S (w.heap.size + 1)) (s3 : S bx) (hbx : bx < w.heap.size)
    (hnm : w.cell? ⟨bx, 0, none⟩ = some nm) (hr : ∀ i (hi : i < (hv L).length), ∃ b off, A = some ⟨b, off, none⟩ ∧ (S b ∧ b < w.heap.size) ∧ w.cell? ⟨b, off + i, none⟩ = some (hv L)[i]) :
    SuchSt S w.heap.size (w.heap.size + 1) bx A c L fv nm ((w.alloc (.cells #[.slice A L.length c] 22)).alloc (.cells #[fv] 54)) := by
  have e1 : (w.alloc (.cells #[.slice A L.length c] 22)).heap.size = w.heap.size + 1 := by simp
  have b1 := below_new w (.cells #[.slice A L.length c] 22)
  have b2 := below_new (w.alloc (.cells #[.slice A L.length c] 22)) (.cells #[fv] 54)
  have c1 := cell_one w (.slice A L.length c) 22
  have c2 := cell_one (w.alloc (.cells #[.slice A L.length c] 22)) fv 54
  rw [e1] at c2
  have b3 := Below.and b1 b2
  refine ⟨fun k hk => by have := hS k hk; simp; omega, s1, s2, s3, (b2.cell (p := ⟨w.heap.size, 0, none⟩) (by simp)).trans c1, c2, (b3.cell (p := ⟨bx, 0, none⟩) hbx).trans hnm, fun i hi => ?_⟩
  obtain ⟨b, off, e, ⟨hb, hl⟩, hc⟩ := hr i hi
  exact ⟨b, off, e, hb, (b3.cell (p := ⟨b, off + i, none⟩) hl).trans hc⟩
theorem such_below (w : World) (o o' : Obj) : Below w.heap.size w ((w.alloc o).alloc o') := Below.and (below_new _ _) (below_new _ _)

theorem dropL_such (L : List Hd) (y : List UInt8) : suchL L (fun z => !alikeS z y) = dropL L y := rfl
theorem stripL_such (L : List Hd) (y : List UInt8) : suchL L (fun z => !begS z y) = stripL L y := rfl
theorem getL_such (L : List Hd) (y : List UInt8) : suchL L (fun z => alikeS z y) = getL L y := rfl
set_option maxRecDepth 100000 in
theorem eg_drop : ∀ args w, (callFunc 115 args).run Tryz.prog w = .ok (.enter 115 args) w := enters_of Tryz.func115 (by kernel_rfl) rfl
set_option maxRecDepth 100000 in
theorem eg_get : ∀ args w, (callFunc 61 args).run Tryz.prog w = .ok (.enter 61 args) w := enters_of Tryz.func61 (by kernel_rfl) rfl

set_option maxRecDepth 100000 in
/-- the program's Drop -/
theorem drop_any (v : Value) (L : List Hd) (y : List UInt8) (w : World) (hv0 : Hs w v L) (hs : Sm L) (hy : y.length ≤ 1000) : Calls Tryz.prog 97 #[v, .string ⟨y.toArray⟩] w fun e w' =>
    ∃ u, e = .returned u ∧ OwnH w' w.heap.size u (dropL L y) ∧ Below w.heap.size w w' := by
  obtain ⟨A, c, rfl, hc, _, hr⟩ := hv0
  have b0 := below_new w (.cells #[.string ⟨y.toArray⟩] 9)
  have hlt : w.heap.size < (w.alloc (.cells #[.string ⟨y.toArray⟩] 9)).heap.size := by simp
  have hst := Lib.hid fun fv => suchSt_made (w.alloc (.cells #[.string ⟨y.toArray⟩] 9)) (fun k => k < (w.alloc (.cells #[.string ⟨y.toArray⟩] 9)).heap.size + 2) A c L fv (.string ⟨y.toArray⟩) w.heap.size (fun _ h => h) (by omega) (by omega) (by omega) hlt (cell_one _ _ _) (fun i hi => by obtain ⟨b, off, e, hl, hc⟩ := hr.below b0 i hi; exact ⟨b, off, e, ⟨by omega, hl⟩, hc⟩)
  have HB0 := Lib.hid b0
  clear b0 hr
  go_enter Tryz.func97, Tryz.ntmps97
  go_wp2_with fail
  go_at_call 60
  generalize w.alloc (.cells #[.string ⟨y.toArray⟩] 9) = w1 at *
  refine (such_any A L.length c 115 w.heap.size w1).mono ?_
  rintro e w2 ⟨rfl, rfl⟩
  have hst2 := hst.out (.func (.func 115) #[] #[.pointer (some ⟨w.heap.size, 0, none⟩)])
  have hb2 := such_below w1 (.cells #[.slice A L.length c] 22) (.cells #[.func (.func 115) #[] #[.pointer (some ⟨w.heap.size, 0, none⟩)]] 54)
  have con := Lib.hid (collect_any _ _ _ 115 _ A c L _ (fun z => !alikeS z y) hs eg_drop (fun z hz W hW => drop1_any z y _ W hz hy hW) _ hst2)
  have HB2 := Lib.hid (Below.and HB0.out hb2)
  clear hst hst2 HB0 hb2
  generalize (w1.alloc (.cells #[.slice A L.length c] 22)).alloc (.cells #[.func (.func 115) #[] #[.pointer (some ⟨w.heap.size, 0, none⟩)]] 54) = w2 at *
  go_wp2_with fail
  refine con.out.mono ?_
  rintro e w3 ⟨u, rfl, hown, hb3⟩
  rw [dropL_such] at hown
  go_wp2_with fail
  go_ret
  exact ⟨u, rfl, hown.up HB2.out.size rfl, Below.and HB2.out hb3⟩
theorem results_get {fn : Func} {p u : Tmp} (h : fn.results = #[.cell p 9, .cell u 3]) (tmps : Array Value) (w : World) (g k : Nat) (x y : Value) (hp : tmps.getD p undef = .pointer (some ⟨g, 0, none⟩)) (hu : tmps.getD u undef = .pointer (some ⟨k, 0, none⟩))
    (h1 : w.cell? ⟨g, 0, none⟩ = some x) (h2 : w.cell? ⟨k, 0, none⟩ = some y) : (results fn tmps).run Tryz.prog w = .ok (.tuple #[x, y]) w := by
  have hp' : tmps[p]?.getD undef = .pointer (some ⟨g, 0, none⟩) := by simpa using hp
  have hu' : tmps[u]?.getD undef = .pointer (some ⟨k, 0, none⟩) := by simpa using hu
  simp [results, h, hp', hu', asAddr, Result.andThen, loadVar, Tryz.isAgg9, Tryz.isAgg3, h1, h2]

theorem keptOn_set {S : Nat → Prop} {b : Nat} (hn : ¬ S b) (W : World) (v : Value) : KeptOn S W (W.setCell ⟨b, 0, none⟩ v) := ⟨by simp, fun k hk _ => heap_setCell_other W ⟨b, 0, none⟩ k v (fun e => hn (by subst e; exact hk))⟩
/-- Get's state: the value and the count in their boxes. -/
def GetI (w : World) (g k : Nat) (pre : List HdS) (W : World) : Prop := Boxed W g 9 (.string ⟨(fstV (unS pre)).toArray⟩) ∧ Boxed W k 3 (.int .i64 (pre.length : Nat)) ∧ Below w.heap.size w W
theorem getI_from (w : World) (g k : Nat) (B : Nat) (hB : w.heap.size ≤ B) : OwnFrom B (GetI w g k) :=
  OwnFrom.and (Own.from (boxed_own g 9 fun pre : List HdS => .string ⟨(fstV (unS pre)).toArray⟩) B) (OwnFrom.and (Own.from (boxed_own k 3 fun pre : List HdS => .int .i64 (pre.length : Nat)) B) (ownFrom_below (Nat.le_refl _) hB))

set_option maxRecDepth 100000 in
set_option maxHeartbeats 2000000 in
/-- the program's Get -/
theorem get_any (v : Value) (L : List Hd) (y : List UInt8) (w : World) (hv0 : Hs w v L) (hs : Sm L) (hy : y.length ≤ 1000) : Calls Tryz.prog 32 #[v, .string ⟨y.toArray⟩] w fun e w' =>
    e = .returned (.tuple #[.string ⟨(fstV (getL L y)).toArray⟩, .int .i64 ((getL L y).length : Nat)]) ∧ Below w.heap.size w w' := by
  obtain ⟨A, c, rfl, hc, _, hr⟩ := hv0
  have b0 := below_new w (.cells #[.string ⟨y.toArray⟩] 9)
  have hlt : w.heap.size < (w.alloc (.cells #[.string ⟨y.toArray⟩] 9)).heap.size := by simp
  have b1 := such_below (w.alloc (.cells #[.string ⟨y.toArray⟩] 9)) (.cells #[.string ⟨#[]⟩] 9) (.cells #[.int .i64 0] 3)
  have hnm := (b1.cell (p := ⟨w.heap.size, 0, none⟩) hlt).trans (cell_one w (.string ⟨y.toArray⟩) 9)
  have x4 := (Boxed.new (w.alloc (.cells #[.string ⟨y.toArray⟩] 9)) 9 (.string ⟨#[]⟩)).alloc (.cells #[.int .i64 0] 3)
  have x5 := Boxed.new ((w.alloc (.cells #[.string ⟨y.toArray⟩] 9)).alloc (.cells #[.string ⟨#[]⟩] 9)) 3 (.int .i64 0)
  have b2 := Below.and b0 b1
  have hr1 := hr.below b2
  have hsz : (((w.alloc (.cells #[.string ⟨y.toArray⟩] 9)).alloc (.cells #[.string ⟨#[]⟩] 9)).alloc (.cells #[.int .i64 0] 3)).heap.size = w.heap.size + 3 := by simp
  have hs1 : (w.alloc (.cells #[.string ⟨y.toArray⟩] 9)).heap.size = w.heap.size + 1 := by simp
  have hs2 : ((w.alloc (.cells #[.string ⟨y.toArray⟩] 9)).alloc (.cells #[.string ⟨#[]⟩] 9)).heap.size = w.heap.size + 2 := by simp
  rw [hs1] at x4
  rw [hs2] at x5
  have x5 : Boxed _ (w.heap.size + 1 + 1) _ _ := x5
  have HR := Lib.hid hr
  have HNM := Lib.hid hnm
  have HB2 := Lib.hid b2
  have HX4 := Lib.hid x4
  have HX5 := Lib.hid x5
  have HSZ := Lib.hid hsz
  clear b0 b1 b2 hr hr1 hnm x4 x5 hsz hs1 hs2 hlt
  refine (callsIn_wide (n := 9)).1 (callsIn_of_wp_marks Tryz.func32 rfl trivial ?_ rfl)
  simp only [Tryz.ntmps32, List.size_toArray, List.length_cons, List.length_nil, Nat.reduceAdd, Nat.reduceSub, Array.replicate_succ, Array.replicate_zero, List.push_toArray, List.append_toArray, List.nil_append, List.cons_append]
  gi_wp2_with fail
  generalize ((w.alloc (.cells #[.string ⟨y.toArray⟩] 9)).alloc (.cells #[.string ⟨#[]⟩] 9)).alloc (.cells #[.int .i64 0] 3) = w1 at *
  refine ⟨trivial, (callsIn_wide.2 (such_any A L.length c 61 w.heap.size w1)).mono ?_⟩
  rintro e w2 ⟨rfl, rfl⟩
  have hz := HSZ.out
  have hst := suchSt_made w1 (fun k => k ≠ w.heap.size + 1 ∧ k ≠ w.heap.size + 1 + 1 ∧ k < w1.heap.size + 2) A c L (.func (.func 61) #[] #[.pointer (some ⟨w.heap.size, 0, none⟩)]) _ w.heap.size (fun _ h => h.2.2) (by omega) (by omega) (by omega) (by omega) HNM.out
    (fun i hi => by obtain ⟨b, off, e, hl, hc⟩ := HR.out i hi; exact ⟨b, off, e, ⟨by omega, by omega⟩, (HB2.out.cell (p := ⟨b, off + i, none⟩) hl).trans hc⟩)
  have hb3 := Below.and HB2.out (such_below w1 (.cells #[.slice A L.length c] 22) (.cells #[.func (.func 61) #[] #[.pointer (some ⟨w.heap.size, 0, none⟩)]] 54))
  have x4 := (HX4.out.alloc (.cells #[.slice A L.length c] 22)).alloc (.cells #[.func (.func 61) #[] #[.pointer (some ⟨w.heap.size, 0, none⟩)]] 54)
  have x5 := (HX5.out.alloc (.cells #[.slice A L.length c] 22)).alloc (.cells #[.func (.func 61) #[] #[.pointer (some ⟨w.heap.size, 0, none⟩)]] 54)
  have HST := Lib.hid hst
  have HI : Hid (GetI w (w.heap.size + 1) (w.heap.size + 1 + 1) [] _) := ⟨x4, x5, hb3⟩
  clear hz hst x4 x5 HX4 HX5 HNM HB2 hb3
  generalize (w1.alloc (.cells #[.slice A L.length c] 22)).alloc (.cells #[.func (.func 61) #[] #[.pointer (some ⟨w.heap.size, 0, none⟩)]] 54) = w2 at *
  gi_wp2_with fail
  have hle := HST.out.le
  have hel : (suchL L fun z => alikeS z y).length ≤ 1000 := Nat.le_trans (List.length_filter_le _ _) hs.1
  refine wpIn_rangeFunc_ownH (α := HdS) rfl (by omega) (gf := 76) (lb := #[.pointer (some ⟨w1.heap.size, 0, none⟩), .pointer (some ⟨w1.heap.size + 1, 0, none⟩)]) rfl trivial eg_such
    (such_stops 8 (by omega) _ _ _ 61 _ A c L _ (fun z => alikeS z y) hs eg_get (fun z hz W hW => get1_any z y _ W hz hy hW) _ HST.out) KeptOn.trans (keptOn_put hle) (Below.refl _ _) (fun _ => rfl)
    (GetI w (w.heap.size + 1) (w.heap.size + 1 + 1)) (fun _ _ _ => False) (getI_from w _ _ _ HI.out.2.2.size) (fun _ _ _ _ _ hs _ _ => hs) HI.out
    (fun x a' W => ∃ g, a' = { tmps := #[.slice A L.length c, .string ⟨y.toArray⟩, undef, .pointer (some ⟨w.heap.size, 0, none⟩), .pointer (some ⟨w.heap.size + 1, 0, none⟩), .pointer (some ⟨w.heap.size + 1 + 1, 0, none⟩), .pointer (some ⟨g, 0, none⟩), .slice A L.length c, .func (.func 61) #[] #[.pointer (some ⟨w.heap.size, 0, none⟩)], .func (.func 76) #[] #[.pointer (some ⟨w1.heap.size, 0, none⟩), .pointer (some ⟨w1.heap.size + 1, 0, none⟩)], .agg #[.string ⟨x.1.1.toArray⟩, .string ⟨x.1.2.toArray⟩], undef, undef, undef, undef, undef, undef, undef, undef, undef], defers := [] } ∧ BoxH W g x.1)
    (fun x a' _ X Y row ⟨g, e, hg⟩ hgr hrow => ⟨g, e, boxH_from _ g x.1 () X Y row hg hgr hrow⟩) ?assign ?body ?done ?stop
  case assign =>
    rintro l pre x W K hI hK
    unfold encH
    gi_wp2_with fail
    obtain ⟨h1, h2, h3⟩ := hI
    refine hK _ _ ((KeepsOthers.alloc W _).from _) (keptOn_new (below_new _ _)) ⟨h1.alloc _, h2.alloc _, h3.alloc h3.size _⟩ ⟨W.heap.size, rfl, ?_⟩
    exact heap_alloc_new _ _
  case body =>
    rintro l pre ⟨x, hxm⟩ a' W _ _ ⟨h4, h5, hB⟩ ⟨g, rfl, hbx⟩ hlt
    dsimp only at hbx
    have hc4 := h4.cell
    have hc5 := h5.cell
    have c0 := hbx.c0
    have c1 := hbx.c1
    have hpl : pre.length < 1000 := by omega
    have hz1 := mk_size x.2
    have HZ : Hid ((⟨x.2.toArray⟩ : ByteArray).size ≤ 1000000) := by show _ ≤ _; omega
    clear hz1
    have hf4 := h4.frozen
    have hf5 := h5.frozen
    by_cases h0 : pre.length = 0
    · have e0 : ((pre.length : Int) == 0) = true := by rw [h0]; rfl
      have hsn : Hid (fstV (unS (pre ++ [⟨x, hxm⟩])) = x.2) := by show _ = _; rw [List.eq_nil_of_length_eq_zero h0]; rfl
      gi_wp2_with fail
      refine ⟨trivial, (CallsIn.inRound l (callsIn_wide.2 (sclone_any _ _ HZ.out))).mono ?_⟩
      rintro e w5 ⟨rfl, hb5⟩
      have k4 := (boxed_below h4 hb5).set (.string ⟨x.2.toArray⟩)
      have k5 := (boxed_below h5 hb5).other (B' := w.heap.size + 1) (by omega) (.string ⟨x.2.toArray⟩)
      have g4 := (boxed_below h4 hb5).cell
      have g4f := (boxed_below h4 hb5).frozen
      have m5 := k5.cell
      have m5f := k5.frozen
      have HK4 := Lib.hid k4
      have HK5 := Lib.hid k5
      have HB5 := Lib.hid hb5
      clear hf4 hf5 hc4 hc5 k4 k5
      gi_wp2
      refine ⟨(((keeps_below HB5.out).trans (KeepsOthers.setCell _ _ _)).trans (KeepsOthers.setCell _ _ _)).from _, ((keptOn_new HB5.out).trans (keptOn_set (fun h => h.1 rfl) _ _)).trans (keptOn_set (fun h => h.2.1 rfl) _ _), ?_, ?_, ?_⟩
      · rw [hsn.out]; exact HK4.out.other (by omega) _
      · have := HK5.out.set (.int .i64 ((pre ++ [(⟨x, hxm⟩ : HdS)]).length : Nat))
        rw [List.length_append, h0] at this ⊢
        exact this
      · exact ((hB.trans (HB5.out.mono hB.size)).setCell (p := ⟨w.heap.size + 1, 0, none⟩) (by show _ ≤ _ + 1; omega) _).setCell (p := ⟨w.heap.size + 1 + 1, 0, none⟩) (by show _ ≤ _ + 1 + 1; omega) _
    · have e0 : ((pre.length : Int) == 0) = false := by rw [beq_eq_false_iff_ne]; omega
      have hsn : Hid (fstV (unS (pre ++ [⟨x, hxm⟩])) = fstV (unS pre)) := by show _ = _; rw [unS_snoc, fstV_snoc _ (by rw [unS_len]; omega)]
      gi_wp2
      refine ⟨(KeepsOthers.setCell _ _ _).from _, keptOn_set (fun h => h.2.1 rfl) _ _, ?_, ?_, ?_⟩
      · rw [hsn.out]; exact h4.other (by omega) _
      · have := h5.set (.int .i64 ((pre ++ [(⟨x, hxm⟩ : HdS)]).length : Nat))
        rw [List.length_append] at this ⊢
        exact this
      · exact hB.setCell (p := ⟨w.heap.size + 1 + 1, 0, none⟩) (by show _ ≤ _ + 1 + 1; omega) _
  case done =>
    rintro D ys W hD hys ⟨h4, h5, hB⟩ hK
    have hlen : ys.length = (suchL L fun z => alikeS z y).length := by rw [← unS_len, hys]
    rw [hys] at h4
    rw [hlen] at h5
    clear hys hlen
    rw [getL_such] at h4 h5
    have hD' : w.heap.size + 5 ≤ D := by
      have := HSZ.out
      have := hle (w1.heap.size + 1) (by omega)
      omega
    generalize hzz : fstV (getL L y) = z at h4
    generalize hmm : (getL L y).length = m at h5
    have HZZ := Lib.hid hzz
    have HMM := Lib.hid hmm
    clear hzz hmm
    have hc4 := h4.cell
    have hc5 := h5.cell
    have hf4 := h4.frozen
    have hf5 := h5.frozen
    gi_wp2_with fail
    gi_region
    have y4 : Boxed ((W.setCell ⟨w.heap.size + 1, 0, none⟩ (.string ⟨z.toArray⟩)).setCell ⟨w.heap.size + 1 + 1, 0, none⟩ (.int .i64 (m : Nat))).drew (w.heap.size + 1) 9 (.string ⟨z.toArray⟩) := (h4.set (.string ⟨z.toArray⟩)).other (by omega) (.int .i64 (m : Nat))
    have y5 : Boxed ((W.setCell ⟨w.heap.size + 1, 0, none⟩ (.string ⟨z.toArray⟩)).setCell ⟨w.heap.size + 1 + 1, 0, none⟩ (.int .i64 (m : Nat))).drew (w.heap.size + 1 + 1) 3 (.int .i64 (m : Nat)) := (h5.other (by omega) (.string ⟨z.toArray⟩)).set (.int .i64 (m : Nat))
    have yB : Below w.heap.size w ((W.setCell ⟨w.heap.size + 1, 0, none⟩ (.string ⟨z.toArray⟩)).setCell ⟨w.heap.size + 1 + 1, 0, none⟩ (.int .i64 (m : Nat))).drew := below_drewN ((hB.setCell (p := ⟨w.heap.size + 1, 0, none⟩) (by show _ ≤ _ + 1; omega) _).setCell (p := ⟨w.heap.size + 1 + 1, 0, none⟩) (by show _ ≤ _ + 1 + 1; omega) _) 1
    have yK : ((W.setCell ⟨w.heap.size + 1, 0, none⟩ (.string ⟨z.toArray⟩)).setCell ⟨w.heap.size + 1 + 1, 0, none⟩ (.int .i64 (m : Nat))).drew.heap[D]? = some (.deferred (some [])) :=
      (heap_setCell_other _ ⟨w.heap.size + 1 + 1, 0, none⟩ D _ (by show D ≠ _ + 1 + 1; omega)).trans ((heap_setCell_other W ⟨w.heap.size + 1, 0, none⟩ D _ (by show D ≠ _ + 1; omega)).trans hK)
    clear hc4 hc5 hf4 hf5 h4 h5 hB hK
    generalize ((W.setCell ⟨w.heap.size + 1, 0, none⟩ (.string ⟨z.toArray⟩)).setCell ⟨w.heap.size + 1 + 1, 0, none⟩ (.int .i64 (m : Nat))).drew = V at *
    gi_wp2
    refine ⟨by simp, .inl ⟨_, _, rfl, run_takeDeferred yK, ?_⟩⟩
    exact ⟨_, results_get rfl _ _ _ _ _ _ rfl rfl ((cell_heap (World.putObj_heap_other (by omega)) 0).trans y4.cell) ((cell_heap (World.putObj_heap_other (by omega)) 0).trans y5.cell), by rw [HZZ.out, HMM.out], yB.trans (belowK_b (w := w) (Nat.le_refl _) V D _ _ (by omega) yK rfl rfl)⟩
  case stop =>
    rintro D c pre W _ _ h _
    exact h.elim
end Go.Proofs.YthniggdimfldhaaGreatDoor
