/- Walk of Line: a loop whose rounds range over a function and break off. -/
import Derived.Test.YtaikhdmgcffflaaDoorWh
namespace Go.Proofs.YtaikhdmgcffflaaDoor
open Go Go.RowKit Go.Shelf
attribute [local go_sem] Oper.semAt_some

/-- What stands in Line, in whatever round: the order's box, the row's box, the row, the marks. -/
structure NSt (w : World) (b : Nat) (Ds : List Nat) (v : Value) (L : List Nat) (W : World) : Prop where
  marks : Marks W w.heap.size Ds
  box : Boxed W w.heap.size 78 (.pointer (some ⟨b, 0, none⟩))
  boxp : Boxed W (w.heap.size + 1) 48 v
  row : W.ownsRow w.heap.size 3 1 v L.length (nv L)
  bel : Below w.heap.size w W
theorem NSt.below {w W W' : World} {b : Nat} {Ds : List Nat} {v : Value} {L : List Nat} (h : NSt w b Ds v L W) (hb : Below W.heap.size W W') : NSt w b Ds v L W' :=
  ⟨h.marks.below hb, h.box.kept (grownBy_below hb none) (by simp), h.boxp.kept (grownBy_below hb none) (by simp), h.row.kept (grownBy_below hb none) (Classical.em _), h.bel.trans (hb.mono h.bel.size)⟩
theorem NSt.ownFrom {β : Type} {w : World} {b : Nat} {Ds : List Nat} {B : Nat} (hB : w.heap.size ≤ B) (hD : ∀ D ∈ Ds, D < B) (f : β → List Nat) : OwnFrom B (fun s W => ∃ v, NSt w b Ds v (f s) W) := by
  intro s X Y row ⟨v, hs⟩ hg hr
  have hc : ∀ {B' : Nat} {t : TypeId} {u : Value}, Boxed X B' t u → some B' ≠ row := by
    rintro B' t u hx rfl
    obtain ⟨_, o, ho, hn⟩ := hr B' rfl
    rw [show X.heap[B']? = _ from hx] at ho
    cases ho
    cases hn
  refine ⟨v, ownFrom_marks hD s X Y row hs.marks hg hr, hs.box.kept hg (hc hs.box), hs.boxp.kept hg (hc hs.boxp), ?_, ownFrom_below (Nat.le_refl _) hB s X Y row hs.bel hg hr⟩
  refine hs.row.kept hg ?_
  rcases row with _ | r
  · exact Classical.em _
  · refine .inr fun e => ?_
    obtain ⟨_, o, ho, hn⟩ := hr r rfl
    rcases hs.row.2 with ⟨rfl, _⟩ | ⟨gg, cap, cur, rfl, _, hh, _⟩
    · simp [Value.ownBlock] at e
    · obtain rfl : gg = r := by simpa [Value.ownBlock] using e
      rw [hh] at ho
      cases ho
      cases hn
/-- One more. -/
theorem NSt.append {w W w1 : World} {b : Nat} {Ds : List Nat} {v v' : Value} {L : List Nat} {x : Nat} {tmp : Obj} (h : NSt w b Ds v L W)
    (hown : w1.ownsRow w.heap.size 3 1 v' (L.length + 1) (nv L ++ [.int .i64 (x : Nat)])) (hgrow : (W.alloc tmp).grownBy w1 v.ownBlock) :
    Boxed w1 (w.heap.size + 1) 48 v ∧ NSt w b Ds v' (L ++ [x]) (w1.setCell ⟨w.heap.size + 1, 0, none⟩ v') ∧ KeepsOthers W (w1.setCell ⟨w.heap.size + 1, 0, none⟩ v') ∧ Below w.heap.size W (w1.setCell ⟨w.heap.size + 1, 0, none⟩ v') := by
  obtain ⟨h1, h2, h3, h4, h5⟩ := h.boxp.appended (by decide) h.row h.bel.size (by omega) hown hgrow
  refine ⟨h1, ⟨h.marks.others h4, ((h.box.alloc tmp).kept hgrow (h.box.not_row (by decide) h.row)).other (by omega) v', h2, ?_, h.bel.trans h5⟩, h4, h5⟩
  rw [nv_snoc, List.length_append]
  exact h3
theorem NSt.box_append {w W w1 : World} {b : Nat} {Ds : List Nat} {v v' : Value} {L : List Nat} {tmp : Obj} (h : NSt w b Ds v L W) (hgrow : (W.alloc tmp).grownBy w1 v.ownBlock)
    {B : Nat} {t : TypeId} {u : Value} (hx : Boxed W B t u) (ht : t ≠ 3) (hB : B ≠ w.heap.size + 1) : Boxed (w1.setCell ⟨w.heap.size + 1, 0, none⟩ v') B t u :=
  ((hx.alloc tmp).kept hgrow (hx.not_row ht h.row)).other hB v'

/-- The rest's box is turned. -/
theorem NSt.set {w W : World} {b : Nat} {Ds : List Nat} {v : Value} {L : List Nat} {B4 : Nat} {u : Value} (h : NSt w b Ds v L W) (h4 : Boxed W B4 110 u) (hB : w.heap.size + 1 < B4) (u' : Value) : NSt w b Ds v L (W.setCell ⟨B4, 0, none⟩ u') :=
  ⟨h.marks.others (KeepsOthers.setCell _ _ _), h.box.other (by omega) u', h.boxp.other (by omega) u', h.row.kept (grownBy_setCell' W B4 u') (.inr (h4.not_row (by decide) h.row).symm), h.bel.setCell (p := ⟨B4, 0, none⟩) (by simp; omega) u'⟩
theorem nxt_at {A : Nat → Nat} {rest : Nat} {p0 : List El} {x : El} (hp : p0 ++ [x] <+: elsE rest) (h0 : ∀ y ∈ p0, freeIn A rest y.1 = false) (hx : freeIn A rest x.1 = true) : nxt A rest = some x.1 := by
  obtain ⟨t, ht⟩ := hp
  have e : els rest = p0.map (·.1) ++ (x.1 :: t.map (·.1)) := by
    rw [← elsE_val, ← ht]
    simp
  unfold nxt
  rw [e, List.find?_append, List.find?_eq_none.2, Option.none_or, List.find?_cons_of_pos hx]
  intro y hy
  obtain ⟨z, hz, rfl⟩ := List.mem_map.1 hy
  rw [h0 z hz]
  simp

/-- How a round of Line stands. -/
def LRel (w : World) (b n : Nat) (A : Nat → Nat) (num : Nat) (a : Act) (W : World) : Prop :=
  ∃ (rest F : Nat) (out : List Nat) (Ds : List Nat) (B4 : Nat) (v u5 u6 u7 u8 u9 u10 u11 u12 u13 u14 u15 u16 u17 u18 u19 u20 u21 u22 u23 u24 u25 u26 u27 u28 u29 u30 : Value), num = n - out.length ∧ LSt n A out.length rest F out ∧
    a = { tmps := #[.pointer (some ⟨b, 0, none⟩), .pointer (some ⟨w.heap.size, 0, none⟩), .slice none 0 0, .pointer (some ⟨w.heap.size + 1, 0, none⟩), .pointer (some ⟨B4, 0, none⟩), u5, u6, u7, u8, u9, u10, u11, u12, u13, u14, u15, u16, u17, u18, u19, u20, u21, u22, u23, u24, u25, u26, u27, u28, u29, u30], defers := Ds.map mk } ∧
    NSt w b Ds v out W ∧ Boxed W B4 110 (.int .u16 (rest : Nat)) ∧ w.heap.size + 1 < B4

set_option maxHeartbeats 1000000 in
theorem line_own (b n : Nat) (A : Nat → Nat) (g : Good n A) (t : Anti A) (w : World) (hT : Tab w) (h : IsOrd w b n A) :
    Calls Tryd.prog 56 #[.pointer (some ⟨b, 0, none⟩)] w (OwnPost (lineL n A) w) := by
  have hn := g.le16
  refine (callsIn_wide (n := 9)).1 (callsIn_of_wp_marks Tryd.func56 rfl trivial ?_ rfl)
  simp only [Tryd.ntmps56, List.size_toArray, List.length_cons, List.length_nil, Nat.reduceAdd, Nat.reduceSub, Array.replicate_succ, Array.replicate_zero, List.push_toArray, List.append_toArray, List.nil_append, List.cons_append]
  refine wpIn_wide.2 ?_
  have b1 := Boxed.new w 78 (.pointer (some ⟨b, 0, none⟩))
  have b2 := Boxed.new (w.alloc (.cells #[.pointer (some ⟨b, 0, none⟩)] 78)) 48 (.slice none 0 0)
  rw [World.size_alloc] at b2
  have bel : Below w.heap.size w ((w.alloc (.cells #[.pointer (some ⟨b, 0, none⟩)] 78)).alloc (.cells #[.slice none 0 0] 48)) :=
    ((Below.refl _ w).alloc (Nat.le_refl _) _).alloc (by simp) _
  have hlt := h.lt
  have C0 : NSt w b [] (.slice none 0 0) [] ((w.alloc (.cells #[.pointer (some ⟨b, 0, none⟩)] 78)).alloc (.cells #[.slice none 0 0] 48)) := ⟨Marks.nil _ _, b1.alloc _, b2, World.ownsRow_nil _ _ _ _, bel⟩
  have HT := Lib.hid hT
  have HO := Lib.hid h
  have HC0 := Lib.hid C0
  clear b1 b2 bel hT h C0
  go_wp2_with fail
  refine (all_any b n A hn _ (HO.out.below HC0.out.bel hlt)).mono ?_
  rintro e w' ⟨rfl, rfl⟩
  have C0 := HC0.out
  clear HC0
  have X4 := Boxed.new ((w.alloc (.cells #[.pointer (some ⟨b, 0, none⟩)] 78)).alloc (.cells #[.slice none 0 0] 48)) 110 (.int .u16 (allS n : Nat))
  rw [World.size_alloc, World.size_alloc] at X4
  have C1 := C0.below (below_new _ (.cells #[.int .u16 (allS n : Nat)] 110))
  have HC1 := Lib.hid C1
  have HX4 := Lib.hid X4
  clear C0 C1 X4
  go_upto_region 3 with fail
  have C1 := HC1.out
  have X4 := HX4.out
  clear HC1 HX4
  generalize ((w.alloc (.cells #[.pointer (some ⟨b, 0, none⟩)] 78)).alloc (.cells #[.slice none 0 0] 48)).alloc (.cells #[.int .u16 (allS n : Nat)] 110) = w0 at *
  refine wp_loop_ghost (LRel w b n A) n ?start ?round
  case start =>
    exact ⟨allS n, 0, [], [], _, .slice none 0 0, _, _, _, _, _, _, _, _, _, _, _, _, _, _, _, _, _, _, _, _, _, _, _, _, _, _, rfl, LSt.start hn A, rfl, C1, X4, by omega⟩
  case round =>
    rintro num a W ⟨rest, F, out, Ds, B4, v, u5, u6, u7, u8, u9, u10, u11, u12, u13, u14, u15, u16, u17, u18, u19, u20, u21, u22, u23, u24, u25, u26, u27, u28, u29, u30, rfl, hst, rfl, hC, h4, hB4⟩
    clear C1 X4
    have hc4 := h4.cell
    have hkn := hst.kn
    by_cases hlt2 : out.length < n
    · obtain ⟨a, ha, han, har, haf, hst'⟩ := hst.next g t hlt2
      have hr16 := hst.lt
      have hz : ((rest : Int) != 0) = true := by
        have : rest ≠ 0 := by rintro rfl; simp at har
        simp; omega
      have HST := Lib.hid hst'
      have HA := Lib.hid ha
      have HAF := Lib.hid haf
      have HAR := Lib.hid har
      have HC := Lib.hid (hC.below (below_new W (.cells #[.int .u16 (rest : Nat)] 110)))
      have HX4 := Lib.hid (h4.alloc (.cells #[.int .u16 (rest : Nat)] 110))
      have HXs := Lib.hid (Boxed.new W 110 (.int .u16 (rest : Nat)))
      clear hst hst' ha haf har hC h4
      go_wp2_with fail
      refine (elements_any _ _).mono ?_
      rintro e w' ⟨rfl, rfl⟩
      clear hc4
      go_wp2_with fail
      have C3 := HC.out
      have Y4 := HX4.out
      have Xs := HXs.out
      clear HC HX4 HXs
      generalize W.heap.size = Bs at *
      generalize W.alloc (.cells #[.int .u16 (rest : Nat)] 110) = V0 at *
      have T0 := HT.out.below C3.bel HT.out.lt
      have ht0 := T0.lt
      refine (wpIn_wide (n := 9)).1 ?_
      refine wpIn_rangeFunc_ownG (α := El) rfl (by omega) (gf := 83) (lb := #[.pointer (some ⟨Bs, 0, none⟩)]) rfl trivial (enters_of Tryd.func83 (by kernel_rfl) rfl)
        (elements_stops 8 (by omega) Bs _ hr16 V0 T0 Xs) belowK_t (belowK_b (by omega)) (Below.refl _ _) (fun _ => rfl)
        (fun pre V => ((∃ v, NSt w b Ds v out V) ∧ Boxed V B4 110 (.int .u16 (rest : Nat))) ∧ ∀ x ∈ pre, freeIn A rest x.1 = false)
        (fun c pre V => (∃ v, NSt w b Ds v (out ++ [(pre.getLastD ⟨0, by omega⟩).1]) V) ∧ Boxed V B4 110 (.int .u16 (rm rest (pre.getLastD ⟨0, by omega⟩).1 : Nat)) ∧ (c = .exit 2 ∧ ∃ p0 x, pre = p0 ++ [x] ∧ (∀ x ∈ p0, freeIn A rest x.1 = false) ∧ freeIn A rest x.1 = true))
        (OwnFrom.and (OwnFrom.and (NSt.ownFrom C3.bel.size C3.marks.lt (fun _ : List El => out)) ((boxed_own B4 110 (fun _ => .int .u16 (rest : Nat))).from _)) (ownFrom_pure _ _))
        (fun c => OwnFrom.and (NSt.ownFrom C3.bel.size C3.marks.lt (fun pre : List El => out ++ [(pre.getLastD ⟨0, by omega⟩).1])) (OwnFrom.and ((boxed_own B4 110 (fun pre : List El => .int .u16 (rm rest (pre.getLastD ⟨0, by omega⟩).1 : Nat))).from _) (ownFrom_pure _ _)))
        ⟨⟨⟨v, C3⟩, Y4⟩, by simp⟩
        (fun y => { tmps := #[.pointer (some ⟨b, 0, none⟩), .pointer (some ⟨w.heap.size, 0, none⟩), .slice none 0 0, .pointer (some ⟨w.heap.size + 1, 0, none⟩), .pointer (some ⟨B4, 0, none⟩), .int .i64 (y.1 : Nat), u6, u7, .int .u16 (rest : Nat), .bool true, .int .u16 (rest : Nat), .func (.func 83) #[] #[.pointer (some ⟨Bs, 0, none⟩)], .int .i64 (y.1 : Nat), u13, u14, u15, u16, u17, u18, u19, u20, u21, u22, u23, u24, u25, u26, u27, u28, u29, u30], defers := [] }) ?assign ?body ?done ?stop
      case assign =>
        intro l y V K hK
        gi_wp2
        exact hK
      case body =>
        rintro l pre y V ⟨⟨⟨v1, hC⟩, h4⟩, hno⟩ hpl
        have c1 := hC.box.cell
        have c4 := h4.cell
        have hy := y.2
        have TV := HT.out.below hC.bel HT.out.lt
        have OV := HO.out.below hC.bel hlt
        have l1 := hC.box.lt
        have l4 := h4.lt
        gi_wp2
        gi_cut [20] from 13 (fun u wx => u = .bool (freeIn A rest y.1) ∧ Below V.heap.size V wx)
        case first =>
          have hmix : Tryd.prog.follows .mixedOrders = true := by kernel_rfl
          refine wpIn_norm ?_
          rename_i k0 a2 J K' a1 a0
          have HA1 := Lib.hid a1
          have HA0 := Lib.hid a0
          clear a1 a0 a2 C3 Y4 Xs T0 ht0 hpl
          clear hC h4
          have HK1 : Hid (∀ w', Below V.heap.size V w' → w'.cell? ⟨w.heap.size, 0, none⟩ = some (.pointer (some ⟨b, 0, none⟩))) := fun w' h => (h.cell (p := ⟨w.heap.size, 0, none⟩) l1).trans c1
          have HK4 : Hid (∀ w', Below V.heap.size V w' → w'.cell? ⟨B4, 0, none⟩ = some (.int .u16 (rest : Nat))) := fun w' h => (h.cell (p := ⟨B4, 0, none⟩) l4).trans c4
          clear c1 c4
          refine round_quiet (C := fun w' => Below V.heap.size V w') hmix (by kernel_rfl) (by kernel_rfl) (Below.refl _ V).drew ?_
          refine q_val (.pointer (some ⟨b, 0, none⟩)) rfl (fun w' hw' => by have := HK1.out w' hw'; go_simp) ?_
          simp only [Act.put, List.setIfInBounds_toArray, List.set_cons_zero, List.set_cons_succ]
          refine q_val (.int .i64 (y.1 : Nat)) rfl (fun w' hw' => by go_simp) ?_
          simp only [Act.put, List.setIfInBounds_toArray, List.set_cons_zero, List.set_cons_succ]
          refine q_call (.int .u16 (clo A y.1 : Nat)) 76 #[.pointer (some ⟨b, 0, none⟩), .int .i64 (y.1 : Nat)] rfl (fun w' hw' => by go_simp) (fun w' hw' => (down_any b n A g.small y.1 hy w' (TV.below hw' TV.lt) (OV.below hw' OV.lt)).mono fun e w'' ⟨he, hb⟩ => ⟨he, Below.and hw' hb⟩) ?_
          simp only [Act.put, List.setIfInBounds_toArray, List.set_cons_zero, List.set_cons_succ]
          refine q_val (.int .u16 (rest : Nat)) rfl (fun w' hw' => by have := HK4.out w' hw'; go_simp) ?_
          simp only [Act.put, List.setIfInBounds_toArray, List.set_cons_zero, List.set_cons_succ]
          refine q_val (.int .u16 (clo A y.1 &&& rest : Nat)) rfl (fun w' hw' => by go_simp; rw [u16_and_nat _ _ (clo_lt g.small hy) hr16]) ?_
          simp only [Act.put, List.setIfInBounds_toArray, List.set_cons_zero, List.set_cons_succ]
          refine q_val (.int .i64 (y.1 : Nat)) rfl (fun w' hw' => by go_simp) ?_
          simp only [Act.put, List.setIfInBounds_toArray, List.set_cons_zero, List.set_cons_succ]
          refine q_call (.int .u16 (pw y.1 : Nat)) 72 #[.int .i64 (y.1 : Nat)] rfl (fun w' hw' => by go_simp) (fun w' hw' => (only_any y.1 hy w').mono fun e w'' ⟨he, hb⟩ => ⟨he, hb ▸ hw'⟩) ?_
          simp only [Act.put, List.setIfInBounds_toArray, List.set_cons_zero, List.set_cons_succ]
          refine q_val (.bool (freeIn A rest y.1)) rfl (fun w' hw' => by go_simp; exact int_beq _ _) ?_
          simp only [Act.put, List.setIfInBounds_toArray, List.set_cons_zero, List.set_cons_succ]
          refine wpQuietIn_nil (fun w' hw' => ?_)
          simp only [Norm]
          refine HA0.out _ _ (Met.intro (HA1.out _ _ ?_))
          repeat apply Exists.intro
          exact ⟨⟨rfl, hw'⟩, rfl⟩
        case rest =>
          obtain ⟨rfl, hbx⟩ := hcut
          have C1 := hC.below hbx
          have g4 := h4.kept (grownBy_below hbx none) (by simp)
          have cp' := C1.boxp.cell
          have hko : KeepsFrom V0.heap.size V wc := KeepsFrom.of_grownBy (grownBy_below hbx none) (fun j e => by cases e)
          have hbel : Below 1 V wc := hbx.mono TV.lt
          have HC1 := Lib.hid C1
          have HG4 := Lib.hid g4
          have hsz := C1.bel.size
          have HNO := Lib.hid hno
          clear c1 c4 hbx hC h4 C1 g4 hno
          obtain ⟨i0, hi, hz0, hz1, hz2⟩ := info_parts info3
          cases ht : freeIn A rest y.1 with
          | true =>
            have HF := Lib.hid ht
            clear ht
            gi_upto_region 8 with (gi_at_builtin; refine wpListIn_append_own _ rfl _ _ 48 rfl w.heap.size 3 i0 (.int .i64 0) 1 8 Tryd.underlying48 hi hz0 hz1 hz2 rfl (by decide) _ _ _ rfl (HC1.out.row.alloc _) ⟨wc.heap.size, 0, none⟩ 1 1 [.int .i64 (y.1 : Nat)] rfl rfl (cell_one_new _ _ _) (by simp [Value.oneCell']) (by unfold maxLen; omega) (by omega) (by simp; omega) ?_; intro v' w1 hown' hgrow _; obtain ⟨g', cap', rfl⟩ := ownsRow_succ hown'; obtain ⟨k1, k2, k3, _⟩ := HC1.out.append (x := y.1) hown' hgrow; have k5 := k1.cell; have k6 := k1.frozen; have m4 := HC1.out.box_append (v' := .slice (some ⟨g', 0, none⟩) (out.length + 1) cap') hgrow HG4.out (by decide) (by omega))
            clear k1 k5 k6
            generalize w1.setCell ⟨w.heap.size + 1, 0, none⟩ (.slice (some ⟨g', 0, none⟩) (out.length + 1) cap') = X at *
            have c4 := m4.cell
            have f4 := m4.frozen
            have hmix : Tryd.prog.follows .mixedOrders = true := by kernel_rfl
            have HAN := Lib.hid (andNot_pw hr16 hy)
            gi_region_with_o ((try refine ⟨trivial, ?_⟩); gi_at_call 72; refine (CallsIn.inRound l (callsIn_wide.2 (only_any _ (by omega) _))).mono ?_; rintro e w' ⟨rfl, rfl⟩)
            all_goals gi_wp2
            all_goals rw [HAN.out]
            all_goals
              refine ⟨(hko.trans (k3.from _)).trans (((KeepsOthers.setCell X ⟨B4, 0, none⟩ (.int .u16 (rm rest y.1 : Nat))).trans (KeepsOthers.drew _)).from _), ⟨.slice (some ⟨g', 0, none⟩) (out.length + 1) cap', ?_⟩, ?_, rfl, pre, y, rfl, HNO.out, HF.out⟩
              · rw [List.getLastD_concat]
                exact (k2.set m4 hB4 (.int .u16 (rm rest y.1 : Nat))).below (Below.refl _ _).drew
              · rw [List.getLastD_concat]
                exact m4.set (.int .u16 (rm rest y.1 : Nat))
          | false =>
            have HF := Lib.hid ht
            clear ht
            gi_wp2
            refine ⟨hko, hbel, ⟨⟨v1, HC1.out⟩, HG4.out⟩, fun x hx => ?_⟩
            rcases List.mem_append.1 hx with hx | hx
            · exact HNO.out x hx
            · rw [List.mem_singleton.1 hx]; exact HF.out
      case done =>
        rintro D ys V hD rfl ⟨_, hno⟩ hK
        exfalso
        have hm : a ∈ (elsE rest).map (·.1) := by
          rw [elsE_val]
          exact mem_els.2 ⟨by omega, HAR.out⟩
        obtain ⟨z, hz, rfl⟩ := List.mem_map.1 hm
        have := hno z hz
        rw [HAF.out] at this
        cases this
      case stop =>
        rintro D c pre V hD hpre ⟨⟨v1, hC⟩, h4, rfl, p0, x, rfl, hp0, hx⟩ hK
        rw [List.getLastD_concat] at hC h4
        have hxa : some x.1 = some a := (nxt_at hpre hp0 hx).symm.trans HA.out
        injection hxa with hxa
        rw [hxa] at hC h4
        have hc4 := h4.cell
        have hnm : D ∉ Ds := fun hm => by have := C3.marks.lt D hm; omega
        have hDC : NSt w b (D :: Ds) v1 (out ++ [a]) V := ⟨hC.marks.cons (Nat.le_trans C3.bel.size hD) hK hnm, hC.box, hC.boxp, hC.row, hC.bel⟩
        have HDC := Lib.hid (hDC.below (below_new V (.cells #[.int .u16 (rm rest a : Nat)] 110)))
        have HX := Lib.hid (Boxed.new V 110 (.int .u16 (rm rest a : Nat)))
        have hBV := hC.boxp.lt
        have hl : (out ++ [a]).length = out.length + 1 := by simp
        have HL := Lib.hid hl
        clear hl hC h4 hDC hK hp0 hx hpre hxa
        refine (wpIn_wide (n := 9)).2 ?_
        go_wp2_with fail
        exact ⟨n - (out.length + 1), by omega, rm rest a, F ||| 2 ^ a, out ++ [a], D :: Ds, V.heap.size, v1, _, _, _, _, _, _, _, _, _, _, _, _, _, _, _, _, _, _, _, _, _, _, _, _, _, _, by rw [HL.out], by rw [HL.out]; exact HST.out, rfl, HDC.out, HX.out, hBV⟩
    · have e : out.length = n := by omega
      have hr0 : rest = 0 := card_zero hst.lt (by have := hst.card; omega)
      have HD : Hid (out = lineL n A) := by rw [e] at hst; exact hst.done
      have hz : ((rest : Int) != 0) = false := by rw [hr0]; rfl
      have hc3 := hC.boxp.cell
      have HC := Lib.hid hC
      clear hr0 e hst hC
      go_wp2_with fail
      refine leaves_marks (B := w.heap.size) (fun W' => W'.ownsRow w.heap.size 3 1 v out.length (nv out) ∧ Below w.heap.size w W') (fun W' D hD hK hp => ⟨ownsRow_putObj hp.1 _ hK rfl, hp.2.trans (belowK_b (w := w) (Nat.le_refl _) W' D _ _ hD hK rfl rfl)⟩) (fun W' hp => ⟨_, results_tmp rfl _ _ _, v, rfl, w.heap.size, Nat.le_refl _, by rw [← HD.out]; exact hp.1, hp.2⟩) Ds W HC.out.marks ⟨HC.out.row, HC.out.bel⟩
theorem line_any (b n : Nat) (A : Nat → Nat) (g : Good n A) (t : Anti A) (w : World) (hT : Tab w) (h : IsOrd w b n A) :
    Calls Tryd.prog 56 #[.pointer (some ⟨b, 0, none⟩)] w (NsPost (lineL n A) w) :=
  (line_own b n A g t w hT h).mono fun _ _ hp => hp.ns
end Go.Proofs.YtaikhdmgcffflaaDoor
