/- Walks of Covers and Line: a loop whose rounds range over a function. -/
import Derived.Test.YtkiaolegpjkbdaaDoorWl
import Derived.Test.YtkiaolegpjkbdaaDoorWm
import Derived.Test.YtkiaolegpjkbdaaDoorPf
import Derived.Sort.LoopGhostIn
import Derived.Sort.CutIn
import Derived.Deep.RegionHeld3
import Derived.Outline
namespace Go.Proofs.YtkiaolegpjkbdaaDoor
open Go Go.RowKit Go.Shelf
attribute [local go_sem] Oper.semAt_some

/-- The marks that loops over range functions leave: each a block for deferred calls, of which there are none. -/
def mk (D : Nat) : Deferred := { target := .collected D, args := #[] }
structure Marks (W : World) (B : Nat) (Ds : List Nat) : Prop where
  nodup : Ds.Nodup
  here : ∀ D ∈ Ds, B ≤ D ∧ W.heap[D]? = some (.deferred (some []))
theorem wpIn_norm {F : Fence} {n : Nat} {P : Program} {c : Code} {K : Act → World → Prop} {Q : Exit → Act → World → Prop} {a : Act} {w : World} (h : c.wpIn F n P (Norm K) a w) : c.wpIn F n P (Exit.then K Q) a w :=
  wpIn_mono h fun e _ _ h => by cases e <;> first | exact h | exact h.elim
theorem Marks.nil (W : World) (B : Nat) : Marks W B [] := ⟨by simp, by simp⟩
theorem Marks.lt {W : World} {B : Nat} {Ds : List Nat} (h : Marks W B Ds) : ∀ D ∈ Ds, D < W.heap.size := fun D hD => (Array.getElem?_eq_some_iff.1 (h.here D hD).2).1
theorem Marks.below {W W' : World} {B : Nat} {Ds : List Nat} (h : Marks W B Ds) (hb : Below W.heap.size W W') : Marks W' B Ds :=
  ⟨h.nodup, fun D hD => ⟨(h.here D hD).1, (hb.block D (h.lt D hD)).trans (h.here D hD).2⟩⟩
theorem Marks.kept {W W' : World} {B : Nat} {Ds : List Nat} (h : Marks W B Ds) {row : Option Nat} (hg : W.grownBy W' row) (hr : ∀ r, row = some r → r ∉ Ds) : Marks W' B Ds :=
  ⟨h.nodup, fun D hD => ⟨(h.here D hD).1, (hg.block D (h.lt D hD) (fun e => hr D e.symm hD)).trans (h.here D hD).2⟩⟩
theorem Marks.cons {W : World} {B : Nat} {Ds : List Nat} (h : Marks W B Ds) {D : Nat} (hB : B ≤ D) (hD : W.heap[D]? = some (.deferred (some []))) (hn : D ∉ Ds) : Marks W B (D :: Ds) :=
  ⟨List.nodup_cons.2 ⟨hn, h.nodup⟩, fun E hE => by
    rcases List.mem_cons.1 hE with rfl | hE
    · exact ⟨hB, hD⟩
    · exact h.here E hE⟩
theorem leaves_marks {F : Fence} {n : Nat} {P : Program} {fn : Func} {tmps : Array Value} {R : Ending → World → Prop} (Φ : World → Prop) {B : Nat}
    (hΦ : ∀ W D, B ≤ D → W.heap[D]? = some (.deferred (some [])) → Φ W → Φ (W.putObj D (.deferred none)))
    (hend : ∀ W, Φ W → ∃ v, (results fn tmps).run P W = .ok v W ∧ R (.returned v) W) : ∀ (Ds : List Nat) (W : World), Marks W B Ds → Φ W → LeavesInM F n P fn tmps R (Ds.map mk) .returning W
  | [], W, _, h => hend W h
  | D :: Ds, W, hm, h => by
    obtain ⟨hB, hD⟩ := hm.here D (by simp)
    obtain ⟨hn, hnd⟩ := List.nodup_cons.1 hm.nodup
    refine ⟨by simp, .inl ⟨D, _, rfl, run_takeDeferred hD, ?_⟩⟩
    refine leaves_marks Φ hΦ hend Ds _ ⟨hnd, fun E hE => ?_⟩ (hΦ W D hB hD h)
    obtain ⟨h1, h2⟩ := hm.here E (List.mem_cons_of_mem _ hE)
    exact ⟨h1, (World.putObj_heap_other (by rintro rfl; exact hn hE)).trans h2⟩


theorem Marks.others {W W' : World} {B : Nat} {Ds : List Nat} (h : Marks W B Ds) (k : KeepsOthers W W') : Marks W' B Ds :=
  ⟨h.nodup, fun D hD => ⟨(h.here D hD).1, k.same D _ (h.here D hD).2 rfl⟩⟩
theorem ownFrom_marks {β : Type} {B B' : Nat} {Ds : List Nat} (hD : ∀ D ∈ Ds, D < B') : OwnFrom B' (fun (_ : β) W => Marks W B Ds) :=
  fun _ _ _ _ hs hg hr => hs.kept hg (fun r e hm => by have := hD r hm; have := (hr r e).1; omega)
theorem andNot_pw {a x : Nat} (ha : a < 65536) (hx : x < 16) : bits BinOp.andNot IntKind.u16 (a : Int) (pw x : Nat) = ((rm a x : Nat) : Int) := by
  rw [u16_andNot_nat a _ ha (pw_lt hx), pw, andNot_rm ha hx]

theorem int_beq (a b : Nat) : ((a : Int) == (b : Int)) = (a == b) := by rw [Bool.eq_iff_iff]; simp; omega
/-- What stands in Covers, in whatever round: the order's box, the row's box, the row, the marks. -/
structure CSt (w : World) (b : Nat) (Ds : List Nat) (v : Value) (L : List (Nat × Nat)) (W : World) : Prop where
  marks : Marks W w.heap.size Ds
  box : Boxed W w.heap.size 23 (.pointer (some ⟨b, 0, none⟩))
  boxp : Boxed W (w.heap.size + 1) 22 v
  row : W.ownsRow w.heap.size 31 2 v L.length (pv L)
  bel : Below w.heap.size w W
theorem CSt.below {w W W' : World} {b : Nat} {Ds : List Nat} {v : Value} {L : List (Nat × Nat)} (h : CSt w b Ds v L W) (hb : Below W.heap.size W W') : CSt w b Ds v L W' :=
  ⟨h.marks.below hb, h.box.kept (grownBy_below hb none) (by simp), h.boxp.kept (grownBy_below hb none) (by simp), h.row.kept (grownBy_below hb none) (Classical.em _), h.bel.trans (hb.mono h.bel.size)⟩
theorem CSt.ownFrom {β : Type} {w : World} {b : Nat} {Ds : List Nat} {B : Nat} (hB : w.heap.size ≤ B) (hD : ∀ D ∈ Ds, D < B) (f : β → List (Nat × Nat)) : OwnFrom B (fun s W => ∃ v, CSt w b Ds v (f s) W) := by
  intro s X Y row ⟨v, hs⟩ hg hr
  have hc : ∀ {B' : Nat} {t : TypeId} {u : Value}, Boxed X B' t u → some B' ≠ row := by
    rintro B' t u hx rfl
    obtain ⟨_, o, ho, hn⟩ := hr B' rfl
    rw [show X.heap[B']? = _ from hx] at ho
    cases ho
    cases hn
  refine ⟨v, ownFrom_marks hD s X Y row hs.marks hg hr, hs.box.kept hg (hc hs.box), hs.boxp.kept hg (hc hs.boxp), ?_, ownFrom_below (Nat.le_refl _) hB s X Y row hs.bel hg hr⟩
  refine hs.row.kept hg ?_
  rcases row with _ | r
  · exact Classical.em _
  · refine .inr fun e => ?_
    obtain ⟨_, o, ho, hn⟩ := hr r rfl
    rcases hs.row.2 with ⟨rfl, _⟩ | ⟨gg, cap, cur, rfl, _, hh, _⟩
    · simp [Value.ownBlock] at e
    · obtain rfl : gg = r := by simpa [Value.ownBlock] using e
      rw [hh] at ho
      cases ho
      cases hn
/-- One pair more. -/
theorem CSt.append {w W w1 : World} {b : Nat} {Ds : List Nat} {v v' : Value} {L : List (Nat × Nat)} {x : Nat × Nat} {tmp : Obj} (h : CSt w b Ds v L W)
    (hown : w1.ownsRow w.heap.size 31 2 v' (L.length + 1) (pv L ++ [.int .i64 (x.1 : Nat), .int .i64 (x.2 : Nat)])) (hgrow : (W.alloc tmp).grownBy w1 v.ownBlock) :
    Boxed w1 (w.heap.size + 1) 22 v ∧ CSt w b Ds v' (L ++ [x]) (w1.setCell ⟨w.heap.size + 1, 0, none⟩ v') ∧ KeepsOthers W (w1.setCell ⟨w.heap.size + 1, 0, none⟩ v') ∧ Below w.heap.size W (w1.setCell ⟨w.heap.size + 1, 0, none⟩ v') := by
  obtain ⟨h1, h2, h3, h4, h5⟩ := h.boxp.appended (by decide) h.row h.bel.size (by omega) hown hgrow
  refine ⟨h1, ⟨h.marks.others h4, ((h.box.alloc tmp).kept hgrow (h.box.not_row (by decide) h.row)).other (by omega) v', h2, ?_, h.bel.trans h5⟩, h4, h5⟩
  rw [pv_snoc, List.length_append]
  exact h3
theorem CSt.box_append {w W w1 : World} {b : Nat} {Ds : List Nat} {v v' : Value} {L : List (Nat × Nat)} {tmp : Obj} (h : CSt w b Ds v L W) (hgrow : (W.alloc tmp).grownBy w1 v.ownBlock)
    {B : Nat} {t : TypeId} {u : Value} (hx : Boxed W B t u) (ht : t ≠ 31) (hB : B ≠ w.heap.size + 1) : Boxed (w1.setCell ⟨w.heap.size + 1, 0, none⟩ v') B t u :=
  ((hx.alloc tmp).kept hgrow (hx.not_row ht h.row)).other hB v'

set_option maxHeartbeats 1000000 in
theorem covers_any (b n : Nat) (A : Nat → Nat) (g : Good n A) (w : World) (hT : Tab w) (h : IsOrd w b n A) :
    Calls Tryd.prog 20 #[.pointer (some ⟨b, 0, none⟩)] w fun e W' => ∃ v, e = .returned v ∧ W'.ownsRow w.heap.size 31 2 v (covL n A).length (pv (covL n A)) ∧ Below w.heap.size w W' := by
  have hn := g.le16
  refine (callsIn_wide (n := 9)).1 (callsIn_of_wp_marks Tryd.func20 rfl trivial ?_ rfl)
  simp only [Tryd.ntmps20, List.size_toArray, List.length_cons, List.length_nil, Nat.reduceAdd, Nat.reduceSub, Array.replicate_succ, Array.replicate_zero, List.push_toArray, List.append_toArray, List.nil_append, List.cons_append]
  refine wpIn_wide.2 ?_
  have b1 := Boxed.new w 23 (.pointer (some ⟨b, 0, none⟩))
  have b2 := Boxed.new (w.alloc (.cells #[.pointer (some ⟨b, 0, none⟩)] 23)) 22 (.slice none 0 0)
  rw [World.size_alloc] at b2
  have bel : Below w.heap.size w ((w.alloc (.cells #[.pointer (some ⟨b, 0, none⟩)] 23)).alloc (.cells #[.slice none 0 0] 22)) :=
    ((Below.refl _ w).alloc (Nat.le_refl _) _).alloc (by simp) _
  have hlt := h.lt
  have b1' := b1.alloc (.cells #[.slice none 0 0] 22)
  have HT := Lib.hid hT
  have HO := Lib.hid h
  have HB1 := Lib.hid b1'
  have HB2 := Lib.hid b2
  have HBL := Lib.hid bel
  clear b1 b1' b2 bel hT h
  go_wp2_with fail
  refine (many_any b n A _ (HO.out.below HBL.out hlt)).mono ?_
  rintro e w' ⟨rfl, rfl⟩
  go_wp2_with fail
  have hb1 := HB1.out
  have hb2 := HB2.out
  have hbl := HBL.out
  clear HB1 HB2 HBL
  generalize (w.alloc (.cells #[.pointer (some ⟨b, 0, none⟩)] 23)).alloc (.cells #[.slice none 0 0] 22) = w0 at *
  refine wp_loop_ghost (fun k a W => ∃ (low : Nat) (Ds : List Nat) (v u4 u5 u6 u10 u11 u12 u13 u14 u15 u16 u17 u18 u19 u20 u21 u22 u23 u24 u25 u26 u27 u28 u29 u30 u31 u32 u33 u34 u35 u36 u37 u38 u39 : Value), low ≤ n ∧ k = n - low ∧
    a = { tmps := #[.pointer (some ⟨b, 0, none⟩), .pointer (some ⟨w.heap.size, 0, none⟩), .slice none 0 0, .pointer (some ⟨w.heap.size + 1, 0, none⟩), u4, u5, u6, .pointer (some ⟨b, 0, none⟩), .int .i64 n, .int .i64 low, u10, u11, u12, u13, u14, u15, u16, u17, u18, u19, u20, u21, u22, u23, u24, u25, u26, u27, u28, u29, u30, u31, u32, u33, u34, u35, u36, u37, u38, u39], defers := Ds.map mk } ∧
    CSt w b Ds v (covTo n A low) W) n ?start ?round
  case start =>
    exact ⟨0, [], .slice none 0 0, undef, undef, undef, undef, undef, undef, undef, undef, undef, undef, undef, undef, undef, undef, undef, undef, undef, undef, undef, undef, undef, undef, undef, undef, undef, undef, undef, undef, undef, undef, undef, undef, undef, Nat.zero_le _, rfl, rfl, Marks.nil _ _, hb1, hb2, World.ownsRow_nil _ _ _ _, hbl⟩
  case round =>
    rintro k a W ⟨low, Ds, v, u4, u5, u6, u10, u11, u12, u13, u14, u15, u16, u17, u18, u19, u20, u21, u22, u23, u24, u25, u26, u27, u28, u29, u30, u31, u32, u33, u34, u35, u36, u37, u38, u39, hlow, rfl, rfl, hC⟩
    clear hb1 hb2 hbl
    by_cases hlt2 : low < n
    · have hl16 : low < 16 := by omega
      have hc1 := hC.box.cell
      have hsz := hC.boxp.lt
      have hsz1 := hC.box.lt
      have HC := Lib.hid (hC.below (below_new W (.cells #[.int .i64 low] 3)))
      have HX4 := Lib.hid (Boxed.new W 3 (.int .i64 low))
      clear hC
      go_wp2_with fail
      have C1 := HC.out
      have X4 := HX4.out
      clear HC HX4 hc1
      generalize hb4 : W.heap.size = B4 at *
      generalize W.alloc (.cells #[.int .i64 low] 3) = W1 at *
      clear hb4
      refine (up_any b n A g low hlt2 _ (HT.out.below C1.bel HT.out.lt) (HO.out.below C1.bel hlt)).mono ?_
      rintro e W2 ⟨rfl, hb2⟩
      have HC := Lib.hid (C1.below (Below.and hb2 (below_new W2 (.cells #[.int .u16 (upS A low n : Nat)] 48))))
      have HX4 := Lib.hid ((X4.kept (grownBy_below hb2 none) (by simp)).alloc (.cells #[.int .u16 (upS A low n : Nat)] 48))
      have HX5 := Lib.hid (Boxed.new W2 48 (.int .u16 (upS A low n : Nat)))
      clear C1 X4 hb2
      go_wp2_with fail
      have C2 := HC.out
      have X4 := HX4.out
      have X5 := HX5.out
      clear HC HX4 HX5 hsz hsz1
      generalize W2.heap.size = B5 at *
      generalize W2.alloc (.cells #[.int .u16 (upS A low n : Nat)] 48) = W3 at *
      have c4 := X4.cell
      have c5 := X5.cell
      have HAN := Lib.hid (andNot_pw (upS_lt A low n hn) hl16)
      go_region_held3 (fun w' => w'.cell? ⟨B4, 0, none⟩ = some (.int .i64 low) ∧ w'.cell? ⟨B5, 0, none⟩ = some (.int .u16 (upS A low n : Nat))) (go_keep)
        (first | (go_at_call 25; refine (only_any low hl16 _).mono ?_; rintro e w' ⟨rfl, rfl⟩) | (go_at_call 38; rw [HAN.out]; refine (elements_any _ _).mono ?_; rintro e w' ⟨rfl, rfl⟩))
      go_wp2_with fail
      have hb3 : Below W3.heap.size W3 (W3.alloc (.cells #[.int .u16 (rm (upS A low n) low : Nat)] 48)).drew := ((Below.refl _ _).alloc (Nat.le_refl _) _).drew
      have C3 := C2.below hb3
      have Y4 := X4.kept (grownBy_below hb3 none) (by simp)
      have Y5 := X5.kept (grownBy_below hb3 none) (by simp)
      have Xs : Boxed (W3.alloc (.cells #[.int .u16 (rm (upS A low n) low : Nat)] 48)).drew W3.heap.size 48 (.int .u16 (rm (upS A low n) low : Nat)) := Boxed.new W3 48 _
      clear C2 X4 X5 c4 c5 hb3 HAN
      generalize W3.heap.size = Bs at *
      generalize (W3.alloc (.cells #[.int .u16 (rm (upS A low n) low : Nat)] 48)).drew = V0 at *
      have T0 := HT.out.below C3.bel HT.out.lt
      have hsr : rm (upS A low n) low < 65536 := rm_lt (upS_lt A low n hn)
      have ht0 := T0.lt
      have hcl := covTo_len n A low
      refine (wpIn_wide (n := 9)).1 ?_
      refine wpIn_rangeFunc_ownG (α := El) rfl (by omega) (gf := 44) (lb := #[.pointer (some ⟨Bs, 0, none⟩)]) rfl trivial (enters_of Tryd.func44 (by kernel_rfl) rfl)
        (elements_stops 8 (by omega) Bs _ hsr V0 T0 Xs) belowK_t (belowK_b (by omega)) (Below.refl _ _) (fun _ => rfl)
        (fun pre V => (∃ v, CSt w b Ds v (covTo n A low ++ covR n A low (pre.map (·.1))) V) ∧ (Boxed V B4 3 (.int .i64 low) ∧ Boxed V B5 48 (.int .u16 (upS A low n : Nat))))
        (fun _ _ _ => False)
        (OwnFrom.and (CSt.ownFrom C3.bel.size C3.marks.lt (fun pre : List El => covTo n A low ++ covR n A low (pre.map (·.1)))) (OwnFrom.and ((boxed_own B4 3 (fun _ => .int .i64 low)).from _) ((boxed_own B5 48 (fun _ => .int .u16 (upS A low n : Nat))).from _)))
        (fun _ _ _ _ _ hs _ _ => hs)
        ⟨⟨v, by simpa [covR] using C3⟩, Y4, Y5⟩
        (fun y => { tmps := #[.pointer (some ⟨b, 0, none⟩), .pointer (some ⟨w.heap.size, 0, none⟩), .slice none 0 0, .pointer (some ⟨w.heap.size + 1, 0, none⟩), .pointer (some ⟨B4, 0, none⟩), .pointer (some ⟨B5, 0, none⟩), .int .i64 (y.1 : Nat), .pointer (some ⟨b, 0, none⟩), .int .i64 n, .int .i64 low, .bool true, .int .i64 low, .pointer (some ⟨b, 0, none⟩), .int .i64 low, .int .u16 (upS A low n : Nat), .int .u16 (upS A low n : Nat), .int .i64 low, .int .u16 (pw low : Nat), .int .u16 (rm (upS A low n) low : Nat), .func (.func 44) #[] #[.pointer (some ⟨Bs, 0, none⟩)], .int .i64 (y.1 : Nat), u21, u22, u23, u24, u25, u26, u27, u28, u29, u30, u31, u32, u33, u34, u35, u36, u37, u38, u39], defers := [] }) ?assign ?body ?done ?stop
      case assign =>
        intro l y V K hK
        gi_wp2
        exact hK
      case body =>
        rintro l pre y V ⟨⟨v1, hC⟩, h4, h5⟩ hpl
        have hel := els_len (rm (upS A low n) low)
        have hcr := covR_len n A low (pre.map (·.1))
        rw [List.length_map] at hcr
        have c1 := hC.box.cell
        have c4 := h4.cell
        have c5 := h5.cell
        have hy := y.2
        have TV := HT.out.below hC.bel HT.out.lt
        have OV := HO.out.below hC.bel hlt
        have l1 := hC.box.lt
        have l4 := h4.lt
        have l5 := h5.lt
        gi_wp2
        gi_cut [31] from 21 (fun u wx => u = .bool (tst n A low y.1) ∧ Below V.heap.size V wx)
        case first =>
          have hmix : Tryd.prog.follows .mixedOrders = true := by kernel_rfl
          refine wpIn_norm ?_
          rename_i q2 k2 a4 q1 k1 a3 hh q0 k0 a2 J K' a1 a0
          have HA1 := Lib.hid a1
          have HA0 := Lib.hid a0
          clear a1 a0 a2 a3 a4 hh C3 Y4 Y5 Xs T0 hsr ht0 hcl hpl hel hcr
          have HC := Lib.hid hC
          clear hC h4 h5
          clear q0 k0 q1 k1 q2 k2
          have K1 : ∀ w', Below V.heap.size V w' → w'.cell? ⟨w.heap.size, 0, none⟩ = some (.pointer (some ⟨b, 0, none⟩)) := fun w' h => (h.cell (p := ⟨w.heap.size, 0, none⟩) l1).trans c1
          have K4 : ∀ w', Below V.heap.size V w' → w'.cell? ⟨B4, 0, none⟩ = some (.int .i64 low) := fun w' h => (h.cell (p := ⟨B4, 0, none⟩) l4).trans c4
          have K5 : ∀ w', Below V.heap.size V w' → w'.cell? ⟨B5, 0, none⟩ = some (.int .u16 (upS A low n : Nat)) := fun w' h => (h.cell (p := ⟨B5, 0, none⟩) l5).trans c5
          have HK1 := Lib.hid K1
          have HK4 := Lib.hid K4
          have HK5 := Lib.hid K5
          clear K1 K4 K5 c1 c4 c5
          refine round_quiet (C := fun w' => Below V.heap.size V w') hmix (by kernel_rfl) (by kernel_rfl) (Below.refl _ V).drew ?_
          refine q_val (.int .u16 (upS A low n : Nat)) rfl (fun w' hw' => by have := HK5.out w' hw'; go_simp) ?_
          simp only [Act.put, List.setIfInBounds_toArray, List.set_cons_zero, List.set_cons_succ]
          refine q_val (.pointer (some ⟨b, 0, none⟩)) rfl (fun w' hw' => by have := HK1.out w' hw'; go_simp) ?_
          simp only [Act.put, List.setIfInBounds_toArray, List.set_cons_zero, List.set_cons_succ]
          refine q_val (.int .i64 (y.1 : Nat)) rfl (fun w' hw' => by go_simp) ?_
          simp only [Act.put, List.setIfInBounds_toArray, List.set_cons_zero, List.set_cons_succ]
          refine q_call (.int .u16 (clo A y.1 : Nat)) 36 #[.pointer (some ⟨b, 0, none⟩), .int .i64 (y.1 : Nat)] rfl (fun w' hw' => by go_simp) (fun w' hw' => (down_any b n A g.small y.1 hy w' (TV.below hw' TV.lt) (OV.below hw' OV.lt)).mono fun e w'' ⟨he, hb⟩ => ⟨he, Below.and hw' hb⟩) ?_
          simp only [Act.put, List.setIfInBounds_toArray, List.set_cons_zero, List.set_cons_succ]
          refine q_val (.int .u16 (upS A low n &&& clo A y.1 : Nat)) rfl (fun w' hw' => by go_simp; rw [u16_and_nat _ _ (upS_lt A low n hn) (clo_lt g.small hy)]) ?_
          simp only [Act.put, List.setIfInBounds_toArray, List.set_cons_zero, List.set_cons_succ]
          refine q_val (.int .i64 low) rfl (fun w' hw' => by have := HK4.out w' hw'; go_simp) ?_
          simp only [Act.put, List.setIfInBounds_toArray, List.set_cons_zero, List.set_cons_succ]
          refine q_call (.int .u16 (pw low : Nat)) 25 #[.int .i64 low] rfl (fun w' hw' => by go_simp) (fun w' hw' => (only_any low hl16 w').mono fun e w'' ⟨he, hb⟩ => ⟨he, hb ▸ hw'⟩) ?_
          simp only [Act.put, List.setIfInBounds_toArray, List.set_cons_zero, List.set_cons_succ]
          refine q_val (.int .i64 (y.1 : Nat)) rfl (fun w' hw' => by go_simp) ?_
          simp only [Act.put, List.setIfInBounds_toArray, List.set_cons_zero, List.set_cons_succ]
          refine q_call (.int .u16 (pw y.1 : Nat)) 25 #[.int .i64 (y.1 : Nat)] rfl (fun w' hw' => by go_simp) (fun w' hw' => (only_any y.1 hy w').mono fun e w'' ⟨he, hb⟩ => ⟨he, hb ▸ hw'⟩) ?_
          simp only [Act.put, List.setIfInBounds_toArray, List.set_cons_zero, List.set_cons_succ]
          refine q_val (.int .u16 (pw low ||| pw y.1 : Nat)) rfl (fun w' hw' => by go_simp; rw [or_pw (pw_lt hl16) hy]) ?_
          simp only [Act.put, List.setIfInBounds_toArray, List.set_cons_zero, List.set_cons_succ]
          refine q_val (.bool (tst n A low y.1)) rfl (fun w' hw' => by go_simp; exact int_beq _ _) ?_
          simp only [Act.put, List.setIfInBounds_toArray, List.set_cons_zero, List.set_cons_succ]
          refine wpQuietIn_nil (fun w' hw' => ?_)
          simp only [Norm]
          refine HA0.out _ _ (Met.intro (HA1.out _ _ ?_))
          repeat apply Exists.intro
          exact ⟨⟨rfl, hw'⟩, rfl⟩
        case rest =>
          obtain ⟨rfl, hbx⟩ := hcut
          have C1 := hC.below hbx
          have g4 := h4.kept (grownBy_below hbx none) (by simp)
          have g5 := h5.kept (grownBy_below hbx none) (by simp)
          have c4' := g4.cell
          have cp' := C1.boxp.cell
          have hko : KeepsFrom V0.heap.size V wc := KeepsFrom.of_grownBy (grownBy_below hbx none) (fun j e => by cases e)
          have hbel : Below 1 V wc := hbx.mono TV.lt
          have hll : (covTo n A low ++ covR n A low (pre.map (·.1))).length ≤ 300 := by
            rw [List.length_append]
            have : low * n ≤ 256 := Nat.le_trans (Nat.mul_le_mul (show low ≤ 16 by omega) hn) (by omega)
            omega
          have h4p : B4 ≠ w.heap.size + 1 := by
            rintro e
            have e1 : V.heap[w.heap.size + 1]? = _ := hC.boxp
            rw [← e, show V.heap[B4]? = _ from h4] at e1
            injection e1 with e1
            injection e1 with _ e2
            cases e2
          have h5p : B5 ≠ w.heap.size + 1 := by
            rintro e
            have e1 : V.heap[w.heap.size + 1]? = _ := hC.boxp
            rw [← e, show V.heap[B5]? = _ from h5] at e1
            injection e1 with e1
            injection e1 with _ e2
            cases e2
          obtain ⟨LL, hLL⟩ : ∃ LL, LL = covTo n A low ++ covR n A low (pre.map (·.1)) := ⟨_, rfl⟩
          rw [← hLL] at C1 hll
          have HLL := Lib.hid hLL
          clear hLL
          have HC1 := Lib.hid C1
          have HG4 := Lib.hid g4
          have HG5 := Lib.hid g5
          have HSN := Lib.hid (covR_snoc n A low (pre.map (·.1)) y.1)
          have hsz := C1.bel.size
          clear c1 c4 c5 hbx hC h4 h5 C1 g4 g5
          obtain ⟨i0, hi, hz0, hz1, hz2⟩ := info_parts info31
          cases ht : tst n A low y.1 with
          | true =>
            rw [ht] at HSN
            clear ht
            gi_wp2_with (gi_at_builtin; refine wpListIn_append_own _ rfl _ _ 22 rfl w.heap.size 31 i0 (.agg #[.int .i64 0, .int .i64 0]) 2 16 Tryd.underlying22 hi hz0 hz1 hz2 rfl (by decide) _ _ _ rfl (HC1.out.row.alloc _) ⟨wc.heap.size, 0, none⟩ 1 1 [.int .i64 low, .int .i64 (y.1 : Nat)] rfl rfl (World.news_of_block (heap_alloc_new wc _)) (by simp [Value.oneCell']) (by unfold maxLen; omega) (by omega) (by simp; omega) ?_; intro v' w1 hown' hgrow _; obtain ⟨g', cap', rfl⟩ := ownsRow_succ hown'; obtain ⟨k1, k2, k3, k4⟩ := HC1.out.append (x := (low, y.1)) hown' hgrow; have k5 := k1.cell; have k6 := k1.frozen; have m4 := HC1.out.box_append (v' := .slice (some ⟨g', 0, none⟩) (LL.length + 1) cap') hgrow HG4.out (by decide) h4p; have m5 := HC1.out.box_append (v' := .slice (some ⟨g', 0, none⟩) (LL.length + 1) cap') hgrow HG5.out (by decide) h5p)
            have hw1 : 1 ≤ w.heap.size := HT.out.lt
            have hk4 : Below 1 wc (w1.setCell ⟨w.heap.size + 1, 0, none⟩ (.slice (some ⟨g', 0, none⟩) (LL.length + 1) cap')) := k4.mono hw1
            refine ⟨hko.trans (k3.from _), hbel.trans hk4, ⟨.slice (some ⟨g', 0, none⟩) (LL.length + 1) cap', ?_⟩, m4, m5⟩
            have e : covTo n A low ++ covR n A low ((pre ++ [y]).map (·.1)) = LL ++ [(low, y.1)] := by
              rw [HLL.out, List.map_append, List.append_assoc]
              congr 1
            exact e ▸ k2
          | false =>
            rw [ht] at HSN
            clear ht
            gi_wp2
            refine ⟨hko, hbel, ⟨v1, ?_⟩, HG4.out, HG5.out⟩
            have e : covR n A low ((pre ++ [y]).map (·.1)) = covR n A low (pre.map (·.1)) := by
              rw [List.map_append]
              exact HSN.out.trans (by simp)
            show CSt w b Ds v1 (covTo n A low ++ covR n A low ((pre ++ [y]).map (·.1))) wc
            rw [e, ← HLL.out]
            exact HC1.out
      case done =>
        rintro D ys V hD rfl ⟨⟨v1, hC⟩, h4, h5⟩ hK
        rw [elsE_val, covR_all g hlt2, ← covTo_succ] at hC
        have hnm : D ∉ Ds := fun hm => by have := C3.marks.lt D hm; omega
        have hDC : CSt w b (D :: Ds) v1 (covTo n A (low + 1)) V := ⟨hC.marks.cons (Nat.le_trans C3.bel.size hD) hK hnm, hC.box, hC.boxp, hC.row, hC.bel⟩
        clear hC hK h4 h5
        go_wp2_with fail
        rw [show ((low : Int) + 1) = ((low + 1 : Nat) : Int) by omega]
        exact ⟨n - (low + 1), by omega, low + 1, D :: Ds, v1, _, _, _, _, _, _, _, _, _, _, _, _, _, _, _, _, _, _, _, _, _, _, _, _, _, _, _, _, _, _, _, _, _, by omega, rfl, rfl, hDC⟩
      case stop =>
        rintro D c pre V _ _ h _
        exact h.elim
    · obtain rfl : low = n := by omega
      have hc3 := hC.boxp.cell
      go_wp2_with fail
      refine leaves_marks (B := w.heap.size) (fun W' => W'.ownsRow w.heap.size 31 2 v (covL low A).length (pv (covL low A)) ∧ Below w.heap.size w W') (fun W' D hD hK hp => ⟨ownsRow_putObj hp.1 _ hK rfl, hp.2.trans (belowK_b (w := w) (Nat.le_refl _) W' D _ _ hD hK rfl rfl)⟩) (fun W' hp => ⟨_, results_tmp rfl _ _ _, v, rfl, hp.1, hp.2⟩) Ds W hC.marks ⟨hC.row, hC.bel⟩
end Go.Proofs.YtkiaolegpjkbdaaDoor
