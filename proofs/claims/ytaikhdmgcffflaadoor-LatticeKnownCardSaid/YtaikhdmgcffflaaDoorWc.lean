/- Walks of the search along paths: visit, and down. -/
import Derived.Test.YtaikhdmgcffflaaDoorWb
import Derived.Test.YtaikhdmgcffflaaDoorPb
import Derived.Deep.RegionWith
import Derived.Deep.DeepCutAuto
import Derived.Laws.EntriesVeiled
namespace Go.Proofs.YtaikhdmgcffflaaDoor
open Go Go.RowKit Go.Shelf
attribute [local go_sem] Oper.semAt_some

theorem and_pw {F x : Nat} (hF : F < 65536) (hx : x < 16) : bits BinOp.and IntKind.u16 (F : Int) (pw x : Nat) = ((F &&& pw x : Nat) : Int) := u16_and_nat F _ hF (pw_lt hx)
theorem or_pw {F x : Nat} (hF : F < 65536) (hx : x < 16) : bits BinOp.or IntKind.u16 (F : Int) (pw x : Nat) = ((F ||| pw x : Nat) : Int) := u16_or_nat F _ hF (pw_lt hx)
theorem and_pw_ne (F x : Nat) : (F &&& pw x) ≠ 0 ↔ F.testBit x = true := by
  unfold pw
  constructor
  · intro h
    cases hb : F.testBit x with
    | true => rfl
    | false =>
      refine absurd (Nat.eq_of_testBit_eq fun i => ?_) h
      rw [Nat.testBit_and, Nat.testBit_two_pow, Nat.zero_testBit]
      by_cases e : x = i
      · subst e; simp [hb]
      · simp [e]
  · intro h e
    have := congrArg (fun n => n.testBit x) e
    simp [Nat.testBit_and, h] at this
theorem test_pw {F x : Nat} (hF : F < 65536) (hx : x < 16) : (bits BinOp.and IntKind.u16 (F : Int) (pw x : Nat) != 0) = F.testBit x := by
  rw [and_pw hF hx, Bool.eq_iff_iff, ← and_pw_ne, bne_iff_ne]
  omega

/-- What a visit finds in memory: the order, and its three boxes. -/
structure Fit (W : World) (b n : Nat) (A : Nat → Nat) (Bf Bo Bv : Nat) : Prop where
  tab : Tab W
  ord : IsOrd W b n A
  bo : Boxed W Bo 78 (.pointer (some ⟨b, 0, none⟩))
  bv : Boxed W Bv 129 (.func (.func 85) #[] #[.pointer (some ⟨Bf, 0, none⟩), .pointer (some ⟨Bo, 0, none⟩), .pointer (some ⟨Bv, 0, none⟩)])
  ne0 : Bf ≠ 0
  neb : Bf ≠ b
  neo : Bf ≠ Bo
  nev : Bf ≠ Bv

theorem Fit.kept {W W' : World} {b n : Nat} {A : Nat → Nat} {Bf Bo Bv : Nat} (h : Fit W b n A Bf Bo Bv) (hg : W.grownBy W' (some Bf)) : Fit W' b n A Bf Bo Bv :=
  ⟨h.tab.below (B := 1) ⟨hg.os, hg.tape, hg.output, hg.size, fun k hk => hg.block k (by have := h.tab.lt; omega) (by have := h.ne0; simp; omega)⟩ (by omega),
   h.ord.kept hg (by have := h.neb; simp; omega), h.bo.kept hg (by have := h.neo; simp; omega), h.bv.kept hg (by have := h.nev; simp; omega), h.ne0, h.neb, h.neo, h.nev⟩

def VisPost (A : Nat → Nat) (Bf F x : Nat) (W : World) (e : Ending) (W' : World) : Prop :=
  (∃ v, e = .returned v) ∧ W.grownBy W' (some Bf) ∧ ∃ F', F' < 65536 ∧ Boxed W' Bf 110 (.int .u16 (F' : Nat)) ∧ Vis A F x F'

/-- A statement that comes to its end. -/
def Norm (K : Act → World → Prop) : Exit → Act → World → Prop
  | .normal, a, w => K a w
  | _, _, _ => False
theorem wp_norm {P : Program} {c : Code} {K : Act → World → Prop} {Q : Exit → Act → World → Prop} {a : Act} {w : World} (h : c.wp P (Norm K) a w) : c.wp P (Exit.then K Q) a w :=
  Code.wp_mono (fun e _ _ h => by cases e <;> first | exact h | exact h.elim) h
theorem only_q (a : Nat) (ha : a < 16) (w : World) : Calls Tryd.prog 72 #[.int .i64 a] w fun e w' => e = .returned (.int .u16 (pw a : Nat)) ∧ w' = w :=
  (only_any a ha w).mono fun _ _ ⟨he, hw⟩ => ⟨he, hw.symm⟩
theorem grownBy_drewN (W : World) (k : Nat) (row : Option Nat) : W.grownBy (W.drewN k) row := ⟨rfl, rfl, rfl, Nat.le_refl _, fun _ _ _ => rfl⟩

theorem _root_.Go.World.grownBy.trans_set {W V : World} {b : Nat} (h : W.grownBy V (some b)) (v : Value) (o : Nat) : W.grownBy (V.setCell ⟨b, o, none⟩ v) (some b) :=
  ⟨h.os, h.tape, h.output, Nat.le_trans h.size (by simp [World.setCell]), fun k hk hne => (Below.heap_setCell _ _ _ k (fun e => hne (by rw [e]))).trans (h.block k hk hne)⟩
theorem grownBy_trans {W V U : World} {r : Option Nat} (h : W.grownBy V r) (k : V.grownBy U r) : W.grownBy U r :=
  ⟨k.os.trans h.os, k.tape.trans h.tape, k.output.trans h.output, Nat.le_trans h.size k.size, fun i hi hne => (k.block i (Nat.lt_of_lt_of_le hi h.size) hne).trans (h.block i hi hne)⟩

theorem grown_turn {w X Y : World} {b : Nat} {row : Option Nat} (h : w.grownBy X (some b)) (k : X.grownBy Y row) (hr : ∀ r, row = some r → w.heap.size ≤ r) : w.grownBy Y (some b) :=
  ⟨k.os.trans h.os, k.tape.trans h.tape, k.output.trans h.output, Nat.le_trans h.size k.size, fun i hi hne => (k.block i (Nat.lt_of_lt_of_le hi h.size) (fun e => by have := hr i e.symm; omega)).trans (h.block i hi hne)⟩

theorem below_one {W V : World} {b : Nat} (h : W.grownBy V (some b)) (h0 : 0 < W.heap.size) (hb : b ≠ 0) : Below 1 W V :=
  ⟨h.os, h.tape, h.output, h.size, fun k hk => h.block k (by omega) (by simp; omega)⟩

theorem visit_yes (A : Nat → Nat) (Bf Bo Bv : Nat) (F x : Nat) (W : World) (hx : x < 16) (hF : F < 65536) (hbf : Boxed W Bf 110 (.int .u16 (F : Nat))) (hin : F.testBit x = true) :
    Calls Tryd.prog 85 #[.int .i64 x, .pointer (some ⟨Bf, 0, none⟩), .pointer (some ⟨Bo, 0, none⟩), .pointer (some ⟨Bv, 0, none⟩)] W (VisPost A Bf F x W) := by
  have ht := test_pw hF hx
  rw [hin] at ht
  have hc := hbf.cell
  go_enter Tryd.func85, Tryd.ntmps85
  go_wp2
  go_quiet ((go_at_call 72; exact Calls.quiet_of_same (only_q x hx _)))
  go_wp2
  refine bodyPost_ret (results_none rfl _ _ _) rfl ?_
  exact ⟨⟨_, rfl⟩, grownBy_drewN _ _ _, F, hF, hbf, vis_in hin⟩

set_option maxHeartbeats 1000000 in
theorem visit_no (b n : Nat) (A : Nat → Nat) (hA : Small A) (Bf Bo Bv : Nat) (F x : Nat) (W : World) (hx : x < 16) (hF : F < 65536) (hfit : Fit W b n A Bf Bo Bv) (hbf : Boxed W Bf 110 (.int .u16 (F : Nat))) (hin : F.testBit x = false)
    (ih : ∀ (G y : Nat) (V : World), y < 16 → G < 65536 → free G < free F → Fit V b n A Bf Bo Bv → Boxed V Bf 110 (.int .u16 (G : Nat)) → 
      Calls Tryd.prog 85 #[.int .i64 y, .pointer (some ⟨Bf, 0, none⟩), .pointer (some ⟨Bo, 0, none⟩), .pointer (some ⟨Bv, 0, none⟩)] V (VisPost A Bf G y V)) :
    Calls Tryd.prog 85 #[.int .i64 x, .pointer (some ⟨Bf, 0, none⟩), .pointer (some ⟨Bo, 0, none⟩), .pointer (some ⟨Bv, 0, none⟩)] W (VisPost A Bf F x W) := by
  have ht := test_pw hF hx
  rw [hin] at ht
  have hc := hbf.cell
  have hcf := hbf.frozen
  have ho := hfit.bo.cell
  have ha := hfit.ord.at hx
  have hx1 : ((x : Int)).toNat = x := by omega
  refine (callsIn_wide (n := 9)).1 (callsIn_of_wp_marks Tryd.func85 rfl trivial ?_ rfl)
  simp only [Tryd.ntmps85, List.size_toArray, List.length_cons, List.length_nil, Nat.reduceAdd, Nat.reduceSub, Array.replicate_succ, Array.replicate_zero, List.push_toArray, List.append_toArray, List.nil_append, List.cons_append]
  refine wpIn_wide.2 ?_
  go_wp2
  go_quiet ((go_at_call 72; exact Calls.quiet_of_same (only_q x hx _)))
  go_upto_region 1 with fail
  go_cut [14] from 11 to 14 (fun _ wx => W.grownBy wx (some Bf) ∧ Boxed wx Bf 110 (.int .u16 ((F ||| pw x : Nat) : Int)))
  case first =>
    refine wp_norm ?_
    go_region_with (go_at_call 72; refine (only_q x hx _).mono ?_; rintro e w' ⟨rfl, rfl⟩)
    all_goals
      simp only [Norm]
      go_wp2_with fail
      go_meet
      case rel =>
        rw [← or_pw hF hx]
        exact ⟨(grownBy_drewN _ _ _).trans_set _ _, (show Boxed (W.drewN _) Bf 110 _ from hbf).set _⟩
  case rest =>
    obtain ⟨hg, hb1⟩ := hcut
    have fit1 := hfit.kept hg
    have ho1 := fit1.bo.cell
    have ha1 := fit1.ord.at hx
    clear ho ha hc hcf ht hx1
    go_wp2_with (go_at_call 75; refine (elements_any _ _).mono ?_; rintro e w' ⟨rfl, rfl⟩)
    refine (wpIn_wide (n := 9)).1 ?_
    have hs1 := Boxed.new wc 110 (.int .u16 (A x : Nat))
    have hb2 := hb1.alloc (.cells #[.int .u16 (A x : Nat)] 110)
    have hg2 : W.grownBy (wc.alloc (.cells #[.int .u16 (A x : Nat)] 110)) (some Bf) := grownBy_trans hg (World.grownBy_alloc _ _ _)
    have fit2 := fit1.kept (World.grownBy_alloc wc (.cells #[.int .u16 (A x : Nat)] 110) (some Bf))
    clear ho1 ha1 fit1 hb1 hg hfit hbf
    generalize wc.heap.size = Bs at *
    generalize wc.alloc (.cells #[.int .u16 (A x : Nat)] 110) = w1 at *
    have hlt := hb2.lt
    have ht0 := fit2.tab.lt
    have hne0 := fit2.ne0
    refine wpIn_rangeFunc_ownG (α := El) rfl (by omega) (gf := 83) (lb := #[.pointer (some ⟨Bs, 0, none⟩)]) rfl trivial (enters_of Tryd.func83 (by kernel_rfl) rfl)
      (elements_stops 8 (by omega) Bs (A x) (hA x) w1 fit2.tab hs1) belowK_t (belowK_b (by omega)) (Below.refl _ _) (fun _ => rfl)
      (fun pre V => w1.grownBy V (some Bf) ∧ ∃ F', F' < 65536 ∧ Boxed V Bf 110 (.int .u16 (F' : Nat)) ∧ VisL A (F ||| pw x) (pre.map (·.1)) F')
      (fun _ _ _ => False)
      (fun s X Y row hs hg hr => ⟨grown_turn hs.1 hg (fun r e => (hr r e).1), by
        obtain ⟨F', h1, h2, h3⟩ := hs.2
        exact ⟨F', h1, h2.kept hg (fun e => by have := (hr Bf e.symm).1; omega), h3⟩⟩)
      (fun _ _ _ _ _ hs _ _ => hs)
      ⟨⟨rfl, rfl, rfl, Nat.le_refl _, fun _ _ _ => rfl⟩, _, Nat.or_lt_two_pow (n := 16) hF (pw_lt hx), hb2, VisL.nil _ _⟩
      (fun y => { tmps := #[.int .i64 x, .pointer (some ⟨Bf, 0, none⟩), .pointer (some ⟨Bo, 0, none⟩), .pointer (some ⟨Bv, 0, none⟩), undef, .int .i64 (y.1 : Nat), .int .u16 F, .int .i64 x, .int .u16 (pw x : Nat), .int .u16 (bits BinOp.and IntKind.u16 F (pw x : Nat)), .bool false, u11, u12, u13, u14, .pointer (some ⟨b, 0, none⟩), .int .i64 x, .pointer (some ⟨b, 0, none⟩), .pointer (some ⟨b, 1, none⟩), .pointer (some ⟨b, 1 + x, none⟩), .int .u16 (A x : Nat), .func (.func 83) #[] #[.pointer (some ⟨Bs, 0, none⟩)], .int .i64 (y.1 : Nat), undef, undef, undef], defers := [] }) ?assign ?body ?done ?stop
    case assign =>
      intro l y V K hK
      gi_wp2
      exact hK
    case body =>
      rintro l pre y V ⟨hgV, F', hF', hbV, hv⟩ _
      have fitV := fit2.kept hgV
      have hcv := fitV.bv.cell
      have hfr : free F' < free F := Nat.lt_of_le_of_lt (free_mono hv.1) (free_lt hx hin)
      gi_wp2_with (((try refine ⟨trivial, ?_⟩); gi_at_call 85; refine (CallsIn.inRound l (callsIn_wide.2 (ih F' y.1 V y.2 hF' hfr fitV hbV))).mono ?_; rintro e V' ⟨⟨v, rfl⟩, hg', F'', hF'', hb'', hv''⟩))
      exact ⟨KeepsFrom.of_grownBy hg' (fun j e => by cases e; exact hlt), below_one hg' fitV.tab.lt hne0, grownBy_trans hgV hg', F'', hF'', hb'', by rw [List.map_append]; exact hv.snoc hv''⟩
    case done =>
      rintro D ys V hD rfl ⟨hgV, F', hF', hbV, hv⟩ hK
      rw [elsE_val] at hv
      gi_wp2
      refine ⟨by simp, .inl ⟨_, _, rfl, run_takeDeferred hK, ?_⟩⟩
      refine ⟨_, results_none rfl _ _ _, ⟨_, rfl⟩, ?_, F', hF', ?_, vis_of (hA x) hv⟩
      · exact grown_turn (grownBy_trans hg2 hgV) (grownBy_putObj' V D (.deferred none)) (fun r e => by cases e; exact Nat.le_trans hg2.size hD)
      · exact hbV.kept (grownBy_putObj' V D (.deferred none)) (fun e => by cases e; omega)
    case stop =>
      rintro D c pre V _ _ h _
      exact h.elim

theorem visit_any (b n : Nat) (A : Nat → Nat) (hA : Small A) (Bf Bo Bv : Nat) : ∀ (k F x : Nat) (W : World), free F ≤ k → x < 16 → F < 65536 → Fit W b n A Bf Bo Bv → Boxed W Bf 110 (.int .u16 (F : Nat)) →
    Calls Tryd.prog 85 #[.int .i64 x, .pointer (some ⟨Bf, 0, none⟩), .pointer (some ⟨Bo, 0, none⟩), .pointer (some ⟨Bv, 0, none⟩)] W (VisPost A Bf F x W) := by
  intro k
  induction k with
  | zero =>
    intro F x W hk hx hF hfit hb
    cases hin : F.testBit x with
    | true => exact visit_yes A Bf Bo Bv F x W hx hF hb hin
    | false => have := free_lt hx hin; omega
  | succ k ih =>
    intro F x W hk hx hF hfit hb
    cases hin : F.testBit x with
    | true => exact visit_yes A Bf Bo Bv F x W hx hF hb hin
    | false => exact visit_no b n A hA Bf Bo Bv F x W hx hF hfit hb hin (fun G y V hy hG hfr hfV hbV => ih G y V (by omega) hy hG hfV hbV)

/-- down: all that are at most an element. -/
theorem down_any (b n : Nat) (A : Nat → Nat) (hA : Small A) (a : Nat) (ha : a < 16) (W : World) (hT : Tab W) (h : IsOrd W b n A) :
    Calls Tryd.prog 76 #[.pointer (some ⟨b, 0, none⟩), .int .i64 a] W fun e W' => e = .returned (.int .u16 (clo A a : Nat)) ∧ Below W.heap.size W W' := by
  have b1 := Boxed.new W 78 (.pointer (some ⟨b, 0, none⟩))
  have b2 := Boxed.new (W.alloc (.cells #[.pointer (some ⟨b, 0, none⟩)] 78)) 110 (.int .u16 ((0 : Nat) : Int))
  rw [World.size_alloc] at b2
  have b3 := Boxed.new ((W.alloc (.cells #[.pointer (some ⟨b, 0, none⟩)] 78)).alloc (.cells #[.int .u16 ((0 : Nat) : Int)] 110)) 129 (.func (.func 85) #[] #[.pointer (some ⟨W.heap.size + 1, 0, none⟩), .pointer (some ⟨W.heap.size, 0, none⟩), .pointer (some ⟨W.heap.size + 1 + 1, 0, none⟩)])
  rw [World.size_alloc, World.size_alloc] at b3
  have hlt := h.lt
  have bel : Below W.heap.size W (((W.alloc (.cells #[.pointer (some ⟨b, 0, none⟩)] 78)).alloc (.cells #[.int .u16 ((0 : Nat) : Int)] 110)).alloc (.cells #[.func (.func 85) #[] #[.pointer (some ⟨W.heap.size + 1, 0, none⟩), .pointer (some ⟨W.heap.size, 0, none⟩), .pointer (some ⟨W.heap.size + 1 + 1, 0, none⟩)]] 129)) :=
    (((Below.refl _ W).alloc (Nat.le_refl _) _).alloc (by simp) _).alloc (by simp; omega) _
  have con := visit_any b n A hA (W.heap.size + 1) W.heap.size (W.heap.size + 1 + 1) 16 0 a _ (free_le 0) ha (by omega)
    ⟨hT.below bel hT.lt, h.below bel hlt, (b1.alloc _).alloc _, b3, by omega, by omega, by omega, by omega⟩ (b2.alloc _)
  have CON := Lib.hid con
  have BEL := Lib.hid bel
  clear con bel b1 b2 b3
  go_enter Tryd.func76, Tryd.ntmps76
  go_wp2_with fail
  refine Calls.mono CON.out ?_
  rintro e W' ⟨⟨v, rfl⟩, hg, F', hF', hb', hv⟩
  have hc := hb'.cell
  clear CON
  go_wp2_with fail
  go_ret
  exact ⟨ret_int (by rw [vis_clo hA ha hF' hv]), BEL.out.grown hg (by simp; omega) (fun k e => by cases e; omega)⟩
end Go.Proofs.YtaikhdmgcffflaaDoor
