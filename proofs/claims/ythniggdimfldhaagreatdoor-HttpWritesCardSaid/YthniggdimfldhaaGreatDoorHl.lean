/- Walks of such, the tests that loops hand to it, collect, Drop, Strip. -/
import Derived.Test.YthniggdimfldhaaGreatDoorHk
import Derived.Maps.AppendAt
import Derived.Sort.QuietThIn
namespace Go.Proofs.YthniggdimfldhaaGreatDoor
open Go Go.RowKit Go.Shelf
attribute [local go_sem] Oper.semAt_some

set_option maxRecDepth 100000 in
theorem drop1_any (z y : List UInt8) (bx : Nat) (W : World) (hz : z.length ≤ 1000) (hy : y.length ≤ 1000) (hnm : W.cell? ⟨bx, 0, none⟩ = some (.string ⟨y.toArray⟩)) :
    Calls Tryz.prog 115 #[.string ⟨z.toArray⟩, .pointer (some ⟨bx, 0, none⟩)] W fun e W' => e = .returned (.bool (!alikeS z y)) ∧ Below W.heap.size W W' := by
  have con := Lib.hid fun W => alike_anyL z y hz hy _ rfl W
  generalize alikeS z y = q at *
  go_enter Tryz.func115, Tryz.ntmps115
  go_wp2_with (go_at_call 62; refine (con.out _).mono ?_; rintro e w' ⟨rfl, hb⟩)
  go_ret
  exact ⟨rfl, hb⟩
set_option maxRecDepth 100000 in
theorem get1_any (z y : List UInt8) (bx : Nat) (W : World) (hz : z.length ≤ 1000) (hy : y.length ≤ 1000) (hnm : W.cell? ⟨bx, 0, none⟩ = some (.string ⟨y.toArray⟩)) :
    Calls Tryz.prog 61 #[.string ⟨z.toArray⟩, .pointer (some ⟨bx, 0, none⟩)] W fun e W' => e = .returned (.bool (alikeS z y)) ∧ Below W.heap.size W W' := by
  have con := Lib.hid fun W => alike_anyL z y hz hy _ rfl W
  generalize alikeS z y = q at *
  go_enter Tryz.func61, Tryz.ntmps61
  go_wp2_with (go_at_call 62; refine (con.out _).mono ?_; rintro e w' ⟨rfl, hb⟩)
  go_ret
  exact ⟨rfl, hb⟩

set_option maxRecDepth 100000 in
theorem such_any (A : Option Addr) (n c fid bx : Nat) (w : World) : Calls Tryz.prog 60 #[.slice A n c, .func (.func fid) #[] #[.pointer (some ⟨bx, 0, none⟩)]] w fun e w' =>
    e = .returned (.func (.func 76) #[] #[.pointer (some ⟨w.heap.size, 0, none⟩), .pointer (some ⟨w.heap.size + 1, 0, none⟩)]) ∧
      w' = (w.alloc (.cells #[.slice A n c] 22)).alloc (.cells #[.func (.func fid) #[] #[.pointer (some ⟨bx, 0, none⟩)]] 54) := by
  go_enter Tryz.func60, Tryz.ntmps60
  go_wp2
  go_ret
  exact ⟨rfl, rfl⟩

set_option maxRecDepth 100000 in
theorem eg_such : ∀ args w, (callFunc 76 args).run Tryz.prog w = .ok (.enter 76 args) w := enters_of Tryz.func76 (by kernel_rfl) rfl

/-- A header's own block. -/
def BoxH (W : World) (g : Nat) (x : Hd) : Prop := W.heap[g]? = some (.cells #[.string ⟨x.1.toArray⟩, .string ⟨x.2.toArray⟩] 41 (0, 0))
theorem BoxH.c0 {W : World} {g : Nat} {x : Hd} (h : BoxH W g x) : W.cell? ⟨g, 0, none⟩ = some (.string ⟨x.1.toArray⟩) := by simp [World.cell?, show W.heap[g]? = _ from h]
theorem BoxH.c1 {W : World} {g : Nat} {x : Hd} (h : BoxH W g x) : W.cell? ⟨g, 1, none⟩ = some (.string ⟨x.2.toArray⟩) := by simp [World.cell?, show W.heap[g]? = _ from h]
theorem BoxH.lt {W : World} {g : Nat} {x : Hd} (h : BoxH W g x) : g < W.heap.size := (Array.getElem?_eq_some_iff.1 h).1
theorem BoxH.below {W W' : World} {g : Nat} {x : Hd} (h : BoxH W g x) (hb : Below W.heap.size W W') : BoxH W' g x := (hb.block g h.lt).trans h
theorem boxH_from (B : Nat) (g : Nat) (x : Hd) : OwnFrom B (fun (_ : Unit) W => BoxH W g x) := fun _ X Y row hs hg hrow => by
  refine (hg.block g (BoxH.lt hs) fun e => ?_).trans hs
  obtain ⟨_, o, ho, hc⟩ := hrow g e.symm
  rw [show X.heap[g]? = _ from hs] at ho
  injection ho with ho
  subst ho
  cases hc
theorem keeps_below {W W' : World} (h : Below W.heap.size W W') : KeepsOthers W W' := ⟨h.size, fun k _ hk _ => (h.block k (Array.getElem?_eq_some_iff.1 hk).1).trans hk⟩
theorem boxed_below {W W' : World} {B : Nat} {t : TypeId} {v : Value} (h : Boxed W B t v) (hb : Below W.heap.size W W') : Boxed W' B t v := h.kept (grownBy_below hb none) (by simp)

theorem opIn_append {F : Fence} {n : Nat} {P : Program} {w : World} {o : Oper} {a : Act} {K : Act → World → Prop} {Q : Exit → Act → World → Prop} {s x : Operand} {t : TypeId} {v u : Value} {R : Value → World → Prop}
    (hop : o.op = Op.call { callee := Callee.builtin Builtin.append, args := #[s, x], argTypes := #[t, t] }) (hs : a.eval s = v) (hx : a.eval x = u)
    (hrun : ∃ v' w', (Builtin.append_ #[t, t] o.type #[v, u]).run P w = .ok v' w' ∧ R v' w') (hK : ∀ v' w', R v' w' → K (a.put o.dst v') w') : Oper.wpIn F n P o a w K Q := by
  obtain ⟨v', w', hrun, hR⟩ := hrun
  unfold Oper.wpIn
  refine ⟨?_, ?_⟩
  · simp [Oper.about, hop, resolve, Target.leads, Sem.run_pure]
  · rw [Oper.semAt_plain F _ _ (by rw [hop]; intro c hc'; cases hc')]
    simp [execOp, hop, resolve, invoke, builtin, hs, hx, hrun, Result.andThen]
    exact hK _ _ hR
theorem two_new (w : World) (x : Hd) : ∀ j u, [strV x.1, strV x.2][j]? = some u → (w.alloc (.cells #[.string ⟨x.1.toArray⟩, .string ⟨x.2.toArray⟩] 41)).cell? ((⟨w.heap.size, 0, none⟩ : Addr).add j) = some u := by
  intro j u hj
  rw [add_pl]
  match j, hj with
  | 0, hj => simp at hj; subst hj; exact (alloc_head w _ _).1
  | 1, hj => simp at hj; subst hj; exact (alloc_head w _ _).2
  | j + 2, hj => simp at hj
theorem two_one (x : Hd) : ∀ u ∈ [strV x.1, strV x.2], u.oneCell' = true := by
  intro u hu
  simp at hu
  rcases hu with rfl | rfl <;> rfl
theorem undrew {w w' : World} (h : Below w.drew.heap.size w.drew w') : Below w.heap.size w w' := ⟨h.os, h.tape, h.output, h.size, h.block⟩
set_option maxRecDepth 100000 in
set_option maxHeartbeats 2000000 in
theorem collect_any (Bl Bi bx fid : Nat) (S : Nat → Prop) (A : Option Addr) (c : Nat) (L : List Hd) (nm : Value) (p : List UInt8 → Bool) (hS : Sm L)
    (eg : ∀ args w, (callFunc fid args).run Tryz.prog w = .ok (.enter fid args) w)
    (hp : ∀ z : List UInt8, z.length ≤ 1000 → ∀ W, W.cell? ⟨bx, 0, none⟩ = some nm → Calls Tryz.prog fid #[.string ⟨z.toArray⟩, .pointer (some ⟨bx, 0, none⟩)] W fun e W' => e = .returned (.bool (p z)) ∧ Below W.heap.size W W')
    (w : World) (hst : SuchSt S Bl Bi bx A c L (.func (.func fid) #[] #[.pointer (some ⟨bx, 0, none⟩)]) nm w) :
    Calls Tryz.prog 114 #[.func (.func 76) #[] #[.pointer (some ⟨Bl, 0, none⟩), .pointer (some ⟨Bi, 0, none⟩)]] w fun e W' => ∃ v, e = .returned v ∧ OwnH W' w.heap.size v (suchL L p) ∧ Below w.heap.size w W' := by
  obtain ⟨i0, hi, hz0, hz1, hz2⟩ := info_parts infoH
  have hsm : ∀ x ∈ suchL L p, x.1.length ≤ 1000 ∧ x.2.length ≤ 1000 := fun x hx => hS.2 x (List.mem_filter.1 hx).1
  refine (callsIn_wide (n := 9)).1 (callsIn_of_wp_marks Tryz.func114 rfl trivial ?_ rfl)
  simp only [Tryz.ntmps114, List.size_toArray, List.length_cons, List.length_nil, Nat.reduceAdd, Nat.reduceSub, Array.replicate_succ, Array.replicate_zero, List.push_toArray, List.append_toArray, List.nil_append, List.cons_append]
  gi_wp2
  have bO := Boxed.new w 22 (.slice none 0 0)
  have hB0 : Below w.heap.size w (w.alloc (.cells #[.slice none 0 0] 22)) := (Below.refl _ w).alloc (Nat.le_refl _) _
  have hel : (suchL L p).length ≤ 1000 := Nat.le_trans (List.length_filter_le _ _) hS.1
  have hle := hst.le
  refine wpIn_rangeFunc_ownH (α := HdS) rfl (by omega) (gf := 76) (lb := #[.pointer (some ⟨Bl, 0, none⟩), .pointer (some ⟨Bi, 0, none⟩)]) rfl trivial eg_such
    (such_stops 8 (by omega) Bl Bi bx fid S A c L nm p hS eg hp _ (hst.fresh hB0)) KeptOn.trans (keptOn_put fun k hk => Nat.lt_of_lt_of_le (hle k hk) hB0.size) (Below.refl _ _) (fun _ => rfl)
    (fun pre W => (∃ v, Boxed W w.heap.size 22 v ∧ W.ownsRow w.heap.size 41 2 v pre.length (hv (unS pre)) ∧ True) ∧ Below w.heap.size w W)
    (fun _ _ _ => False)
    (OwnFrom.and (Own.from (holdsRow_own w.heap.size w.heap.size 22 41 2 (fun pre => pre.length) (fun pre => hv (unS pre)) (fun _ _ => True)) _) (ownFrom_below (Nat.le_refl _) (by simp)))
    (fun _ _ _ _ _ hs _ _ => hs)
    ⟨⟨_, bO, World.ownsRow_nil _ _ _ _, trivial⟩, hB0⟩
    (fun x a' W => ∃ g, a' = { tmps := #[.func (.func 76) #[] #[.pointer (some ⟨Bl, 0, none⟩), .pointer (some ⟨Bi, 0, none⟩)], undef, .slice none 0 0, .pointer (some ⟨w.heap.size, 0, none⟩), .pointer (some ⟨g, 0, none⟩), .func (.func 76) #[] #[.pointer (some ⟨Bl, 0, none⟩), .pointer (some ⟨Bi, 0, none⟩)], .agg #[.string ⟨x.1.1.toArray⟩, .string ⟨x.1.2.toArray⟩], undef, undef, undef, undef, undef, undef], defers := [] } ∧ BoxH W g x.1)
    (fun x a' _ X Y row ⟨g, e, hg⟩ hgr hrow => ⟨g, e, boxH_from _ g x.1 () X Y row hg hgr hrow⟩) ?assign ?body ?done ?stop
  case assign =>
    rintro l pre x W K hI hK
    unfold encH
    gi_wp2_with fail
    obtain ⟨⟨v, hv, hrow, _⟩, hB⟩ := hI
    refine hK _ _ ((KeepsOthers.alloc W _).from _) (keptOn_new (below_new _ _)) ⟨⟨v, hv.alloc _, World.ownsRow.alloc hrow _, trivial⟩, hB.alloc hB.size _⟩ ⟨W.heap.size, rfl, ?_⟩
    exact heap_alloc_new _ _
  case body =>
    rintro l pre ⟨x, hxm⟩ a' W _ _ ⟨⟨v, hvb, hrow, _⟩, hB⟩ ⟨g, rfl, hbx⟩ hlt
    dsimp only at hbx
    have hc := hvb.cell
    have c0 := hbx.c0
    have c1 := hbx.c1
    have hpl : pre.length < 1000 := by omega
    gi_wp2_with fail
    have hmix : Tryz.prog.follows .mixedOrders = true := by kernel_rfl
    have z1 := mk_size x.1
    have z2 := mk_size x.2
    have HZ1 : Hid ((⟨x.1.toArray⟩ : ByteArray).size ≤ 1000000) := by show _ ≤ _; omega
    have HZ2 : Hid ((⟨x.2.toArray⟩ : ByteArray).size ≤ 1000000) := by show _ ≤ _; omega
    clear z1 z2
    have HV : Hid (Boxed W.drew w.heap.size 22 v) := hvb
    have HR : Hid (W.drew.ownsRow w.heap.size 41 2 v pre.length (hv (unS pre))) := hrow
    refine wpIn_region_any hmix ?_
    change wpAnyIn _ _ _ _ _ _ _ _ _ (World.drew _)
    refine wpAnyIn_ready (rs := [0, 1]) (by kernel_rfl) (by simp) ?_
    refine AllReadyIn.cons rfl (fun K hK => ?_) ?_
    · go_simp
      refine hK _ _ ?_
      clear hK K
      refine wpAnyIn_ready (rs := [1]) (by kernel_rfl) (by simp) ?_
      refine AllReadyIn.cons rfl (fun K hK => ?_) ?_
      · go_simp
        refine hK _ _ ?_
        clear hK K
        refine wpAnyIn_ready (rs := [2]) (by kernel_rfl) (by simp) ?_
        refine AllReadyIn.cons rfl (fun K hK => ?_) ?_
        · go_simp
          refine ⟨trivial, (CallsIn.inRound l (callsIn_wide.2 (clone_any _ _ _ HZ1.out HZ2.out))).mono ?_⟩
          rintro e w5 ⟨rfl, hb5⟩
          have hv5 := Lib.hid (boxed_below HV.out hb5)
          have hr5 := Lib.hid (row_below HR.out hb5)
          have hc5 := hv5.out.cell
          have hc5a := (hv5.out.alloc (.cells #[.string ⟨x.1.toArray⟩, .string ⟨x.2.toArray⟩] 41)).cell
          have HB5 := Lib.hid hb5
          dsimp only
          refine hK _ _ ?_
          clear hK K
          refine wpAnyIn_ready (rs := [3]) (by kernel_rfl) (by simp) ?_
          refine AllReadyIn.cons rfl (fun K hK => ?_) ?_
          · go_simp
            refine hK _ _ ?_
            clear hK K
            refine wpAnyIn_ready (rs := [4]) (by kernel_rfl) (by simp) ?_
            refine AllReadyIn.cons rfl (fun K hK => ?_) ?_
            · refine (iff_of_eq (if_pos ?_)).mpr ?_
              · rfl
              refine opIn_append (o := _) (s := .tmp 7) (x := .tmp 10) (t := 22) rfl rfl rfl (run_append_own (P := Tryz.prog) (w5.alloc (.cells #[.string ⟨x.1.toArray⟩, .string ⟨x.2.toArray⟩] 41)) w.heap.size 22 22 41 i0 (.agg #[.string ⟨#[]⟩, .string ⟨#[]⟩]) 2 32 Tryz.underlying22 hi hz0 hz1 hz2 rfl (by decide) v pre.length (hv (unS pre)) (World.ownsRow.alloc hr5.out _) ⟨w5.heap.size, 0, none⟩ 1 1 [strV x.1, strV x.2] rfl (two_new w5 x) (two_one x) (by unfold maxLen; omega) (by omega) (by have := hB.size; have := HB5.out.size; simp at *; omega)) ?_
              rintro v6 w6 ⟨own6, gr6, _⟩
              obtain ⟨g6, cap6, rfl⟩ := ownsRow_succ own6
              obtain ⟨bx6, bf6, ow6, ko6, bl6⟩ := hv5.out.appended (by decide) hr5.out (Nat.le_trans hB.size HB5.out.size) (Nat.le_refl _) own6 gr6
              have hc6 := bx6.cell
              have hf6 := bx6.frozen
              refine hK _ _ ?_
              clear hK K
              refine wpAnyIn_ready (rs := [5]) (by kernel_rfl) (by simp) ?_
              refine AllReadyIn.cons rfl (fun K hK => ?_) ?_
              · go_simp
                refine hK _ _ ?_
                clear hK K
                refine wpAnyIn_done (by kernel_rfl) ?_ _
                gi_wp2
                have hb5' := undrew HB5.out
                exact ⟨((keeps_below hb5').trans ko6).from _, (keptOn_new hb5').trans (keptOn_below hle bl6), ⟨_, bf6, by rw [unS_snoc, hv_snoc, List.length_append]; exact ow6, trivial⟩, hB.trans ((hb5'.mono hB.size).trans bl6)⟩
              exact AllReadyIn.nil
            exact AllReadyIn.nil
          exact AllReadyIn.nil
        exact AllReadyIn.nil
      exact AllReadyIn.nil
    refine AllReadyIn.cons rfl (fun K hK => ?_) ?_
    · go_simp
      refine hK _ _ ?_
      clear hK K
      refine wpAnyIn_ready (rs := [0, 2]) (by kernel_rfl) (by simp) ?_
      refine AllReadyIn.cons rfl (fun K hK => ?_) ?_
      · go_simp
        refine hK _ _ ?_
        clear hK K
        refine wpAnyIn_ready (rs := [2]) (by kernel_rfl) (by simp) ?_
        refine AllReadyIn.cons rfl (fun K hK => ?_) ?_
        · go_simp
          refine ⟨trivial, (CallsIn.inRound l (callsIn_wide.2 (clone_any _ _ _ HZ1.out HZ2.out))).mono ?_⟩
          rintro e w5 ⟨rfl, hb5⟩
          have hv5 := Lib.hid (boxed_below HV.out hb5)
          have hr5 := Lib.hid (row_below HR.out hb5)
          have hc5 := hv5.out.cell
          have hc5a := (hv5.out.alloc (.cells #[.string ⟨x.1.toArray⟩, .string ⟨x.2.toArray⟩] 41)).cell
          have HB5 := Lib.hid hb5
          dsimp only
          refine hK _ _ ?_
          clear hK K
          refine wpAnyIn_ready (rs := [3]) (by kernel_rfl) (by simp) ?_
          refine AllReadyIn.cons rfl (fun K hK => ?_) ?_
          · go_simp
            refine hK _ _ ?_
            clear hK K
            refine wpAnyIn_ready (rs := [4]) (by kernel_rfl) (by simp) ?_
            refine AllReadyIn.cons rfl (fun K hK => ?_) ?_
            · refine (iff_of_eq (if_pos ?_)).mpr ?_
              · rfl
              refine opIn_append (o := _) (s := .tmp 7) (x := .tmp 10) (t := 22) rfl rfl rfl (run_append_own (P := Tryz.prog) (w5.alloc (.cells #[.string ⟨x.1.toArray⟩, .string ⟨x.2.toArray⟩] 41)) w.heap.size 22 22 41 i0 (.agg #[.string ⟨#[]⟩, .string ⟨#[]⟩]) 2 32 Tryz.underlying22 hi hz0 hz1 hz2 rfl (by decide) v pre.length (hv (unS pre)) (World.ownsRow.alloc hr5.out _) ⟨w5.heap.size, 0, none⟩ 1 1 [strV x.1, strV x.2] rfl (two_new w5 x) (two_one x) (by unfold maxLen; omega) (by omega) (by have := hB.size; have := HB5.out.size; simp at *; omega)) ?_
              rintro v6 w6 ⟨own6, gr6, _⟩
              obtain ⟨g6, cap6, rfl⟩ := ownsRow_succ own6
              obtain ⟨bx6, bf6, ow6, ko6, bl6⟩ := hv5.out.appended (by decide) hr5.out (Nat.le_trans hB.size HB5.out.size) (Nat.le_refl _) own6 gr6
              have hc6 := bx6.cell
              have hf6 := bx6.frozen
              refine hK _ _ ?_
              clear hK K
              refine wpAnyIn_ready (rs := [5]) (by kernel_rfl) (by simp) ?_
              refine AllReadyIn.cons rfl (fun K hK => ?_) ?_
              · go_simp
                refine hK _ _ ?_
                clear hK K
                refine wpAnyIn_done (by kernel_rfl) ?_ _
                gi_wp2
                have hb5' := undrew HB5.out
                exact ⟨((keeps_below hb5').trans ko6).from _, (keptOn_new hb5').trans (keptOn_below hle bl6), ⟨_, bf6, by rw [unS_snoc, hv_snoc, List.length_append]; exact ow6, trivial⟩, hB.trans ((hb5'.mono hB.size).trans bl6)⟩
              exact AllReadyIn.nil
            exact AllReadyIn.nil
          exact AllReadyIn.nil
        exact AllReadyIn.nil
      refine AllReadyIn.cons rfl (fun K hK => ?_) ?_
      · go_simp
        refine ⟨trivial, (CallsIn.inRound l (callsIn_wide.2 (clone_any _ _ _ HZ1.out HZ2.out))).mono ?_⟩
        rintro e w5 ⟨rfl, hb5⟩
        have hv5 := Lib.hid (boxed_below HV.out hb5)
        have hr5 := Lib.hid (row_below HR.out hb5)
        have hc5 := hv5.out.cell
        have hc5a := (hv5.out.alloc (.cells #[.string ⟨x.1.toArray⟩, .string ⟨x.2.toArray⟩] 41)).cell
        have HB5 := Lib.hid hb5
        dsimp only
        refine hK _ _ ?_
        clear hK K
        refine wpAnyIn_ready (rs := [0, 3]) (by kernel_rfl) (by simp) ?_
        refine AllReadyIn.cons rfl (fun K hK => ?_) ?_
        · go_simp
          refine hK _ _ ?_
          clear hK K
          refine wpAnyIn_ready (rs := [3]) (by kernel_rfl) (by simp) ?_
          refine AllReadyIn.cons rfl (fun K hK => ?_) ?_
          · go_simp
            refine hK _ _ ?_
            clear hK K
            refine wpAnyIn_ready (rs := [4]) (by kernel_rfl) (by simp) ?_
            refine AllReadyIn.cons rfl (fun K hK => ?_) ?_
            · refine (iff_of_eq (if_pos ?_)).mpr ?_
              · rfl
              refine opIn_append (o := _) (s := .tmp 7) (x := .tmp 10) (t := 22) rfl rfl rfl (run_append_own (P := Tryz.prog) (w5.alloc (.cells #[.string ⟨x.1.toArray⟩, .string ⟨x.2.toArray⟩] 41)) w.heap.size 22 22 41 i0 (.agg #[.string ⟨#[]⟩, .string ⟨#[]⟩]) 2 32 Tryz.underlying22 hi hz0 hz1 hz2 rfl (by decide) v pre.length (hv (unS pre)) (World.ownsRow.alloc hr5.out _) ⟨w5.heap.size, 0, none⟩ 1 1 [strV x.1, strV x.2] rfl (two_new w5 x) (two_one x) (by unfold maxLen; omega) (by omega) (by have := hB.size; have := HB5.out.size; simp at *; omega)) ?_
              rintro v6 w6 ⟨own6, gr6, _⟩
              obtain ⟨g6, cap6, rfl⟩ := ownsRow_succ own6
              obtain ⟨bx6, bf6, ow6, ko6, bl6⟩ := hv5.out.appended (by decide) hr5.out (Nat.le_trans hB.size HB5.out.size) (Nat.le_refl _) own6 gr6
              have hc6 := bx6.cell
              have hf6 := bx6.frozen
              refine hK _ _ ?_
              clear hK K
              refine wpAnyIn_ready (rs := [5]) (by kernel_rfl) (by simp) ?_
              refine AllReadyIn.cons rfl (fun K hK => ?_) ?_
              · go_simp
                refine hK _ _ ?_
                clear hK K
                refine wpAnyIn_done (by kernel_rfl) ?_ _
                gi_wp2
                have hb5' := undrew HB5.out
                exact ⟨((keeps_below hb5').trans ko6).from _, (keptOn_new hb5').trans (keptOn_below hle bl6), ⟨_, bf6, by rw [unS_snoc, hv_snoc, List.length_append]; exact ow6, trivial⟩, hB.trans ((hb5'.mono hB.size).trans bl6)⟩
              exact AllReadyIn.nil
            exact AllReadyIn.nil
          exact AllReadyIn.nil
        refine AllReadyIn.cons rfl (fun K hK => ?_) ?_
        · go_simp
          refine hK _ _ ?_
          clear hK K
          refine wpAnyIn_ready (rs := [0]) (by kernel_rfl) (by simp) ?_
          refine AllReadyIn.cons rfl (fun K hK => ?_) ?_
          · go_simp
            refine hK _ _ ?_
            clear hK K
            refine wpAnyIn_ready (rs := [4]) (by kernel_rfl) (by simp) ?_
            refine AllReadyIn.cons rfl (fun K hK => ?_) ?_
            · refine (iff_of_eq (if_pos ?_)).mpr ?_
              · rfl
              refine opIn_append (o := _) (s := .tmp 7) (x := .tmp 10) (t := 22) rfl rfl rfl (run_append_own (P := Tryz.prog) (w5.alloc (.cells #[.string ⟨x.1.toArray⟩, .string ⟨x.2.toArray⟩] 41)) w.heap.size 22 22 41 i0 (.agg #[.string ⟨#[]⟩, .string ⟨#[]⟩]) 2 32 Tryz.underlying22 hi hz0 hz1 hz2 rfl (by decide) v pre.length (hv (unS pre)) (World.ownsRow.alloc hr5.out _) ⟨w5.heap.size, 0, none⟩ 1 1 [strV x.1, strV x.2] rfl (two_new w5 x) (two_one x) (by unfold maxLen; omega) (by omega) (by have := hB.size; have := HB5.out.size; simp at *; omega)) ?_
              rintro v6 w6 ⟨own6, gr6, _⟩
              obtain ⟨g6, cap6, rfl⟩ := ownsRow_succ own6
              obtain ⟨bx6, bf6, ow6, ko6, bl6⟩ := hv5.out.appended (by decide) hr5.out (Nat.le_trans hB.size HB5.out.size) (Nat.le_refl _) own6 gr6
              have hc6 := bx6.cell
              have hf6 := bx6.frozen
              refine hK _ _ ?_
              clear hK K
              refine wpAnyIn_ready (rs := [5]) (by kernel_rfl) (by simp) ?_
              refine AllReadyIn.cons rfl (fun K hK => ?_) ?_
              · go_simp
                refine hK _ _ ?_
                clear hK K
                refine wpAnyIn_done (by kernel_rfl) ?_ _
                gi_wp2
                have hb5' := undrew HB5.out
                exact ⟨((keeps_below hb5').trans ko6).from _, (keptOn_new hb5').trans (keptOn_below hle bl6), ⟨_, bf6, by rw [unS_snoc, hv_snoc, List.length_append]; exact ow6, trivial⟩, hB.trans ((hb5'.mono hB.size).trans bl6)⟩
              exact AllReadyIn.nil
            exact AllReadyIn.nil
          exact AllReadyIn.nil
        exact AllReadyIn.nil
      exact AllReadyIn.nil
    exact AllReadyIn.nil
  case done =>
    rintro D ys W hD hys ⟨⟨v, hv, hrow, hnil⟩, hB⟩ hK
    have hys := Lib.hid hys
    have hc := hv.cell
    gi_wp2
    refine ⟨by simp, .inl ⟨_, _, rfl, run_takeDeferred hK, ?_⟩⟩
    exact ⟨_, results_tmp rfl _ _ _, v, rfl, by unfold OwnH; rw [← hys.out, unS_len]; exact ownsRow_putObj hrow _ hK rfl, hB.trans (belowK_b (w := w) (Nat.le_refl _) W D _ _ (by simp at hD; omega) hK rfl rfl)⟩
  case stop =>
    rintro D c pre W _ _ h _
    exact h.elim
end Go.Proofs.YthniggdimfldhaaGreatDoor
