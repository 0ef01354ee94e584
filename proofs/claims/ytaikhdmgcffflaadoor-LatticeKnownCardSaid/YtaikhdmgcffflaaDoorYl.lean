/- The law LatticeKnown: what it builds, what it asks of no lattice at all; its walk. -/
import Derived.Test.YtaikhdmgcffflaaDoorYk
namespace Go.Proofs.YtaikhdmgcffflaaDoor
open Go Go.RowKit

theorem makes_len (An : Option Addr) (cn : Nat) (N0 : List (List UInt8)) (n : Nat) (hn : N0.length = n) (Ab : Option Addr) (cb : Nat) (L0 : List (Int × Int)) (m : Nat) (hm : L0.length = m) (code : Int) (w : World) (hT : Tab w) (hR : Rd w An (sv N0)) (hc : n ≤ cn) (hL : ∀ y ∈ N0, y.length ≤ maxLen) (hP : Rd w Ab (pvI L0)) (hcb : m ≤ cb) :
    Calls Tryd.prog 3 #[.slice An n cn, .slice Ab m cb, .int .i64 code] w fun e w' => e = .returned (.bool true) ∧ Below w.heap.size w w' := by
  subst hn hm
  exact latticeMakes_any An cn N0 Ab cb L0 code w hT hR hc hL hP hcb

set_option maxRecDepth 100000 in
/-- append to a slice of pairs that is full. -/
theorem run_append_full (w : World) (ty : TypeId) (g off : Nat) (L : List (Int × Int)) (n : Nat) (hn : L.length = n) (hR : Rd w (some ⟨g, off, none⟩) (pvI L)) (hl : n ≤ 1000) (ad : Nat) (p q : Int) (h0 : w.cell? ⟨ad, 0, none⟩ = some (.int .i64 p)) (h1 : w.cell? ⟨ad, 1, none⟩ = some (.int .i64 q)) :
    ∃ A cap w', (Builtin.append_ #[23, 23] ty #[.slice (some ⟨g, off, none⟩) n n, .slice (some ⟨ad, 0, none⟩) 1 1]).run Tryd.prog w = .ok (.slice A (n + 1) cap) w' ∧ n + 1 ≤ cap ∧ Rd w' A (pvI (L ++ [(p, q)])) ∧ Below w.heap.size w w' := by
  obtain ⟨i0, hi, hz0, hz1, hz2⟩ := info_parts info31
  refine ⟨_, _, _, run_append_grow w 23 ty 41 i0 (.agg #[.int .i64 0, .int .i64 0]) Tryd.underlying23 hi hz0 ⟨g, off, none⟩ n n (pvI L) (by rw [pvI_len, hn, hz1]) ?_ ⟨ad, 0, none⟩ 1 1 [.int .i64 p, .int .i64 q] (by rw [hz1]; rfl) ?_ (by omega) (by omega) (growslice_fits (by omega) (by rw [hz2]; omega)), grownCap_ge _ _ _ _, ?_, ?_⟩
  · intro j v hj
    obtain ⟨hj1, hj2⟩ := List.getElem?_eq_some_iff.1 hj
    obtain ⟨b, off2, e, _, hc⟩ := hR j hj1
    cases e
    rw [add_pl, hc, hj2]
  · intro j v hj
    match j, hj with
    | 0, hj => simp at hj; subst hj; exact h0
    | 1, hj => simp at hj; subst hj; exact h1
    | j + 2, hj => simp at hj
  · intro i hi'
    refine ⟨w.heap.size, 0, rfl, by simp, ?_⟩
    show (w.drew.alloc _).cell? ⟨w.drew.heap.size, 0 + i, none⟩ = _
    rw [World.cell?_alloc_at _ _ _ _ rfl]
    have e : pvI (L ++ [(p, q)]) = pvI L ++ [.int .i64 p, .int .i64 q] := by simp [pvI]
    rw [e] at hi'
    simp only [e, Nat.zero_add]
    rw [Array.getElem?_append_left (by simpa using hi')]
    rw [List.length_append] at hi'
    simp
  · exact (Below.refl w.heap.size w).drew.alloc (Nat.le_refl _) _
theorem step_append_full (w : World) {ops : Array Oper} {o : Oper} {a : Act} {K : Act → World → Prop} {Q : Exit → Act → World → Prop} {E : Prop} (hw : Region.wanted o (yielded ops a.tmps) = true) (s x : Operand)
    (ho : o.op = .call { callee := .builtin .append, args := #[s, x], argTypes := #[23, 23] }) (g off : Nat) (L : List (Int × Int)) (n m : Nat) (hn : L.length = n) (hm : m = n + 1) (hR : Rd w (some ⟨g, off, none⟩) (pvI L)) (hl : n ≤ 1000) (ad : Nat) (p q : Int)
    (hs : a.eval s = .slice (some ⟨g, off, none⟩) n n) (hx : a.eval x = .slice (some ⟨ad, 0, none⟩) 1 1) (h0 : w.cell? ⟨ad, 0, none⟩ = some (.int .i64 p)) (h1 : w.cell? ⟨ad, 1, none⟩ = some (.int .i64 q))
    (h : ∀ A cap w', m ≤ cap → Rd w' A (pvI (L ++ [(p, q)])) → Below w.heap.size w w' → K (a.put o.dst (.slice A m cap)) w') :
    if Region.wanted o (yielded ops a.tmps) = true then Oper.wp Tryd.prog o a w K Q else E := by
  subst hm
  rw [if_pos hw]
  obtain ⟨A, cap, w', hr, h2, h3, h4⟩ := run_append_full w o.type g off L n hn hR hl ad p q h0 h1
  unfold Oper.wp execOp
  simp only [ho, resolve, invoke, builtin, Sem.run_bind, Sem.run_pure, Result.andThen_ok, List.map_toArray, List.map_cons, List.map_nil, hs, hx, hr]
  exact h A cap w' h2 h3 h4

/-! No lattice: nil, or the zero value. -/
structure NoL (w : World) (p : Option Addr) (W : World) : Prop where
  tab : Tab W
  bel : Below w.heap.size w W
  pos : 0 < w.heap.size
  lat : p = none ∨ ∃ b, p = some ⟨b, 0, none⟩ ∧ w.heap.size ≤ b ∧ PL W b 0 [] (fun _ => 0)
theorem lat_zero (W : World) : PL (W.alloc (.cells Tryd.zeroCells76 76)) W.heap.size 0 [] (fun _ => 0) := by
  have e1 : loL 0 (fun _ => 0) = 0 := by decide +kernel
  have e2 : hiL 0 (fun _ => 0) = 0 := by decide +kernel
  refine .inl ?_
  rw [e1, e2]
  refine Blk.congr (Blk.new W zeroL) fun i hi => ?_
  unfold latF
  have h1 : ∀ k, nmF [] k = .string ⟨#[]⟩ := fun k => by simp [nmF, strV]
  have h2 : ∀ k, cdF 0 (fun _ => 0) k = 0 := fun k => by simp [cdF]
  have h3 : ∀ k, jT 0 (fun _ => 0) 0 k = 0 := fun k => by simp [jT]
  have h4 : ∀ k, mT 0 (fun _ => 0) 0 k = 0 := fun k => by simp [mT]
  simp only [h1, h2, h3, h4]
section
variable {w W W' : World} {p : Option Addr}
theorem NoL.below (h : NoL w p W) (hb : Below W.heap.size W W') : NoL w p W' := by
  refine ⟨h.tab.below hb h.tab.lt, h.bel.trans (hb.mono h.bel.size), h.pos, ?_⟩
  rcases h.lat with h | ⟨b, e, hge, P⟩
  · exact .inl h
  · exact .inr ⟨b, e, hge, P.kept (grownBy_below hb none) (by simp)⟩
theorem NoL.turn {b : Nat} (h : NoL w (some ⟨b, 0, none⟩) W) (hge : w.heap.size ≤ b) (hg : W.grownBy W' (some b)) (hl : PL W' b 0 [] (fun _ => 0)) : NoL w (some ⟨b, 0, none⟩) W' := by
  have hbel := h.bel.grown hg h.bel.size (fun k e => by cases e; exact hge)
  exact ⟨tab_grown h.tab hg (by have := h.pos; omega), hbel, h.pos, .inr ⟨b, rfl, hge, hl⟩⟩
def NoPost (w : World) (p : Option Addr) (X : Value) (e : Ending) (W' : World) : Prop := e = .returned X ∧ NoL w p W'
variable (h : NoL w p W)
include h
theorem noFind (y : List UInt8) : Calls Tryd.prog 10 #[.pointer p, .string ⟨y.toArray⟩] W (NoPost w p (.tuple #[.int .i64 0, .bool false])) := by
  rcases h.lat with rfl | ⟨b, rfl, hge, P⟩
  · exact (latFind_nil y W).mono fun _ _ ⟨he, hw⟩ => ⟨he, hw ▸ h⟩
  · obtain ⟨d, j, m, l⟩ := P.some
    exact (latFind_any l (by omega) y).mono fun _ _ ⟨he, hw⟩ => ⟨he, hw ▸ h⟩
theorem noDecode (c : Int) : Calls Tryd.prog 12 #[.pointer p, .int .i64 c] W (NoPost w p (.tuple #[.int .i64 0, .int .i64 4])) := by
  rcases h.lat with rfl | ⟨b, rfl, hge, P⟩
  · exact (latDecode_nil c W).mono fun _ _ ⟨he, hw⟩ => ⟨he, hw ▸ h⟩
  · obtain ⟨d, j, m, l⟩ := P.some
    exact (latDecode_any l (by omega) c).mono fun _ _ ⟨he, hw⟩ => ⟨he, hw ▸ h⟩
theorem noMany : Calls Tryd.prog 19 #[.pointer p] W (NoPost w p (.int .i64 0)) := by
  rcases h.lat with rfl | ⟨b, rfl, hge, P⟩
  · exact (latMany_nil W).mono fun _ _ ⟨he, hw⟩ => ⟨he, hw ▸ h⟩
  · obtain ⟨d, j, m, l⟩ := P.some
    exact (latMany_any b 0 W l.many).mono fun _ _ ⟨he, hw⟩ => ⟨he, hw ▸ h⟩
theorem noLow : Calls Tryd.prog 20 #[.pointer p] W (NoPost w p (.int .i64 0)) := by
  rcases h.lat with rfl | ⟨b, rfl, hge, P⟩
  · exact (latLow_nil W).mono fun _ _ ⟨he, hw⟩ => ⟨he, hw ▸ h⟩
  · obtain ⟨d, j, m, l⟩ := P.some
    exact (latLow_any b 0 W l.low).mono fun _ _ ⟨he, hw⟩ => ⟨he, hw ▸ h⟩
theorem noHigh : Calls Tryd.prog 21 #[.pointer p] W (NoPost w p (.int .i64 0)) := by
  rcases h.lat with rfl | ⟨b, rfl, hge, P⟩
  · exact (latHigh_nil W).mono fun _ _ ⟨he, hw⟩ => ⟨he, hw ▸ h⟩
  · obtain ⟨d, j, m, l⟩ := P.some
    exact (latHigh_any b 0 W l.high).mono fun _ _ ⟨he, hw⟩ => ⟨he, hw ▸ h⟩
theorem noName : Calls Tryd.prog 27 #[.pointer p, .int .i64 0] W (NoPost w p (.string ⟨#[]⟩)) := by
  rcases h.lat with rfl | ⟨b, rfl, hge, P⟩
  · exact (latName_nil 0 W).mono fun _ _ ⟨he, hw⟩ => ⟨he, hw ▸ h⟩
  · obtain ⟨d, j, m, l⟩ := P.some
    exact (latName_any l (by omega) 0).mono fun _ _ ⟨he, hw⟩ => ⟨he, hw ▸ h⟩
theorem noCode : Calls Tryd.prog 23 #[.pointer p, .int .i64 0] W (NoPost w p (.int .i64 0)) := by
  rcases h.lat with rfl | ⟨b, rfl, hge, P⟩
  · exact (latCode_nil 0 W).mono fun _ _ ⟨he, hw⟩ => ⟨he, hw ▸ h⟩
  · obtain ⟨d, j, m, l⟩ := P.some
    exact (latCode_any l (by omega) 0).mono fun _ _ ⟨he, hw⟩ => ⟨he, hw ▸ h⟩
theorem noLeq : Calls Tryd.prog 24 #[.pointer p, .int .i64 0, .int .i64 0] W (NoPost w p (.bool false)) := by
  rcases h.lat with rfl | ⟨b, rfl, hge, P⟩
  · exact (latLeq_nil 0 0 W).mono fun _ _ ⟨he, k, hw⟩ => ⟨he, hw ▸ h.below (below_drewN (Below.refl _ _) k)⟩
  · obtain ⟨d, j, m, l⟩ := P.some
    exact (latLeq_any l (fun h0 => by omega) (by omega) 0 0).mono fun _ _ ⟨he, k, hw⟩ => ⟨he, hw ▸ h.below (below_drewN (Below.refl _ _) k)⟩
theorem noJoin : Calls Tryd.prog 22 #[.pointer p, .int .i64 0, .int .i64 0] W (NoPost w p (.int .i64 0)) := by
  rcases h.lat with rfl | ⟨b, rfl, hge, P⟩
  · exact (latJoin_nil 0 0 W).mono fun _ _ ⟨he, hw⟩ => ⟨he, hw ▸ h⟩
  · have e : joinI 0 (fun _ => 0) 0 0 = 0 := by decide +kernel
    have con := latJoin_any P (fun h0 => by omega) (by omega) 0 0
    rw [e] at con
    exact con.mono fun _ _ ⟨he, hg, hl⟩ => ⟨he, h.turn hge hg hl⟩
theorem noMeet : Calls Tryd.prog 25 #[.pointer p, .int .i64 0, .int .i64 0] W (NoPost w p (.int .i64 0)) := by
  rcases h.lat with rfl | ⟨b, rfl, hge, P⟩
  · exact (latMeet_nil 0 0 W).mono fun _ _ ⟨he, hw⟩ => ⟨he, hw ▸ h⟩
  · have e : meetI 0 (fun _ => 0) 0 0 = 0 := by decide +kernel
    have con := latMeet_any P (fun h0 => by omega) (by omega) 0 0
    rw [e] at con
    exact con.mono fun _ _ ⟨he, hg, hl⟩ => ⟨he, h.turn hge hg hl⟩
theorem noAll (t : TypeId) : Calls Tryd.prog 26 #[.pointer p, .slice (some ⟨W.heap.size, 0, none⟩) 1 1] (W.alloc (.cells #[.int .i64 1] t)) (NoPost w p (.int .i64 0)) := by
  have h2 := h.below (below_new W (.cells #[.int .i64 1] t))
  have R2 : Rd (W.alloc (.cells #[.int .i64 1] t)) (some ⟨W.heap.size, 0, none⟩) (lv [1]) := Rd.made W (lv [1]) t
  rcases h.lat with rfl | ⟨b, rfl, hge, P⟩
  · exact (latJoinAll_nil _ 1 [1] _ R2 (by simp)).mono fun _ _ ⟨he, hw⟩ => ⟨he, hw ▸ h2⟩
  · have hlt := P.lt
    have e : jAll 0 (fun _ => 0) [1] = 0 := by decide +kernel
    have P2 := P.kept (grownBy_below (below_new W (.cells #[.int .i64 1] t)) none) (by simp)
    have con := latJoinAll_any P2 (fun h0 => by omega) (by omega) _ 1 [1] (fun w' hg => R2.grown hg (by omega)) (by simp)
    rw [e] at con
    exact con.mono fun _ _ ⟨he, hg, hl⟩ => ⟨he, h2.turn hge hg hl⟩
end
end Go.Proofs.YtaikhdmgcffflaaDoor
