/- Rows of extensions: slices.Clone. -/
import Derived.Test.YtiakbmllpnabnaaGreatDoorKa
import Derived.Lib.SliceRun
import Derived.Lib.Overlaps
import Derived.Lib.AppendZerosOnto
import Derived.Laws.IdiomCopy
namespace Go.Proofs.YtiakbmllpnabnaaGreatDoor
open Go Go.RowKit

theorem infoE : (Tryz.prog.info? 62).map (fun i => (i.zero, i.size, i.bytes)) = some (some (.agg #[.int .i64 0, .slice none 0 0]), 2, 32) := by kernel_rfl
/-- an extension's cells -/
structure Xc where
  k : Int
  a : Option Addr
  c : Nat
  d : List UInt8
def xcE (x : Xc) : Int × List UInt8 := (x.k, x.d)
def xcV (l : List Xc) : List Value := l.flatMap fun x => [.int .i64 x.k, .slice x.a x.d.length x.c]
theorem xcV_len : ∀ l : List Xc, (xcV l).length = l.length * 2
  | [] => rfl
  | x :: l => by
    have := xcV_len l
    unfold xcV at this ⊢
    rw [List.flatMap_cons, List.length_append, this]
    simp
    omega
theorem xcV_app (l m : List Xc) : xcV (l ++ m) = xcV l ++ xcV m := by unfold xcV; rw [List.flatMap_append]
theorem xcV_one (x : Xc) : xcV [x] = [.int .i64 x.k, .slice x.a x.d.length x.c] := by simp [xcV]
theorem xcV_cell (l : List Xc) : ∀ v ∈ xcV l, v.oneCell' = true := fun v hv => by
  unfold xcV at hv
  obtain ⟨x, _, hx⟩ := List.mem_flatMap.1 hv
  simp only [List.mem_cons, List.not_mem_nil, or_false] at hx
  rcases hx with rfl | rfl <;> rfl
theorem xcV_at : ∀ (l : List Xc) (i : Nat) (hi : i < l.length), (xcV l)[i * 2]? = some (.int .i64 l[i].k) ∧ (xcV l)[i * 2 + 1]? = some (.slice l[i].a l[i].d.length l[i].c)
  | x :: l, 0, _ => by simp [xcV]
  | x :: l, i + 1, hi => by
    have ih := xcV_at l i (by simpa using hi)
    have e : xcV (x :: l) = [.int .i64 x.k, .slice x.a x.d.length x.c] ++ xcV l := by simp [xcV]
    rw [e, show (i + 1) * 2 = i * 2 + 2 by omega]
    constructor
    · rw [List.getElem?_append_right (by simp)]
      simpa using ih.1
    · rw [List.getElem?_append_right (by simp)]
      simpa using ih.2
theorem xcV_cut (l : List Xc) (i : Nat) : xcV l = xcV (l.take i) ++ xcV (l.drop i) := by rw [← xcV_app, List.take_append_drop]
theorem xcV_take (l : List Xc) (i : Nat) (h : i ≤ l.length) : (xcV l).take (i * 2) = xcV (l.take i) := by
  have h2 : (xcV (l.take i)).length = i * 2 := by rw [xcV_len, List.length_take]; omega
  rw [xcV_cut l i]
  exact List.take_left' h2
theorem xcV_drop (l : List Xc) (i : Nat) (h : i ≤ l.length) : (xcV l).drop (i * 2) = xcV (l.drop i) := by
  have h2 : (xcV (l.take i)).length = i * 2 := by rw [xcV_len, List.length_take]; omega
  rw [xcV_cut l i]
  exact List.drop_left' h2
/-- what a row of extensions is -/
structure Xr (D : Nat) (w : World) (L : List Xc) (l : List (Int × List UInt8)) : Prop where
  eq : L.map xcE = l
  rb : ∀ x ∈ L, Rb D w x.a x.c x.d
theorem Xr.len {D : Nat} {w : World} {L : List Xc} {l : List (Int × List UInt8)} (h : Xr D w L l) : L.length = l.length := by rw [← h.eq, List.length_map]
theorem Xr.keep {D D' : Nat} {w w' : World} {L : List Xc} {l : List (Int × List UInt8)} (h : Xr D w L l) (hb : ∀ k, k < D → w'.heap[k]? = w.heap[k]?) (hD : D ≤ D') : Xr D' w' L l := ⟨h.eq, fun x hx => ((h.rb x hx).keep hb).mono hD⟩
/-- the extensions that a row holds -/
theorem RowV.exts {w : World} {base : Nat} {A : Option Addr} {n c : Nat} {L : List Xc} {l : List (Int × List UInt8)} (h : RowV 2 w base A n c (xcV L)) (hx : Xr w.heap.size w L l) : ExtsIn w.heap.size w A l := fun i hi => by
  have hl := hx.len
  have hi' : i < L.length := by omega
  obtain ⟨h1, h2⟩ := xcV_at L i hi'
  have e : l[i] = (L[i].k, L[i].d) := by
    have := List.getElem_map xcE (l := L) (i := i) (h := by rw [List.length_map]; exact hi')
    rw [show l[i] = (L.map xcE)[i]'(by rw [List.length_map]; exact hi') by simp only [hx.eq], this]; rfl
  obtain ⟨g, rfl, _, hg, hc⟩ := h.rd (i * 2) (by rw [xcV_len]; omega)
  obtain ⟨g', e', _, _, hc'⟩ := h.rd (i * 2 + 1) (by rw [xcV_len]; omega)
  cases e'
  rw [← List.getElem?_eq_getElem, h1] at hc
  rw [← List.getElem?_eq_getElem, h2] at hc'
  refine ⟨g, 0, L[i].a, L[i].c, rfl, hg, ?_, ?_, ?_⟩
  · rw [Nat.zero_add, hc, e]
  · rw [Nat.zero_add, hc', e]
  · rw [e]; exact hx.rb _ (List.getElem_mem hi')
/-- the cells of extensions that a slice holds -/
theorem exts_cells {D : Nat} {w : World} {A : Option Addr} {l : List (Int × List UInt8)} (h : ExtsIn D w A l) : ∀ k, k ≤ l.length → ∃ L : List Xc, Xr D w L (l.take k) ∧ ∀ j u, (xcV L)[j]? = some u → ∃ b off, A = some ⟨b, off, none⟩ ∧ w.cell? ⟨b, off + j, none⟩ = some u
  | 0, _ => ⟨[], ⟨rfl, fun x hx => by cases hx⟩, fun j u hj => by simp [xcV] at hj⟩
  | k + 1, hk => by
    obtain ⟨L, hx, hc⟩ := exts_cells h k (by omega)
    obtain ⟨b, off, Ad, cd, e, _, h1, h2, h3⟩ := h k (by omega)
    have hl := hx.len
    rw [List.length_take] at hl
    refine ⟨L ++ [⟨l[k].1, Ad, cd, l[k].2⟩], ⟨?_, fun x hx' => ?_⟩, fun j u hj => ?_⟩
    · rw [List.map_append, hx.eq, List.take_succ_eq_append_getElem (by omega)]; rfl
    · rcases List.mem_append.1 hx' with hx' | hx'
      · exact hx.rb x hx'
      · obtain rfl := List.mem_singleton.1 hx'
        exact h3
    · by_cases hj2 : j < (xcV L).length
      · rw [xcV_app, List.getElem?_append_left hj2] at hj
        exact hc j u hj
      · rw [xcV_app, List.getElem?_append_right (by omega), xcV_one, xcV_len] at hj
        rw [xcV_len] at hj2
        refine ⟨b, off, e, ?_⟩
        have hL : L.length = k := by omega
        rw [hL] at hj hj2
        have hj3 : j = k * 2 ∨ j = k * 2 + 1 := by
          have := (List.getElem?_eq_some_iff.1 hj).1
          simp at this
          omega
        rcases hj3 with rfl | rfl
        · rw [Nat.sub_self] at hj; rw [h1]; simpa using hj
        · rw [show k * 2 + 1 - k * 2 = 1 by omega] at hj; rw [← Nat.add_assoc, h2]; simpa using hj
theorem exts_none {D : Nat} {w : World} {l : List (Int × List UInt8)} (h : ExtsIn D w none l) : l = [] := by
  cases l with
  | nil => rfl
  | cons x l => obtain ⟨_, _, _, _, e, _⟩ := h 0 (by simp); cases e
theorem exts_src {D : Nat} {w : World} {ad : Addr} {n c : Nat} {L : List Xc} (hl : L.length = n) (hc : ∀ j u, (xcV L)[j]? = some u → ∃ b off, some ad = some ⟨b, off, none⟩ ∧ w.cell? ⟨b, off + j, none⟩ = some u) (_ : D = D) :
    Src Tryz.prog 2 26 (.slice (some ad) n c) n (xcV L) w :=
  Src.ofSlice w Tryz.underlying26 ad n c (xcV L) (by rw [xcV_len, hl]) (fun j u hj => by
    obtain ⟨b, off, e, h⟩ := hc j u hj
    have e := Option.some.inj e
    rw [e, add_pl]; exact h) (xcV_cell L)
theorem rowV_empty (sz : Nat) (w : World) (base : Nat) (t : TypeId) (hb : base ≤ w.heap.size) : RowV sz (w.alloc (.cells #[] t)) base (some ⟨w.heap.size, 0, none⟩) 0 0 [] :=
  ⟨by simp, Nat.le_refl _, Nat.zero_le _, .inr ⟨w.heap.size, rfl, hb, by simp, fun j hj => by simp at hj, fun j hj => by simp at hj⟩⟩
theorem eqlNil_exts (w : World) (a : Option Addr) (n c n' c' : Nat) : (binOp .eql 26 (.slice a n c) (.slice none n' c')).run Tryz.prog w = .ok (.bool a.isNone) w := Lib.run_eql_slice_nil w _ _ a n c n' c' Tryz.underlying26
/-- what slices.Clone leaves -/
def CloneP (D : Nat) (l : List (Int × List UInt8)) (w : World) (e : Ending) (w' : World) : Prop := ∃ (A : Option Addr) (c : Nat) (L : List Xc), e = .returned (.slice A l.length c) ∧ RowV 2 w' w.heap.size A l.length c (xcV L) ∧ Xr D w' L l ∧ Below w.heap.size w w'
set_option maxRecDepth 100000 in
set_option maxHeartbeats 400000 in
theorem clone_prog {D : Nat} {w : World} {A : Option Addr} {c n : Nat} {l : List (Int × List UInt8)} (h : ExtsIn D w A l) (hD : D ≤ w.heap.size) (hn : n = l.length) (hl : l.length ≤ 1000000) :
    Calls Tryz.prog 89 #[.slice A n c] w (CloneP D l w) := by
  subst hn
  unfold CloneP
  have hq := eqlNil_exts
  obtain ⟨i0, hi, hz0, hz1, hz2⟩ := info_parts infoE
  cases A with
  | none =>
    obtain rfl := exts_none h
    clear h
    go_enter Tryz.func89, Tryz.ntmps89
    go_wp2_with fail
    go_ret
    exact ⟨none, 0, [], rfl, RowV.nil 2 _ _, ⟨rfl, fun x hx => by cases hx⟩, Below.refl _ _⟩
  | some ad =>
    obtain ⟨L, hx, hc⟩ := exts_cells h l.length (Nat.le_refl _)
    rw [List.take_length] at hx
    have HX := Lib.hid hx
    have hL := hx.len
    have hb0 := below_new w (.cells #[] 62)
    have S := Lib.hid (exts_src (D := 0) (w := w.alloc (.cells #[] 62)) (ad := ad) (n := l.length) (c := c) (L := L) hL (fun j u hj => by
      obtain ⟨b, off, e, h'⟩ := hc j u hj
      have hlt : b < w.heap.size := by
        obtain ⟨b', off', _, _, e', hl', _⟩ := h (j / 2) (by
          have := (List.getElem?_eq_some_iff.1 hj).1
          rw [xcV_len] at this
          omega)
        cases e.symm.trans e'; exact Nat.lt_of_lt_of_le hl' hD
      refine ⟨b, off, e, Eq.trans ?_ h'⟩
      unfold World.cell?
      rw [hb0.block b hlt]) rfl)
    have HB := Lib.hid hb0
    clear h hx hc hb0
    have R0 := Lib.hid (rowV_empty 2 w w.heap.size 62 (Nat.le_refl _))
    have hxl := xcV_len L
    rw [hL] at hxl
    have HXL := Lib.hid hxl
    clear hL hxl
    go_enter Tryz.func89, Tryz.ntmps89
    go_wp2_with (at_builtin; refine wpList_pushV rfl (.tmp 5) (.tmp 6) 26 62 26 rfl i0 _ 32 Tryz.underlying26 hi hz0 hz1 hz2 rfl (by decide) _ w.heap.size (some ⟨w.heap.size, 0, none⟩) 0 0 l.length [] (xcV L) (.slice (some ad) l.length c) HXL.out rfl rfl R0.out S.out HB.out.size (by omega) ?_; intro A1 c1 w1 hr1 hb1 _; have R1 := Lib.hid hr1; have B1 := Lib.hid (HB.out.trans hb1); clear hr1 hb1)
    go_ret
    refine ⟨A1, c1, L, rfl, by have := R1.out; rwa [Nat.zero_add] at this, HX.out.keep (fun k hk => B1.out.block k (Nat.lt_of_lt_of_le hk hD)) (Nat.le_refl _), B1.out⟩
theorem run_copy_cellsN {P : Program} (w : World) (sz : Nat) (dT sT ty elem : TypeId) (b o dLen dCap : Nat) (a : Addr) (sLen sCap : Nat) (cs : List Value)
    (hu : P.underlying dT = some (.slice elem)) (hs : (P.info? elem).map (·.size) = some sz) (hn : cs.length = Nat.min sLen dLen * sz)
    (hsrc : ∀ j v, cs[j]? = some v → w.cell? (a.add j) = some v) (hc : ∀ j, j < cs.length → (w.cell? ⟨b, o + j, none⟩).isSome = true) (hf : ∀ j, j < cs.length → w.frozen? ⟨b, o + j, none⟩ = false) (h1 : ∀ v ∈ cs, v.oneCell' = true) :
    (Builtin.copy_ #[dT, sT] ty #[.slice (some ⟨b, o, none⟩) dLen dCap, .slice (some a) sLen sCap]).run P w = .ok (goInt (Nat.min sLen dLen)) (w.setCells b o cs) := by
  have hl := run_loadCells_list (P := P) w a cs hsrc
  have hst := run_storeCells_cells (P := P) b o cs 0 w (by simpa using hc) (by simpa using hf) h1
  cases hq : P.info? elem with
  | none => simp [hq] at hs
  | some i =>
    have hi : i.size = sz := by simpa [hq] using hs
    simp [Builtin.copy_, run_underlying hu, Builtin.lenOf, Builtin.firstCells, sizeOf, typeInfo, hq, hi, ← hn, hl, hst]
end Go.Proofs.YtiakbmllpnabnaaGreatDoor
