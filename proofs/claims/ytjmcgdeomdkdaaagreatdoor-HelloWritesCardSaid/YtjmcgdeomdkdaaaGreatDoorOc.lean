/- A greeting that came in. -/
import Derived.Test.YtjmcgdeomdkdaaaGreatDoorOb
import Derived.Test.YtjmcgdeomdkdaaaGreatDoorLj
namespace Go.Proofs.YtjmcgdeomdkdaaaGreatDoor
open Go Go.ChangeShapes Go.WideShapes Go.ChangeAt Go.RowKit

theorem rbS_of {D : Nat} {w : World} {A : Option Addr} {c : Nat} {x : List UInt8} (h : Rb D w A c x) : RbS (fun k => k < D) w A c x := ⟨h.cap, h.nil, h.rd⟩
set_option maxRecDepth 100000 in
/-- Numbers that a slice of numbers that came in holds. -/
theorem nums_of {H : Type} {enc : TypeId × Value → H} {W : World} {base fuel : Nat} {spare : Nat → Bool} {held : Bool} {a0 : Option Addr} {len cap : Nat} {x : DataW H × List MemPlace}
    (h : DataW.trod enc Tryz.prog W base spare held fuel 25 [.slice a0 len cap] = some x) : ∃ l : List Int, l.length = len ∧ len ≤ cap ∧ NumsS (fun k => k < W.heap.size) W a0 l := by
  rcases open_ints Tryz.underlying25 Tryz.underlying3 (by kernel_rfl) h with ⟨hcs, hx⟩ | ⟨a, len', cap', zs, hcs, _, hl, hm, hz, hx, hcell, hwz⟩
  · simp at hcs
    obtain ⟨rfl, rfl, rfl⟩ := hcs
    exact ⟨[], rfl, Nat.le_refl _, fun i hi => by simp at hi⟩
  · simp at hcs
    obtain ⟨rfl, rfl, rfl⟩ := hcs
    have hlz : len ≤ zs.length := by rw [hz]; split <;> omega
    have hlen : (zs.take len).length = len := by rw [List.length_take]; omega
    refine ⟨zs.take len, hlen, hl, fun i hi => ?_⟩
    rw [hlen] at hi
    have hc := hcell i (by omega)
    obtain ⟨b, off, spot⟩ := a
    have hspot : spot = none := by
      have h00 := hcell 0 (by omega)
      simpa [Addr.add] using World.cell?_spot h00
    subst hspot
    rw [add_pl] at hc
    refine ⟨b, off, rfl, World.block_lt_of_cell? W _ hc, ?_⟩
    have hiz : i < zs.length := by omega
    rw [hc, List.getD_eq_getElem?_getD, List.getElem?_eq_getElem hiz, Option.getD_some]
    simp only [List.getElem_take]
theorem fieldsX7 : (Tryz.prog.fieldsOf 68).toList.map (fun f => (f.type, f.offset)) = [(3, 0), (22, 1)] := by kernel_rfl
theorem underX7 : Tryz.prog.underlying 68 = some (.struct (Tryz.prog.fieldsOf 68)) := by kernel_rfl
set_option maxRecDepth 100000 in
theorem underXt : ∃ f0 f1 : Field, Tryz.prog.underlying 68 = some (.struct #[f0, f1]) ∧ f0.offset = 0 ∧ f1.offset = 1 ∧ f0.type = 3 ∧ f1.type = 22 := by
  have hf := fieldsX7
  match h : (Tryz.prog.fieldsOf 68).toList, hf with
  | [f, g], hf =>
    simp only [List.map_cons, List.map_nil, List.cons.injEq, Prod.mk.injEq, and_true] at hf
    obtain ⟨⟨f1, f2⟩, g1, g2⟩ := hf
    exact ⟨f, g, by rw [underX7]; congr 2; exact Array.toList_inj.1 h, f2, g2, f1, g1⟩
  | [], hf => simp at hf
  | [_], hf => simp at hf
  | _ :: _ :: _ :: _, hf => simp at hf
set_option maxRecDepth 100000 in
/-- The extensions that a slice of extensions that came in holds. -/
theorem extsIn_of {H : Type} {enc : TypeId × Value → H} {W : World} {base fuel : Nat} {spare : Nat → Bool} {held : Bool} {a0 : Option Addr} {len cap : Nat} {x : DataW H × List MemPlace}
    (h : DataW.trod enc Tryz.prog W base spare held fuel 26 [.slice a0 len cap] = some x) : ∃ l : List (Int × List UInt8), l.length = len ∧ ExtsS (fun k => k < W.heap.size) W a0 l := by
  obtain ⟨f0, f1, hu, o0, o1, t0, t1⟩ := underXt
  rcases Go.Deep.open_slice_pairs Tryz.underlying26 hu (by kernel_rfl) o0 o1 (by rw [t0]; kernel_rfl) (by rw [t1]; kernel_rfl) h with ⟨hcs, _⟩ | ⟨a, len', cap', m, n, V0, V1, D0, D1, P0, P1, hcs, _, hl, hcm, hm, _, hi⟩
  · simp at hcs
    obtain ⟨rfl, rfl, rfl⟩ := hcs
    exact ⟨[], rfl, fun i hi => by simp at hi⟩
  · simp at hcs
    obtain ⟨rfl, rfl, rfl⟩ := hcs
    have hlm : len ≤ m := by rw [hm]; split <;> omega
    obtain ⟨f, hf⟩ := Go.Deep.choose_lt (α := (Int × List UInt8) × (Option Addr × Nat)) (n := len) (p := fun i z => W.cell? (a.add (i * 2)) = some (.int .i64 z.1.1) ∧ W.cell? (a.add (i * 2 + 1)) = some (.slice z.2.1 z.1.2.length z.2.2) ∧ RbS (fun k => k < W.heap.size) W z.2.1 z.2.2 z.1.2) (fun i hil => by
      obtain ⟨c0, c1, e0, e1⟩ := hi i (by omega)
      rw [t0] at e0
      rw [t1] at e1
      obtain ⟨z, hz, _, _⟩ := DataW.trod_int Tryz.underlying3 e0
      obtain ⟨a4, n4, k4, e4⟩ := Joins.slice_form Tryz.underlying22 e1
      rw [e4] at e1
      obtain ⟨bs, hbl, _, hbr⟩ := bytes_of e1
      injection hz with hz
      injection e4 with e4
      exact ⟨((z, bs), (a4, k4)), by rw [c0, hz], by rw [c1, e4, hbl], rbS_of hbr⟩)
    have hlen : ((List.range len).map fun i => (f i).1).length = len := by simp
    refine ⟨(List.range len).map fun i => (f i).1, hlen, fun i hil => ?_⟩
    rw [hlen] at hil
    obtain ⟨c0, c1, hr⟩ := hf i hil
    obtain ⟨b, off, spot⟩ := a
    have hspot : spot = none := by
      have h00 := (hf 0 (by omega)).1
      simpa [Addr.add] using World.cell?_spot h00
    subst hspot
    rw [add_pl] at c0 c1
    have eg : ((List.range len).map fun i => (f i).1)[i]'(by rw [hlen]; exact hil) = (f i).1 := by simp
    refine ⟨b, off, (f i).2.1, (f i).2.2, rfl, World.block_lt_of_cell? W _ c0, ?_, ?_, ?_⟩
    · rw [eg]; exact c0
    · rw [eg, Nat.add_assoc]; exact c1
    · rw [eg]; exact hr
theorem fieldsG7 : (Tryz.prog.fieldsOf 28).toList.map (fun f => (f.type, f.offset)) = [(3, 0), (24, 1), (22, 33), (25, 34), (22, 35), (9, 36), (3, 37), (26, 38)] := by kernel_rfl
theorem underG7 : Tryz.prog.underlying 28 = some (.struct (Tryz.prog.fieldsOf 28)) := by kernel_rfl
theorem one_at {cs : List Value} {o : Nat} (h : o < cs.length) : (cs.drop o).take 1 = [cs[o]] := by
  rw [List.drop_eq_getElem_cons h, List.take_succ_cons, List.take_zero]
def grt0 : Grt := ⟨0, List.replicate 32 0, [], [], [], [], 0, []⟩
def adr0 : Adr := ⟨none, 0, none, 0, none, 0, none, 0⟩
set_option maxRecDepth 100000 in
/-- A greeting that came in. -/
theorem greeting_of {H : Type} {enc : TypeId × Value → H} {W : World} {base : Nat} {r : Reach} {b0 : Nat} {spare : Nat → Bool} {held : Bool} {v : Value} {d : DataW H} {p : List MemPlace} (hv : Value.okWide Tryz.prog W r b0 28 v) (h : DataW.Trod enc Tryz.prog W base spare held 28 v d p) :
    ∃ (g : Grt) (a : Adr), v = .agg (grtA g a) ∧ GrC (fun k => k < W.heap.size) W g a := by
  obtain ⟨cs, rfl, hsz⟩ := okWide_struct underG7 hv
  rw [show Tryz.prog.cellsOf 28 = 39 by kernel_rfl] at hsz
  have hsl : cs.toList.length = 39 := by rw [Array.length_toList]; exact hsz
  obtain ⟨fuel, hf⟩ := h
  obtain ⟨m0, y0, h0⟩ := field_at underG7 fieldsG7 hf 0 rfl
  obtain ⟨m1, y1, h1⟩ := field_at underG7 fieldsG7 hf 1 rfl
  obtain ⟨m2, y2, h2⟩ := field_at underG7 fieldsG7 hf 2 rfl
  obtain ⟨m3, y3, h3⟩ := field_at underG7 fieldsG7 hf 3 rfl
  obtain ⟨m4, y4, h4⟩ := field_at underG7 fieldsG7 hf 4 rfl
  obtain ⟨m5, y5, h5⟩ := field_at underG7 fieldsG7 hf 5 rfl
  obtain ⟨m6, y6, h6⟩ := field_at underG7 fieldsG7 hf 6 rfl
  obtain ⟨m7, y7, h7⟩ := field_at underG7 fieldsG7 hf 7 rfl
  rw [show Tryz.prog.cellsOf 3 = 1 by kernel_rfl, one_at (by omega)] at h0 h6
  rw [show Tryz.prog.cellsOf 24 = 32 by kernel_rfl] at h1
  rw [show Tryz.prog.cellsOf 22 = 1 by kernel_rfl, one_at (by omega)] at h2 h4
  rw [show Tryz.prog.cellsOf 25 = 1 by kernel_rfl, one_at (by omega)] at h3
  rw [show Tryz.prog.cellsOf 9 = 1 by kernel_rfl, one_at (by omega)] at h5
  rw [show Tryz.prog.cellsOf 26 = 1 by kernel_rfl, one_at (by omega)] at h7
  obtain ⟨gr, hg32⟩ := Go.Deep.choose_lt (α := UInt8) (n := 32) (p := fun i z => ((cs.toList.drop 1).take 32)[i]? = some (.int .u8 (z.toNat : Int))) (fun i hi => by
    obtain ⟨z, e, hw⟩ := arr_at Tryz.underlying24 Tryz.underlying5 (by kernel_rfl) h1 i hi
    simp only [Lit.wf, IntKind.min, IntKind.max, IntKind.signed, IntKind.bits, Bool.and_eq_true] at hw
    simp at hw
    refine ⟨UInt8.ofNat z.toNat, ?_⟩
    rw [e]
    congr 2
    rw [UInt8.toNat_ofNat']
    show z = ((z.toNat % 256 : Nat) : Int)
    omega)
  obtain ⟨mi, e0, _, _⟩ := DataW.trod_int Tryz.underlying3 h0
  obtain ⟨po, e6, _, _⟩ := DataW.trod_int Tryz.underlying3 h6
  obtain ⟨s5, e5, _, _⟩ := DataW.trod_string Tryz.underlying9 h5
  obtain ⟨a2, n2, k2, e2⟩ := Joins.slice_form Tryz.underlying22 h2
  obtain ⟨a3, n3, k3, e3⟩ := Joins.slice_form Tryz.underlying25 h3
  obtain ⟨a4, n4, k4, e4⟩ := Joins.slice_form Tryz.underlying22 h4
  obtain ⟨a7, n7, k7, e7⟩ := Joins.slice_form Tryz.underlying26 h7
  rw [e2] at h2
  rw [e3] at h3
  rw [e4] at h4
  rw [e7] at h7
  obtain ⟨ses, rfl, _, hbr⟩ := bytes_of h2
  obtain ⟨su, rfl, hsc, hsr⟩ := nums_of h3
  obtain ⟨me, rfl, _, hmr⟩ := bytes_of h4
  obtain ⟨ex, rfl, hxr⟩ := extsIn_of h7
  have hrl : ((List.range 32).map gr).length = 32 := by simp
  refine ⟨⟨mi, (List.range 32).map gr, ses, su, me, s5.data.toList, po, ex⟩, ⟨a2, k2, a3, k3, a4, k4, a7, k7⟩, congrArg Value.agg (Array.toList_inj.1 ?_), ⟨rbS_of hbr, hsr, hsc, rbS_of hmr, hxr, hrl⟩⟩
  rw [← gCells_grt _ _ hrl]
  unfold gCells
  dsimp only
  have p2 : (cs.toList.drop 1).take 32 = ((List.range 32).map gr).map fun c => Value.int .u8 (c.toNat : Int) := by
    refine List.ext_getElem? fun i => ?_
    by_cases hi : i < 32
    · rw [hg32 i hi]; simp [hi]
    · rw [List.getElem?_eq_none (by rw [List.length_take]; omega), List.getElem?_eq_none (by simp; omega)]
  rw [← p2]
  have q0 := List.drop_eq_getElem_cons (l := cs.toList) (i := 0) (by omega)
  have q3 := List.drop_eq_getElem_cons (l := cs.toList) (i := 33) (by omega)
  have q4 := List.drop_eq_getElem_cons (l := cs.toList) (i := 34) (by omega)
  have q5 := List.drop_eq_getElem_cons (l := cs.toList) (i := 35) (by omega)
  have q6 := List.drop_eq_getElem_cons (l := cs.toList) (i := 36) (by omega)
  have q7 := List.drop_eq_getElem_cons (l := cs.toList) (i := 37) (by omega)
  have q8 := List.drop_eq_getElem_cons (l := cs.toList) (i := 38) (by omega)
  have q9 : cs.toList.drop 39 = [] := List.drop_eq_nil_of_le (by omega)
  have t1 : cs.toList.drop 1 = (cs.toList.drop 1).take 32 ++ cs.toList.drop 33 := by
    have := List.take_append_drop 32 (cs.toList.drop 1)
    rw [List.drop_drop] at this
    exact this.symm
  have hS : (⟨s5.data.toList.toArray⟩ : ByteArray) = s5 := by simp
  have whole : cs.toList = cs.toList[0] :: ((cs.toList.drop 1).take 32 ++ [cs.toList[33], cs.toList[34], cs.toList[35], cs.toList[36], cs.toList[37], cs.toList[38]]) := by
    have : cs.toList = cs.toList[0] :: cs.toList.drop 1 := by rw [← q0, List.drop_zero]
    rw [q9] at q8
    rw [q8] at q7
    rw [q7] at q6
    rw [q6] at q5
    rw [q5] at q4
    rw [q4] at q3
    rw [q3] at t1
    rw [← t1]
    exact this
  rw [List.singleton_inj.1 e0, List.singleton_inj.1 e2, List.singleton_inj.1 e3, List.singleton_inj.1 e4, List.singleton_inj.1 e5, List.singleton_inj.1 e6, List.singleton_inj.1 e7] at whole
  rw [hS]
  exact whole
end Go.Proofs.YtjmcgdeomdkdaaaGreatDoor
