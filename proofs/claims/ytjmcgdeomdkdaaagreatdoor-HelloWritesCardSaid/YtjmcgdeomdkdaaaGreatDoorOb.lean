/- Seeds, rows of bytes and rows of pairs that came in. -/
import Derived.Test.YtjmcgdeomdkdaaaGreatDoorOa
import Derived.Test.YtjmcgdeomdkdaaaGreatDoorKzm
import Derived.ChangeSlices
import Derived.Lib.SmallJoins
namespace Go.Proofs.YtjmcgdeomdkdaaaGreatDoor
open Go Go.ChangeShapes Go.WideShapes Go.ChangeAt Go.RowKit

set_option maxRecDepth 100000 in
/-- Bytes that a slice of bytes that came in holds. -/
theorem bytes_of {H : Type} {enc : TypeId × Value → H} {W : World} {base fuel : Nat} {spare : Nat → Bool} {held : Bool} {a0 : Option Addr} {len cap : Nat} {x : DataW H × List MemPlace}
    (h : DataW.trod enc Tryz.prog W base spare held fuel 22 [.slice a0 len cap] = some x) : ∃ l : List UInt8, l.length = len ∧ len ≤ maxLen ∧ Rb W.heap.size W a0 cap l := by
  rcases open_ints Tryz.underlying22 Tryz.underlying5 (by kernel_rfl) h with ⟨hcs, hx⟩ | ⟨a, len', cap', zs, hcs, _, hl, hm, hz, hx, hcell, hwz⟩
  · simp at hcs
    obtain ⟨rfl, rfl, rfl⟩ := hcs
    exact ⟨[], rfl, Nat.zero_le _, Nat.le_refl _, fun _ => rfl, fun i hi => by simp at hi⟩
  · simp at hcs
    obtain ⟨rfl, rfl, rfl⟩ := hcs
    have hlz : len ≤ zs.length := by rw [hz]; split <;> omega
    have hzs : ∀ n ∈ zs, 0 ≤ n ∧ n < 256 := fun n hn => by
      have := hwz n hn
      simp only [Lit.wf, IntKind.min, IntKind.max, IntKind.signed, IntKind.bits, Bool.and_eq_true] at this
      simp at this
      omega
    have hlen : ((zs.take len).map fun n => UInt8.ofNat n.toNat).length = len := by rw [List.length_map, List.length_take]; omega
    refine ⟨(zs.take len).map fun n => UInt8.ofNat n.toNat, hlen, by omega, by omega, (fun e => by cases e), fun i hi => ?_⟩
    rw [hlen] at hi
    have hc := hcell i (by omega)
    obtain ⟨b, off, spot⟩ := a
    have hspot : spot = none := by
      have h00 := hcell 0 (by omega)
      simpa [Addr.add] using World.cell?_spot h00
    subst hspot
    rw [add_pl] at hc
    refine ⟨b, off, rfl, World.block_lt_of_cell? W _ hc, ?_⟩
    have hiz : i < zs.length := by omega
    rw [hc, List.getD_eq_getElem?_getD, List.getElem?_eq_getElem hiz, Option.getD_some]
    have hn := hzs zs[i] (List.getElem_mem hiz)
    simp only [List.getElem_map, List.getElem_take]
    congr 2
    rw [UInt8.toNat_ofNat']
    omega
/-- an array of numbers, cell by cell -/
theorem arr_at {H : Type} {enc : TypeId × Value → H} {W : World} {base fuel n : Nat} {spare : Nat → Bool} {held : Bool} {t e : TypeId} {k : IntKind} {cs : List Value} {x : DataW H × List MemPlace} (ht : Tryz.prog.underlying t = some (.array n e)) (he : Tryz.prog.underlying e = some (.int k)) (ce : Tryz.prog.cellsOf e = 1)
    (h : DataW.trod enc Tryz.prog W base spare held fuel t cs = some x) (i : Nat) (hi : i < n) : ∃ z : Int, cs[i]? = some (.int k z) ∧ (Lit.int k z).wf = true := by
  obtain ⟨xs, m, _, _, _, hl, hel⟩ := DataW.trod_array ht h
  have hE := hel i hi
  rw [ce, Nat.mul_one, List.getElem?_eq_getElem (by omega)] at hE
  obtain ⟨z, e1, _, hw⟩ := DataW.trod_int he hE
  refine ⟨z, ?_, hw⟩
  have h0 : ((cs.drop i).take 1)[0]? = some (.int k z) := by rw [e1]; rfl
  simpa using h0
def PairsIn (D : Nat) (w : World) (A : Option Addr) (l : List (Int × Int)) : Prop := ∀ i (hi : i < l.length), ∃ b off, A = some ⟨b, off, none⟩ ∧ b < D ∧ w.cell? ⟨b, off + i * 2, none⟩ = some (.int .i64 l[i].1) ∧ w.cell? ⟨b, off + i * 2 + 1, none⟩ = some (.int .i64 l[i].2)
set_option maxRecDepth 100000 in
/-- Pairs of numbers that a slice that came in holds. -/
theorem pairs_of {H : Type} {enc : TypeId × Value → H} {W : World} {base fuel : Nat} {spare : Nat → Bool} {held : Bool} {a0 : Option Addr} {len cap : Nat} {x : DataW H × List MemPlace}
    (h : DataW.trod enc Tryz.prog W base spare held fuel 44 [.slice a0 len cap] = some x) : ∃ l : List (Int × Int), l.length = len ∧ len ≤ maxLen ∧ PairsIn W.heap.size W a0 l := by
  have ce : Tryz.prog.cellsOf 51 = 2 := by kernel_rfl
  have c3 : Tryz.prog.cellsOf 3 = 1 := by kernel_rfl
  rcases Go.Deep.open_slice Tryz.underlying44 h with ⟨hcs, _⟩ | ⟨a, len', cap', m, n, D, Pl, hcs, _, hl, hm, hmm, _, hx⟩
  · simp at hcs
    obtain ⟨rfl, rfl, rfl⟩ := hcs
    exact ⟨[], rfl, Nat.zero_le _, fun i hi => by simp at hi⟩
  · simp at hcs
    obtain ⟨rfl, rfl, rfl⟩ := hcs
    have hlm : len ≤ m := by rw [hmm]; split <;> omega
    obtain ⟨f, hf⟩ := Go.Deep.choose_lt (α := Int × Int) (n := len) (p := fun i z => W.cell? (a.add (i * 2)) = some (.int .i64 z.1) ∧ W.cell? (a.add (i * 2 + 1)) = some (.int .i64 z.2)) (fun i hil => by
      obtain ⟨cs', h1, h2⟩ := hx i (by omega)
      rw [ce] at h1
      obtain ⟨_, hlen, hcell⟩ := World.cells?_some h1
      obtain ⟨z0, ez0, _⟩ := arr_at Tryz.underlying51 Tryz.underlying3 c3 h2 0 (by decide)
      obtain ⟨z1, ez1, _⟩ := arr_at Tryz.underlying51 Tryz.underlying3 c3 h2 1 (by decide)
      have e0 := hcell 0 (by omega)
      have e1 := hcell 1 (by omega)
      rw [Go.Deep.add_add] at e0 e1
      exact ⟨(z0, z1), e0.trans ez0, e1.trans ez1⟩)
    have hfl : ((List.range len).map f).length = len := by simp
    refine ⟨(List.range len).map f, hfl, by omega, fun i hi => ?_⟩
    rw [hfl] at hi
    obtain ⟨e0, e1⟩ := hf i hi
    obtain ⟨b, off, spot⟩ := a
    have hspot : spot = none := by
      have h00 := (hf 0 (by omega)).1
      simpa [Addr.add] using World.cell?_spot h00
    subst hspot
    rw [add_pl] at e0 e1
    refine ⟨b, off, rfl, World.block_lt_of_cell? W _ e0, ?_, ?_⟩
    · rw [e0]; simp
    · rw [Nat.add_assoc, e1]; simp
def sed0 : Sed := ⟨0, 0, 0, 0, 0, 0, List.replicate 32 0, [], none, 0, [], none, 0⟩
theorem fieldsS7 : (Tryz.prog.fieldsOf 46).toList.map (fun f => (f.type, f.offset)) = [(43, 0), (24, 6), (22, 38), (44, 39)] := by kernel_rfl
theorem underS7 : Tryz.prog.underlying 46 = some (.struct (Tryz.prog.fieldsOf 46)) := by kernel_rfl
/-- a field of a struct that came in -/
theorem field_at {H : Type} {enc : TypeId × Value → H} {W : World} {base fuel : Nat} {spare : Nat → Bool} {held : Bool} {t u : TypeId} {o : Nat} {cs : Array Value} {fs : Array Field} {l : List (TypeId × Nat)} {x : DataW H × List MemPlace} (ht : Tryz.prog.underlying t = some (.struct fs)) (hl : fs.toList.map (fun f => (f.type, f.offset)) = l)
    (h : DataW.trod enc Tryz.prog W base spare held fuel t (Value.agg cs).cells.toList = some x) (i : Nat) (hi : l[i]? = some (u, o)) : ∃ (m : Nat) (y : DataW H × List MemPlace), DataW.trod enc Tryz.prog W base spare held m u ((cs.toList.drop o).take (Tryz.prog.cellsOf u)) = some y := by
  obtain ⟨xs, n, _, _, _, hlen, hf⟩ := DataW.trod_struct ht h
  rw [← hl, List.getElem?_map] at hi
  obtain ⟨f, hfi, he⟩ := Option.map_eq_some_iff.1 hi
  simp only [Prod.mk.injEq] at he
  obtain ⟨rfl, rfl⟩ := he
  have h1 := hf i f (by simpa using hfi)
  have hlt : i < fs.size := by
    have := (List.getElem?_eq_some_iff.1 hfi).1
    simpa using this
  rw [List.getElem?_eq_getElem (by omega)] at h1
  exact ⟨n, _, h1⟩
theorem sed_list (s : Sed) (hr : s.rnd.length = 32) : (sedA s).toList = [.int .i64 s.n0, .int .i64 s.n1, .int .i64 s.n2, .int .i64 s.n3, .int .i64 s.n4, .int .i64 s.n5] ++ (s.rnd.map Extern.Stop.cell ++ [.slice s.a1 s.ses.length s.c1, .slice s.a2 s.ex.length s.c2]) := by
  have h := congrArg Array.toList (rnd_arr hr)
  rw [List.toList_toArray] at h
  rw [h]
  rfl
set_option maxRecDepth 100000 in
/-- A seed that came in. -/
theorem seed_of {H : Type} {enc : TypeId × Value → H} {W : World} {base : Nat} {r : Reach} {b0 : Nat} {spare : Nat → Bool} {held : Bool} {v : Value} {d : DataW H} {p : List MemPlace} (hv : Value.okWide Tryz.prog W r b0 46 v) (h : DataW.Trod enc Tryz.prog W base spare held 46 v d p) :
    ∃ s : Sed, v = .agg (sedA s) ∧ SedV W.heap.size W s := by
  obtain ⟨cs, rfl, hsz⟩ := okWide_struct underS7 hv
  rw [show Tryz.prog.cellsOf 46 = 40 by kernel_rfl] at hsz
  obtain ⟨fuel, hf⟩ := h
  obtain ⟨m0, y0, h0⟩ := field_at underS7 fieldsS7 hf 0 rfl
  obtain ⟨m1, y1, h1⟩ := field_at underS7 fieldsS7 hf 1 rfl
  obtain ⟨m2, y2, h2⟩ := field_at underS7 fieldsS7 hf 2 rfl
  obtain ⟨m3, y3, h3⟩ := field_at underS7 fieldsS7 hf 3 rfl
  rw [show Tryz.prog.cellsOf 43 = 6 by kernel_rfl] at h0
  rw [show Tryz.prog.cellsOf 24 = 32 by kernel_rfl] at h1
  rw [show Tryz.prog.cellsOf 22 = 1 by kernel_rfl] at h2
  rw [show Tryz.prog.cellsOf 44 = 1 by kernel_rfl] at h3
  obtain ⟨f, hf6⟩ := Go.Deep.choose_lt (α := Int) (n := 6) (p := fun i z => ((cs.toList.drop 0).take 6)[i]? = some (.int .i64 z)) (fun i hi => by
    obtain ⟨z, e, _⟩ := arr_at Tryz.underlying43 Tryz.underlying3 (by kernel_rfl) h0 i hi
    exact ⟨z, e⟩)
  obtain ⟨g, hg32⟩ := Go.Deep.choose_lt (α := UInt8) (n := 32) (p := fun i z => ((cs.toList.drop 6).take 32)[i]? = some (Extern.Stop.cell z)) (fun i hi => by
    obtain ⟨z, e, hw⟩ := arr_at Tryz.underlying24 Tryz.underlying5 (by kernel_rfl) h1 i hi
    simp only [Lit.wf, IntKind.min, IntKind.max, IntKind.signed, IntKind.bits, Bool.and_eq_true] at hw
    simp at hw
    refine ⟨UInt8.ofNat z.toNat, ?_⟩
    rw [e]
    unfold Extern.Stop.cell
    congr 2
    rw [UInt8.toNat_ofNat']
    show z = ((z.toNat % 256 : Nat) : Int)
    omega)
  have hd2 : (cs.toList.drop 38).take 1 = [cs[38]'(by omega)] := by
    rw [List.drop_eq_getElem_cons (by simp; omega), List.take_succ_cons, List.take_zero]; simp
  have hd3 : (cs.toList.drop 39).take 1 = [cs[39]'(by omega)] := by
    rw [List.drop_eq_getElem_cons (by simp; omega), List.take_succ_cons, List.take_zero]; simp
  rw [hd2] at h2
  rw [hd3] at h3
  obtain ⟨a4, n4, k4, e4⟩ := Joins.slice_form Tryz.underlying22 h2
  obtain ⟨a5, n5, k5, e5⟩ := Joins.slice_form Tryz.underlying44 h3
  rw [e4] at h2 hd2
  rw [e5] at h3 hd3
  obtain ⟨ses, rfl, hbn, hbr⟩ := bytes_of h2
  obtain ⟨ex, rfl, hxn, hxr⟩ := pairs_of h3
  have hrl : ((List.range 32).map g).length = 32 := by simp
  refine ⟨⟨f 0, f 1, f 2, f 3, f 4, f 5, (List.range 32).map g, ses, a4, k4, ex, a5, k5⟩, congrArg Value.agg (Array.toList_inj.1 ?_), ⟨hbr, hxr, hrl, hbn, hxn⟩⟩
  rw [sed_list _ hrl]
  have p1 : (cs.toList.drop 0).take 6 = [.int .i64 (f 0), .int .i64 (f 1), .int .i64 (f 2), .int .i64 (f 3), .int .i64 (f 4), .int .i64 (f 5)] := by
    refine List.ext_getElem? fun i => ?_
    match i with
    | 0 => exact hf6 0 (by decide)
    | 1 => exact hf6 1 (by decide)
    | 2 => exact hf6 2 (by decide)
    | 3 => exact hf6 3 (by decide)
    | 4 => exact hf6 4 (by decide)
    | 5 => exact hf6 5 (by decide)
    | i + 6 => rw [List.getElem?_eq_none (by rw [List.length_take]; omega), List.getElem?_eq_none (by simp)]
  have p2 : (cs.toList.drop 6).take 32 = ((List.range 32).map g).map Extern.Stop.cell := by
    refine List.ext_getElem? fun i => ?_
    by_cases hi : i < 32
    · rw [hg32 i hi]; simp [hi]
    · rw [List.getElem?_eq_none (by rw [List.length_take]; omega), List.getElem?_eq_none (by simp; omega)]
  have p3 : cs.toList.drop 38 = [.slice a4 ses.length k4, .slice a5 ex.length k5] := by
    have q1 := List.drop_eq_getElem_cons (l := cs.toList) (i := 38) (by simp; omega)
    have q2 := List.drop_eq_getElem_cons (l := cs.toList) (i := 39) (by simp; omega)
    have q3 : cs.toList.drop 40 = [] := List.drop_eq_nil_of_le (by simp; omega)
    rw [q1, q2, q3]
    rw [q1, List.take_succ_cons, List.take_zero] at hd2
    rw [q2, List.take_succ_cons, List.take_zero] at hd3
    rw [List.cons.inj hd2 |>.1, List.cons.inj hd3 |>.1]
  rw [← p1, ← p2, ← p3, List.drop_zero]
  have t1 := List.take_append_drop 6 cs.toList
  have t2 := List.take_append_drop 32 (cs.toList.drop 6)
  rw [List.drop_drop] at t2
  rw [t2, t1]
end Go.Proofs.YtjmcgdeomdkdaaaGreatDoor
