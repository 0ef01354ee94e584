/- Messages, seeds, rows of bytes and arrays of numbers that came in. -/
import Derived.Test.YthniggdimfldhaaGreatDoorOa
import Derived.Test.YthniggdimfldhaaGreatDoorHt
import Derived.Test.YthniggdimfldhaaGreatDoorNzq
import Derived.ChangeSlices
import Derived.Lib.SmallJoins
namespace Go.Proofs.YthniggdimfldhaaGreatDoor
open Go Go.ChangeShapes Go.WideShapes Go.ChangeAt Go.RowKit

set_option maxRecDepth 100000 in
theorem underHs : ∃ f0 f1 : Field, Tryz.prog.underlying 41 = some (.struct #[f0, f1]) ∧ f0.offset = 0 ∧ f1.offset = 1 ∧ f0.type = 9 ∧ f1.type = 9 := by
  have hf := fieldsH
  match h : (Tryz.prog.fieldsOf 41).toList, hf with
  | [f, g], hf =>
    simp only [List.map_cons, List.map_nil, List.cons.injEq, Prod.mk.injEq, and_true] at hf
    obtain ⟨⟨_, f2, f3⟩, _, g2, g3⟩ := hf
    exact ⟨f, g, by rw [underH]; congr 2; exact Array.toList_inj.1 h, f3, g3, f2, g2⟩
  | [], hf => simp at hf
  | [_], hf => simp at hf
  | _ :: _ :: _ :: _, hf => simp at hf

set_option maxRecDepth 100000 in
/-- The headers that a slice of headers that came in holds. -/
theorem heads_of {H : Type} {enc : TypeId × Value → H} {W : World} {base fuel : Nat} {spare : Nat → Bool} {held : Bool} {a0 : Option Addr} {len cap : Nat} {x : DataW H × List MemPlace}
    (h : DataW.trod enc Tryz.prog W base spare held fuel 22 [.slice a0 len cap] = some x) : ∃ l : List Hd, l.length = len ∧ len ≤ maxLen ∧ Rd W a0 (hv l) ∧ Mx l := by
  obtain ⟨f0, f1, hu, o0, o1, t0, t1⟩ := underHs
  rcases Go.Deep.open_slice_pairs Tryz.underlying22 hu cells28 o0 o1 (by rw [t0]; exact cells9) (by rw [t1]; exact cells9) h with ⟨hcs, _⟩ | ⟨a, len', cap', m, n, V0, V1, D0, D1, P0, P1, hcs, _, hl, hcm, hm, _, hi⟩
  · simp at hcs
    obtain ⟨rfl, rfl, rfl⟩ := hcs
    exact ⟨[], rfl, Nat.zero_le _, Rd.nil _ _, fun h hh => by simp at hh⟩
  · simp at hcs
    obtain ⟨rfl, rfl, rfl⟩ := hcs
    have hlm : len ≤ m := by rw [hm]; split <;> omega
    obtain ⟨f, hf⟩ := Go.Deep.choose_lt (α := Hd) (n := len) (p := fun i z => W.cell? (a.add (i * 2)) = some (strV z.1) ∧ W.cell? (a.add (i * 2 + 1)) = some (strV z.2) ∧ z.1.length ≤ maxLen ∧ z.2.length ≤ maxLen) (fun i hil => by
      obtain ⟨c0, c1, e0, e1⟩ := hi i (by omega)
      rw [t0] at e0
      rw [t1] at e1
      obtain ⟨s0, hs0, _, hz0⟩ := DataW.trod_string Tryz.underlying9 e0
      obtain ⟨s1, hs1, _, hz1⟩ := DataW.trod_string Tryz.underlying9 e1
      injection hs0 with hs0
      injection hs1 with hs1
      refine ⟨(s0.data.toList, s1.data.toList), ?_, ?_, by rw [← Lib.size_eq]; exact hz0, by rw [← Lib.size_eq]; exact hz1⟩
      · rw [c0, hs0, strV_data]
      · rw [c1, hs1, strV_data])
    have hlen : ((List.range len).map f).length = len := by simp
    refine ⟨(List.range len).map f, hlen, by omega, fun i hil => ?_, fun h hh => ?_⟩
    · rw [hv_len, hlen] at hil
      obtain ⟨c0, c1, _⟩ := hf (i / 2) (by omega)
      obtain ⟨b, off, spot⟩ := a
      have hspot : spot = none := by
        have h00 := (hf 0 (by omega)).1
        simpa [Addr.add] using World.cell?_spot h00
      subst hspot
      rw [add_pl] at c0 c1
      refine ⟨b, off, rfl, World.block_lt_of_cell? W _ c0, ?_⟩
      have hp := hv_at ((List.range len).map f) (i / 2) (by rw [hlen]; omega)
      rw [List.getElem_map, List.getElem_range] at hp
      rcases Nat.mod_two_eq_zero_or_one i with h0 | h0
      · have ei : i / 2 * 2 = i := by omega
        rw [ei] at c0 hp
        rw [c0, ← hp.1, List.getElem?_eq_getElem]
      · have ei : i / 2 * 2 + 1 = i := by omega
        rw [ei] at c1 hp
        rw [c1, ← hp.2, List.getElem?_eq_getElem]
    · obtain ⟨j, hj, rfl⟩ := List.mem_map.1 hh
      have := hf j (by simpa using hj)
      exact ⟨this.2.2.1, this.2.2.2⟩

set_option maxRecDepth 100000 in
/-- Bytes that a slice of bytes that came in holds. -/
theorem bytes_of {H : Type} {enc : TypeId × Value → H} {W : World} {base fuel : Nat} {spare : Nat → Bool} {held : Bool} {a0 : Option Addr} {len cap : Nat} {x : DataW H × List MemPlace}
    (h : DataW.trod enc Tryz.prog W base spare held fuel 23 [.slice a0 len cap] = some x) : ∃ l : List UInt8, l.length = len ∧ len ≤ maxLen ∧ Rb W.heap.size W a0 cap l := by
  rcases open_ints Tryz.underlying23 Tryz.underlying5 (by kernel_rfl) h with ⟨hcs, hx⟩ | ⟨a, len', cap', zs, hcs, _, hl, hm, hz, hx, hcell, hwz⟩
  · simp at hcs
    obtain ⟨rfl, rfl, rfl⟩ := hcs
    exact ⟨[], rfl, Nat.zero_le _, Nat.le_refl _, fun _ => rfl, fun i hi => by simp at hi⟩
  · simp at hcs
    obtain ⟨rfl, rfl, rfl⟩ := hcs
    have hlz : len ≤ zs.length := by rw [hz]; split <;> omega
    have hzs : ∀ n ∈ zs, 0 ≤ n ∧ n < 256 := fun n hn => by
      have := hwz n hn
      simp only [Lit.wf, IntKind.min, IntKind.max, IntKind.signed, IntKind.bits, Bool.and_eq_true] at this
      simp at this
      omega
    have hlen : ((zs.take len).map fun n => UInt8.ofNat n.toNat).length = len := by rw [List.length_map, List.length_take]; omega
    refine ⟨(zs.take len).map fun n => UInt8.ofNat n.toNat, hlen, by omega, by omega, (fun e => by cases e), fun i hi => ?_⟩
    rw [hlen] at hi
    have hc := hcell i (by omega)
    obtain ⟨b, off, spot⟩ := a
    have hspot : spot = none := by
        have h00 := hcell 0 (by omega)
        simpa [Addr.add] using World.cell?_spot h00
    subst hspot
    rw [add_pl] at hc
    refine ⟨b, off, rfl, World.block_lt_of_cell? W _ hc, ?_⟩
    have hiz : i < zs.length := by omega
    rw [hc, List.getD_eq_getElem?_getD, List.getElem?_eq_getElem hiz, Option.getD_some]
    have hn := hzs zs[i] (List.getElem_mem hiz)
    simp only [List.getElem_map, List.getElem_take]
    congr 2
    rw [UInt8.toNat_ofNat']
    omega
set_option maxRecDepth 100000 in
/-- Texts that a slice of texts that came in holds. -/
theorem texts_of {H : Type} {enc : TypeId × Value → H} {W : World} {base fuel : Nat} {spare : Nat → Bool} {held : Bool} {a0 : Option Addr} {len cap : Nat} {x : DataW H × List MemPlace}
    (h : DataW.trod enc Tryz.prog W base spare held fuel 73 [.slice a0 len cap] = some x) : ∃ l : List (List UInt8), l.length = len ∧ len ≤ maxLen ∧ len ≤ cap ∧ Rd W a0 (l.map strV) ∧ ∀ v ∈ l, v.length ≤ maxLen := by
  rcases open_strings Tryz.underlying73 Tryz.underlying9 cells9 h with ⟨hcs, hx⟩ | ⟨a, len', cap', ss, hcs, _, hl, hm, hz, hx, hcell, hws⟩
  · simp at hcs
    obtain ⟨rfl, rfl, rfl⟩ := hcs
    exact ⟨[], rfl, Nat.zero_le _, Nat.le_refl _, Rd.nil _ _, fun v hv => by simp at hv⟩
  · simp at hcs
    obtain ⟨rfl, rfl, rfl⟩ := hcs
    have hlz : len ≤ ss.length := by rw [hz]; split <;> omega
    have hlen : ((ss.take len).map fun s => s.data.toList).length = len := by rw [List.length_map, List.length_take]; omega
    refine ⟨(ss.take len).map fun s => s.data.toList, hlen, by omega, hl, fun i hi => ?_, fun v hv => ?_⟩
    · rw [List.length_map, hlen] at hi
      have hc := hcell i (by omega)
      obtain ⟨b, off, spot⟩ := a
      have hspot : spot = none := by
        have h00 := hcell 0 (by omega)
        simpa [Addr.add] using World.cell?_spot h00
      subst hspot
      rw [add_pl] at hc
      refine ⟨b, off, rfl, World.block_lt_of_cell? W _ hc, ?_⟩
      have hiz : i < ss.length := by omega
      rw [hc, List.getD_eq_getElem?_getD, List.getElem?_eq_getElem hiz, Option.getD_some]
      simp [strV_data]
    · obtain ⟨s, hs, rfl⟩ := List.mem_map.1 hv
      rw [← Lib.size_eq]
      exact hws s (List.mem_of_mem_take hs)
set_option maxRecDepth 100000 in
/-- an array of numbers that came in -/
theorem nums_of {H : Type} {enc : TypeId × Value → H} {W : World} {base : Nat} {r : Reach} {b0 : Nat} {spare : Nat → Bool} {held : Bool} {t : TypeId} {n : Nat} {v : Value} {d : DataW H} {p : List MemPlace} (ht : Tryz.prog.underlying t = some (.array n 3)) (hC : Tryz.prog.cellsOf t = n)
    (hv : Value.okWide Tryz.prog W r b0 t v) (h : DataW.Trod enc Tryz.prog W base spare held t v d p) : ∃ l : List Int, l.length = n ∧ v = .agg (l.map fun z => Value.int .i64 z).toArray := by
  have c3 : Tryz.prog.cellsOf 3 = 1 := by kernel_rfl
  obtain ⟨cs, rfl, hsz⟩ : ∃ cs, v = .agg cs ∧ cs.size = Tryz.prog.cellsOf t := by
    simp only [Value.okWide, ht] at hv
    obtain ⟨cs, h1, h2, _⟩ := hv
    exact ⟨cs, h1, h2⟩
  rw [hC] at hsz
  obtain ⟨fuel, hf⟩ := h
  obtain ⟨xs, m, _, _, _, hl, hel⟩ := DataW.trod_array ht hf
  obtain ⟨f, hf2⟩ := Go.Deep.choose_lt (α := Int) (n := n) (p := fun i z => cs[i]? = some (.int .i64 z)) (fun i hi => by
    have hE := hel i hi
    rw [c3, Nat.mul_one, List.getElem?_eq_getElem (by omega)] at hE
    obtain ⟨z, e1, _, _⟩ := DataW.trod_int Tryz.underlying3 hE
    refine ⟨z, ?_⟩
    have h0 : ((cs.toList.drop i).take 1)[0]? = some (.int .i64 z) := by
      have : (Value.agg cs).cells.toList = cs.toList := rfl
      rw [this] at e1
      rw [e1]; rfl
    simpa using h0)
  refine ⟨(List.range n).map f, by simp, ?_⟩
  congr 1
  apply Array.ext_getElem?
  intro i
  by_cases hi : i < n
  · rw [hf2 i hi]
    simp [hi]
  · rw [Array.getElem?_eq_none (by omega), List.getElem?_toArray, List.getElem?_eq_none (by simp; omega)]
theorem fieldsM : (Tryz.prog.fieldsOf 25).toList.map (fun f => (f.type, f.offset)) = [(9, 0), (9, 1), (3, 2), (22, 3), (23, 4)] := by kernel_rfl
theorem underM : Tryz.prog.underlying 25 = some (.struct (Tryz.prog.fieldsOf 25)) := by kernel_rfl
set_option maxRecDepth 100000 in
/-- a field of one cell of a struct that came in -/
theorem field_of {H : Type} {enc : TypeId × Value → H} {W : World} {base fuel : Nat} {spare : Nat → Bool} {held : Bool} {t u : TypeId} {cs : Array Value} {fs : Array Field} {l : List (TypeId × Nat)} {x : DataW H × List MemPlace} (ht : Tryz.prog.underlying t = some (.struct fs)) (hl : fs.toList.map (fun f => (f.type, f.offset)) = l)
    (h : DataW.trod enc Tryz.prog W base spare held fuel t (Value.agg cs).cells.toList = some x) (i : Nat) (hi : l[i]? = some (u, i)) (hu : Tryz.prog.cellsOf u = 1) (hsz : i < cs.size) : ∃ (m : Nat) (y : DataW H × List MemPlace), DataW.trod enc Tryz.prog W base spare held m u [cs[i]] = some y := by
  obtain ⟨xs, n, _, _, _, hlen, hf⟩ := DataW.trod_struct ht h
  rw [← hl, List.getElem?_map] at hi
  obtain ⟨f, hfi, he⟩ := Option.map_eq_some_iff.1 hi
  simp only [Prod.mk.injEq] at he
  obtain ⟨rfl, ho⟩ := he
  have h1 := hf i f (by simpa using hfi)
  rw [ho, hu] at h1
  have hlt : i < fs.size := by
    have := (List.getElem?_eq_some_iff.1 hfi).1
    simpa using this
  rw [List.getElem?_eq_getElem (by omega)] at h1
  have hd : ((Value.agg cs).cells.toList.drop i).take 1 = [cs[i]] := by
    have : (Value.agg cs).cells.toList = cs.toList := rfl
    rw [this, List.drop_eq_getElem_cons (by simpa using hsz), List.take_succ_cons, List.take_zero]
    simp
  rw [hd] at h1
  exact ⟨n, _, h1⟩
end Go.Proofs.YthniggdimfldhaaGreatDoor
