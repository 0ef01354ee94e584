/- Seeds that came in. -/
import Derived.Test.YtajkbkllgbalkaaCa
import Derived.Test.YtajkbkllgbalkaaUx
namespace Go.Proofs.Ytajkbkllgbalkaa
open Go Go.ChangeShapes Go.WideShapes Go.ChangeAt Go.RowKit

set_option maxRecDepth 100000 in
/-- Texts that a slice of texts that came in holds. -/
theorem texts_of {H : Type} {enc : TypeId × Value → H} {W : World} {base fuel : Nat} {spare : Nat → Bool} {held : Bool} {a0 : Option Addr} {len cap : Nat} {x : DataW H × List MemPlace}
    (h : DataW.trod enc Try.prog W base spare held fuel 22 [.slice a0 len cap] = some x) : ∃ l : List Bs, l.length = len ∧ len ≤ maxLen ∧ Ts W.heap.size W a0 cap l ∧ ∀ v ∈ l, v.length ≤ maxLen := by
  rcases open_strings Try.underlying22 Try.underlying9 cells9 h with ⟨hcs, hx⟩ | ⟨a, len', cap', ss, hcs, _, hl, hm, hz, hx, hcell, hws⟩
  · simp at hcs
    obtain ⟨rfl, rfl, rfl⟩ := hcs
    exact ⟨[], rfl, Nat.zero_le _, Ts.empty _ _, fun v hv => by simp at hv⟩
  · simp at hcs
    obtain ⟨rfl, rfl, rfl⟩ := hcs
    have hlz : len ≤ ss.length := by rw [hz]; split <;> omega
    have hlen : ((ss.take len).map fun s => s.data.toList).length = len := by rw [List.length_map, List.length_take]; omega
    refine ⟨(ss.take len).map fun s => s.data.toList, hlen, by omega, ⟨by rw [hlen]; exact hl, (fun e => by cases e), fun i hi => ?_⟩, fun v hv => ?_⟩
    · rw [hlen] at hi
      have hc := hcell i (by omega)
      obtain ⟨b, off, spot⟩ := a
      have hspot : spot = none := by
        have h00 := hcell 0 (by omega)
        simpa [Addr.add] using World.cell?_spot h00
      subst hspot
      rw [addPl11] at hc
      refine ⟨b, off, rfl, World.block_lt_of_cell? W _ hc, ?_⟩
      have hiz : i < ss.length := by omega
      rw [hc, List.getD_eq_getElem?_getD, List.getElem?_eq_getElem hiz, Option.getD_some]
      simp
    · obtain ⟨s, hs, rfl⟩ := List.mem_map.1 hv
      rw [← Lib.size_eq]
      exact hws s (List.mem_of_mem_take hs)
/-- an array of numbers, cell by cell -/
theorem arr_at {H : Type} {enc : TypeId × Value → H} {W : World} {base fuel n : Nat} {spare : Nat → Bool} {held : Bool} {t e : TypeId} {k : IntKind} {cs : List Value} {x : DataW H × List MemPlace} (ht : Try.prog.underlying t = some (.array n e)) (he : Try.prog.underlying e = some (.int k)) (ce : Try.prog.cellsOf e = 1)
    (h : DataW.trod enc Try.prog W base spare held fuel t cs = some x) (i : Nat) (hi : i < n) : ∃ z : Int, cs[i]? = some (.int k z) ∧ (Lit.int k z).wf = true := by
  obtain ⟨xs, m, _, _, _, hl, hel⟩ := DataW.trod_array ht h
  have hE := hel i hi
  rw [ce, Nat.mul_one, List.getElem?_eq_getElem (by omega)] at hE
  obtain ⟨z, e1, _, hw⟩ := DataW.trod_int he hE
  refine ⟨z, ?_, hw⟩
  have h0 : ((cs.drop i).take 1)[0]? = some (.int k z) := by rw [e1]; rfl
  simpa using h0
/-- a field of a struct that came in -/
theorem field_at {H : Type} {enc : TypeId × Value → H} {W : World} {base fuel : Nat} {spare : Nat → Bool} {held : Bool} {t u : TypeId} {o : Nat} {cs : Array Value} {fs : Array Field} {l : List (TypeId × Nat)} {x : DataW H × List MemPlace} (ht : Try.prog.underlying t = some (.struct fs)) (hl : fs.toList.map (fun f => (f.type, f.offset)) = l)
    (h : DataW.trod enc Try.prog W base spare held fuel t (Value.agg cs).cells.toList = some x) (i : Nat) (hi : l[i]? = some (u, o)) : ∃ (m : Nat) (y : DataW H × List MemPlace), DataW.trod enc Try.prog W base spare held m u ((cs.toList.drop o).take (Try.prog.cellsOf u)) = some y := by
  obtain ⟨xs, n, _, _, _, hlen, hf⟩ := DataW.trod_struct ht h
  rw [← hl, List.getElem?_map] at hi
  obtain ⟨f, hfi, he⟩ := Option.map_eq_some_iff.1 hi
  simp only [Prod.mk.injEq] at he
  obtain ⟨rfl, rfl⟩ := he
  have h1 := hf i f (by simpa using hfi)
  have hlt : i < fs.size := by
    have := (List.getElem?_eq_some_iff.1 hfi).1
    simpa using this
  rw [List.getElem?_eq_getElem (by omega)] at h1
  exact ⟨n, _, h1⟩
def sd0 : Sd := ⟨0, 0, 0, 0, 0, 0, 0, [], [], none, 0⟩
theorem fieldsS11 : (Try.prog.fieldsOf 44).toList.map (fun f => (f.type, f.offset)) = [(3, 0), (42, 1), (9, 7), (22, 8)] := by kernel_rfl
theorem underS11 : Try.prog.underlying 44 = some (.struct (Try.prog.fieldsOf 44)) := by kernel_rfl
set_option maxRecDepth 100000 in
/-- A seed that came in. -/
theorem seed_of {H : Type} {enc : TypeId × Value → H} {W : World} {base : Nat} {r : Reach} {b0 : Nat} {spare : Nat → Bool} {held : Bool} {v : Value} {d : DataW H} {p : List MemPlace} (hv : Value.okWide Try.prog W r b0 44 v) (h : DataW.Trod enc Try.prog W base spare held 44 v d p) :
    ∃ s : Sd, v = .agg (sdA s) ∧ SdV W.heap.size W s := by
  obtain ⟨cs, rfl, hsz⟩ := okWide_struct underS11 hv
  rw [show Try.prog.cellsOf 44 = 9 by kernel_rfl] at hsz
  obtain ⟨fuel, hf⟩ := h
  obtain ⟨m0, y0, h0⟩ := field_at underS11 fieldsS11 hf 0 rfl
  obtain ⟨m1, y1, h1⟩ := field_at underS11 fieldsS11 hf 1 rfl
  obtain ⟨m2, y2, h2⟩ := field_at underS11 fieldsS11 hf 2 rfl
  obtain ⟨m3, y3, h3⟩ := field_at underS11 fieldsS11 hf 3 rfl
  rw [show Try.prog.cellsOf 3 = 1 by kernel_rfl] at h0
  rw [show Try.prog.cellsOf 42 = 6 by kernel_rfl] at h1
  rw [cells9] at h2
  rw [show Try.prog.cellsOf 22 = 1 by kernel_rfl] at h3
  obtain ⟨c0, c1, c2, c3, c4, c5, c6, c7, c8, rfl⟩ : ∃ c0 c1 c2 c3 c4 c5 c6 c7 c8, cs = #[c0, c1, c2, c3, c4, c5, c6, c7, c8] := by
    refine ⟨cs[0], cs[1], cs[2], cs[3], cs[4], cs[5], cs[6], cs[7], cs[8], ?_⟩
    apply Array.ext (by simp [hsz])
    intro i h1 h2
    match i, h2 with
    | 0, _ => rfl
    | 1, _ => rfl
    | 2, _ => rfl
    | 3, _ => rfl
    | 4, _ => rfl
    | 5, _ => rfl
    | 6, _ => rfl
    | 7, _ => rfl
    | 8, _ => rfl
    | i + 9, h2 => exact absurd h2 (by simp)
  obtain ⟨k, ek, _, _⟩ := DataW.trod_int Try.underlying3 h0
  have c3' : Try.prog.cellsOf 3 = 1 := by kernel_rfl
  obtain ⟨z0, e0, _⟩ := arr_at Try.underlying42 Try.underlying3 c3' h1 0 (by decide)
  obtain ⟨z1, e1, _⟩ := arr_at Try.underlying42 Try.underlying3 c3' h1 1 (by decide)
  obtain ⟨z2, e2, _⟩ := arr_at Try.underlying42 Try.underlying3 c3' h1 2 (by decide)
  obtain ⟨z3, e3, _⟩ := arr_at Try.underlying42 Try.underlying3 c3' h1 3 (by decide)
  obtain ⟨z4, e4, _⟩ := arr_at Try.underlying42 Try.underlying3 c3' h1 4 (by decide)
  obtain ⟨z5, e5, _⟩ := arr_at Try.underlying42 Try.underlying3 c3' h1 5 (by decide)
  obtain ⟨t, et, _, ht⟩ := DataW.trod_string Try.underlying9 h2
  obtain ⟨a, n, c, es⟩ := Joins.slice_form Try.underlying22 h3
  rw [es] at h3
  obtain ⟨l, rfl, hl, hts, hsh⟩ := texts_of h3
  simp at ek et es e0 e1 e2 e3 e4 e5
  subst ek et es e0 e1 e2 e3 e4 e5
  exact ⟨⟨k, z0, z1, z2, z3, z4, z5, t.data.toList, l, a, c⟩, rfl, ⟨hts, hl, hsh, by rw [← Lib.size_eq]; exact ht⟩⟩
end Go.Proofs.Ytajkbkllgbalkaa
