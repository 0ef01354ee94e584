/- What every card of this seat needs: a world that holds the library's tables as the rows list them; slices of headers that came in. -/
import Derived.Test.YtfiioojnmjnmmaaDoorCards
import Derived.Test.YtfiioojnmjnmmaaDoorTie
import Derived.Test.YtfiioojnmjnmmaaDoorHt
import Derived.ProofKit
import Derived.OpenShut
import Derived.ShutString
import Derived.ChangeOld
import Derived.Stop.LaidErr
import Derived.Deep.DeepHandedRow
import Derived.Deep.Slices
import Derived.Deep.SlicePairs
import Derived.ChangeMaps5
import Derived.SliceStrings
namespace Go.Proofs.YtfiioojnmjnmmaaDoor
open Go Go.ChangeShapes Go.WideShapes Go.ChangeAt Go.RowKit

theorem own : ownKnob Tryd.prog.godebug = none := by kernel_rfl
theorem laidOut : laidOutB Tryd.prog = true := by kernel_rfl
theorem cells9 : Tryd.prog.cellsOf 9 = 1 := by kernel_rfl
theorem cells28 : Tryd.prog.cellsOf 28 = 2 := by kernel_rfl

def laidL : List (String × DataW Unit) := [("unicode/utf8.acceptRanges", Rows.laid_unicode_utf8_acceptRanges), ("unicode/utf8.first", Rows.laid_unicode_utf8_first)]
def numsOf {H : Type} : List (DataW H) → List Value
  | [] => []
  | .lit (.int k n) :: r => Value.int k n :: numsOf r
  | _ :: r => numsOf r
def valsOf {H : Type} : DataW H → List Value
  | .agg l => numsOf l
  | _ => []
def rowsOf {H : Type} : DataW H → List Value
  | .agg l => l.flatMap valsOf
  | _ => []
def withCells (cs : Array Value) : Obj → Obj
  | .cells _ t frozen => .cells cs t frozen
  | o => o
noncomputable def laidHeap (os : Os) : Array Obj :=
  ((World.holding Tryd.prog os ⟨#[], #[], []⟩).heap.modify 1 (withCells (valsOf (H := Unit) Rows.laid_unicode_utf8_first).toArray)).modify 2 (withCells (rowsOf (H := Unit) Rows.laid_unicode_utf8_acceptRanges).toArray)
noncomputable def laidWorld (os : Os) : World := { World.holding Tryd.prog os ⟨#[], #[], []⟩ with heap := laidHeap os }

theorem underHs : ∃ f0 f1 : Field, Tryd.prog.underlying 28 = some (.struct #[f0, f1]) ∧ f0.offset = 0 ∧ f1.offset = 1 ∧ f0.type = 9 ∧ f1.type = 9 := by
  have hf := fieldsH
  match h : (Tryd.prog.fieldsOf 28).toList, hf with
  | [f, g], hf =>
    simp only [List.map_cons, List.map_nil, List.cons.injEq, Prod.mk.injEq, and_true] at hf
    obtain ⟨⟨_, f2, f3⟩, _, g2, g3⟩ := hf
    exact ⟨f, g, by rw [underH]; congr 2; exact Array.toList_inj.1 h, f3, g3, f2, g2⟩
  | [], hf => simp at hf
  | [_], hf => simp at hf
  | _ :: _ :: _ :: _, hf => simp at hf

set_option maxRecDepth 100000 in
/-- The headers that a slice of headers that came in holds. -/
theorem heads_of {H : Type} {enc : TypeId × Value → H} {W : World} {base fuel : Nat} {spare : Nat → Bool} {held : Bool} {a0 : Option Addr} {len cap : Nat} {x : DataW H × List MemPlace}
    (h : DataW.trod enc Tryd.prog W base spare held fuel 22 [.slice a0 len cap] = some x) : ∃ l : List Hd, l.length = len ∧ len ≤ maxLen ∧ Rd W a0 (hv l) ∧ Mx l := by
  obtain ⟨f0, f1, hu, o0, o1, t0, t1⟩ := underHs
  rcases Go.Deep.open_slice_pairs Tryd.underlying22 hu cells28 o0 o1 (by rw [t0]; exact cells9) (by rw [t1]; exact cells9) h with ⟨hcs, _⟩ | ⟨a, len', cap', m, n, V0, V1, D0, D1, P0, P1, hcs, _, hl, hcm, hm, _, hi⟩
  · simp at hcs
    obtain ⟨rfl, rfl, rfl⟩ := hcs
    exact ⟨[], rfl, Nat.zero_le _, Rd.nil _ _, fun h hh => by simp at hh⟩
  · simp at hcs
    obtain ⟨rfl, rfl, rfl⟩ := hcs
    have hlm : len ≤ m := by rw [hm]; split <;> omega
    obtain ⟨f, hf⟩ := Go.Deep.choose_lt (α := Hd) (n := len) (p := fun i z => W.cell? (a.add (i * 2)) = some (strV z.1) ∧ W.cell? (a.add (i * 2 + 1)) = some (strV z.2) ∧ z.1.length ≤ maxLen ∧ z.2.length ≤ maxLen) (fun i hil => by
      obtain ⟨c0, c1, e0, e1⟩ := hi i (by omega)
      rw [t0] at e0
      rw [t1] at e1
      obtain ⟨s0, hs0, _, hz0⟩ := DataW.trod_string Tryd.underlying9 e0
      obtain ⟨s1, hs1, _, hz1⟩ := DataW.trod_string Tryd.underlying9 e1
      injection hs0 with hs0
      injection hs1 with hs1
      refine ⟨(s0.data.toList, s1.data.toList), ?_, ?_, by rw [← Lib.size_eq]; exact hz0, by rw [← Lib.size_eq]; exact hz1⟩
      · rw [c0, hs0, strV_data]
      · rw [c1, hs1, strV_data])
    have hlen : ((List.range len).map f).length = len := by simp
    refine ⟨(List.range len).map f, hlen, by omega, fun i hil => ?_, fun h hh => ?_⟩
    · rw [hv_len, hlen] at hil
      obtain ⟨c0, c1, _⟩ := hf (i / 2) (by omega)
      obtain ⟨b, off, spot⟩ := a
      have hspot : spot = none := by
        have h00 := (hf 0 (by omega)).1
        simpa [Addr.add] using World.cell?_spot h00
      subst hspot
      rw [add_pl] at c0 c1
      refine ⟨b, off, rfl, World.block_lt_of_cell? W _ c0, ?_⟩
      have hp := hv_at ((List.range len).map f) (i / 2) (by rw [hlen]; omega)
      rw [List.getElem_map, List.getElem_range] at hp
      rcases Nat.mod_two_eq_zero_or_one i with h0 | h0
      · have ei : i / 2 * 2 = i := by omega
        rw [ei] at c0 hp
        rw [c0, ← hp.1, List.getElem?_eq_getElem]
      · have ei : i / 2 * 2 + 1 = i := by omega
        rw [ei] at c1 hp
        rw [c1, ← hp.2, List.getElem?_eq_getElem]
    · obtain ⟨j, hj, rfl⟩ := List.mem_map.1 hh
      have := hf j (by simpa using hj)
      exact ⟨this.2.2.1, this.2.2.2⟩
end Go.Proofs.YtfiioojnmjnmmaaDoor
