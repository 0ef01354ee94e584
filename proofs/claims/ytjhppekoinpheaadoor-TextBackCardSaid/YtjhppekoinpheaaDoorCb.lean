/- A slice of texts that came in: the texts that it holds. -/
import Derived.Test.YtjhppekoinpheaaDoorCa
import Derived.Test.YtjhppekoinpheaaDoorWg
namespace Go.Proofs.YtjhppekoinpheaaDoor
open Go Go.ChangeShapes Go.WideShapes Go.ChangeAt Go.RowKit

/-- What is told of a slice of texts that came in. -/
def IsTexts (w : World) (A : Option Addr) (len : Nat) (xs : List (List UInt8)) : Prop := xs.length = len ∧ Txt w A xs ∧ len ≤ maxLen ∧ ∀ v ∈ xs, v.length ≤ maxLen
theorem texts_nil (w : World) : IsTexts w none 0 [] := ⟨rfl, Txt.nil _ _, Nat.zero_le _, by simp⟩
theorem texts_of {W : World} {a : Addr} {len cap : Nat} {ss : List ByteArray} (hl : len ≤ cap) (hm : cap ≤ maxLen) (hz : ss.length = cap)
    (hcell : ∀ i, i < ss.length → W.cell? (a.add i) = some (.string (ss.getD i ByteArray.empty))) (hws : ∀ s ∈ ss, s.size ≤ maxLen) :
    IsTexts W (some a) len ((ss.take len).map fun s => s.data.toList) := by
  have hlen : ((ss.take len).map fun s => s.data.toList).length = len := by rw [List.length_map, List.length_take]; omega
  refine ⟨hlen, fun i hi => ?_, by omega, fun v hv => ?_⟩
  · rw [hlen] at hi
    obtain ⟨b, off, spot⟩ := a
    have hspot : spot = none := by simpa [Addr.add] using World.cell?_spot (hcell 0 (by omega))
    subst hspot
    have hc := hcell i (by omega)
    rw [Lib.add_plain] at hc
    refine ⟨b, off, rfl, World.block_lt_of_cell? W _ hc, ?_⟩
    rw [hc, List.getElem_map, Lib.mk_data, List.getElem_take, List.getD_eq_getElem?_getD, List.getElem?_eq_getElem (by omega)]
    rfl
  · simp only [List.mem_map] at hv
    obtain ⟨s, hs, rfl⟩ := hv
    rw [← Lib.size_eq]
    exact hws s (List.mem_of_mem_take hs)
end Go.Proofs.YtjhppekoinpheaaDoor
