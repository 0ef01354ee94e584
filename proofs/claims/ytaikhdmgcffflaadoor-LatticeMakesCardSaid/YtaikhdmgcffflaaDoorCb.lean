/- Slices of texts and of pairs that came in: what they hold. -/
import Derived.Test.YtaikhdmgcffflaaDoorCa
import Derived.Test.YtaikhdmgcffflaaDoorVf
import Derived.Test.YtaikhdmgcffflaaDoorWg
namespace Go.Proofs.YtaikhdmgcffflaaDoor
open Go Go.ChangeShapes Go.WideShapes Go.ChangeAt Go.RowKit

theorem cells9 : Tryd.prog.cellsOf 9 = 1 := by kernel_rfl
/-- What is told of a slice of texts that came in. -/
def IsTx (w : World) (A : Option Addr) (len cap : Nat) (xs : List (List UInt8)) : Prop := xs.length = len ∧ Rd w A (sv xs) ∧ len ≤ cap ∧ ∀ v ∈ xs, v.length ≤ maxLen
theorem tx_nil (w : World) : IsTx w none 0 0 [] := ⟨rfl, Rd.nil _ _, Nat.zero_le _, by simp⟩
theorem tx_of {W : World} {a : Addr} {len cap : Nat} {ss : List ByteArray} (hl : len ≤ cap) (hz : ss.length = cap)
    (hcell : ∀ i, i < ss.length → W.cell? (a.add i) = some (.string (ss.getD i ByteArray.empty))) (hws : ∀ s ∈ ss, s.size ≤ maxLen) :
    IsTx W (some a) len cap ((ss.take len).map fun s => s.data.toList) := by
  have hlen : ((ss.take len).map fun s => s.data.toList).length = len := by rw [List.length_map, List.length_take]; omega
  refine ⟨hlen, fun i hi => ?_, hl, fun v hv => ?_⟩
  · rw [sv_len, hlen] at hi
    obtain ⟨b, off, spot⟩ := a
    have hspot : spot = none := by simpa [Addr.add] using World.cell?_spot (hcell 0 (by omega))
    subst hspot
    have hc := hcell i (by omega)
    rw [add_pl] at hc
    refine ⟨b, off, rfl, World.block_lt_of_cell? W _ hc, ?_⟩
    rw [hc]
    simp only [sv, List.getElem_map, List.getElem_take, strV_data]
    rw [List.getD_eq_getElem?_getD, List.getElem?_eq_getElem (by omega)]
    rfl
  · simp only [List.mem_map] at hv
    obtain ⟨s, hs, rfl⟩ := hv
    rw [← Lib.size_eq]
    exact hws s (List.mem_of_mem_take hs)

set_option maxRecDepth 100000 in
/-- The pairs that a slice of pairs that came in holds. -/
theorem pairs_of {H : Type} {enc : TypeId × Value → H} {W : World} {base fuel : Nat} {spare : Nat → Bool} {held : Bool} {a0 : Option Addr} {len cap : Nat} {x : DataW H × List MemPlace}
    (h : DataW.trod enc Tryd.prog W base spare held fuel 23 [.slice a0 len cap] = some x) : ∃ l : List (Int × Int), l.length = len ∧ len ≤ cap ∧ Rd W a0 (pvI l) := by
  rcases Go.Deep.open_slice Tryd.underlying23 h with ⟨hcs, _⟩ | ⟨a, len', cap', m, n, D, Pl, hcs, _, hl, _, hm, _, hi⟩
  · simp at hcs
    obtain ⟨rfl, rfl, rfl⟩ := hcs
    exact ⟨[], rfl, Nat.le_refl _, Rd.nil _ _⟩
  · simp at hcs
    obtain ⟨rfl, rfl, rfl⟩ := hcs
    have hlm : len ≤ m := by rw [hm]; split <;> omega
    obtain ⟨f, hf⟩ := Go.Deep.choose_lt (α := Int × Int) (n := len) (p := fun i z => W.cell? (a.add (i * 2)) = some (.int .i64 z.1) ∧ W.cell? (a.add (i * 2 + 1)) = some (.int .i64 z.2)) (fun i hil => by
      obtain ⟨cs', h1, h2⟩ := hi i (by omega)
      rw [cells31] at h1
      obtain ⟨_, hlen, hat⟩ := World.cells?_some h1
      obtain ⟨xs, k, _, _, _, hxl, hel⟩ := DataW.trod_array Tryd.underlying41 h2
      match cs', hlen with
      | [u, v], _ =>
        have e0 := hel 0 (by omega)
        have e1 := hel 1 (by omega)
        rw [cells3] at e0 e1
        rw [List.getElem?_eq_getElem (by omega)] at e0 e1
        simp only [Nat.zero_mul, List.drop_zero, List.take_succ_cons, List.take_zero] at e0
        obtain ⟨z0, hz0, _⟩ := DataW.trod_int Tryd.underlying3 e0
        simp only [Nat.one_mul, List.drop_succ_cons, List.drop_zero, List.take_succ_cons, List.take_zero] at e1
        obtain ⟨z1, hz1, _⟩ := DataW.trod_int Tryd.underlying3 e1
        injection hz0 with hz0
        injection hz1 with hz1
        refine ⟨(z0, z1), ?_, ?_⟩
        · have := hat 0 (by omega)
          rw [Go.Deep.add_add, Nat.add_zero] at this
          rw [this, ← hz0]; rfl
        · have := hat 1 (by omega)
          rw [Go.Deep.add_add] at this
          rw [this, ← hz1]; rfl)
    refine ⟨(List.range len).map f, by simp, hl, fun i hil => ?_⟩
    rw [pvI_len, List.length_map, List.length_range] at hil
    obtain ⟨c0, c1⟩ := hf (i / 2) (by omega)
    obtain ⟨b, off, spot⟩ := a
    have hspot : spot = none := by
      have h00 := (hf 0 (by omega)).1
      simpa [Addr.add] using World.cell?_spot h00
    subst hspot
    rw [add_pl] at c0 c1
    refine ⟨b, off, rfl, World.block_lt_of_cell? W _ c0, ?_⟩
    have hp := pvI_at ((List.range len).map f) (i / 2) (by simp; omega)
    rw [List.getElem_map, List.getElem_range] at hp
    rcases Nat.mod_two_eq_zero_or_one i with h0 | h0
    · have ei : i / 2 * 2 = i := by omega
      rw [ei] at c0 hp
      rw [c0, ← hp.1, List.getElem?_eq_getElem]
    · have ei : i / 2 * 2 + 1 = i := by omega
      rw [ei] at c1 hp
      rw [c1, ← hp.2, List.getElem?_eq_getElem]
end Go.Proofs.YtaikhdmgcffflaaDoor
