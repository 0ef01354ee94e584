/- What every card of this seat needs: the library's table as the rows list it, a world that holds it, and a slice of pairs that came in. -/
import Derived.Test.YtkiaolegpjkbdaaDoorCards
import Derived.Test.YtkiaolegpjkbdaaDoorTie
import Derived.Test.YtkiaolegpjkbdaaDoorWg
import Derived.ProofKit
import Derived.OpenShut
import Derived.ShutString
import Derived.ChangeOld
import Derived.Stop.LaidErr
import Derived.Deep.DeepHandedRow
import Derived.Deep.Slices
import Derived.Lib.LaidTab
namespace Go.Proofs.YtkiaolegpjkbdaaDoor
open Go Go.ChangeShapes Go.WideShapes Go.ChangeAt Go.RowKit

theorem own : ownKnob Tryd.prog.godebug = none := by kernel_rfl
theorem laidOut : laidOutB Tryd.prog = true := by kernel_rfl
theorem gTabType : (Tryd.prog.globals[0]?).map (·.type) = some 67 := by kernel_rfl
theorem cells67 : Tryd.prog.cellsOf 67 = 32 := by kernel_rfl
theorem cells5 : Tryd.prog.cellsOf 5 = 1 := by kernel_rfl
theorem cells3 : Tryd.prog.cellsOf 3 = 1 := by kernel_rfl
theorem cells31 : Tryd.prog.cellsOf 31 = 2 := by kernel_rfl
theorem tab_data : (Rows.laid_math_bits_deBruijn32tab : DataW Unit) = Lib.tabData .u8 tabL := by kernel_rfl

def laidL : List (String × DataW Unit) := [("math/bits.deBruijn32tab", Rows.laid_math_bits_deBruijn32tab)]

theorem tab_of {W : World} (h : laidMetH Tryd.prog laidL W) : Tab W := by
  have h1 : laidMet Tryd.prog laidL W := h
  have h2 := h1
  unfold laidL at h2
  rw [tab_data] at h2
  exact Lib.tabIs_of_head tab_global gTabType Tryd.underlying67 Tryd.underlying5 cells5 cells67 h2

def valsOf {H : Type} : DataW H → Array Value
  | .agg l => (l.map fun | .lit (.int k n) => Value.int k n | _ => .bool false).toArray
  | _ => #[]
def withCells (cs : Array Value) : Obj → Obj
  | .cells _ t frozen => .cells cs t frozen
  | o => o
noncomputable def laidWorld (os : Os) : World :=
  { World.holding Tryd.prog os ⟨#[], #[], []⟩ with heap := (World.holding Tryd.prog os ⟨#[], #[], []⟩).heap.modify 0 (withCells (valsOf (H := Unit) Rows.laid_math_bits_deBruijn32tab)) }

/-- The pairs that a slice of pairs that came in holds. -/
theorem pairs_of {H : Type} {enc : TypeId × Value → H} {W : World} {base fuel : Nat} {spare : Nat → Bool} {held : Bool} {a0 : Option Addr} {len cap : Nat} {x : DataW H × List MemPlace}
    (h : DataW.trod enc Tryd.prog W base spare held fuel 22 [.slice a0 len cap] = some x) : ∃ l : List (Int × Int), l.length = len ∧ Rd W a0 (pvI l) := by
  rcases Go.Deep.open_slice Tryd.underlying22 h with ⟨hcs, _⟩ | ⟨a, len', cap', m, n, D, Pl, hcs, _, hl, _, hm, _, hi⟩
  · simp at hcs
    obtain ⟨rfl, rfl, rfl⟩ := hcs
    exact ⟨[], rfl, Rd.nil _ _⟩
  · simp at hcs
    obtain ⟨rfl, rfl, rfl⟩ := hcs
    have hlm : len ≤ m := by rw [hm]; split <;> omega
    obtain ⟨f, hf⟩ := Go.Deep.choose_lt (α := Int × Int) (n := len) (p := fun i z => W.cell? (a.add (i * 2)) = some (.int .i64 z.1) ∧ W.cell? (a.add (i * 2 + 1)) = some (.int .i64 z.2)) (fun i hil => by
      obtain ⟨cs', h1, h2⟩ := hi i (by omega)
      rw [cells31] at h1
      obtain ⟨_, hlen, hat⟩ := World.cells?_some h1
      obtain ⟨xs, k, _, _, _, hxl, hel⟩ := DataW.trod_array Tryd.underlying31 h2
      match cs', hlen with
      | [u, v], _ =>
        have e0 := hel 0 (by omega)
        have e1 := hel 1 (by omega)
        rw [cells3] at e0 e1
        rw [List.getElem?_eq_getElem (by omega)] at e0 e1
        simp only [Nat.zero_mul, List.drop_zero, List.take_succ_cons, List.take_zero] at e0
        obtain ⟨z0, hz0, _⟩ := DataW.trod_int Tryd.underlying3 e0
        simp only [Nat.one_mul, List.drop_succ_cons, List.drop_zero, List.take_succ_cons, List.take_zero] at e1
        obtain ⟨z1, hz1, _⟩ := DataW.trod_int Tryd.underlying3 e1
        injection hz0 with hz0
        injection hz1 with hz1
        refine ⟨(z0, z1), ?_, ?_⟩
        · have := hat 0 (by omega)
          rw [Go.Deep.add_add, Nat.add_zero] at this
          rw [this, ← hz0]; rfl
        · have := hat 1 (by omega)
          rw [Go.Deep.add_add] at this
          rw [this, ← hz1]; rfl)
    refine ⟨(List.range len).map f, by simp, fun i hil => ?_⟩
    rw [pvI_len, List.length_map, List.length_range] at hil
    obtain ⟨c0, c1⟩ := hf (i / 2) (by omega)
    obtain ⟨b, off, spot⟩ := a
    have hspot : spot = none := by
      have h00 := (hf 0 (by omega)).1
      simpa [Addr.add] using World.cell?_spot h00
    subst hspot
    rw [add_pl] at c0 c1
    refine ⟨b, off, rfl, World.block_lt_of_cell? W _ c0, ?_⟩
    have hp := pvI_at ((List.range len).map f) (i / 2) (by simp; omega)
    rw [List.getElem_map, List.getElem_range] at hp
    rcases Nat.mod_two_eq_zero_or_one i with h0 | h0
    · have ei : i / 2 * 2 = i := by omega
      rw [ei] at c0 hp
      rw [c0, ← hp.1, List.getElem?_eq_getElem]
    · have ei : i / 2 * 2 + 1 = i := by omega
      rw [ei] at c1 hp
      rw [c1, ← hp.2, List.getElem?_eq_getElem]
end Go.Proofs.YtkiaolegpjkbdaaDoor
