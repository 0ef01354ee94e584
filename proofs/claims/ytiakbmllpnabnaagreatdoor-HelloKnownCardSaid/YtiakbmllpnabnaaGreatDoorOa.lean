/- What every card of this seat needs: a world that holds the listed variables; what they hold as the program reads them. -/
import Derived.Test.YtiakbmllpnabnaaGreatDoorCards
import Derived.Test.YtiakbmllpnabnaaGreatDoorTie
import Derived.Test.YtiakbmllpnabnaaGreatDoorGi
import Derived.ProofKit
import Derived.OpenShut
import Derived.ShutString
import Derived.ChangeOld
import Derived.Stop.LaidErr
import Derived.Deep.DeepHandedRow
import Derived.Deep.Slices
import Derived.Deep.SlicePairs
import Derived.ChangeMaps5
import Derived.SliceStrings
import Derived.Lay
import Derived.MakeChecks
import Derived.Shelf.Vars
import Derived.Lib.LaidU8T
import Derived.Lib.LaidTab
namespace Go.Proofs.YtiakbmllpnabnaaGreatDoor
open Go Go.ChangeShapes Go.WideShapes Go.ChangeAt Go.RowKit

theorem own : ownKnob Tryz.prog.godebug = none := by kernel_rfl
theorem laidOut : laidOutB Tryz.prog = true := by kernel_rfl
theorem cells9 : Tryz.prog.cellsOf 9 = 1 := by kernel_rfl

/-- What the rows list. -/
def laidL : List (String × DataW Unit) := Rows.helloNamesRow.laid
theorem pow_data : (Rows.laid_internal_strconv_uint64pow10 : DataW Unit) = Lib.tabData .u64 Lib.pow10Tab := by kernel_rfl
def tz64 : List Int := [0, 1, 56, 2, 57, 49, 28, 3, 61, 58, 42, 50, 38, 29, 17, 4]
def intsOf : DataW Unit → List Int
  | .agg l => l.filterMap fun | .lit (.int _ n) => some n | _ => none
  | _ => []
theorem tz_data : (Rows.laid_math_bits_deBruijn64tab : DataW Unit) = Lib.tabData .u8 (intsOf Rows.laid_math_bits_deBruijn64tab) := by kernel_rfl
theorem tz_at : (intsOf Rows.laid_math_bits_deBruijn64tab)[15]? = some 4 := by kernel_rfl
/-- a table of numbers, read -/
theorem tab_reads {W : World} {n : String} {k : IntKind} {zs : List Int} {g : Nat} {t e : TypeId} {m : Nat} (h : Lib.VarReads Tryz.prog W n (Lib.tabData k zs)) (hg : Tryz.prog.globalNamed n = some g) (hty : (Tryz.prog.globals[g]?).map (·.type) = some t)
    (ht : Tryz.prog.underlying t = some (.array m e)) (he : Tryz.prog.underlying e = some (.int k)) (hce : Tryz.prog.cellsOf e = 1) (hct : Tryz.prog.cellsOf t = m) : Lib.TabIs Tryz.prog W n k zs := by
  obtain ⟨g', t', cs, fuel, p, hg', hty', hvar, hd⟩ := h
  obtain rfl := Option.some.inj (hg.symm.trans hg')
  obtain rfl := Option.some.inj (hty.symm.trans hty')
  have hcs := Lib.cells_of_tab ht he hce hct hd
  unfold Lib.TabIs
  rw [hvar, ← hcs]
theorem iface_read {W : World} {n a : String} {b : DataW Unit} {g : Nat} (h : Lib.VarReads Tryz.prog W n (.iface a b)) (hg : Tryz.prog.globalNamed n = some g) (hty : (Tryz.prog.globals[g]?).map (·.type) = some 120) : ∃ tp p, W.cell? ⟨g, 0, none⟩ = some (.iface tp p) := by
  obtain ⟨g', t, cs, fuel, p, hg', hty', hvar, hd⟩ := h
  obtain rfl := Option.some.inj (hg.symm.trans hg')
  obtain rfl := Option.some.inj (hty.symm.trans hty')
  obtain ⟨_, u, v, hcs, _⟩ := iface_of_trod Tryz.underlying120 hd
  exact ⟨u, v, by rw [World.var?_cell hg hvar 0, ← Array.getElem?_toList, hcs]; rfl⟩
theorem gl_of {W : World} (h : laidMetH Tryz.prog laidL W) : Gl W := by
  rw [MakeChecks.laidMetH_plain _ _ _ (by kernel_rfl)] at h
  have hR : ∀ {n d}, (n, d) ∈ laidL → Lib.VarReads Tryz.prog W n d := fun hm => Lib.laidMet.reads h hm
  have hp : Lib.TabIs Tryz.prog W "internal/strconv.uint64pow10" .u64 Lib.pow10Tab := tab_reads (by rw [← pow_data]; exact hR (by simp [laidL, Rows.helloNamesRow])) pow_global (by kernel_rfl) Tryz.underlying185 Tryz.underlying148 (by kernel_rfl) (by kernel_rfl)
  have gz : Tryz.prog.globalNamed "math/bits.deBruijn64tab" = some 7 := by kernel_rfl
  have hz : Lib.TabIs Tryz.prog W "math/bits.deBruijn64tab" .u8 (intsOf Rows.laid_math_bits_deBruijn64tab) := tab_reads (by rw [← tz_data]; exact hR (by simp [laidL, Rows.helloNamesRow])) gz (by kernel_rfl) Tryz.underlying191 Tryz.underlying5 (by kernel_rfl) (by kernel_rfl)
  have hc : ∃ v, W.cell? ⟨7, 15, none⟩ = some v := by
    unfold Lib.TabIs at hz
    rw [World.var?_cell gz hz 15, List.getElem?_toArray, List.getElem?_map, tz_at]
    exact ⟨_, rfl⟩
  obtain ⟨v, hc⟩ := hc
  exact ⟨World.block_lt_of_cell? W _ hc, hp, iface_read (hR (n := "strconv.ErrSyntax") (d := Rows.laid_strconv_ErrSyntax) (by simp [laidL, Rows.helloNamesRow])) (by kernel_rfl) (by kernel_rfl),
    iface_read (hR (n := "strconv.ErrRange") (d := Rows.laid_strconv_ErrRange) (by simp [laidL, Rows.helloNamesRow])) (by kernel_rfl) (by kernel_rfl)⟩

noncomputable def laidWorld (os : Os) : World := World.laidAll Tryz.prog os laidL
set_option maxRecDepth 100000 in
theorem laid_met (os : Os) (args : Array Value) : laidMet Tryz.prog laidL ((laidWorld os).forCall (fun _ _ => 0) ⟨#[], args, []⟩).memory :=
  laidMet_laidAll args (by kernel_rfl) (by kernel_rfl)
end Go.Proofs.YtiakbmllpnabnaaGreatDoor
