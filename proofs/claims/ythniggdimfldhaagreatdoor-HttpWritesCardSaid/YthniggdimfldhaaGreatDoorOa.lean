/- What every card of this seat needs: a world that holds the listed variables; what they hold as the program reads them. -/
import Derived.Test.YthniggdimfldhaaGreatDoorCards
import Derived.Test.YthniggdimfldhaaGreatDoorTie
import Derived.Test.YthniggdimfldhaaGreatDoorNa
import Derived.ProofKit
import Derived.OpenShut
import Derived.ShutString
import Derived.ChangeOld
import Derived.Stop.LaidErr
import Derived.Deep.DeepHandedRow
import Derived.Deep.Slices
import Derived.Deep.SlicePairs
import Derived.ChangeMaps5
import Derived.SliceStrings
import Derived.Lay
import Derived.MakeChecks
import Derived.PinnedBridge
import Derived.Lib.LaidU8T
import Derived.Shelf.Vars
namespace Go.Proofs.YthniggdimfldhaaGreatDoor
open Go Go.ChangeShapes Go.WideShapes Go.ChangeAt Go.RowKit

theorem own : ownKnob Tryz.prog.godebug = none := by kernel_rfl
theorem laidOut : laidOutB Tryz.prog = true := by kernel_rfl
theorem cells9 : Tryz.prog.cellsOf 9 = 1 := by kernel_rfl
theorem cells28 : Tryz.prog.cellsOf 41 = 2 := by kernel_rfl

/-- What the rows list. -/
def laidL : List (String × DataW Unit) := Rows.httpWritesRow.laid
def u8Ren : Go.Shelf.Ren := ⟨fun k => k, fun | 5 => 5 | 119 => 160 | 138 => 162 | 139 => 163 | k => k, fun | 3 => 7 | 4 => 8 | k => k⟩
theorem u8Types : U8Types Tryz.prog u8Ren := ⟨by kernel_rfl, by kernel_rfl, by kernel_rfl, by kernel_rfl⟩
theorem u8Extra : U8Extra Tryz.prog u8Ren := ⟨by kernel_rfl, by kernel_rfl, by kernel_rfl, by kernel_rfl, by kernel_rfl, by kernel_rfl, by kernel_rfl⟩
theorem acc_data : (Rows.laid_unicode_utf8_acceptRanges : DataW Unit) = Lib.acceptData := by kernel_rfl
theorem pow_data : (Rows.laid_internal_strconv_uint64pow10 : DataW Unit) = Lib.tabData .u64 Lib.pow10Tab := by kernel_rfl
def tz64 : List Int := [0, 1, 56, 2, 57, 49, 28, 3, 61, 58, 42, 50, 38, 29, 17, 4]
def intsOf : DataW Unit → List Int
  | .agg l => l.filterMap fun | .lit (.int _ n) => some n | _ => none
  | _ => []
theorem tz_data : (Rows.laid_math_bits_deBruijn64tab : DataW Unit) = Lib.tabData .u8 (intsOf Rows.laid_math_bits_deBruijn64tab) := by kernel_rfl
theorem tz_at : (intsOf Rows.laid_math_bits_deBruijn64tab)[15]? = some 4 := by kernel_rfl
/-- a table of numbers, read -/
theorem tab_reads {W : World} {n : String} {k : IntKind} {zs : List Int} {g : Nat} {t e : TypeId} {m : Nat} (h : Lib.VarReads Tryz.prog W n (Lib.tabData k zs)) (hg : Tryz.prog.globalNamed n = some g) (hty : (Tryz.prog.globals[g]?).map (·.type) = some t)
    (ht : Tryz.prog.underlying t = some (.array m e)) (he : Tryz.prog.underlying e = some (.int k)) (hce : Tryz.prog.cellsOf e = 1) (hct : Tryz.prog.cellsOf t = m) : Lib.TabIs Tryz.prog W n k zs := by
  obtain ⟨g', t', cs, fuel, p, hg', hty', hvar, hd⟩ := h
  obtain rfl := Option.some.inj (hg.symm.trans hg')
  obtain rfl := Option.some.inj (hty.symm.trans hty')
  have hcs := Lib.cells_of_tab ht he hce hct hd
  unfold Lib.TabIs
  rw [hvar, ← hcs]
theorem names_read {W : World} (h : Lib.VarReads Tryz.prog W "chinoiserie/http.encodingNames" Rows.laid_chinoiserie_http_encodingNames) :
    W.cell? ⟨0, 0, none⟩ = some (strV nCL) ∧ W.cell? ⟨0, 1, none⟩ = some (strV nTE) ∧ W.cell? ⟨0, 2, none⟩ = some (strV nCo) := by
  obtain ⟨g, t, cs, fuel, p, hg, hty, hvar, hd⟩ := h
  obtain rfl := Option.some.inj ((show Tryz.prog.globalNamed "chinoiserie/http.encodingNames" = some 0 by kernel_rfl).symm.trans hg)
  obtain rfl := Option.some.inj ((show (Tryz.prog.globals[0]?).map (·.type) = some 51 by kernel_rfl).symm.trans hty)
  unfold Rows.laid_chinoiserie_http_encodingNames at hd
  have hE : ∀ (i : Nat) (z : List UInt8), i < 3 → [nCL, nTE, nCo][i]? = some z → W.cell? ⟨0, i, none⟩ = some (strV z) := fun i z hi hz => by
    obtain ⟨f2, d, q, hdi, he⟩ := Lib.array_elem Tryz.underlying51 hd i hi
    rw [cells9, Nat.mul_one] at he
    obtain ⟨s, hs, e2, _⟩ := DataW.trod_string Tryz.underlying9 he
    have hdz : d = .lit (.string z) := by
      match i, hi with
      | 0, _ => exact (Option.some.inj hdi).symm.trans (by rw [← Option.some.inj hz]; rfl)
      | 1, _ => exact (Option.some.inj hdi).symm.trans (by rw [← Option.some.inj hz]; rfl)
      | 2, _ => exact (Option.some.inj hdi).symm.trans (by rw [← Option.some.inj hz]; rfl)
    have hsz : s.data.toList = z := by
      have e3 := (Prod.mk.inj e2).1.symm.trans hdz
      simpa using e3
    have hc : cs.toList[i]? = some (.string s) := by
      have := congrArg (·[0]?) hs
      simpa [List.getElem?_take, List.getElem?_drop] using this
    rw [World.var?_cell hg hvar i, ← Array.getElem?_toList, hc, ← hsz, strV_data]
  exact ⟨hE 0 _ (by decide) rfl, hE 1 _ (by decide) rfl, hE 2 _ (by decide) rfl⟩
theorem gl_of {W : World} (h : laidMetH Tryz.prog laidL W) (hs : W.ShapedOpen Tryz.prog) : Gl W := by
  rw [MakeChecks.laidMetH_plain _ _ _ (by kernel_rfl)] at h
  have hR : ∀ {n d}, (n, d) ∈ laidL → Lib.VarReads Tryz.prog W n d := fun hm => Lib.laidMet.reads h hm
  have hu8 := utf8Tabs_of_readsT u8Types u8Extra (w := W) (by rw [← Pinned.utf8First_eq]; exact hR (by simp [laidL, Rows.httpWritesRow, Rows.laid_unicode_utf8_first])) (by rw [← acc_data]; exact hR (by simp [laidL, Rows.httpWritesRow]))
  have hn := names_read (hR (by simp [laidL, Rows.httpWritesRow]))
  have hp : Lib.TabIs Tryz.prog W "internal/strconv.uint64pow10" .u64 Lib.pow10Tab := tab_reads (by rw [← pow_data]; exact hR (by simp [laidL, Rows.httpWritesRow])) pow_global (by kernel_rfl) Tryz.underlying101 Tryz.underlying75 (by kernel_rfl) (by kernel_rfl)
  have gz : Tryz.prog.globalNamed "math/bits.deBruijn64tab" = some 4 := by kernel_rfl
  have hz : Lib.TabIs Tryz.prog W "math/bits.deBruijn64tab" .u8 (intsOf Rows.laid_math_bits_deBruijn64tab) := tab_reads (by rw [← tz_data]; exact hR (by simp [laidL, Rows.httpWritesRow])) gz (by kernel_rfl) Tryz.underlying135 Tryz.underlying5 (by kernel_rfl) (by kernel_rfl)
  have hm := cell_of_shapedOpen_int (P := Tryz.prog) (g := 2) (t := 3) (zero := #[.int .i64 0]) hs (of_decide_eq_true (by kernel_rfl)) (by kernel_rfl) rfl (by kernel_rfl) (by kernel_rfl) Tryz.underlying3
  have he : ∃ tp p, W.cell? ⟨5, 0, none⟩ = some (.iface tp p) := by
    obtain ⟨g, t, cs, fuel, p, hg, hty, hvar, hd⟩ := hR (n := "strconv.ErrSyntax") (d := Rows.laid_strconv_ErrSyntax) (by simp [laidL, Rows.httpWritesRow])
    obtain rfl := Option.some.inj ((show Tryz.prog.globalNamed "strconv.ErrSyntax" = some 5 by kernel_rfl).symm.trans hg)
    obtain rfl := Option.some.inj ((show (Tryz.prog.globals[5]?).map (·.type) = some 116 by kernel_rfl).symm.trans hty)
    obtain ⟨_, u, v, hcs, _⟩ := iface_of_trod Tryz.underlying116 hd
    exact ⟨u, v, by rw [World.var?_cell hg hvar 0, ← Array.getElem?_toList, hcs]; rfl⟩
  refine ⟨?_, hn.1, hn.2.1, hn.2.2, hm, hp, ?_, hu8, he⟩
  · have := hu8.1 0 (by decide)
    have h1 := World.block_lt_of_cell? W _ this
    have h2 := (hu8.2 0 (by decide)).1
    have h3 := World.block_lt_of_cell? W _ h2
    show 9 ≤ _
    exact h3
  · unfold Lib.TabIs at hz
    rw [World.var?_cell gz hz 15, List.getElem?_toArray, List.getElem?_map, tz_at]
    rfl

noncomputable def laidWorld (os : Os) : World := World.laidAll Tryz.prog os laidL
set_option maxRecDepth 100000 in
theorem laid_met (os : Os) (args : Array Value) : laidMet Tryz.prog laidL ((laidWorld os).forCall (fun _ _ => 0) ⟨#[], args, []⟩).memory :=
  laidMet_laidAll args (by kernel_rfl) (by kernel_rfl)
end Go.Proofs.YthniggdimfldhaaGreatDoor
