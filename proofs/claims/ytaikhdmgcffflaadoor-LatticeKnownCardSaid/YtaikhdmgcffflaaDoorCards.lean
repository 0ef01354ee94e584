/-
  DERIVED. GIVEN WITH THE SEED: THE CARDS: each row of YtaikhdmgcffflaaDoorRows.lean that lists a variable, with what it lists TIED to the program's text (the seventh form; the later family's looks); each row that meets fmt, with fmt's text TOLD by the authors' own Lean function (tested against real Go, not proved from fmt's source: count such statements apart). THE CARD IS WHAT COUNTS. Prove the row's statement (the work); the ties are given (YtaikhdmgcffflaaDoorTie.lean); close each card by the builder's one call (the guide's Derived/Test/ToyasCard.lean, 'card_holds'). Laid BY PROGRAM, IN A SANDBOX (cutbox-door.mjs). By AI agents, Wed Nov 11 2026. No macro, syntax, notation, axiom, sorry.
-/
import Derived.Test.YtaikhdmgcffflaaDoorRows
import GoSem.ClaimSeven
namespace Go.Proofs.YtaikhdmgcffflaaDoor
namespace Rows

/-- THE TIED CARD OF 'chinoiserielaw03.LatticeMakes'. -/
def latticeMakesCard : Claim7 := { stood := { row := latticeMakesRow, standIns := [], harness := (true, "7207f5a2c45b667b9692b9f95764daebdc12e9e086b2da72cdb4af1e1a292173"), looks := false }, kinds := [], alts := [], laidByText := true, laidKinds := [.data], laidTests := true, laidLooks := .later }
def LatticeMakesCardSaid : Prop := Claim7.holds Tryd.pinned (.plain (OpenSpec.ofChange latticeMakesSpec)) latticeMakesCard

/-- THE TIED CARD OF 'chinoiserielaw03.LatticeBroken'. -/
def latticeBrokenCard : Claim7 := { stood := { row := latticeBrokenRow, standIns := [], harness := (true, "7207f5a2c45b667b9692b9f95764daebdc12e9e086b2da72cdb4af1e1a292173"), looks := false }, kinds := [], alts := [], laidByText := true, laidKinds := [.data], laidTests := true, laidLooks := .later }
def LatticeBrokenCardSaid : Prop := Claim7.holds Tryd.pinned (.plain (OpenSpec.ofChange latticeBrokenSpec)) latticeBrokenCard

/-- THE TIED CARD OF 'chinoiserielaw03.LatticeKnown'. -/
def latticeKnownCard : Claim7 := { stood := { row := latticeKnownRow, standIns := [], harness := (true, "7207f5a2c45b667b9692b9f95764daebdc12e9e086b2da72cdb4af1e1a292173"), looks := false }, kinds := [], alts := [], laidByText := true, laidKinds := [.data], laidTests := true, laidLooks := .later }
def LatticeKnownCardSaid : Prop := Claim7.holds Tryd.pinned (.plain (OpenSpec.ofChange latticeKnownSpec)) latticeKnownCard

/-- THE SECOND FORM's CARD OF 'chinoiserielaw03.LatticeMakes'. -/
def latticeMakesUptoCard : Claim7 := { stood := { row := latticeMakesUptoRow, standIns := [], harness := (true, "7207f5a2c45b667b9692b9f95764daebdc12e9e086b2da72cdb4af1e1a292173"), looks := false }, kinds := [], alts := [], laidByText := true, laidKinds := [.data], laidTests := true, laidLooks := .later }
def LatticeMakesUptoCardSaid : Prop := Claim7.holds Tryd.pinned (.plain (OpenSpec.upto latticeMakesSpec)) latticeMakesUptoCard

/-- THE SECOND FORM's CARD OF 'chinoiserielaw03.LatticeBroken'. -/
def latticeBrokenUptoCard : Claim7 := { stood := { row := latticeBrokenUptoRow, standIns := [], harness := (true, "7207f5a2c45b667b9692b9f95764daebdc12e9e086b2da72cdb4af1e1a292173"), looks := false }, kinds := [], alts := [], laidByText := true, laidKinds := [.data], laidTests := true, laidLooks := .later }
def LatticeBrokenUptoCardSaid : Prop := Claim7.holds Tryd.pinned (.plain (OpenSpec.upto latticeBrokenSpec)) latticeBrokenUptoCard

/-- THE SECOND FORM's CARD OF 'chinoiserielaw03.LatticeKnown'. -/
def latticeKnownUptoCard : Claim7 := { stood := { row := latticeKnownUptoRow, standIns := [], harness := (true, "7207f5a2c45b667b9692b9f95764daebdc12e9e086b2da72cdb4af1e1a292173"), looks := false }, kinds := [], alts := [], laidByText := true, laidKinds := [.data], laidTests := true, laidLooks := .later }
def LatticeKnownUptoCardSaid : Prop := Claim7.holds Tryd.pinned (.plain (OpenSpec.upto latticeKnownSpec)) latticeKnownUptoCard
end Rows
end Go.Proofs.YtaikhdmgcffflaaDoor
