/-
  DERIVED. GIVEN WITH THE SEED: THE CARDS: each row of YtnjoadhkkfbeeaaGreatDoorRows.lean that lists a variable, with what it lists TIED to the program's text (the seventh form; the later family's looks); each row that meets fmt, with fmt's text TOLD by the authors' own Lean function (tested against real Go, not proved from fmt's source: count such statements apart). THE CARD IS WHAT COUNTS. Prove the row's statement (the work); the ties are given (YtnjoadhkkfbeeaaGreatDoorTie.lean); close each card by the builder's one call (the guide's Derived/Test/ToyasCard.lean, 'card_holds'). Laid BY PROGRAM, IN A SANDBOX (cutbox-door.mjs). By AI agents, Wed Nov 11 2026. No macro, syntax, notation, axiom, sorry.
-/
import Derived.Test.YtnjoadhkkfbeeaaGreatDoorRows
import GoSem.ClaimSeven
namespace Go.Proofs.YtnjoadhkkfbeeaaGreatDoor
namespace Rows

/-- THE TIED CARD OF 'chinoiserielaw05.HttpWrites'. -/
def httpWritesCard : Claim7 := { stood := { row := httpWritesRow, standIns := [], harness := (true, "d98ae1185b5b1a4ce2c7422c5fc6c7db479fb00d9ad310189acead7d9cc1ea29"), looks := true }, kinds := [], alts := [], laidByText := true, laidKinds := [.data, .data, .data, .data, .sentinel, .sentinel, .data, .pinned], laidTests := true, laidLooks := .later }
def HttpWritesCardSaid : Prop := Claim7.holds Tryz.pinned (.plain (OpenSpec.ofChange httpWritesSpec)) httpWritesCard

/-- THE TIED CARD OF 'chinoiserielaw05.HttpBack'. -/
def httpBackCard : Claim7 := { stood := { row := httpBackRow, standIns := [], harness := (true, "d98ae1185b5b1a4ce2c7422c5fc6c7db479fb00d9ad310189acead7d9cc1ea29"), looks := true }, kinds := [], alts := [], laidByText := true, laidKinds := [.data, .data, .data, .data, .sentinel, .sentinel, .data, .pinned], laidTests := true, laidLooks := .later }
def HttpBackCardSaid : Prop := Claim7.holds Tryz.pinned (.plain (OpenSpec.ofChange httpBackSpec)) httpBackCard

/-- THE TIED CARD OF 'chinoiserielaw05.HttpOnce'. -/
def httpOnceCard : Claim7 := { stood := { row := httpOnceRow, standIns := [], harness := (true, "d98ae1185b5b1a4ce2c7422c5fc6c7db479fb00d9ad310189acead7d9cc1ea29"), looks := true }, kinds := [], alts := [], laidByText := true, laidKinds := [.data, .data, .data, .data, .sentinel, .sentinel, .data, .pinned], laidTests := true, laidLooks := .later }
def HttpOnceCardSaid : Prop := Claim7.holds Tryz.pinned (.plain (OpenSpec.ofChange httpOnceSpec)) httpOnceCard

/-- THE TIED CARD OF 'chinoiserielaw05.HttpFrames'. -/
def httpFramesCard : Claim7 := { stood := { row := httpFramesRow, standIns := [], harness := (true, "d98ae1185b5b1a4ce2c7422c5fc6c7db479fb00d9ad310189acead7d9cc1ea29"), looks := true }, kinds := [], alts := [], laidByText := true, laidKinds := [.data, .data, .data, .data, .sentinel, .sentinel, .data, .pinned], laidTests := true, laidLooks := .later }
def HttpFramesCardSaid : Prop := Claim7.holds Tryz.pinned (.plain (OpenSpec.ofChange httpFramesSpec)) httpFramesCard

/-- THE TIED CARD OF 'chinoiserielaw05.HttpAgain'. -/
def httpAgainCard : Claim7 := { stood := { row := httpAgainRow, standIns := [], harness := (true, "d98ae1185b5b1a4ce2c7422c5fc6c7db479fb00d9ad310189acead7d9cc1ea29"), looks := true }, kinds := [], alts := [], laidByText := true, laidKinds := [.data, .data, .data, .data, .sentinel, .sentinel, .data, .pinned], laidTests := true, laidLooks := .later }
def HttpAgainCardSaid : Prop := Claim7.holds Tryz.pinned (.plain (OpenSpec.ofChange httpAgainSpec)) httpAgainCard

/-- THE SECOND FORM's CARD OF 'chinoiserielaw05.HttpWrites'. -/
def httpWritesUptoCard : Claim7 := { stood := { row := httpWritesUptoRow, standIns := [], harness := (true, "d98ae1185b5b1a4ce2c7422c5fc6c7db479fb00d9ad310189acead7d9cc1ea29"), looks := true }, kinds := [], alts := [], laidByText := true, laidKinds := [.data, .data, .data, .data, .sentinel, .sentinel, .data, .pinned], laidTests := true, laidLooks := .later }
def HttpWritesUptoCardSaid : Prop := Claim7.holds Tryz.pinned (.plain (OpenSpec.upto httpWritesSpec)) httpWritesUptoCard

/-- THE SECOND FORM's CARD OF 'chinoiserielaw05.HttpBack'. -/
def httpBackUptoCard : Claim7 := { stood := { row := httpBackUptoRow, standIns := [], harness := (true, "d98ae1185b5b1a4ce2c7422c5fc6c7db479fb00d9ad310189acead7d9cc1ea29"), looks := true }, kinds := [], alts := [], laidByText := true, laidKinds := [.data, .data, .data, .data, .sentinel, .sentinel, .data, .pinned], laidTests := true, laidLooks := .later }
def HttpBackUptoCardSaid : Prop := Claim7.holds Tryz.pinned (.plain (OpenSpec.upto httpBackSpec)) httpBackUptoCard

/-- THE SECOND FORM's CARD OF 'chinoiserielaw05.HttpOnce'. -/
def httpOnceUptoCard : Claim7 := { stood := { row := httpOnceUptoRow, standIns := [], harness := (true, "d98ae1185b5b1a4ce2c7422c5fc6c7db479fb00d9ad310189acead7d9cc1ea29"), looks := true }, kinds := [], alts := [], laidByText := true, laidKinds := [.data, .data, .data, .data, .sentinel, .sentinel, .data, .pinned], laidTests := true, laidLooks := .later }
def HttpOnceUptoCardSaid : Prop := Claim7.holds Tryz.pinned (.plain (OpenSpec.upto httpOnceSpec)) httpOnceUptoCard

/-- THE SECOND FORM's CARD OF 'chinoiserielaw05.HttpFrames'. -/
def httpFramesUptoCard : Claim7 := { stood := { row := httpFramesUptoRow, standIns := [], harness := (true, "d98ae1185b5b1a4ce2c7422c5fc6c7db479fb00d9ad310189acead7d9cc1ea29"), looks := true }, kinds := [], alts := [], laidByText := true, laidKinds := [.data, .data, .data, .data, .sentinel, .sentinel, .data, .pinned], laidTests := true, laidLooks := .later }
def HttpFramesUptoCardSaid : Prop := Claim7.holds Tryz.pinned (.plain (OpenSpec.upto httpFramesSpec)) httpFramesUptoCard

/-- THE SECOND FORM's CARD OF 'chinoiserielaw05.HttpAgain'. -/
def httpAgainUptoCard : Claim7 := { stood := { row := httpAgainUptoRow, standIns := [], harness := (true, "d98ae1185b5b1a4ce2c7422c5fc6c7db479fb00d9ad310189acead7d9cc1ea29"), looks := true }, kinds := [], alts := [], laidByText := true, laidKinds := [.data, .data, .data, .data, .sentinel, .sentinel, .data, .pinned], laidTests := true, laidLooks := .later }
def HttpAgainUptoCardSaid : Prop := Claim7.holds Tryz.pinned (.plain (OpenSpec.upto httpAgainSpec)) httpAgainUptoCard
end Rows
end Go.Proofs.YtnjoadhkkfbeeaaGreatDoor
