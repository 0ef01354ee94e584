/-
  DERIVED. GIVEN WITH THE SEED: THE CARDS: each row of YtiakbmllpnabnaaGreatDoorRows.lean that lists a variable, with what it lists TIED to the program's text (the seventh form; the later family's looks); each row that meets fmt, with fmt's text TOLD by the authors' own Lean function (tested against real Go, not proved from fmt's source: count such statements apart). THE CARD IS WHAT COUNTS. Prove the row's statement (the work); the ties are given (YtiakbmllpnabnaaGreatDoorTie.lean); close each card by the builder's one call (the guide's Derived/Test/ToyasCard.lean, 'card_holds'). Laid BY PROGRAM, IN A SANDBOX (cutbox-door.mjs). By AI agents, Wed Nov 11 2026. No macro, syntax, notation, axiom, sorry.
-/
import Derived.Test.YtiakbmllpnabnaaGreatDoorRows
import GoSem.ClaimSeven
namespace Go.Proofs.YtiakbmllpnabnaaGreatDoor
namespace Rows

/-- THE TIED CARD OF 'chinoiserielaw07.HelloParses'. -/
def helloParsesCard : Claim7 := { stood := { row := helloParsesRow, standIns := [], harness := (true, "2b421fabe0fb3a8707493af4ebcd59859c557f43b99edadf5287e6255e9c1388"), looks := true }, kinds := [], alts := [], laidByText := true, laidKinds := [.data, .data, .data, .data, .sentinel, .sentinel, .pinned], laidTests := true, laidLooks := .later }
def HelloParsesCardSaid : Prop := Claim7.holds Tryz.pinned (.plain (OpenSpec.ofChange helloParsesSpec)) helloParsesCard

/-- THE TIED CARD OF 'chinoiserielaw07.HelloWrites'. -/
def helloWritesCard : Claim7 := { stood := { row := helloWritesRow, standIns := [], harness := (true, "2b421fabe0fb3a8707493af4ebcd59859c557f43b99edadf5287e6255e9c1388"), looks := true }, kinds := [], alts := [], laidByText := true, laidKinds := [.data, .data, .data, .data, .sentinel, .sentinel, .pinned], laidTests := true, laidLooks := .later }
def HelloWritesCardSaid : Prop := Claim7.holds Tryz.pinned (.plain (OpenSpec.ofChange helloWritesSpec)) helloWritesCard

/-- THE TIED CARD OF 'chinoiserielaw07.HelloBack'. -/
def helloBackCard : Claim7 := { stood := { row := helloBackRow, standIns := [], harness := (true, "2b421fabe0fb3a8707493af4ebcd59859c557f43b99edadf5287e6255e9c1388"), looks := true }, kinds := [], alts := [], laidByText := true, laidKinds := [.data, .data, .data, .data, .sentinel, .sentinel, .pinned], laidTests := true, laidLooks := .later }
def HelloBackCardSaid : Prop := Claim7.holds Tryz.pinned (.plain (OpenSpec.ofChange helloBackSpec)) helloBackCard

/-- THE TIED CARD OF 'chinoiserielaw07.HelloAgain'. -/
def helloAgainCard : Claim7 := { stood := { row := helloAgainRow, standIns := [], harness := (true, "2b421fabe0fb3a8707493af4ebcd59859c557f43b99edadf5287e6255e9c1388"), looks := true }, kinds := [], alts := [], laidByText := true, laidKinds := [.data, .data, .data, .data, .sentinel, .sentinel, .pinned], laidTests := true, laidLooks := .later }
def HelloAgainCardSaid : Prop := Claim7.holds Tryz.pinned (.plain (OpenSpec.ofChange helloAgainSpec)) helloAgainCard

/-- THE TIED CARD OF 'chinoiserielaw07.HelloCut'. -/
def helloCutCard : Claim7 := { stood := { row := helloCutRow, standIns := [], harness := (true, "2b421fabe0fb3a8707493af4ebcd59859c557f43b99edadf5287e6255e9c1388"), looks := true }, kinds := [], alts := [], laidByText := true, laidKinds := [.data, .data, .data, .data, .sentinel, .sentinel, .pinned], laidTests := true, laidLooks := .later }
def HelloCutCardSaid : Prop := Claim7.holds Tryz.pinned (.plain (OpenSpec.ofChange helloCutSpec)) helloCutCard

/-- THE TIED CARD OF 'chinoiserielaw07.HelloNames'. -/
def helloNamesCard : Claim7 := { stood := { row := helloNamesRow, standIns := [], harness := (true, "2b421fabe0fb3a8707493af4ebcd59859c557f43b99edadf5287e6255e9c1388"), looks := true }, kinds := [], alts := [], laidByText := true, laidKinds := [.data, .data, .data, .data, .sentinel, .sentinel, .pinned], laidTests := true, laidLooks := .later }
def HelloNamesCardSaid : Prop := Claim7.holds Tryz.pinned (.plain (OpenSpec.ofChange helloNamesSpec)) helloNamesCard

/-- THE TIED CARD OF 'chinoiserielaw07.HelloKnown'. -/
def helloKnownCard : Claim7 := { stood := { row := helloKnownRow, standIns := [], harness := (true, "2b421fabe0fb3a8707493af4ebcd59859c557f43b99edadf5287e6255e9c1388"), looks := true }, kinds := [], alts := [], laidByText := true, laidKinds := [.data, .data, .data, .data, .sentinel, .sentinel, .pinned], laidTests := true, laidLooks := .later }
def HelloKnownCardSaid : Prop := Claim7.holds Tryz.pinned (.plain (OpenSpec.ofChange helloKnownSpec)) helloKnownCard

/-- THE SECOND FORM's CARD OF 'chinoiserielaw07.HelloParses'. -/
def helloParsesUptoCard : Claim7 := { stood := { row := helloParsesUptoRow, standIns := [], harness := (true, "2b421fabe0fb3a8707493af4ebcd59859c557f43b99edadf5287e6255e9c1388"), looks := true }, kinds := [], alts := [], laidByText := true, laidKinds := [.data, .data, .data, .data, .sentinel, .sentinel, .pinned], laidTests := true, laidLooks := .later }
def HelloParsesUptoCardSaid : Prop := Claim7.holds Tryz.pinned (.plain (OpenSpec.upto helloParsesSpec)) helloParsesUptoCard

/-- THE SECOND FORM's CARD OF 'chinoiserielaw07.HelloWrites'. -/
def helloWritesUptoCard : Claim7 := { stood := { row := helloWritesUptoRow, standIns := [], harness := (true, "2b421fabe0fb3a8707493af4ebcd59859c557f43b99edadf5287e6255e9c1388"), looks := true }, kinds := [], alts := [], laidByText := true, laidKinds := [.data, .data, .data, .data, .sentinel, .sentinel, .pinned], laidTests := true, laidLooks := .later }
def HelloWritesUptoCardSaid : Prop := Claim7.holds Tryz.pinned (.plain (OpenSpec.upto helloWritesSpec)) helloWritesUptoCard

/-- THE SECOND FORM's CARD OF 'chinoiserielaw07.HelloBack'. -/
def helloBackUptoCard : Claim7 := { stood := { row := helloBackUptoRow, standIns := [], harness := (true, "2b421fabe0fb3a8707493af4ebcd59859c557f43b99edadf5287e6255e9c1388"), looks := true }, kinds := [], alts := [], laidByText := true, laidKinds := [.data, .data, .data, .data, .sentinel, .sentinel, .pinned], laidTests := true, laidLooks := .later }
def HelloBackUptoCardSaid : Prop := Claim7.holds Tryz.pinned (.plain (OpenSpec.upto helloBackSpec)) helloBackUptoCard

/-- THE SECOND FORM's CARD OF 'chinoiserielaw07.HelloAgain'. -/
def helloAgainUptoCard : Claim7 := { stood := { row := helloAgainUptoRow, standIns := [], harness := (true, "2b421fabe0fb3a8707493af4ebcd59859c557f43b99edadf5287e6255e9c1388"), looks := true }, kinds := [], alts := [], laidByText := true, laidKinds := [.data, .data, .data, .data, .sentinel, .sentinel, .pinned], laidTests := true, laidLooks := .later }
def HelloAgainUptoCardSaid : Prop := Claim7.holds Tryz.pinned (.plain (OpenSpec.upto helloAgainSpec)) helloAgainUptoCard

/-- THE SECOND FORM's CARD OF 'chinoiserielaw07.HelloCut'. -/
def helloCutUptoCard : Claim7 := { stood := { row := helloCutUptoRow, standIns := [], harness := (true, "2b421fabe0fb3a8707493af4ebcd59859c557f43b99edadf5287e6255e9c1388"), looks := true }, kinds := [], alts := [], laidByText := true, laidKinds := [.data, .data, .data, .data, .sentinel, .sentinel, .pinned], laidTests := true, laidLooks := .later }
def HelloCutUptoCardSaid : Prop := Claim7.holds Tryz.pinned (.plain (OpenSpec.upto helloCutSpec)) helloCutUptoCard

/-- THE SECOND FORM's CARD OF 'chinoiserielaw07.HelloNames'. -/
def helloNamesUptoCard : Claim7 := { stood := { row := helloNamesUptoRow, standIns := [], harness := (true, "2b421fabe0fb3a8707493af4ebcd59859c557f43b99edadf5287e6255e9c1388"), looks := true }, kinds := [], alts := [], laidByText := true, laidKinds := [.data, .data, .data, .data, .sentinel, .sentinel, .pinned], laidTests := true, laidLooks := .later }
def HelloNamesUptoCardSaid : Prop := Claim7.holds Tryz.pinned (.plain (OpenSpec.upto helloNamesSpec)) helloNamesUptoCard

/-- THE SECOND FORM's CARD OF 'chinoiserielaw07.HelloKnown'. -/
def helloKnownUptoCard : Claim7 := { stood := { row := helloKnownUptoRow, standIns := [], harness := (true, "2b421fabe0fb3a8707493af4ebcd59859c557f43b99edadf5287e6255e9c1388"), looks := true }, kinds := [], alts := [], laidByText := true, laidKinds := [.data, .data, .data, .data, .sentinel, .sentinel, .pinned], laidTests := true, laidLooks := .later }
def HelloKnownUptoCardSaid : Prop := Claim7.holds Tryz.pinned (.plain (OpenSpec.upto helloKnownSpec)) helloKnownUptoCard
end Rows
end Go.Proofs.YtiakbmllpnabnaaGreatDoor
