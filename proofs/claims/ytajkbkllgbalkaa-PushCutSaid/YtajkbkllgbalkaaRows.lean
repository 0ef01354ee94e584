/-
  No cell of these rows narrows 'for every input' (looked for: loops, veiled, ifaces, maps, wideKeys, modest, calm, conditions, laid).
  DERIVED. THE GIVEN ROWS OF THIS SEAT. 8 by the template 'for every input the law returns true; each argument reads behind the call as it read before'; 0 by the template 'total and deterministic' (their statements: YtajkbkllgbalkaaTotals.lean).
  GIVEN WITH THE SEED: the statements are not yours to turn. If you find one false, say at which input.
  Laid BY PROGRAM, IN A SANDBOX (cutbox-rows.mjs): the forced cells as the released guide's own fill.sh prints them over the translation e77cdbbb37acef17… (all of the seat's roots in one cut). By AI agents, Wed Nov 11 2026. No macro, syntax, notation, axiom, sorry.
-/
import Derived.Test.YtajkbkllgbalkaaChecked
import GoSem.Claim
import GoSem.ClaimJoined
import GoSem.ClaimMapViews
import Derived.JoinedTies
import Derived.KernelRfl
namespace Go.Proofs.Ytajkbkllgbalkaa
/- THE CELL 'sum', in the pinned program and in every row, IS THE sha256 OF THE DUMP (.gsa) THAT YtajkbkllgbalkaaProg.lean LOADS. Nothing in Lean hashes anything: it is a label: what it is worth is what the hold of that sum in a sandbox is worth. -/
noncomputable def Try.pinned : Pinned := { name := "ytajkbkllgbalkaa", sum := "e77cdbbb37acef17212154a4466c75ba0e1834c8c8cd4c687c60e718f7a3d71e", checked := Try.checked }
namespace Rows
def none {H : Type} : Left H := { results := [], args := [] }

/-- 'chinoiserielaw11.PushWrites': WHATEVER THE INPUT: true; the input reads as it did. -/
def pushWritesSpec : ChangeSpec := { name := "pushWrites", fn := fun _ => fun
  | [d1, d2] => { results := [.lit (.bool true)], args := [d1, d2] }
  | _ => none }
def pushWritesRow : OpenClaim := { program := "ytajkbkllgbalkaa", sum := "e77cdbbb37acef17212154a4466c75ba0e1834c8c8cd4c687c60e718f7a3d71e", func := "chinoiserie/chinoiserielaw11.PushWrites", spec := "pushWrites", inPlace := ["internal/bytealg.IndexByteString", "internal/bytealg.IndexString", "internal/abi.NoEscape"], unfollowed := true, recurses := true, named := ["internal/bytealg.MaxLen"], apart := false }
def PushWritesSaid : Prop := pushWritesRow.holds Try.pinned (OpenSpec.ofChange pushWritesSpec)

/-- ITS FALSE NEIGHBOUR: 'it returns false'. Refute it at one input. -/
def pushWritesWrong : ChangeSpec := { name := "pushWrites", fn := fun _ => fun
  | [d1, d2] => { results := [.lit (.bool false)], args := [d1, d2] }
  | _ => none }
def PushWritesWrongFalsely : Prop := pushWritesRow.holds Try.pinned (OpenSpec.ofChange pushWritesWrong)

/-- 'chinoiserielaw11.PushReads': WHATEVER THE INPUT: true; the input reads as it did. -/
def pushReadsSpec : ChangeSpec := { name := "pushReads", fn := fun _ => fun
  | [d] => { results := [.lit (.bool true)], args := [d] }
  | _ => none }
def pushReadsRow : OpenClaim := { program := "ytajkbkllgbalkaa", sum := "e77cdbbb37acef17212154a4466c75ba0e1834c8c8cd4c687c60e718f7a3d71e", func := "chinoiserie/chinoiserielaw11.PushReads", spec := "pushReads", inPlace := ["internal/bytealg.IndexByteString", "internal/bytealg.IndexString", "internal/abi.NoEscape"], unfollowed := true, recurses := true, named := ["internal/bytealg.MaxLen"], apart := false }
def PushReadsSaid : Prop := pushReadsRow.holds Try.pinned (OpenSpec.ofChange pushReadsSpec)

/-- ITS FALSE NEIGHBOUR: 'it returns false'. Refute it at one input. -/
def pushReadsWrong : ChangeSpec := { name := "pushReads", fn := fun _ => fun
  | [d] => { results := [.lit (.bool false)], args := [d] }
  | _ => none }
def PushReadsWrongFalsely : Prop := pushReadsRow.holds Try.pinned (OpenSpec.ofChange pushReadsWrong)

/-- 'chinoiserielaw11.PushPatches': WHATEVER THE INPUT: true; the input reads as it did. -/
def pushPatchesSpec : ChangeSpec := { name := "pushPatches", fn := fun _ => fun
  | [d1, d2, d3] => { results := [.lit (.bool true)], args := [d1, d2, d3] }
  | _ => none }
def pushPatchesRow : OpenClaim := { program := "ytajkbkllgbalkaa", sum := "e77cdbbb37acef17212154a4466c75ba0e1834c8c8cd4c687c60e718f7a3d71e", func := "chinoiserie/chinoiserielaw11.PushPatches", spec := "pushPatches", inPlace := ["internal/bytealg.IndexByteString", "internal/bytealg.IndexString", "internal/abi.NoEscape"], unfollowed := true, recurses := true, named := ["internal/bytealg.MaxLen"], apart := false }
def PushPatchesSaid : Prop := pushPatchesRow.holds Try.pinned (OpenSpec.ofChange pushPatchesSpec)

/-- ITS FALSE NEIGHBOUR: 'it returns false'. Refute it at one input. -/
def pushPatchesWrong : ChangeSpec := { name := "pushPatches", fn := fun _ => fun
  | [d1, d2, d3] => { results := [.lit (.bool false)], args := [d1, d2, d3] }
  | _ => none }
def PushPatchesWrongFalsely : Prop := pushPatchesRow.holds Try.pinned (OpenSpec.ofChange pushPatchesWrong)

/-- 'chinoiserielaw11.PushBack': WHATEVER THE INPUT: true; the input reads as it did. -/
def pushBackSpec : ChangeSpec := { name := "pushBack", fn := fun _ => fun
  | [d] => { results := [.lit (.bool true)], args := [d] }
  | _ => none }
def pushBackRow : OpenClaim := { program := "ytajkbkllgbalkaa", sum := "e77cdbbb37acef17212154a4466c75ba0e1834c8c8cd4c687c60e718f7a3d71e", func := "chinoiserie/chinoiserielaw11.PushBack", spec := "pushBack", inPlace := ["internal/bytealg.IndexByteString", "internal/bytealg.IndexString", "internal/abi.NoEscape"], unfollowed := true, recurses := true, named := ["internal/bytealg.MaxLen"], apart := false }
def PushBackSaid : Prop := pushBackRow.holds Try.pinned (OpenSpec.ofChange pushBackSpec)

/-- ITS FALSE NEIGHBOUR: 'it returns false'. Refute it at one input. -/
def pushBackWrong : ChangeSpec := { name := "pushBack", fn := fun _ => fun
  | [d] => { results := [.lit (.bool false)], args := [d] }
  | _ => none }
def PushBackWrongFalsely : Prop := pushBackRow.holds Try.pinned (OpenSpec.ofChange pushBackWrong)

/-- 'chinoiserielaw11.PushAgain': WHATEVER THE INPUT: true; the input reads as it did. -/
def pushAgainSpec : ChangeSpec := { name := "pushAgain", fn := fun _ => fun
  | [d] => { results := [.lit (.bool true)], args := [d] }
  | _ => none }
def pushAgainRow : OpenClaim := { program := "ytajkbkllgbalkaa", sum := "e77cdbbb37acef17212154a4466c75ba0e1834c8c8cd4c687c60e718f7a3d71e", func := "chinoiserie/chinoiserielaw11.PushAgain", spec := "pushAgain", inPlace := ["internal/bytealg.IndexByteString", "internal/bytealg.IndexString", "internal/abi.NoEscape"], unfollowed := true, recurses := true, named := ["internal/bytealg.MaxLen"], apart := false }
def PushAgainSaid : Prop := pushAgainRow.holds Try.pinned (OpenSpec.ofChange pushAgainSpec)

/-- ITS FALSE NEIGHBOUR: 'it returns false'. Refute it at one input. -/
def pushAgainWrong : ChangeSpec := { name := "pushAgain", fn := fun _ => fun
  | [d] => { results := [.lit (.bool false)], args := [d] }
  | _ => none }
def PushAgainWrongFalsely : Prop := pushAgainRow.holds Try.pinned (OpenSpec.ofChange pushAgainWrong)

/-- 'chinoiserielaw11.PushCut': WHATEVER THE INPUT: true; the input reads as it did. -/
def pushCutSpec : ChangeSpec := { name := "pushCut", fn := fun _ => fun
  | [d1, d2, d3] => { results := [.lit (.bool true)], args := [d1, d2, d3] }
  | _ => none }
def pushCutRow : OpenClaim := { program := "ytajkbkllgbalkaa", sum := "e77cdbbb37acef17212154a4466c75ba0e1834c8c8cd4c687c60e718f7a3d71e", func := "chinoiserie/chinoiserielaw11.PushCut", spec := "pushCut", inPlace := ["internal/bytealg.IndexByteString", "internal/bytealg.IndexString", "internal/abi.NoEscape"], unfollowed := true, recurses := true, named := ["internal/bytealg.MaxLen"], apart := false }
def PushCutSaid : Prop := pushCutRow.holds Try.pinned (OpenSpec.ofChange pushCutSpec)

/-- ITS FALSE NEIGHBOUR: 'it returns false'. Refute it at one input. -/
def pushCutWrong : ChangeSpec := { name := "pushCut", fn := fun _ => fun
  | [d1, d2, d3] => { results := [.lit (.bool false)], args := [d1, d2, d3] }
  | _ => none }
def PushCutWrongFalsely : Prop := pushCutRow.holds Try.pinned (OpenSpec.ofChange pushCutWrong)

/-- 'chinoiserielaw11.PushDiffs': WHATEVER THE INPUT: true; the input reads as it did. -/
def pushDiffsSpec : ChangeSpec := { name := "pushDiffs", fn := fun _ => fun
  | [d1, d2, d3] => { results := [.lit (.bool true)], args := [d1, d2, d3] }
  | _ => none }
def pushDiffsRow : OpenClaim := { program := "ytajkbkllgbalkaa", sum := "e77cdbbb37acef17212154a4466c75ba0e1834c8c8cd4c687c60e718f7a3d71e", func := "chinoiserie/chinoiserielaw11.PushDiffs", spec := "pushDiffs", inPlace := ["internal/bytealg.IndexByteString", "internal/bytealg.IndexString", "internal/abi.NoEscape"], unfollowed := true, recurses := true, named := ["internal/bytealg.MaxLen"], apart := false }
def PushDiffsSaid : Prop := pushDiffsRow.holds Try.pinned (OpenSpec.ofChange pushDiffsSpec)

/-- ITS FALSE NEIGHBOUR: 'it returns false'. Refute it at one input. -/
def pushDiffsWrong : ChangeSpec := { name := "pushDiffs", fn := fun _ => fun
  | [d1, d2, d3] => { results := [.lit (.bool false)], args := [d1, d2, d3] }
  | _ => none }
def PushDiffsWrongFalsely : Prop := pushDiffsRow.holds Try.pinned (OpenSpec.ofChange pushDiffsWrong)

/-- 'chinoiserielaw11.PushKnown': WHATEVER THE INPUT: true; the input reads as it did. -/
def pushKnownSpec : ChangeSpec := { name := "pushKnown", fn := fun _ => fun
  | [] => { results := [.lit (.bool true)], args := [] }
  | _ => none }
def pushKnownRow : OpenClaim := { program := "ytajkbkllgbalkaa", sum := "e77cdbbb37acef17212154a4466c75ba0e1834c8c8cd4c687c60e718f7a3d71e", func := "chinoiserie/chinoiserielaw11.PushKnown", spec := "pushKnown", inPlace := ["internal/bytealg.IndexByteString", "internal/bytealg.IndexString", "internal/abi.NoEscape"], unfollowed := true, recurses := true, named := ["internal/bytealg.MaxLen"], apart := false }
def PushKnownSaid : Prop := pushKnownRow.holds Try.pinned (OpenSpec.ofChange pushKnownSpec)

/-- ITS FALSE NEIGHBOUR: 'it returns false'. Refute it at one input. -/
def pushKnownWrong : ChangeSpec := { name := "pushKnown", fn := fun _ => fun
  | [] => { results := [.lit (.bool false)], args := [] }
  | _ => none }
def PushKnownWrongFalsely : Prop := pushKnownRow.holds Try.pinned (OpenSpec.ofChange pushKnownWrong)

/- THE SECOND FORM. 'bulk': how many values and letters a reading holds, each counted each time it is reached (what is shared counts as often as it is met; a slice's spare places count too). A statement '..UptoSaid' is the law's where the arguments, and the package variables that the reading takes, are together of bulk at most 1048576: NARROWER than '..Said'. Prove '..Said' where nothing that the law and all that it calls make is longer than what came in: it says more and counts as full. Else prove '..UptoSaid'. A law counts once. -/
mutual
def uptoBulk {H : Type} : DataW H → Nat
  | .lit (.string bytes) => bytes.length + 1
  | .lit _ => 1
  | .nil => 1
  | .ptr d => uptoBulk d + 1
  | .slice elems spare => uptoBulkAll elems + uptoBulkAll spare + 1
  | .agg parts => uptoBulkAll parts + 1
  | .iface _ d => uptoBulk d + 1
  | .map entries => uptoBulkEntries entries + 1
  | .held _ => 1
def uptoBulkAll {H : Type} : List (DataW H) → Nat
  | [] => 0
  | d :: r => uptoBulk d + uptoBulkAll r
def uptoBulkEntries {H : Type} : List (Lit × DataW H) → Nat
  | [] => 0
  | x :: r => uptoBulkEntry x + uptoBulkEntries r
def uptoBulkEntry {H : Type} : Lit × DataW H → Nat
  | (.string bytes, d) => bytes.length + uptoBulk d + 1
  | (_, d) => uptoBulk d + 1
 end
def uptoSmall : (H : Type) → List (DataW H) → Bool := fun _ ds => decide (uptoBulkAll ds ≤ 1048576)
def OpenSpec.upto (s : _root_.Go.ChangeSpec) : _root_.Go.OpenSpec := { _root_.Go.OpenSpec.ofChange s with cond := some uptoSmall }

/-- 'chinoiserielaw11.PushWrites', WHERE WHAT IT READS IS OF BULK AT MOST 1048576: true; the input reads as it did. -/
def pushWritesUptoRow : OpenClaim := { program := "ytajkbkllgbalkaa", sum := "e77cdbbb37acef17212154a4466c75ba0e1834c8c8cd4c687c60e718f7a3d71e", func := "chinoiserie/chinoiserielaw11.PushWrites", spec := "pushWrites", inPlace := ["internal/bytealg.IndexByteString", "internal/bytealg.IndexString", "internal/abi.NoEscape"], unfollowed := true, recurses := true, named := ["internal/bytealg.MaxLen"], apart := false, narrowed := true }
def PushWritesUptoSaid : Prop := pushWritesUptoRow.holds Try.pinned (OpenSpec.upto pushWritesSpec)

/-- 'chinoiserielaw11.PushReads', WHERE WHAT IT READS IS OF BULK AT MOST 1048576: true; the input reads as it did. -/
def pushReadsUptoRow : OpenClaim := { program := "ytajkbkllgbalkaa", sum := "e77cdbbb37acef17212154a4466c75ba0e1834c8c8cd4c687c60e718f7a3d71e", func := "chinoiserie/chinoiserielaw11.PushReads", spec := "pushReads", inPlace := ["internal/bytealg.IndexByteString", "internal/bytealg.IndexString", "internal/abi.NoEscape"], unfollowed := true, recurses := true, named := ["internal/bytealg.MaxLen"], apart := false, narrowed := true }
def PushReadsUptoSaid : Prop := pushReadsUptoRow.holds Try.pinned (OpenSpec.upto pushReadsSpec)

/-- 'chinoiserielaw11.PushPatches', WHERE WHAT IT READS IS OF BULK AT MOST 1048576: true; the input reads as it did. -/
def pushPatchesUptoRow : OpenClaim := { program := "ytajkbkllgbalkaa", sum := "e77cdbbb37acef17212154a4466c75ba0e1834c8c8cd4c687c60e718f7a3d71e", func := "chinoiserie/chinoiserielaw11.PushPatches", spec := "pushPatches", inPlace := ["internal/bytealg.IndexByteString", "internal/bytealg.IndexString", "internal/abi.NoEscape"], unfollowed := true, recurses := true, named := ["internal/bytealg.MaxLen"], apart := false, narrowed := true }
def PushPatchesUptoSaid : Prop := pushPatchesUptoRow.holds Try.pinned (OpenSpec.upto pushPatchesSpec)

/-- 'chinoiserielaw11.PushBack', WHERE WHAT IT READS IS OF BULK AT MOST 1048576: true; the input reads as it did. -/
def pushBackUptoRow : OpenClaim := { program := "ytajkbkllgbalkaa", sum := "e77cdbbb37acef17212154a4466c75ba0e1834c8c8cd4c687c60e718f7a3d71e", func := "chinoiserie/chinoiserielaw11.PushBack", spec := "pushBack", inPlace := ["internal/bytealg.IndexByteString", "internal/bytealg.IndexString", "internal/abi.NoEscape"], unfollowed := true, recurses := true, named := ["internal/bytealg.MaxLen"], apart := false, narrowed := true }
def PushBackUptoSaid : Prop := pushBackUptoRow.holds Try.pinned (OpenSpec.upto pushBackSpec)

/-- 'chinoiserielaw11.PushAgain', WHERE WHAT IT READS IS OF BULK AT MOST 1048576: true; the input reads as it did. -/
def pushAgainUptoRow : OpenClaim := { program := "ytajkbkllgbalkaa", sum := "e77cdbbb37acef17212154a4466c75ba0e1834c8c8cd4c687c60e718f7a3d71e", func := "chinoiserie/chinoiserielaw11.PushAgain", spec := "pushAgain", inPlace := ["internal/bytealg.IndexByteString", "internal/bytealg.IndexString", "internal/abi.NoEscape"], unfollowed := true, recurses := true, named := ["internal/bytealg.MaxLen"], apart := false, narrowed := true }
def PushAgainUptoSaid : Prop := pushAgainUptoRow.holds Try.pinned (OpenSpec.upto pushAgainSpec)

/-- 'chinoiserielaw11.PushCut', WHERE WHAT IT READS IS OF BULK AT MOST 1048576: true; the input reads as it did. -/
def pushCutUptoRow : OpenClaim := { program := "ytajkbkllgbalkaa", sum := "e77cdbbb37acef17212154a4466c75ba0e1834c8c8cd4c687c60e718f7a3d71e", func := "chinoiserie/chinoiserielaw11.PushCut", spec := "pushCut", inPlace := ["internal/bytealg.IndexByteString", "internal/bytealg.IndexString", "internal/abi.NoEscape"], unfollowed := true, recurses := true, named := ["internal/bytealg.MaxLen"], apart := false, narrowed := true }
def PushCutUptoSaid : Prop := pushCutUptoRow.holds Try.pinned (OpenSpec.upto pushCutSpec)

/-- 'chinoiserielaw11.PushDiffs', WHERE WHAT IT READS IS OF BULK AT MOST 1048576: true; the input reads as it did. -/
def pushDiffsUptoRow : OpenClaim := { program := "ytajkbkllgbalkaa", sum := "e77cdbbb37acef17212154a4466c75ba0e1834c8c8cd4c687c60e718f7a3d71e", func := "chinoiserie/chinoiserielaw11.PushDiffs", spec := "pushDiffs", inPlace := ["internal/bytealg.IndexByteString", "internal/bytealg.IndexString", "internal/abi.NoEscape"], unfollowed := true, recurses := true, named := ["internal/bytealg.MaxLen"], apart := false, narrowed := true }
def PushDiffsUptoSaid : Prop := pushDiffsUptoRow.holds Try.pinned (OpenSpec.upto pushDiffsSpec)

/-- 'chinoiserielaw11.PushKnown', WHERE WHAT IT READS IS OF BULK AT MOST 1048576: true; the input reads as it did. -/
def pushKnownUptoRow : OpenClaim := { program := "ytajkbkllgbalkaa", sum := "e77cdbbb37acef17212154a4466c75ba0e1834c8c8cd4c687c60e718f7a3d71e", func := "chinoiserie/chinoiserielaw11.PushKnown", spec := "pushKnown", inPlace := ["internal/bytealg.IndexByteString", "internal/bytealg.IndexString", "internal/abi.NoEscape"], unfollowed := true, recurses := true, named := ["internal/bytealg.MaxLen"], apart := false, narrowed := true }
def PushKnownUptoSaid : Prop := pushKnownUptoRow.holds Try.pinned (OpenSpec.upto pushKnownSpec)

end Rows
end Go.Proofs.Ytajkbkllgbalkaa
