/-
  No cell of these rows narrows 'for every input' (looked for: loops, veiled, ifaces, maps, wideKeys, modest, calm, conditions, laid).
  DERIVED. THE GIVEN ROWS OF THIS SEAT. 9 by the template 'for every input the law returns true; each argument reads behind the call as it read before'; 0 by the template 'total and deterministic' (their statements: YtiohkdpmgkobiaaTotals.lean).
  GIVEN WITH THE SEED: the statements are not yours to turn. If you find one false, say at which input.
  Laid BY PROGRAM, IN A SANDBOX (cutbox-rows.mjs): the forced cells as the released guide's own fill.sh prints them over the translation dc496c599a61f2bb… (all of the seat's roots in one cut). By AI agents, Wed Nov 11 2026. No macro, syntax, notation, axiom, sorry.
-/
import Derived.Test.YtiohkdpmgkobiaaChecked
import GoSem.Claim
import GoSem.ClaimJoined
import GoSem.ClaimMapViews
import Derived.JoinedTies
import Derived.KernelRfl
namespace Go.Proofs.Ytiohkdpmgkobiaa
/- THE CELL 'sum', in the pinned program and in every row, IS THE sha256 OF THE DUMP (.gsa) THAT YtiohkdpmgkobiaaProg.lean LOADS. Nothing in Lean hashes anything: it is a label: what it is worth is what the hold of that sum in a sandbox is worth. -/
noncomputable def Try.pinned : Pinned := { name := "ytiohkdpmgkobiaa", sum := "dc496c599a61f2bb5e0f060bbc1bc3caaefbeb7e6df81fea13855be605781556", checked := Try.checked }
namespace Rows
def none {H : Type} : Left H := { results := [], args := [] }

/-- 'bandolierlaw05.FlashKeeps': WHATEVER THE INPUT: true; the input reads as it did. -/
def flashKeepsSpec : ChangeSpec := { name := "flashKeeps", fn := fun _ => fun
  | [d1, d2, d3] => { results := [.lit (.bool true)], args := [d1, d2, d3] }
  | _ => none }
def flashKeepsRow : OpenClaim := { program := "ytiohkdpmgkobiaa", sum := "dc496c599a61f2bb5e0f060bbc1bc3caaefbeb7e6df81fea13855be605781556", func := "bandolier/bandolierlaw05.FlashKeeps", spec := "flashKeeps", inPlace := ["slices.overlaps[*bandolier/flash.device]", "slices.overlaps[bandolier/flash.past]"], unfollowed := true, recurses := true, apart := false }
def FlashKeepsSaid : Prop := flashKeepsRow.holds Try.pinned (OpenSpec.ofChange flashKeepsSpec)

/-- ITS FALSE NEIGHBOUR: 'it returns false'. Refute it at one input. -/
def flashKeepsWrong : ChangeSpec := { name := "flashKeeps", fn := fun _ => fun
  | [d1, d2, d3] => { results := [.lit (.bool false)], args := [d1, d2, d3] }
  | _ => none }
def FlashKeepsWrongFalsely : Prop := flashKeepsRow.holds Try.pinned (OpenSpec.ofChange flashKeepsWrong)

/-- 'bandolierlaw05.FlashFull': WHATEVER THE INPUT: true; the input reads as it did. -/
def flashFullSpec : ChangeSpec := { name := "flashFull", fn := fun _ => fun
  | [d] => { results := [.lit (.bool true)], args := [d] }
  | _ => none }
def flashFullRow : OpenClaim := { program := "ytiohkdpmgkobiaa", sum := "dc496c599a61f2bb5e0f060bbc1bc3caaefbeb7e6df81fea13855be605781556", func := "bandolier/bandolierlaw05.FlashFull", spec := "flashFull", inPlace := ["slices.overlaps[*bandolier/flash.device]", "slices.overlaps[bandolier/flash.past]"], unfollowed := true, recurses := true, apart := false }
def FlashFullSaid : Prop := flashFullRow.holds Try.pinned (OpenSpec.ofChange flashFullSpec)

/-- ITS FALSE NEIGHBOUR: 'it returns false'. Refute it at one input. -/
def flashFullWrong : ChangeSpec := { name := "flashFull", fn := fun _ => fun
  | [d] => { results := [.lit (.bool false)], args := [d] }
  | _ => none }
def FlashFullWrongFalsely : Prop := flashFullRow.holds Try.pinned (OpenSpec.ofChange flashFullWrong)

/-- 'bandolierlaw05.FlashApart': WHATEVER THE INPUT: true; the input reads as it did. -/
def flashApartSpec : ChangeSpec := { name := "flashApart", fn := fun _ => fun
  | [d] => { results := [.lit (.bool true)], args := [d] }
  | _ => none }
def flashApartRow : OpenClaim := { program := "ytiohkdpmgkobiaa", sum := "dc496c599a61f2bb5e0f060bbc1bc3caaefbeb7e6df81fea13855be605781556", func := "bandolier/bandolierlaw05.FlashApart", spec := "flashApart", inPlace := ["slices.overlaps[*bandolier/flash.device]", "slices.overlaps[bandolier/flash.past]"], unfollowed := true, recurses := true, apart := false }
def FlashApartSaid : Prop := flashApartRow.holds Try.pinned (OpenSpec.ofChange flashApartSpec)

/-- ITS FALSE NEIGHBOUR: 'it returns false'. Refute it at one input. -/
def flashApartWrong : ChangeSpec := { name := "flashApart", fn := fun _ => fun
  | [d] => { results := [.lit (.bool false)], args := [d] }
  | _ => none }
def FlashApartWrongFalsely : Prop := flashApartRow.holds Try.pinned (OpenSpec.ofChange flashApartWrong)

/-- 'bandolierlaw06.MediumBack': WHATEVER THE INPUT: true; the input reads as it did. -/
def mediumBackSpec : ChangeSpec := { name := "mediumBack", fn := fun _ => fun
  | [d1, d2, d3] => { results := [.lit (.bool true)], args := [d1, d2, d3] }
  | _ => none }
def mediumBackRow : OpenClaim := { program := "ytiohkdpmgkobiaa", sum := "dc496c599a61f2bb5e0f060bbc1bc3caaefbeb7e6df81fea13855be605781556", func := "bandolier/bandolierlaw06.MediumBack", spec := "mediumBack", inPlace := ["slices.overlaps[*bandolier/flash.device]", "internal/abi.NoEscape", "internal/bytealg.MakeNoZero", "slices.overlaps[bandolier/flash.past]"], unfollowed := true, recurses := true, apart := false }
def MediumBackSaid : Prop := mediumBackRow.holds Try.pinned (OpenSpec.ofChange mediumBackSpec)

/-- ITS FALSE NEIGHBOUR: 'it returns false'. Refute it at one input. -/
def mediumBackWrong : ChangeSpec := { name := "mediumBack", fn := fun _ => fun
  | [d1, d2, d3] => { results := [.lit (.bool false)], args := [d1, d2, d3] }
  | _ => none }
def MediumBackWrongFalsely : Prop := mediumBackRow.holds Try.pinned (OpenSpec.ofChange mediumBackWrong)

/-- 'bandolierlaw06.MediumBreaks': WHATEVER THE INPUT: true; the input reads as it did. -/
def mediumBreaksSpec : ChangeSpec := { name := "mediumBreaks", fn := fun _ => fun
  | [d1, d2, d3] => { results := [.lit (.bool true)], args := [d1, d2, d3] }
  | _ => none }
def mediumBreaksRow : OpenClaim := { program := "ytiohkdpmgkobiaa", sum := "dc496c599a61f2bb5e0f060bbc1bc3caaefbeb7e6df81fea13855be605781556", func := "bandolier/bandolierlaw06.MediumBreaks", spec := "mediumBreaks", inPlace := ["slices.overlaps[*bandolier/flash.device]", "internal/abi.NoEscape", "internal/bytealg.MakeNoZero", "slices.overlaps[bandolier/flash.past]"], unfollowed := true, recurses := true, apart := false }
def MediumBreaksSaid : Prop := mediumBreaksRow.holds Try.pinned (OpenSpec.ofChange mediumBreaksSpec)

/-- ITS FALSE NEIGHBOUR: 'it returns false'. Refute it at one input. -/
def mediumBreaksWrong : ChangeSpec := { name := "mediumBreaks", fn := fun _ => fun
  | [d1, d2, d3] => { results := [.lit (.bool false)], args := [d1, d2, d3] }
  | _ => none }
def MediumBreaksWrongFalsely : Prop := mediumBreaksRow.holds Try.pinned (OpenSpec.ofChange mediumBreaksWrong)

/-- 'bandolierlaw06.MediumPanics': WHATEVER THE INPUT: true; the input reads as it did. -/
def mediumPanicsSpec : ChangeSpec := { name := "mediumPanics", fn := fun _ => fun
  | [d] => { results := [.lit (.bool true)], args := [d] }
  | _ => none }
def mediumPanicsRow : OpenClaim := { program := "ytiohkdpmgkobiaa", sum := "dc496c599a61f2bb5e0f060bbc1bc3caaefbeb7e6df81fea13855be605781556", func := "bandolier/bandolierlaw06.MediumPanics", spec := "mediumPanics", inPlace := ["slices.overlaps[*bandolier/flash.device]", "internal/abi.NoEscape", "internal/bytealg.MakeNoZero", "slices.overlaps[bandolier/flash.past]"], unfollowed := true, recurses := true, apart := false }
def MediumPanicsSaid : Prop := mediumPanicsRow.holds Try.pinned (OpenSpec.ofChange mediumPanicsSpec)

/-- ITS FALSE NEIGHBOUR: 'it returns false'. Refute it at one input. -/
def mediumPanicsWrong : ChangeSpec := { name := "mediumPanics", fn := fun _ => fun
  | [d] => { results := [.lit (.bool false)], args := [d] }
  | _ => none }
def MediumPanicsWrongFalsely : Prop := mediumPanicsRow.holds Try.pinned (OpenSpec.ofChange mediumPanicsWrong)

/-- 'bandolierlaw06.MediumSessions': WHATEVER THE INPUT: true; the input reads as it did. -/
def mediumSessionsSpec : ChangeSpec := { name := "mediumSessions", fn := fun _ => fun
  | [d] => { results := [.lit (.bool true)], args := [d] }
  | _ => none }
def mediumSessionsRow : OpenClaim := { program := "ytiohkdpmgkobiaa", sum := "dc496c599a61f2bb5e0f060bbc1bc3caaefbeb7e6df81fea13855be605781556", func := "bandolier/bandolierlaw06.MediumSessions", spec := "mediumSessions", inPlace := ["slices.overlaps[*bandolier/flash.device]", "internal/abi.NoEscape", "internal/bytealg.MakeNoZero", "slices.overlaps[bandolier/flash.past]"], unfollowed := true, recurses := true, apart := false }
def MediumSessionsSaid : Prop := mediumSessionsRow.holds Try.pinned (OpenSpec.ofChange mediumSessionsSpec)

/-- ITS FALSE NEIGHBOUR: 'it returns false'. Refute it at one input. -/
def mediumSessionsWrong : ChangeSpec := { name := "mediumSessions", fn := fun _ => fun
  | [d] => { results := [.lit (.bool false)], args := [d] }
  | _ => none }
def MediumSessionsWrongFalsely : Prop := mediumSessionsRow.holds Try.pinned (OpenSpec.ofChange mediumSessionsWrong)

/-- 'bandolierlaw06.MediumParts': WHATEVER THE INPUT: true; the input reads as it did. -/
def mediumPartsSpec : ChangeSpec := { name := "mediumParts", fn := fun _ => fun
  | [d1, d2, d3] => { results := [.lit (.bool true)], args := [d1, d2, d3] }
  | _ => none }
def mediumPartsRow : OpenClaim := { program := "ytiohkdpmgkobiaa", sum := "dc496c599a61f2bb5e0f060bbc1bc3caaefbeb7e6df81fea13855be605781556", func := "bandolier/bandolierlaw06.MediumParts", spec := "mediumParts", inPlace := ["slices.overlaps[*bandolier/flash.device]", "internal/abi.NoEscape", "internal/bytealg.MakeNoZero", "slices.overlaps[bandolier/flash.past]"], unfollowed := true, recurses := true, apart := false }
def MediumPartsSaid : Prop := mediumPartsRow.holds Try.pinned (OpenSpec.ofChange mediumPartsSpec)

/-- ITS FALSE NEIGHBOUR: 'it returns false'. Refute it at one input. -/
def mediumPartsWrong : ChangeSpec := { name := "mediumParts", fn := fun _ => fun
  | [d1, d2, d3] => { results := [.lit (.bool false)], args := [d1, d2, d3] }
  | _ => none }
def MediumPartsWrongFalsely : Prop := mediumPartsRow.holds Try.pinned (OpenSpec.ofChange mediumPartsWrong)

/-- 'bandoliertop.BandolierSectors': WHATEVER THE INPUT: true; the input reads as it did. -/
def bandolierSectorsSpec : ChangeSpec := { name := "bandolierSectors", fn := fun _ => fun
  | [d1, d2, d3] => { results := [.lit (.bool true)], args := [d1, d2, d3] }
  | _ => none }
def bandolierSectorsRow : OpenClaim := { program := "ytiohkdpmgkobiaa", sum := "dc496c599a61f2bb5e0f060bbc1bc3caaefbeb7e6df81fea13855be605781556", func := "bandolier/bandoliertop.BandolierSectors", spec := "bandolierSectors", inPlace := ["slices.overlaps[*bandolier/flash.device]", "internal/abi.NoEscape", "internal/bytealg.MakeNoZero", "slices.overlaps[bandolier/flash.past]"], unfollowed := true, recurses := true, apart := false }
def BandolierSectorsSaid : Prop := bandolierSectorsRow.holds Try.pinned (OpenSpec.ofChange bandolierSectorsSpec)

/-- ITS FALSE NEIGHBOUR: 'it returns false'. Refute it at one input. -/
def bandolierSectorsWrong : ChangeSpec := { name := "bandolierSectors", fn := fun _ => fun
  | [d1, d2, d3] => { results := [.lit (.bool false)], args := [d1, d2, d3] }
  | _ => none }
def BandolierSectorsWrongFalsely : Prop := bandolierSectorsRow.holds Try.pinned (OpenSpec.ofChange bandolierSectorsWrong)

/- THE SECOND FORM. 'bulk': how many values and letters a reading holds, each counted each time it is reached (what is shared counts as often as it is met; a slice's spare places count too). A statement '..UptoSaid' is the law's where the arguments, and the package variables that the reading takes, are together of bulk at most 1048576: NARROWER than '..Said'. Prove '..Said' where nothing that the law and all that it calls make is longer than what came in: it says more and counts as full. Else prove '..UptoSaid'. A law counts once. -/
mutual
def uptoBulk {H : Type} : DataW H → Nat
  | .lit (.string bytes) => bytes.length + 1
  | .lit _ => 1
  | .nil => 1
  | .ptr d => uptoBulk d + 1
  | .slice elems spare => uptoBulkAll elems + uptoBulkAll spare + 1
  | .agg parts => uptoBulkAll parts + 1
  | .iface _ d => uptoBulk d + 1
  | .map entries => uptoBulkEntries entries + 1
  | .held _ => 1
def uptoBulkAll {H : Type} : List (DataW H) → Nat
  | [] => 0
  | d :: r => uptoBulk d + uptoBulkAll r
def uptoBulkEntries {H : Type} : List (Lit × DataW H) → Nat
  | [] => 0
  | x :: r => uptoBulkEntry x + uptoBulkEntries r
def uptoBulkEntry {H : Type} : Lit × DataW H → Nat
  | (.string bytes, d) => bytes.length + uptoBulk d + 1
  | (_, d) => uptoBulk d + 1
 end
def uptoSmall : (H : Type) → List (DataW H) → Bool := fun _ ds => decide (uptoBulkAll ds ≤ 1048576)
def OpenSpec.upto (s : _root_.Go.ChangeSpec) : _root_.Go.OpenSpec := { _root_.Go.OpenSpec.ofChange s with cond := some uptoSmall }

/-- 'bandolierlaw05.FlashKeeps', WHERE WHAT IT READS IS OF BULK AT MOST 1048576: true; the input reads as it did. -/
def flashKeepsUptoRow : OpenClaim := { program := "ytiohkdpmgkobiaa", sum := "dc496c599a61f2bb5e0f060bbc1bc3caaefbeb7e6df81fea13855be605781556", func := "bandolier/bandolierlaw05.FlashKeeps", spec := "flashKeeps", inPlace := ["slices.overlaps[*bandolier/flash.device]", "slices.overlaps[bandolier/flash.past]"], unfollowed := true, recurses := true, apart := false, narrowed := true }
def FlashKeepsUptoSaid : Prop := flashKeepsUptoRow.holds Try.pinned (OpenSpec.upto flashKeepsSpec)

/-- 'bandolierlaw05.FlashFull', WHERE WHAT IT READS IS OF BULK AT MOST 1048576: true; the input reads as it did. -/
def flashFullUptoRow : OpenClaim := { program := "ytiohkdpmgkobiaa", sum := "dc496c599a61f2bb5e0f060bbc1bc3caaefbeb7e6df81fea13855be605781556", func := "bandolier/bandolierlaw05.FlashFull", spec := "flashFull", inPlace := ["slices.overlaps[*bandolier/flash.device]", "slices.overlaps[bandolier/flash.past]"], unfollowed := true, recurses := true, apart := false, narrowed := true }
def FlashFullUptoSaid : Prop := flashFullUptoRow.holds Try.pinned (OpenSpec.upto flashFullSpec)

/-- 'bandolierlaw05.FlashApart', WHERE WHAT IT READS IS OF BULK AT MOST 1048576: true; the input reads as it did. -/
def flashApartUptoRow : OpenClaim := { program := "ytiohkdpmgkobiaa", sum := "dc496c599a61f2bb5e0f060bbc1bc3caaefbeb7e6df81fea13855be605781556", func := "bandolier/bandolierlaw05.FlashApart", spec := "flashApart", inPlace := ["slices.overlaps[*bandolier/flash.device]", "slices.overlaps[bandolier/flash.past]"], unfollowed := true, recurses := true, apart := false, narrowed := true }
def FlashApartUptoSaid : Prop := flashApartUptoRow.holds Try.pinned (OpenSpec.upto flashApartSpec)

/-- 'bandolierlaw06.MediumBack', WHERE WHAT IT READS IS OF BULK AT MOST 1048576: true; the input reads as it did. -/
def mediumBackUptoRow : OpenClaim := { program := "ytiohkdpmgkobiaa", sum := "dc496c599a61f2bb5e0f060bbc1bc3caaefbeb7e6df81fea13855be605781556", func := "bandolier/bandolierlaw06.MediumBack", spec := "mediumBack", inPlace := ["slices.overlaps[*bandolier/flash.device]", "internal/abi.NoEscape", "internal/bytealg.MakeNoZero", "slices.overlaps[bandolier/flash.past]"], unfollowed := true, recurses := true, apart := false, narrowed := true }
def MediumBackUptoSaid : Prop := mediumBackUptoRow.holds Try.pinned (OpenSpec.upto mediumBackSpec)

/-- 'bandolierlaw06.MediumBreaks', WHERE WHAT IT READS IS OF BULK AT MOST 1048576: true; the input reads as it did. -/
def mediumBreaksUptoRow : OpenClaim := { program := "ytiohkdpmgkobiaa", sum := "dc496c599a61f2bb5e0f060bbc1bc3caaefbeb7e6df81fea13855be605781556", func := "bandolier/bandolierlaw06.MediumBreaks", spec := "mediumBreaks", inPlace := ["slices.overlaps[*bandolier/flash.device]", "internal/abi.NoEscape", "internal/bytealg.MakeNoZero", "slices.overlaps[bandolier/flash.past]"], unfollowed := true, recurses := true, apart := false, narrowed := true }
def MediumBreaksUptoSaid : Prop := mediumBreaksUptoRow.holds Try.pinned (OpenSpec.upto mediumBreaksSpec)

/-- 'bandolierlaw06.MediumPanics', WHERE WHAT IT READS IS OF BULK AT MOST 1048576: true; the input reads as it did. -/
def mediumPanicsUptoRow : OpenClaim := { program := "ytiohkdpmgkobiaa", sum := "dc496c599a61f2bb5e0f060bbc1bc3caaefbeb7e6df81fea13855be605781556", func := "bandolier/bandolierlaw06.MediumPanics", spec := "mediumPanics", inPlace := ["slices.overlaps[*bandolier/flash.device]", "internal/abi.NoEscape", "internal/bytealg.MakeNoZero", "slices.overlaps[bandolier/flash.past]"], unfollowed := true, recurses := true, apart := false, narrowed := true }
def MediumPanicsUptoSaid : Prop := mediumPanicsUptoRow.holds Try.pinned (OpenSpec.upto mediumPanicsSpec)

/-- 'bandolierlaw06.MediumSessions', WHERE WHAT IT READS IS OF BULK AT MOST 1048576: true; the input reads as it did. -/
def mediumSessionsUptoRow : OpenClaim := { program := "ytiohkdpmgkobiaa", sum := "dc496c599a61f2bb5e0f060bbc1bc3caaefbeb7e6df81fea13855be605781556", func := "bandolier/bandolierlaw06.MediumSessions", spec := "mediumSessions", inPlace := ["slices.overlaps[*bandolier/flash.device]", "internal/abi.NoEscape", "internal/bytealg.MakeNoZero", "slices.overlaps[bandolier/flash.past]"], unfollowed := true, recurses := true, apart := false, narrowed := true }
def MediumSessionsUptoSaid : Prop := mediumSessionsUptoRow.holds Try.pinned (OpenSpec.upto mediumSessionsSpec)

/-- 'bandolierlaw06.MediumParts', WHERE WHAT IT READS IS OF BULK AT MOST 1048576: true; the input reads as it did. -/
def mediumPartsUptoRow : OpenClaim := { program := "ytiohkdpmgkobiaa", sum := "dc496c599a61f2bb5e0f060bbc1bc3caaefbeb7e6df81fea13855be605781556", func := "bandolier/bandolierlaw06.MediumParts", spec := "mediumParts", inPlace := ["slices.overlaps[*bandolier/flash.device]", "internal/abi.NoEscape", "internal/bytealg.MakeNoZero", "slices.overlaps[bandolier/flash.past]"], unfollowed := true, recurses := true, apart := false, narrowed := true }
def MediumPartsUptoSaid : Prop := mediumPartsUptoRow.holds Try.pinned (OpenSpec.upto mediumPartsSpec)

/-- 'bandoliertop.BandolierSectors', WHERE WHAT IT READS IS OF BULK AT MOST 1048576: true; the input reads as it did. -/
def bandolierSectorsUptoRow : OpenClaim := { program := "ytiohkdpmgkobiaa", sum := "dc496c599a61f2bb5e0f060bbc1bc3caaefbeb7e6df81fea13855be605781556", func := "bandolier/bandoliertop.BandolierSectors", spec := "bandolierSectors", inPlace := ["slices.overlaps[*bandolier/flash.device]", "internal/abi.NoEscape", "internal/bytealg.MakeNoZero", "slices.overlaps[bandolier/flash.past]"], unfollowed := true, recurses := true, apart := false, narrowed := true }
def BandolierSectorsUptoSaid : Prop := bandolierSectorsUptoRow.holds Try.pinned (OpenSpec.upto bandolierSectorsSpec)

end Rows
end Go.Proofs.Ytiohkdpmgkobiaa
