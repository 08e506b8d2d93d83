/-
  No cell of these rows narrows 'for every input' (looked for: loops, veiled, ifaces, maps, wideKeys, modest, calm, conditions, laid).
  DERIVED. THE GIVEN ROWS OF THIS SEAT. 4 by the template 'for every input the law returns true; each argument reads behind the call as it read before'; 0 by the template 'total and deterministic' (their statements: YtknmipbjkkeebaaGreatTotals.lean).
  GIVEN WITH THE SEED: the statements are not yours to turn. If you find one false, say at which input.
  Laid BY PROGRAM, IN A SANDBOX (cutbox-rows.mjs): the forced cells as the released guide's own fill.sh prints them over the translation 0b31759e5dbdcf7b… (all of the seat's roots in one cut). By AI agents, Wed Nov 11 2026. No macro, syntax, notation, axiom, sorry.
-/
import Derived.Test.YtknmipbjkkeebaaGreatChecked
import GoSem.Claim
import GoSem.ClaimJoined
import GoSem.ClaimMapViews
import Derived.JoinedTies
import Derived.KernelRfl
namespace Go.Proofs.YtknmipbjkkeebaaGreat
/- THE CELL 'sum', in the pinned program and in every row, IS THE sha256 OF THE DUMP (.gsa) THAT YtknmipbjkkeebaaGreatProg.lean LOADS. Nothing in Lean hashes anything: it is a label: what it is worth is what the hold of that sum in a sandbox is worth. -/
noncomputable def Tryz.pinned : Pinned := { name := "ytknmipbjkkeebaagreat", sum := "0b31759e5dbdcf7b062a47b8e46369c06cd86c1ad84d0c46163db6a167866a6e", checked := Tryz.checked }
namespace Rows
def none {H : Type} : Left H := { results := [], args := [] }

/-- 'bandolierlaw09.SlotsBack': WHATEVER THE INPUT: true; the input reads as it did. -/
def slotsBackSpec : ChangeSpec := { name := "slotsBack", fn := fun _ => fun
  | [d1, d2] => { results := [.lit (.bool true)], args := [d1, d2] }
  | _ => none }
def slotsBackRow : OpenClaim := { program := "ytknmipbjkkeebaagreat", sum := "0b31759e5dbdcf7b062a47b8e46369c06cd86c1ad84d0c46163db6a167866a6e", func := "bandolier/bandolierlaw09.SlotsBack", spec := "slotsBack", inPlace := ["slices.overlaps[*bandolier/flash.device]", "internal/abi.NoEscape", "internal/bytealg.MakeNoZero", "slices.overlaps[bandolier/flash.past]"], unfollowed := true, recurses := true, apart := false }
def SlotsBackSaid : Prop := slotsBackRow.holds Tryz.pinned (OpenSpec.ofChange slotsBackSpec)

/-- ITS FALSE NEIGHBOUR: 'it returns false'. Refute it at one input. -/
def slotsBackWrong : ChangeSpec := { name := "slotsBack", fn := fun _ => fun
  | [d1, d2] => { results := [.lit (.bool false)], args := [d1, d2] }
  | _ => none }
def SlotsBackWrongFalsely : Prop := slotsBackRow.holds Tryz.pinned (OpenSpec.ofChange slotsBackWrong)

/-- 'bandolierlaw09.SlotsWhole': WHATEVER THE INPUT: true; the input reads as it did. -/
def slotsWholeSpec : ChangeSpec := { name := "slotsWhole", fn := fun _ => fun
  | [d] => { results := [.lit (.bool true)], args := [d] }
  | _ => none }
def slotsWholeRow : OpenClaim := { program := "ytknmipbjkkeebaagreat", sum := "0b31759e5dbdcf7b062a47b8e46369c06cd86c1ad84d0c46163db6a167866a6e", func := "bandolier/bandolierlaw09.SlotsWhole", spec := "slotsWhole", inPlace := ["slices.overlaps[*bandolier/flash.device]", "internal/abi.NoEscape", "internal/bytealg.MakeNoZero", "slices.overlaps[bandolier/flash.past]"], unfollowed := true, recurses := true, apart := false }
def SlotsWholeSaid : Prop := slotsWholeRow.holds Tryz.pinned (OpenSpec.ofChange slotsWholeSpec)

/-- ITS FALSE NEIGHBOUR: 'it returns false'. Refute it at one input. -/
def slotsWholeWrong : ChangeSpec := { name := "slotsWhole", fn := fun _ => fun
  | [d] => { results := [.lit (.bool false)], args := [d] }
  | _ => none }
def SlotsWholeWrongFalsely : Prop := slotsWholeRow.holds Tryz.pinned (OpenSpec.ofChange slotsWholeWrong)

/-- 'bandolierlaw09.SlotsRise': WHATEVER THE INPUT: true; the input reads as it did. -/
def slotsRiseSpec : ChangeSpec := { name := "slotsRise", fn := fun _ => fun
  | [d] => { results := [.lit (.bool true)], args := [d] }
  | _ => none }
def slotsRiseRow : OpenClaim := { program := "ytknmipbjkkeebaagreat", sum := "0b31759e5dbdcf7b062a47b8e46369c06cd86c1ad84d0c46163db6a167866a6e", func := "bandolier/bandolierlaw09.SlotsRise", spec := "slotsRise", inPlace := ["slices.overlaps[*bandolier/flash.device]", "internal/abi.NoEscape", "internal/bytealg.MakeNoZero", "slices.overlaps[bandolier/flash.past]"], unfollowed := true, recurses := true, apart := false }
def SlotsRiseSaid : Prop := slotsRiseRow.holds Tryz.pinned (OpenSpec.ofChange slotsRiseSpec)

/-- ITS FALSE NEIGHBOUR: 'it returns false'. Refute it at one input. -/
def slotsRiseWrong : ChangeSpec := { name := "slotsRise", fn := fun _ => fun
  | [d] => { results := [.lit (.bool false)], args := [d] }
  | _ => none }
def SlotsRiseWrongFalsely : Prop := slotsRiseRow.holds Tryz.pinned (OpenSpec.ofChange slotsRiseWrong)

/-- 'bandoliertop.BandolierEpochs': WHATEVER THE INPUT: true; the input reads as it did. -/
def bandolierEpochsSpec : ChangeSpec := { name := "bandolierEpochs", fn := fun _ => fun
  | [d1, d2, d3] => { results := [.lit (.bool true)], args := [d1, d2, d3] }
  | _ => none }
def bandolierEpochsRow : OpenClaim := { program := "ytknmipbjkkeebaagreat", sum := "0b31759e5dbdcf7b062a47b8e46369c06cd86c1ad84d0c46163db6a167866a6e", func := "bandolier/bandoliertop.BandolierEpochs", spec := "bandolierEpochs", inPlace := ["slices.overlaps[*bandolier/flash.device]", "slices.overlaps[bandolier/roster.Member]", "internal/abi.NoEscape", "internal/bytealg.MakeNoZero", "slices.overlaps[bandolier/flash.past]"], unfollowed := true, recurses := true, apart := false }
def BandolierEpochsSaid : Prop := bandolierEpochsRow.holds Tryz.pinned (OpenSpec.ofChange bandolierEpochsSpec)

/-- ITS FALSE NEIGHBOUR: 'it returns false'. Refute it at one input. -/
def bandolierEpochsWrong : ChangeSpec := { name := "bandolierEpochs", fn := fun _ => fun
  | [d1, d2, d3] => { results := [.lit (.bool false)], args := [d1, d2, d3] }
  | _ => none }
def BandolierEpochsWrongFalsely : Prop := bandolierEpochsRow.holds Tryz.pinned (OpenSpec.ofChange bandolierEpochsWrong)

/- THE SECOND FORM. 'bulk': how many values and letters a reading holds, each counted each time it is reached (what is shared counts as often as it is met; a slice's spare places count too). A statement '..UptoSaid' is the law's where the arguments, and the package variables that the reading takes, are together of bulk at most 1048576: NARROWER than '..Said'. Prove '..Said' where nothing that the law and all that it calls make is longer than what came in: it says more and counts as full. Else prove '..UptoSaid'. A law counts once. -/
mutual
def uptoBulk {H : Type} : DataW H → Nat
  | .lit (.string bytes) => bytes.length + 1
  | .lit _ => 1
  | .nil => 1
  | .ptr d => uptoBulk d + 1
  | .slice elems spare => uptoBulkAll elems + uptoBulkAll spare + 1
  | .agg parts => uptoBulkAll parts + 1
  | .iface _ d => uptoBulk d + 1
  | .map entries => uptoBulkEntries entries + 1
  | .held _ => 1
def uptoBulkAll {H : Type} : List (DataW H) → Nat
  | [] => 0
  | d :: r => uptoBulk d + uptoBulkAll r
def uptoBulkEntries {H : Type} : List (Lit × DataW H) → Nat
  | [] => 0
  | x :: r => uptoBulkEntry x + uptoBulkEntries r
def uptoBulkEntry {H : Type} : Lit × DataW H → Nat
  | (.string bytes, d) => bytes.length + uptoBulk d + 1
  | (_, d) => uptoBulk d + 1
 end
def uptoSmall : (H : Type) → List (DataW H) → Bool := fun _ ds => decide (uptoBulkAll ds ≤ 1048576)
def OpenSpec.upto (s : _root_.Go.ChangeSpec) : _root_.Go.OpenSpec := { _root_.Go.OpenSpec.ofChange s with cond := some uptoSmall }

/-- 'bandolierlaw09.SlotsBack', WHERE WHAT IT READS IS OF BULK AT MOST 1048576: true; the input reads as it did. -/
def slotsBackUptoRow : OpenClaim := { program := "ytknmipbjkkeebaagreat", sum := "0b31759e5dbdcf7b062a47b8e46369c06cd86c1ad84d0c46163db6a167866a6e", func := "bandolier/bandolierlaw09.SlotsBack", spec := "slotsBack", inPlace := ["slices.overlaps[*bandolier/flash.device]", "internal/abi.NoEscape", "internal/bytealg.MakeNoZero", "slices.overlaps[bandolier/flash.past]"], unfollowed := true, recurses := true, apart := false, narrowed := true }
def SlotsBackUptoSaid : Prop := slotsBackUptoRow.holds Tryz.pinned (OpenSpec.upto slotsBackSpec)

/-- 'bandolierlaw09.SlotsWhole', WHERE WHAT IT READS IS OF BULK AT MOST 1048576: true; the input reads as it did. -/
def slotsWholeUptoRow : OpenClaim := { program := "ytknmipbjkkeebaagreat", sum := "0b31759e5dbdcf7b062a47b8e46369c06cd86c1ad84d0c46163db6a167866a6e", func := "bandolier/bandolierlaw09.SlotsWhole", spec := "slotsWhole", inPlace := ["slices.overlaps[*bandolier/flash.device]", "internal/abi.NoEscape", "internal/bytealg.MakeNoZero", "slices.overlaps[bandolier/flash.past]"], unfollowed := true, recurses := true, apart := false, narrowed := true }
def SlotsWholeUptoSaid : Prop := slotsWholeUptoRow.holds Tryz.pinned (OpenSpec.upto slotsWholeSpec)

/-- 'bandolierlaw09.SlotsRise', WHERE WHAT IT READS IS OF BULK AT MOST 1048576: true; the input reads as it did. -/
def slotsRiseUptoRow : OpenClaim := { program := "ytknmipbjkkeebaagreat", sum := "0b31759e5dbdcf7b062a47b8e46369c06cd86c1ad84d0c46163db6a167866a6e", func := "bandolier/bandolierlaw09.SlotsRise", spec := "slotsRise", inPlace := ["slices.overlaps[*bandolier/flash.device]", "internal/abi.NoEscape", "internal/bytealg.MakeNoZero", "slices.overlaps[bandolier/flash.past]"], unfollowed := true, recurses := true, apart := false, narrowed := true }
def SlotsRiseUptoSaid : Prop := slotsRiseUptoRow.holds Tryz.pinned (OpenSpec.upto slotsRiseSpec)

/-- 'bandoliertop.BandolierEpochs', WHERE WHAT IT READS IS OF BULK AT MOST 1048576: true; the input reads as it did. -/
def bandolierEpochsUptoRow : OpenClaim := { program := "ytknmipbjkkeebaagreat", sum := "0b31759e5dbdcf7b062a47b8e46369c06cd86c1ad84d0c46163db6a167866a6e", func := "bandolier/bandoliertop.BandolierEpochs", spec := "bandolierEpochs", inPlace := ["slices.overlaps[*bandolier/flash.device]", "slices.overlaps[bandolier/roster.Member]", "internal/abi.NoEscape", "internal/bytealg.MakeNoZero", "slices.overlaps[bandolier/flash.past]"], unfollowed := true, recurses := true, apart := false, narrowed := true }
def BandolierEpochsUptoSaid : Prop := bandolierEpochsUptoRow.holds Tryz.pinned (OpenSpec.upto bandolierEpochsSpec)

end Rows
end Go.Proofs.YtknmipbjkkeebaaGreat
