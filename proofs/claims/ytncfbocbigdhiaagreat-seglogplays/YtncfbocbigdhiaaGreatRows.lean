/-
  No cell of these rows narrows 'for every input' (looked for: loops, veiled, ifaces, maps, wideKeys, modest, calm, conditions, laid).
  DERIVED. THE GIVEN ROWS OF THIS SEAT. 8 by the template 'for every input the law returns true; each argument reads behind the call as it read before'; 0 by the template 'total and deterministic' (their statements: YtncfbocbigdhiaaGreatTotals.lean).
  GIVEN WITH THE SEED: the statements are not yours to turn. If you find one false, say at which input.
  Laid BY PROGRAM, IN A SANDBOX (cutbox-rows.mjs): the forced cells as the released guide's own fill.sh prints them over the translation 1051d8ce47f42c5f… (all of the seat's roots in one cut). By AI agents, Wed Nov 11 2026. No macro, syntax, notation, axiom, sorry.
-/
import Derived.Test.YtncfbocbigdhiaaGreatChecked
import GoSem.Claim
import GoSem.ClaimJoined
import GoSem.ClaimMapViews
import Derived.JoinedTies
import Derived.KernelRfl
namespace Go.Proofs.YtncfbocbigdhiaaGreat
/- THE CELL 'sum', in the pinned program and in every row, IS THE sha256 OF THE DUMP (.gsa) THAT YtncfbocbigdhiaaGreatProg.lean LOADS. Nothing in Lean hashes anything: it is a label: what it is worth is what the hold of that sum in a sandbox is worth. -/
noncomputable def Tryz.pinned : Pinned := { name := "ytncfbocbigdhiaagreat", sum := "1051d8ce47f42c5f172f8b619d27fd0cbcf1c67df1e804a0812038a5eb567fe2", checked := Tryz.checked }
namespace Rows
def none {H : Type} : Left H := { results := [], args := [] }

/-- 'bandolierlaw11.GroupBack': WHATEVER THE INPUT: true; the input reads as it did. -/
def groupBackSpec : ChangeSpec := { name := "groupBack", fn := fun _ => fun
  | [d1, d2] => { results := [.lit (.bool true)], args := [d1, d2] }
  | _ => none }
def groupBackRow : OpenClaim := { program := "ytncfbocbigdhiaagreat", sum := "1051d8ce47f42c5f172f8b619d27fd0cbcf1c67df1e804a0812038a5eb567fe2", func := "bandolier/bandolierlaw11.GroupBack", spec := "groupBack", inPlace := ["slices.overlaps[*bandolier/flash.device]", "internal/abi.NoEscape", "internal/bytealg.MakeNoZero", "slices.overlaps[bandolier/flash.past]"], unfollowed := true, recurses := true, apart := false }
def GroupBackSaid : Prop := groupBackRow.holds Tryz.pinned (OpenSpec.ofChange groupBackSpec)

/-- ITS FALSE NEIGHBOUR: 'it returns false'. Refute it at one input. -/
def groupBackWrong : ChangeSpec := { name := "groupBack", fn := fun _ => fun
  | [d1, d2] => { results := [.lit (.bool false)], args := [d1, d2] }
  | _ => none }
def GroupBackWrongFalsely : Prop := groupBackRow.holds Tryz.pinned (OpenSpec.ofChange groupBackWrong)

/-- 'bandolierlaw11.GroupWhole': WHATEVER THE INPUT: true; the input reads as it did. -/
def groupWholeSpec : ChangeSpec := { name := "groupWhole", fn := fun _ => fun
  | [d1, d2] => { results := [.lit (.bool true)], args := [d1, d2] }
  | _ => none }
def groupWholeRow : OpenClaim := { program := "ytncfbocbigdhiaagreat", sum := "1051d8ce47f42c5f172f8b619d27fd0cbcf1c67df1e804a0812038a5eb567fe2", func := "bandolier/bandolierlaw11.GroupWhole", spec := "groupWhole", inPlace := ["slices.overlaps[*bandolier/flash.device]", "internal/abi.NoEscape", "internal/bytealg.MakeNoZero", "slices.overlaps[bandolier/flash.past]"], unfollowed := true, recurses := true, apart := false }
def GroupWholeSaid : Prop := groupWholeRow.holds Tryz.pinned (OpenSpec.ofChange groupWholeSpec)

/-- ITS FALSE NEIGHBOUR: 'it returns false'. Refute it at one input. -/
def groupWholeWrong : ChangeSpec := { name := "groupWhole", fn := fun _ => fun
  | [d1, d2] => { results := [.lit (.bool false)], args := [d1, d2] }
  | _ => none }
def GroupWholeWrongFalsely : Prop := groupWholeRow.holds Tryz.pinned (OpenSpec.ofChange groupWholeWrong)

/-- 'bandolierlaw11.GroupApart': WHATEVER THE INPUT: true; the input reads as it did. -/
def groupApartSpec : ChangeSpec := { name := "groupApart", fn := fun _ => fun
  | [d1, d2, d3] => { results := [.lit (.bool true)], args := [d1, d2, d3] }
  | _ => none }
def groupApartRow : OpenClaim := { program := "ytncfbocbigdhiaagreat", sum := "1051d8ce47f42c5f172f8b619d27fd0cbcf1c67df1e804a0812038a5eb567fe2", func := "bandolier/bandolierlaw11.GroupApart", spec := "groupApart", inPlace := ["slices.overlaps[*bandolier/flash.device]", "internal/abi.NoEscape", "internal/bytealg.MakeNoZero", "slices.overlaps[bandolier/flash.past]"], unfollowed := true, recurses := true, apart := false }
def GroupApartSaid : Prop := groupApartRow.holds Tryz.pinned (OpenSpec.ofChange groupApartSpec)

/-- ITS FALSE NEIGHBOUR: 'it returns false'. Refute it at one input. -/
def groupApartWrong : ChangeSpec := { name := "groupApart", fn := fun _ => fun
  | [d1, d2, d3] => { results := [.lit (.bool false)], args := [d1, d2, d3] }
  | _ => none }
def GroupApartWrongFalsely : Prop := groupApartRow.holds Tryz.pinned (OpenSpec.ofChange groupApartWrong)

/-- 'bandolierlaw11.GroupForged': WHATEVER THE INPUT: true; the input reads as it did. -/
def groupForgedSpec : ChangeSpec := { name := "groupForged", fn := fun _ => fun
  | [d1, d2, d3] => { results := [.lit (.bool true)], args := [d1, d2, d3] }
  | _ => none }
def groupForgedRow : OpenClaim := { program := "ytncfbocbigdhiaagreat", sum := "1051d8ce47f42c5f172f8b619d27fd0cbcf1c67df1e804a0812038a5eb567fe2", func := "bandolier/bandolierlaw11.GroupForged", spec := "groupForged", inPlace := ["slices.overlaps[*bandolier/flash.device]", "internal/abi.NoEscape", "internal/bytealg.MakeNoZero", "slices.overlaps[bandolier/flash.past]"], unfollowed := true, recurses := true, apart := false }
def GroupForgedSaid : Prop := groupForgedRow.holds Tryz.pinned (OpenSpec.ofChange groupForgedSpec)

/-- ITS FALSE NEIGHBOUR: 'it returns false'. Refute it at one input. -/
def groupForgedWrong : ChangeSpec := { name := "groupForged", fn := fun _ => fun
  | [d1, d2, d3] => { results := [.lit (.bool false)], args := [d1, d2, d3] }
  | _ => none }
def GroupForgedWrongFalsely : Prop := groupForgedRow.holds Tryz.pinned (OpenSpec.ofChange groupForgedWrong)

/-- 'bandolierlaw11.GroupFull': WHATEVER THE INPUT: true; the input reads as it did. -/
def groupFullSpec : ChangeSpec := { name := "groupFull", fn := fun _ => fun
  | [d1, d2] => { results := [.lit (.bool true)], args := [d1, d2] }
  | _ => none }
def groupFullRow : OpenClaim := { program := "ytncfbocbigdhiaagreat", sum := "1051d8ce47f42c5f172f8b619d27fd0cbcf1c67df1e804a0812038a5eb567fe2", func := "bandolier/bandolierlaw11.GroupFull", spec := "groupFull", inPlace := ["slices.overlaps[*bandolier/flash.device]", "internal/abi.NoEscape", "internal/bytealg.MakeNoZero", "slices.overlaps[bandolier/flash.past]"], unfollowed := true, recurses := true, apart := false }
def GroupFullSaid : Prop := groupFullRow.holds Tryz.pinned (OpenSpec.ofChange groupFullSpec)

/-- ITS FALSE NEIGHBOUR: 'it returns false'. Refute it at one input. -/
def groupFullWrong : ChangeSpec := { name := "groupFull", fn := fun _ => fun
  | [d1, d2] => { results := [.lit (.bool false)], args := [d1, d2] }
  | _ => none }
def GroupFullWrongFalsely : Prop := groupFullRow.holds Tryz.pinned (OpenSpec.ofChange groupFullWrong)

/-- 'bandolierlaw12.SeglogPlays': WHATEVER THE INPUT: true; the input reads as it did. -/
def seglogPlaysSpec : ChangeSpec := { name := "seglogPlays", fn := fun _ => fun
  | [d1, d2, d3] => { results := [.lit (.bool true)], args := [d1, d2, d3] }
  | _ => none }
def seglogPlaysRow : OpenClaim := { program := "ytncfbocbigdhiaagreat", sum := "1051d8ce47f42c5f172f8b619d27fd0cbcf1c67df1e804a0812038a5eb567fe2", func := "bandolier/bandolierlaw12.SeglogPlays", spec := "seglogPlays", inPlace := ["slices.overlaps[*bandolier/flash.device]", "internal/abi.NoEscape", "internal/bytealg.MakeNoZero", "slices.overlaps[bandolier/flash.past]"], unfollowed := true, recurses := true, apart := false }
def SeglogPlaysSaid : Prop := seglogPlaysRow.holds Tryz.pinned (OpenSpec.ofChange seglogPlaysSpec)

/-- ITS FALSE NEIGHBOUR: 'it returns false'. Refute it at one input. -/
def seglogPlaysWrong : ChangeSpec := { name := "seglogPlays", fn := fun _ => fun
  | [d1, d2, d3] => { results := [.lit (.bool false)], args := [d1, d2, d3] }
  | _ => none }
def SeglogPlaysWrongFalsely : Prop := seglogPlaysRow.holds Tryz.pinned (OpenSpec.ofChange seglogPlaysWrong)

/-- 'bandolierlaw12.SeglogWhole': WHATEVER THE INPUT: true; the input reads as it did. -/
def seglogWholeSpec : ChangeSpec := { name := "seglogWhole", fn := fun _ => fun
  | [d1, d2, d3] => { results := [.lit (.bool true)], args := [d1, d2, d3] }
  | _ => none }
def seglogWholeRow : OpenClaim := { program := "ytncfbocbigdhiaagreat", sum := "1051d8ce47f42c5f172f8b619d27fd0cbcf1c67df1e804a0812038a5eb567fe2", func := "bandolier/bandolierlaw12.SeglogWhole", spec := "seglogWhole", inPlace := ["slices.overlaps[*bandolier/flash.device]", "internal/abi.NoEscape", "internal/bytealg.MakeNoZero", "slices.overlaps[bandolier/flash.past]"], unfollowed := true, recurses := true, apart := false }
def SeglogWholeSaid : Prop := seglogWholeRow.holds Tryz.pinned (OpenSpec.ofChange seglogWholeSpec)

/-- ITS FALSE NEIGHBOUR: 'it returns false'. Refute it at one input. -/
def seglogWholeWrong : ChangeSpec := { name := "seglogWhole", fn := fun _ => fun
  | [d1, d2, d3] => { results := [.lit (.bool false)], args := [d1, d2, d3] }
  | _ => none }
def SeglogWholeWrongFalsely : Prop := seglogWholeRow.holds Tryz.pinned (OpenSpec.ofChange seglogWholeWrong)

/-- 'bandolierlaw12.SeglogTurns': WHATEVER THE INPUT: true; the input reads as it did. -/
def seglogTurnsSpec : ChangeSpec := { name := "seglogTurns", fn := fun _ => fun
  | [d1, d2, d3] => { results := [.lit (.bool true)], args := [d1, d2, d3] }
  | _ => none }
def seglogTurnsRow : OpenClaim := { program := "ytncfbocbigdhiaagreat", sum := "1051d8ce47f42c5f172f8b619d27fd0cbcf1c67df1e804a0812038a5eb567fe2", func := "bandolier/bandolierlaw12.SeglogTurns", spec := "seglogTurns", inPlace := ["slices.overlaps[*bandolier/flash.device]", "internal/abi.NoEscape", "internal/bytealg.MakeNoZero", "slices.overlaps[bandolier/flash.past]"], unfollowed := true, recurses := true, apart := false }
def SeglogTurnsSaid : Prop := seglogTurnsRow.holds Tryz.pinned (OpenSpec.ofChange seglogTurnsSpec)

/-- ITS FALSE NEIGHBOUR: 'it returns false'. Refute it at one input. -/
def seglogTurnsWrong : ChangeSpec := { name := "seglogTurns", fn := fun _ => fun
  | [d1, d2, d3] => { results := [.lit (.bool false)], args := [d1, d2, d3] }
  | _ => none }
def SeglogTurnsWrongFalsely : Prop := seglogTurnsRow.holds Tryz.pinned (OpenSpec.ofChange seglogTurnsWrong)

/- THE SECOND FORM. 'bulk': how many values and letters a reading holds, each counted each time it is reached (what is shared counts as often as it is met; a slice's spare places count too). A statement '..UptoSaid' is the law's where the arguments, and the package variables that the reading takes, are together of bulk at most 1048576: NARROWER than '..Said'. Prove '..Said' where nothing that the law and all that it calls make is longer than what came in: it says more and counts as full. Else prove '..UptoSaid'. A law counts once. -/
mutual
def uptoBulk {H : Type} : DataW H → Nat
  | .lit (.string bytes) => bytes.length + 1
  | .lit _ => 1
  | .nil => 1
  | .ptr d => uptoBulk d + 1
  | .slice elems spare => uptoBulkAll elems + uptoBulkAll spare + 1
  | .agg parts => uptoBulkAll parts + 1
  | .iface _ d => uptoBulk d + 1
  | .map entries => uptoBulkEntries entries + 1
  | .held _ => 1
def uptoBulkAll {H : Type} : List (DataW H) → Nat
  | [] => 0
  | d :: r => uptoBulk d + uptoBulkAll r
def uptoBulkEntries {H : Type} : List (Lit × DataW H) → Nat
  | [] => 0
  | x :: r => uptoBulkEntry x + uptoBulkEntries r
def uptoBulkEntry {H : Type} : Lit × DataW H → Nat
  | (.string bytes, d) => bytes.length + uptoBulk d + 1
  | (_, d) => uptoBulk d + 1
 end
def uptoSmall : (H : Type) → List (DataW H) → Bool := fun _ ds => decide (uptoBulkAll ds ≤ 1048576)
def OpenSpec.upto (s : _root_.Go.ChangeSpec) : _root_.Go.OpenSpec := { _root_.Go.OpenSpec.ofChange s with cond := some uptoSmall }

/-- 'bandolierlaw11.GroupBack', WHERE WHAT IT READS IS OF BULK AT MOST 1048576: true; the input reads as it did. -/
def groupBackUptoRow : OpenClaim := { program := "ytncfbocbigdhiaagreat", sum := "1051d8ce47f42c5f172f8b619d27fd0cbcf1c67df1e804a0812038a5eb567fe2", func := "bandolier/bandolierlaw11.GroupBack", spec := "groupBack", inPlace := ["slices.overlaps[*bandolier/flash.device]", "internal/abi.NoEscape", "internal/bytealg.MakeNoZero", "slices.overlaps[bandolier/flash.past]"], unfollowed := true, recurses := true, apart := false, narrowed := true }
def GroupBackUptoSaid : Prop := groupBackUptoRow.holds Tryz.pinned (OpenSpec.upto groupBackSpec)

/-- 'bandolierlaw11.GroupWhole', WHERE WHAT IT READS IS OF BULK AT MOST 1048576: true; the input reads as it did. -/
def groupWholeUptoRow : OpenClaim := { program := "ytncfbocbigdhiaagreat", sum := "1051d8ce47f42c5f172f8b619d27fd0cbcf1c67df1e804a0812038a5eb567fe2", func := "bandolier/bandolierlaw11.GroupWhole", spec := "groupWhole", inPlace := ["slices.overlaps[*bandolier/flash.device]", "internal/abi.NoEscape", "internal/bytealg.MakeNoZero", "slices.overlaps[bandolier/flash.past]"], unfollowed := true, recurses := true, apart := false, narrowed := true }
def GroupWholeUptoSaid : Prop := groupWholeUptoRow.holds Tryz.pinned (OpenSpec.upto groupWholeSpec)

/-- 'bandolierlaw11.GroupApart', WHERE WHAT IT READS IS OF BULK AT MOST 1048576: true; the input reads as it did. -/
def groupApartUptoRow : OpenClaim := { program := "ytncfbocbigdhiaagreat", sum := "1051d8ce47f42c5f172f8b619d27fd0cbcf1c67df1e804a0812038a5eb567fe2", func := "bandolier/bandolierlaw11.GroupApart", spec := "groupApart", inPlace := ["slices.overlaps[*bandolier/flash.device]", "internal/abi.NoEscape", "internal/bytealg.MakeNoZero", "slices.overlaps[bandolier/flash.past]"], unfollowed := true, recurses := true, apart := false, narrowed := true }
def GroupApartUptoSaid : Prop := groupApartUptoRow.holds Tryz.pinned (OpenSpec.upto groupApartSpec)

/-- 'bandolierlaw11.GroupForged', WHERE WHAT IT READS IS OF BULK AT MOST 1048576: true; the input reads as it did. -/
def groupForgedUptoRow : OpenClaim := { program := "ytncfbocbigdhiaagreat", sum := "1051d8ce47f42c5f172f8b619d27fd0cbcf1c67df1e804a0812038a5eb567fe2", func := "bandolier/bandolierlaw11.GroupForged", spec := "groupForged", inPlace := ["slices.overlaps[*bandolier/flash.device]", "internal/abi.NoEscape", "internal/bytealg.MakeNoZero", "slices.overlaps[bandolier/flash.past]"], unfollowed := true, recurses := true, apart := false, narrowed := true }
def GroupForgedUptoSaid : Prop := groupForgedUptoRow.holds Tryz.pinned (OpenSpec.upto groupForgedSpec)

/-- 'bandolierlaw11.GroupFull', WHERE WHAT IT READS IS OF BULK AT MOST 1048576: true; the input reads as it did. -/
def groupFullUptoRow : OpenClaim := { program := "ytncfbocbigdhiaagreat", sum := "1051d8ce47f42c5f172f8b619d27fd0cbcf1c67df1e804a0812038a5eb567fe2", func := "bandolier/bandolierlaw11.GroupFull", spec := "groupFull", inPlace := ["slices.overlaps[*bandolier/flash.device]", "internal/abi.NoEscape", "internal/bytealg.MakeNoZero", "slices.overlaps[bandolier/flash.past]"], unfollowed := true, recurses := true, apart := false, narrowed := true }
def GroupFullUptoSaid : Prop := groupFullUptoRow.holds Tryz.pinned (OpenSpec.upto groupFullSpec)

/-- 'bandolierlaw12.SeglogPlays', WHERE WHAT IT READS IS OF BULK AT MOST 1048576: true; the input reads as it did. -/
def seglogPlaysUptoRow : OpenClaim := { program := "ytncfbocbigdhiaagreat", sum := "1051d8ce47f42c5f172f8b619d27fd0cbcf1c67df1e804a0812038a5eb567fe2", func := "bandolier/bandolierlaw12.SeglogPlays", spec := "seglogPlays", inPlace := ["slices.overlaps[*bandolier/flash.device]", "internal/abi.NoEscape", "internal/bytealg.MakeNoZero", "slices.overlaps[bandolier/flash.past]"], unfollowed := true, recurses := true, apart := false, narrowed := true }
def SeglogPlaysUptoSaid : Prop := seglogPlaysUptoRow.holds Tryz.pinned (OpenSpec.upto seglogPlaysSpec)

/-- 'bandolierlaw12.SeglogWhole', WHERE WHAT IT READS IS OF BULK AT MOST 1048576: true; the input reads as it did. -/
def seglogWholeUptoRow : OpenClaim := { program := "ytncfbocbigdhiaagreat", sum := "1051d8ce47f42c5f172f8b619d27fd0cbcf1c67df1e804a0812038a5eb567fe2", func := "bandolier/bandolierlaw12.SeglogWhole", spec := "seglogWhole", inPlace := ["slices.overlaps[*bandolier/flash.device]", "internal/abi.NoEscape", "internal/bytealg.MakeNoZero", "slices.overlaps[bandolier/flash.past]"], unfollowed := true, recurses := true, apart := false, narrowed := true }
def SeglogWholeUptoSaid : Prop := seglogWholeUptoRow.holds Tryz.pinned (OpenSpec.upto seglogWholeSpec)

/-- 'bandolierlaw12.SeglogTurns', WHERE WHAT IT READS IS OF BULK AT MOST 1048576: true; the input reads as it did. -/
def seglogTurnsUptoRow : OpenClaim := { program := "ytncfbocbigdhiaagreat", sum := "1051d8ce47f42c5f172f8b619d27fd0cbcf1c67df1e804a0812038a5eb567fe2", func := "bandolier/bandolierlaw12.SeglogTurns", spec := "seglogTurns", inPlace := ["slices.overlaps[*bandolier/flash.device]", "internal/abi.NoEscape", "internal/bytealg.MakeNoZero", "slices.overlaps[bandolier/flash.past]"], unfollowed := true, recurses := true, apart := false, narrowed := true }
def SeglogTurnsUptoSaid : Prop := seglogTurnsUptoRow.holds Tryz.pinned (OpenSpec.upto seglogTurnsSpec)

end Rows
end Go.Proofs.YtncfbocbigdhiaaGreat
