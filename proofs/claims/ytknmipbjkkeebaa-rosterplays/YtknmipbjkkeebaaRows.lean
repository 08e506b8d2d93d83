/-
  No cell of these rows narrows 'for every input' (looked for: loops, veiled, ifaces, maps, wideKeys, modest, calm, conditions, laid).
  DERIVED. THE GIVEN ROWS OF THIS SEAT. 5 by the template 'for every input the law returns true; each argument reads behind the call as it read before'; 0 by the template 'total and deterministic' (their statements: YtknmipbjkkeebaaTotals.lean).
  GIVEN WITH THE SEED: the statements are not yours to turn. If you find one false, say at which input.
  Laid BY PROGRAM, IN A SANDBOX (cutbox-rows.mjs): the forced cells as the released guide's own fill.sh prints them over the translation 2392887e93e837ee… (all of the seat's roots in one cut). By AI agents, Wed Nov 11 2026. No macro, syntax, notation, axiom, sorry.
-/
import Derived.Test.YtknmipbjkkeebaaChecked
import GoSem.Claim
import GoSem.ClaimJoined
import GoSem.ClaimMapViews
import Derived.JoinedTies
import Derived.KernelRfl
namespace Go.Proofs.Ytknmipbjkkeebaa
/- THE CELL 'sum', in the pinned program and in every row, IS THE sha256 OF THE DUMP (.gsa) THAT YtknmipbjkkeebaaProg.lean LOADS. Nothing in Lean hashes anything: it is a label: what it is worth is what the hold of that sum in a sandbox is worth. -/
noncomputable def Try.pinned : Pinned := { name := "ytknmipbjkkeebaa", sum := "2392887e93e837ee1515b6dd2c63a3bcc217f66952a5ab5cddfaad18542b784e", checked := Try.checked }
namespace Rows
def none {H : Type} : Left H := { results := [], args := [] }

/-- 'bandolierlaw05.FlashKeeps': WHATEVER THE INPUT: true; the input reads as it did. -/
def flashKeepsSpec : ChangeSpec := { name := "flashKeeps", fn := fun _ => fun
  | [d1, d2, d3] => { results := [.lit (.bool true)], args := [d1, d2, d3] }
  | _ => none }
def flashKeepsRow : OpenClaim := { program := "ytknmipbjkkeebaa", sum := "2392887e93e837ee1515b6dd2c63a3bcc217f66952a5ab5cddfaad18542b784e", func := "bandolier/bandolierlaw05.FlashKeeps", spec := "flashKeeps", inPlace := ["slices.overlaps[*bandolier/flash.device]", "slices.overlaps[bandolier/flash.past]"], unfollowed := true, recurses := true, apart := false }
def FlashKeepsSaid : Prop := flashKeepsRow.holds Try.pinned (OpenSpec.ofChange flashKeepsSpec)

/-- ITS FALSE NEIGHBOUR: 'it returns false'. Refute it at one input. -/
def flashKeepsWrong : ChangeSpec := { name := "flashKeeps", fn := fun _ => fun
  | [d1, d2, d3] => { results := [.lit (.bool false)], args := [d1, d2, d3] }
  | _ => none }
def FlashKeepsWrongFalsely : Prop := flashKeepsRow.holds Try.pinned (OpenSpec.ofChange flashKeepsWrong)

/-- 'bandolierlaw05.FlashApart': WHATEVER THE INPUT: true; the input reads as it did. -/
def flashApartSpec : ChangeSpec := { name := "flashApart", fn := fun _ => fun
  | [d] => { results := [.lit (.bool true)], args := [d] }
  | _ => none }
def flashApartRow : OpenClaim := { program := "ytknmipbjkkeebaa", sum := "2392887e93e837ee1515b6dd2c63a3bcc217f66952a5ab5cddfaad18542b784e", func := "bandolier/bandolierlaw05.FlashApart", spec := "flashApart", inPlace := ["slices.overlaps[*bandolier/flash.device]", "slices.overlaps[bandolier/flash.past]"], unfollowed := true, recurses := true, apart := false }
def FlashApartSaid : Prop := flashApartRow.holds Try.pinned (OpenSpec.ofChange flashApartSpec)

/-- ITS FALSE NEIGHBOUR: 'it returns false'. Refute it at one input. -/
def flashApartWrong : ChangeSpec := { name := "flashApart", fn := fun _ => fun
  | [d] => { results := [.lit (.bool false)], args := [d] }
  | _ => none }
def FlashApartWrongFalsely : Prop := flashApartRow.holds Try.pinned (OpenSpec.ofChange flashApartWrong)

/-- 'bandolierlaw06.MediumSessions': WHATEVER THE INPUT: true; the input reads as it did. -/
def mediumSessionsSpec : ChangeSpec := { name := "mediumSessions", fn := fun _ => fun
  | [d] => { results := [.lit (.bool true)], args := [d] }
  | _ => none }
def mediumSessionsRow : OpenClaim := { program := "ytknmipbjkkeebaa", sum := "2392887e93e837ee1515b6dd2c63a3bcc217f66952a5ab5cddfaad18542b784e", func := "bandolier/bandolierlaw06.MediumSessions", spec := "mediumSessions", inPlace := ["slices.overlaps[*bandolier/flash.device]", "internal/abi.NoEscape", "internal/bytealg.MakeNoZero", "slices.overlaps[bandolier/flash.past]"], unfollowed := true, recurses := true, apart := false }
def MediumSessionsSaid : Prop := mediumSessionsRow.holds Try.pinned (OpenSpec.ofChange mediumSessionsSpec)

/-- ITS FALSE NEIGHBOUR: 'it returns false'. Refute it at one input. -/
def mediumSessionsWrong : ChangeSpec := { name := "mediumSessions", fn := fun _ => fun
  | [d] => { results := [.lit (.bool false)], args := [d] }
  | _ => none }
def MediumSessionsWrongFalsely : Prop := mediumSessionsRow.holds Try.pinned (OpenSpec.ofChange mediumSessionsWrong)

/-- 'bandolierlaw10.RosterPlays': WHATEVER THE INPUT: true; the input reads as it did. -/
def rosterPlaysSpec : ChangeSpec := { name := "rosterPlays", fn := fun _ => fun
  | [d] => { results := [.lit (.bool true)], args := [d] }
  | _ => none }
def rosterPlaysRow : OpenClaim := { program := "ytknmipbjkkeebaa", sum := "2392887e93e837ee1515b6dd2c63a3bcc217f66952a5ab5cddfaad18542b784e", func := "bandolier/bandolierlaw10.RosterPlays", spec := "rosterPlays", inPlace := ["slices.overlaps[bandolier/roster.Member]"], unfollowed := true, recurses := true, apart := false }
def RosterPlaysSaid : Prop := rosterPlaysRow.holds Try.pinned (OpenSpec.ofChange rosterPlaysSpec)

/-- ITS FALSE NEIGHBOUR: 'it returns false'. Refute it at one input. -/
def rosterPlaysWrong : ChangeSpec := { name := "rosterPlays", fn := fun _ => fun
  | [d] => { results := [.lit (.bool false)], args := [d] }
  | _ => none }
def RosterPlaysWrongFalsely : Prop := rosterPlaysRow.holds Try.pinned (OpenSpec.ofChange rosterPlaysWrong)

/-- 'bandolierlaw10.RosterFull': WHATEVER THE INPUT: true; the input reads as it did. -/
def rosterFullSpec : ChangeSpec := { name := "rosterFull", fn := fun _ => fun
  | [d1, d2] => { results := [.lit (.bool true)], args := [d1, d2] }
  | _ => none }
def rosterFullRow : OpenClaim := { program := "ytknmipbjkkeebaa", sum := "2392887e93e837ee1515b6dd2c63a3bcc217f66952a5ab5cddfaad18542b784e", func := "bandolier/bandolierlaw10.RosterFull", spec := "rosterFull", inPlace := ["slices.overlaps[bandolier/roster.Member]"], unfollowed := true, recurses := true, apart := false }
def RosterFullSaid : Prop := rosterFullRow.holds Try.pinned (OpenSpec.ofChange rosterFullSpec)

/-- ITS FALSE NEIGHBOUR: 'it returns false'. Refute it at one input. -/
def rosterFullWrong : ChangeSpec := { name := "rosterFull", fn := fun _ => fun
  | [d1, d2] => { results := [.lit (.bool false)], args := [d1, d2] }
  | _ => none }
def RosterFullWrongFalsely : Prop := rosterFullRow.holds Try.pinned (OpenSpec.ofChange rosterFullWrong)

/- THE SECOND FORM. 'bulk': how many values and letters a reading holds, each counted each time it is reached (what is shared counts as often as it is met; a slice's spare places count too). A statement '..UptoSaid' is the law's where the arguments, and the package variables that the reading takes, are together of bulk at most 1048576: NARROWER than '..Said'. Prove '..Said' where nothing that the law and all that it calls make is longer than what came in: it says more and counts as full. Else prove '..UptoSaid'. A law counts once. -/
mutual
def uptoBulk {H : Type} : DataW H → Nat
  | .lit (.string bytes) => bytes.length + 1
  | .lit _ => 1
  | .nil => 1
  | .ptr d => uptoBulk d + 1
  | .slice elems spare => uptoBulkAll elems + uptoBulkAll spare + 1
  | .agg parts => uptoBulkAll parts + 1
  | .iface _ d => uptoBulk d + 1
  | .map entries => uptoBulkEntries entries + 1
  | .held _ => 1
def uptoBulkAll {H : Type} : List (DataW H) → Nat
  | [] => 0
  | d :: r => uptoBulk d + uptoBulkAll r
def uptoBulkEntries {H : Type} : List (Lit × DataW H) → Nat
  | [] => 0
  | x :: r => uptoBulkEntry x + uptoBulkEntries r
def uptoBulkEntry {H : Type} : Lit × DataW H → Nat
  | (.string bytes, d) => bytes.length + uptoBulk d + 1
  | (_, d) => uptoBulk d + 1
 end
def uptoSmall : (H : Type) → List (DataW H) → Bool := fun _ ds => decide (uptoBulkAll ds ≤ 1048576)
def OpenSpec.upto (s : _root_.Go.ChangeSpec) : _root_.Go.OpenSpec := { _root_.Go.OpenSpec.ofChange s with cond := some uptoSmall }

/-- 'bandolierlaw05.FlashKeeps', WHERE WHAT IT READS IS OF BULK AT MOST 1048576: true; the input reads as it did. -/
def flashKeepsUptoRow : OpenClaim := { program := "ytknmipbjkkeebaa", sum := "2392887e93e837ee1515b6dd2c63a3bcc217f66952a5ab5cddfaad18542b784e", func := "bandolier/bandolierlaw05.FlashKeeps", spec := "flashKeeps", inPlace := ["slices.overlaps[*bandolier/flash.device]", "slices.overlaps[bandolier/flash.past]"], unfollowed := true, recurses := true, apart := false, narrowed := true }
def FlashKeepsUptoSaid : Prop := flashKeepsUptoRow.holds Try.pinned (OpenSpec.upto flashKeepsSpec)

/-- 'bandolierlaw05.FlashApart', WHERE WHAT IT READS IS OF BULK AT MOST 1048576: true; the input reads as it did. -/
def flashApartUptoRow : OpenClaim := { program := "ytknmipbjkkeebaa", sum := "2392887e93e837ee1515b6dd2c63a3bcc217f66952a5ab5cddfaad18542b784e", func := "bandolier/bandolierlaw05.FlashApart", spec := "flashApart", inPlace := ["slices.overlaps[*bandolier/flash.device]", "slices.overlaps[bandolier/flash.past]"], unfollowed := true, recurses := true, apart := false, narrowed := true }
def FlashApartUptoSaid : Prop := flashApartUptoRow.holds Try.pinned (OpenSpec.upto flashApartSpec)

/-- 'bandolierlaw06.MediumSessions', WHERE WHAT IT READS IS OF BULK AT MOST 1048576: true; the input reads as it did. -/
def mediumSessionsUptoRow : OpenClaim := { program := "ytknmipbjkkeebaa", sum := "2392887e93e837ee1515b6dd2c63a3bcc217f66952a5ab5cddfaad18542b784e", func := "bandolier/bandolierlaw06.MediumSessions", spec := "mediumSessions", inPlace := ["slices.overlaps[*bandolier/flash.device]", "internal/abi.NoEscape", "internal/bytealg.MakeNoZero", "slices.overlaps[bandolier/flash.past]"], unfollowed := true, recurses := true, apart := false, narrowed := true }
def MediumSessionsUptoSaid : Prop := mediumSessionsUptoRow.holds Try.pinned (OpenSpec.upto mediumSessionsSpec)

/-- 'bandolierlaw10.RosterPlays', WHERE WHAT IT READS IS OF BULK AT MOST 1048576: true; the input reads as it did. -/
def rosterPlaysUptoRow : OpenClaim := { program := "ytknmipbjkkeebaa", sum := "2392887e93e837ee1515b6dd2c63a3bcc217f66952a5ab5cddfaad18542b784e", func := "bandolier/bandolierlaw10.RosterPlays", spec := "rosterPlays", inPlace := ["slices.overlaps[bandolier/roster.Member]"], unfollowed := true, recurses := true, apart := false, narrowed := true }
def RosterPlaysUptoSaid : Prop := rosterPlaysUptoRow.holds Try.pinned (OpenSpec.upto rosterPlaysSpec)

/-- 'bandolierlaw10.RosterFull', WHERE WHAT IT READS IS OF BULK AT MOST 1048576: true; the input reads as it did. -/
def rosterFullUptoRow : OpenClaim := { program := "ytknmipbjkkeebaa", sum := "2392887e93e837ee1515b6dd2c63a3bcc217f66952a5ab5cddfaad18542b784e", func := "bandolier/bandolierlaw10.RosterFull", spec := "rosterFull", inPlace := ["slices.overlaps[bandolier/roster.Member]"], unfollowed := true, recurses := true, apart := false, narrowed := true }
def RosterFullUptoSaid : Prop := rosterFullUptoRow.holds Try.pinned (OpenSpec.upto rosterFullSpec)

end Rows
end Go.Proofs.Ytknmipbjkkeebaa
