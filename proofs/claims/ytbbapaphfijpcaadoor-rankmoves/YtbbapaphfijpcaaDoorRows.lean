/-
  NARROWER THAN 'FOR EVERY INPUT', by the rows' own cells (each row's printed sentence says how): RankOrders: laid · RankMoves: laid · RankSpread: laid · RankGrows: laid.
  DERIVED. THE GIVEN ROWS OF THIS SEAT. 4 by the template 'for every input the law returns true; each argument reads behind the call as it read before'; 0 by the template 'total and deterministic' (their statements: YtbbapaphfijpcaaDoorTotals.lean).
  GIVEN WITH THE SEED: the statements are not yours to turn. If you find one false, say at which input.
  Laid BY PROGRAM, IN A SANDBOX (cutbox-rows.mjs): the forced cells as the released guide's own fill.sh prints them over the translation 34899c340d7ad289… (all of the seat's roots in one cut). By AI agents, Wed Nov 11 2026. No macro, syntax, notation, axiom, sorry.
-/
import Derived.Test.YtbbapaphfijpcaaDoorChecked
import GoSem.Claim
import GoSem.ClaimJoined
import GoSem.ClaimMapViews
import Derived.JoinedTies
import Derived.KernelRfl
namespace Go.Proofs.YtbbapaphfijpcaaDoor
/- THE CELL 'sum', in the pinned program and in every row, IS THE sha256 OF THE DUMP (.gsa) THAT YtbbapaphfijpcaaDoorProg.lean LOADS. Nothing in Lean hashes anything: it is a label: what it is worth is what the hold of that sum in a sandbox is worth. -/
noncomputable def Tryd.pinned : Pinned := { name := "ytbbapaphfijpcaadoor", sum := "34899c340d7ad289b6e3418688959bccb97c5db0e120aea8c64414ef71cc52b5", checked := Tryd.checked }
namespace Rows
def none {H : Type} : Left H := { results := [], args := [] }

/- WHAT THE LISTED PACKAGE-LEVEL VARIABLES READ AS WHEN THE CALL BEGINS. Each datum BY PROGRAM (the guide's laid-datum.mjs) off the statement by which the dump's own 'gosem.cut.vars' lays the variable. In a bare row this is a premise. The card (YtbbapaphfijpcaaDoorCards.lean) ties it to the program's text. -/
def laid_bandolier_mix_rounds {H : Type} : DataW H := .agg [.agg [.lit (.int .u64 30), .lit (.int .u64 13787848793156543929), .lit (.int .u64 10871156337175269513)], .agg [.lit (.int .u64 27), .lit (.int .u64 10723151780598845931), .lit (.int .u64 3573116690164977347)], .agg [.lit (.int .u64 31), .lit (.int .u64 1), .lit (.int .u64 1)]]

/-- 'bandolierlaw15.RankOrders': WHATEVER THE INPUT: true; the input reads as it did. -/
def rankOrdersSpec : ChangeSpec := { name := "rankOrders", fn := fun _ => fun
  | [d1, d2, d3] => { results := [.lit (.bool true)], args := [d1, d2, d3] }
  | _ => none }
def rankOrdersRow : OpenClaim := { program := "ytbbapaphfijpcaadoor", sum := "34899c340d7ad289b6e3418688959bccb97c5db0e120aea8c64414ef71cc52b5", func := "bandolier/bandolierlaw15.RankOrders", spec := "rankOrders", unfollowed := true, recurses := true, named := ["bandolier/mix.rounds"], apart := false, laid := [("bandolier/mix.rounds", laid_bandolier_mix_rounds)] }
def RankOrdersSaid : Prop := rankOrdersRow.holds Tryd.pinned (OpenSpec.ofChange rankOrdersSpec)

/-- ITS FALSE NEIGHBOUR: 'it returns false'. Refute it at one input. -/
def rankOrdersWrong : ChangeSpec := { name := "rankOrders", fn := fun _ => fun
  | [d1, d2, d3] => { results := [.lit (.bool false)], args := [d1, d2, d3] }
  | _ => none }
def RankOrdersWrongFalsely : Prop := rankOrdersRow.holds Tryd.pinned (OpenSpec.ofChange rankOrdersWrong)

/-- 'bandolierlaw15.RankMoves': WHATEVER THE INPUT: true; the input reads as it did. -/
def rankMovesSpec : ChangeSpec := { name := "rankMoves", fn := fun _ => fun
  | [d] => { results := [.lit (.bool true)], args := [d] }
  | _ => none }
def rankMovesRow : OpenClaim := { program := "ytbbapaphfijpcaadoor", sum := "34899c340d7ad289b6e3418688959bccb97c5db0e120aea8c64414ef71cc52b5", func := "bandolier/bandolierlaw15.RankMoves", spec := "rankMoves", unfollowed := true, recurses := true, named := ["bandolier/mix.rounds"], apart := false, laid := [("bandolier/mix.rounds", laid_bandolier_mix_rounds)] }
def RankMovesSaid : Prop := rankMovesRow.holds Tryd.pinned (OpenSpec.ofChange rankMovesSpec)

/-- ITS FALSE NEIGHBOUR: 'it returns false'. Refute it at one input. -/
def rankMovesWrong : ChangeSpec := { name := "rankMoves", fn := fun _ => fun
  | [d] => { results := [.lit (.bool false)], args := [d] }
  | _ => none }
def RankMovesWrongFalsely : Prop := rankMovesRow.holds Tryd.pinned (OpenSpec.ofChange rankMovesWrong)

/-- 'bandolierlaw15.RankSpread': WHATEVER THE INPUT: true; the input reads as it did. -/
def rankSpreadSpec : ChangeSpec := { name := "rankSpread", fn := fun _ => fun
  | [d1, d2] => { results := [.lit (.bool true)], args := [d1, d2] }
  | _ => none }
def rankSpreadRow : OpenClaim := { program := "ytbbapaphfijpcaadoor", sum := "34899c340d7ad289b6e3418688959bccb97c5db0e120aea8c64414ef71cc52b5", func := "bandolier/bandolierlaw15.RankSpread", spec := "rankSpread", unfollowed := true, recurses := true, named := ["bandolier/mix.rounds"], apart := false, laid := [("bandolier/mix.rounds", laid_bandolier_mix_rounds)] }
def RankSpreadSaid : Prop := rankSpreadRow.holds Tryd.pinned (OpenSpec.ofChange rankSpreadSpec)

/-- ITS FALSE NEIGHBOUR: 'it returns false'. Refute it at one input. -/
def rankSpreadWrong : ChangeSpec := { name := "rankSpread", fn := fun _ => fun
  | [d1, d2] => { results := [.lit (.bool false)], args := [d1, d2] }
  | _ => none }
def RankSpreadWrongFalsely : Prop := rankSpreadRow.holds Tryd.pinned (OpenSpec.ofChange rankSpreadWrong)

/-- 'bandolierlaw15.RankGrows': WHATEVER THE INPUT: true; the input reads as it did. -/
def rankGrowsSpec : ChangeSpec := { name := "rankGrows", fn := fun _ => fun
  | [d1, d2, d3] => { results := [.lit (.bool true)], args := [d1, d2, d3] }
  | _ => none }
def rankGrowsRow : OpenClaim := { program := "ytbbapaphfijpcaadoor", sum := "34899c340d7ad289b6e3418688959bccb97c5db0e120aea8c64414ef71cc52b5", func := "bandolier/bandolierlaw15.RankGrows", spec := "rankGrows", unfollowed := true, recurses := true, named := ["bandolier/mix.rounds"], apart := false, laid := [("bandolier/mix.rounds", laid_bandolier_mix_rounds)] }
def RankGrowsSaid : Prop := rankGrowsRow.holds Tryd.pinned (OpenSpec.ofChange rankGrowsSpec)

/-- ITS FALSE NEIGHBOUR: 'it returns false'. Refute it at one input. -/
def rankGrowsWrong : ChangeSpec := { name := "rankGrows", fn := fun _ => fun
  | [d1, d2, d3] => { results := [.lit (.bool false)], args := [d1, d2, d3] }
  | _ => none }
def RankGrowsWrongFalsely : Prop := rankGrowsRow.holds Tryd.pinned (OpenSpec.ofChange rankGrowsWrong)

/- THE SECOND FORM. 'bulk': how many values and letters a reading holds, each counted each time it is reached (what is shared counts as often as it is met; a slice's spare places count too). A statement '..UptoSaid' is the law's where the arguments, and the package variables that the reading takes, are together of bulk at most 1048576: NARROWER than '..Said'. Prove '..Said' where nothing that the law and all that it calls make is longer than what came in: it says more and counts as full. Else prove '..UptoSaid'. A law counts once. -/
mutual
def uptoBulk {H : Type} : DataW H → Nat
  | .lit (.string bytes) => bytes.length + 1
  | .lit _ => 1
  | .nil => 1
  | .ptr d => uptoBulk d + 1
  | .slice elems spare => uptoBulkAll elems + uptoBulkAll spare + 1
  | .agg parts => uptoBulkAll parts + 1
  | .iface _ d => uptoBulk d + 1
  | .map entries => uptoBulkEntries entries + 1
  | .held _ => 1
def uptoBulkAll {H : Type} : List (DataW H) → Nat
  | [] => 0
  | d :: r => uptoBulk d + uptoBulkAll r
def uptoBulkEntries {H : Type} : List (Lit × DataW H) → Nat
  | [] => 0
  | x :: r => uptoBulkEntry x + uptoBulkEntries r
def uptoBulkEntry {H : Type} : Lit × DataW H → Nat
  | (.string bytes, d) => bytes.length + uptoBulk d + 1
  | (_, d) => uptoBulk d + 1
 end
def uptoSmall : (H : Type) → List (DataW H) → Bool := fun _ ds => decide (uptoBulkAll ds ≤ 1048576)
def OpenSpec.upto (s : _root_.Go.ChangeSpec) : _root_.Go.OpenSpec := { _root_.Go.OpenSpec.ofChange s with cond := some uptoSmall }

/-- 'bandolierlaw15.RankOrders', WHERE WHAT IT READS IS OF BULK AT MOST 1048576: true; the input reads as it did. -/
def rankOrdersUptoRow : OpenClaim := { program := "ytbbapaphfijpcaadoor", sum := "34899c340d7ad289b6e3418688959bccb97c5db0e120aea8c64414ef71cc52b5", func := "bandolier/bandolierlaw15.RankOrders", spec := "rankOrders", unfollowed := true, recurses := true, named := ["bandolier/mix.rounds"], apart := false, laid := [("bandolier/mix.rounds", laid_bandolier_mix_rounds)], narrowed := true }
def RankOrdersUptoSaid : Prop := rankOrdersUptoRow.holds Tryd.pinned (OpenSpec.upto rankOrdersSpec)

/-- 'bandolierlaw15.RankMoves', WHERE WHAT IT READS IS OF BULK AT MOST 1048576: true; the input reads as it did. -/
def rankMovesUptoRow : OpenClaim := { program := "ytbbapaphfijpcaadoor", sum := "34899c340d7ad289b6e3418688959bccb97c5db0e120aea8c64414ef71cc52b5", func := "bandolier/bandolierlaw15.RankMoves", spec := "rankMoves", unfollowed := true, recurses := true, named := ["bandolier/mix.rounds"], apart := false, laid := [("bandolier/mix.rounds", laid_bandolier_mix_rounds)], narrowed := true }
def RankMovesUptoSaid : Prop := rankMovesUptoRow.holds Tryd.pinned (OpenSpec.upto rankMovesSpec)

/-- 'bandolierlaw15.RankSpread', WHERE WHAT IT READS IS OF BULK AT MOST 1048576: true; the input reads as it did. -/
def rankSpreadUptoRow : OpenClaim := { program := "ytbbapaphfijpcaadoor", sum := "34899c340d7ad289b6e3418688959bccb97c5db0e120aea8c64414ef71cc52b5", func := "bandolier/bandolierlaw15.RankSpread", spec := "rankSpread", unfollowed := true, recurses := true, named := ["bandolier/mix.rounds"], apart := false, laid := [("bandolier/mix.rounds", laid_bandolier_mix_rounds)], narrowed := true }
def RankSpreadUptoSaid : Prop := rankSpreadUptoRow.holds Tryd.pinned (OpenSpec.upto rankSpreadSpec)

/-- 'bandolierlaw15.RankGrows', WHERE WHAT IT READS IS OF BULK AT MOST 1048576: true; the input reads as it did. -/
def rankGrowsUptoRow : OpenClaim := { program := "ytbbapaphfijpcaadoor", sum := "34899c340d7ad289b6e3418688959bccb97c5db0e120aea8c64414ef71cc52b5", func := "bandolier/bandolierlaw15.RankGrows", spec := "rankGrows", unfollowed := true, recurses := true, named := ["bandolier/mix.rounds"], apart := false, laid := [("bandolier/mix.rounds", laid_bandolier_mix_rounds)], narrowed := true }
def RankGrowsUptoSaid : Prop := rankGrowsUptoRow.holds Tryd.pinned (OpenSpec.upto rankGrowsSpec)

end Rows
end Go.Proofs.YtbbapaphfijpcaaDoor
