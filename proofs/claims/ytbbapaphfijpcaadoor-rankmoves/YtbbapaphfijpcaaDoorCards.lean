/-
  DERIVED. GIVEN WITH THE SEED: THE CARDS: each row of YtbbapaphfijpcaaDoorRows.lean that lists a variable, with what it lists TIED to the program's text (the seventh form; the later family's looks); each row that meets fmt, with fmt's text TOLD by the authors' own Lean function (tested against real Go, not proved from fmt's source: count such statements apart). THE CARD IS WHAT COUNTS. Prove the row's statement (the work); the ties are given (YtbbapaphfijpcaaDoorTie.lean); close each card by the builder's one call (the guide's Derived/Test/ToyasCard.lean, 'card_holds'). Laid BY PROGRAM, IN A SANDBOX (cutbox-door.mjs). By AI agents, Wed Nov 11 2026. No macro, syntax, notation, axiom, sorry.
-/
import Derived.Test.YtbbapaphfijpcaaDoorRows
import GoSem.ClaimSeven
namespace Go.Proofs.YtbbapaphfijpcaaDoor
namespace Rows

/-- THE TIED CARD OF 'bandolierlaw15.RankOrders'. -/
def rankOrdersCard : Claim7 := { stood := { row := rankOrdersRow, standIns := [], harness := (true, "f369fee3c70d76d3a0080660581e9b9f44f5a9a6b51713cece4756a4143e515b"), looks := false }, kinds := [], alts := [], laidByText := true, laidKinds := [.data], laidTests := true, laidLooks := .later }
def RankOrdersCardSaid : Prop := Claim7.holds Tryd.pinned (.plain (OpenSpec.ofChange rankOrdersSpec)) rankOrdersCard

/-- THE TIED CARD OF 'bandolierlaw15.RankMoves'. -/
def rankMovesCard : Claim7 := { stood := { row := rankMovesRow, standIns := [], harness := (true, "f369fee3c70d76d3a0080660581e9b9f44f5a9a6b51713cece4756a4143e515b"), looks := false }, kinds := [], alts := [], laidByText := true, laidKinds := [.data], laidTests := true, laidLooks := .later }
def RankMovesCardSaid : Prop := Claim7.holds Tryd.pinned (.plain (OpenSpec.ofChange rankMovesSpec)) rankMovesCard

/-- THE TIED CARD OF 'bandolierlaw15.RankSpread'. -/
def rankSpreadCard : Claim7 := { stood := { row := rankSpreadRow, standIns := [], harness := (true, "f369fee3c70d76d3a0080660581e9b9f44f5a9a6b51713cece4756a4143e515b"), looks := false }, kinds := [], alts := [], laidByText := true, laidKinds := [.data], laidTests := true, laidLooks := .later }
def RankSpreadCardSaid : Prop := Claim7.holds Tryd.pinned (.plain (OpenSpec.ofChange rankSpreadSpec)) rankSpreadCard

/-- THE TIED CARD OF 'bandolierlaw15.RankGrows'. -/
def rankGrowsCard : Claim7 := { stood := { row := rankGrowsRow, standIns := [], harness := (true, "f369fee3c70d76d3a0080660581e9b9f44f5a9a6b51713cece4756a4143e515b"), looks := false }, kinds := [], alts := [], laidByText := true, laidKinds := [.data], laidTests := true, laidLooks := .later }
def RankGrowsCardSaid : Prop := Claim7.holds Tryd.pinned (.plain (OpenSpec.ofChange rankGrowsSpec)) rankGrowsCard

/-- THE SECOND FORM's CARD OF 'bandolierlaw15.RankOrders'. -/
def rankOrdersUptoCard : Claim7 := { stood := { row := rankOrdersUptoRow, standIns := [], harness := (true, "f369fee3c70d76d3a0080660581e9b9f44f5a9a6b51713cece4756a4143e515b"), looks := false }, kinds := [], alts := [], laidByText := true, laidKinds := [.data], laidTests := true, laidLooks := .later }
def RankOrdersUptoCardSaid : Prop := Claim7.holds Tryd.pinned (.plain (OpenSpec.upto rankOrdersSpec)) rankOrdersUptoCard

/-- THE SECOND FORM's CARD OF 'bandolierlaw15.RankMoves'. -/
def rankMovesUptoCard : Claim7 := { stood := { row := rankMovesUptoRow, standIns := [], harness := (true, "f369fee3c70d76d3a0080660581e9b9f44f5a9a6b51713cece4756a4143e515b"), looks := false }, kinds := [], alts := [], laidByText := true, laidKinds := [.data], laidTests := true, laidLooks := .later }
def RankMovesUptoCardSaid : Prop := Claim7.holds Tryd.pinned (.plain (OpenSpec.upto rankMovesSpec)) rankMovesUptoCard

/-- THE SECOND FORM's CARD OF 'bandolierlaw15.RankSpread'. -/
def rankSpreadUptoCard : Claim7 := { stood := { row := rankSpreadUptoRow, standIns := [], harness := (true, "f369fee3c70d76d3a0080660581e9b9f44f5a9a6b51713cece4756a4143e515b"), looks := false }, kinds := [], alts := [], laidByText := true, laidKinds := [.data], laidTests := true, laidLooks := .later }
def RankSpreadUptoCardSaid : Prop := Claim7.holds Tryd.pinned (.plain (OpenSpec.upto rankSpreadSpec)) rankSpreadUptoCard

/-- THE SECOND FORM's CARD OF 'bandolierlaw15.RankGrows'. -/
def rankGrowsUptoCard : Claim7 := { stood := { row := rankGrowsUptoRow, standIns := [], harness := (true, "f369fee3c70d76d3a0080660581e9b9f44f5a9a6b51713cece4756a4143e515b"), looks := false }, kinds := [], alts := [], laidByText := true, laidKinds := [.data], laidTests := true, laidLooks := .later }
def RankGrowsUptoCardSaid : Prop := Claim7.holds Tryd.pinned (.plain (OpenSpec.upto rankGrowsSpec)) rankGrowsUptoCard
end Rows
end Go.Proofs.YtbbapaphfijpcaaDoor
