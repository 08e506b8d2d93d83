/-
  DERIVED. GIVEN WITH THE SEED: THE CARDS: each row of YteojllilcejnhaaDoorRows.lean that lists a variable, with what it lists TIED to the program's text (the seventh form; the later family's looks); each row that meets fmt, with fmt's text TOLD by the authors' own Lean function (tested against real Go, not proved from fmt's source: count such statements apart). THE CARD IS WHAT COUNTS. Prove the row's statement (the work); the ties are given (YteojllilcejnhaaDoorTie.lean); close each card by the builder's one call (the guide's Derived/Test/ToyasCard.lean, 'card_holds'). Laid BY PROGRAM, IN A SANDBOX (cutbox-door.mjs). By AI agents, Wed Nov 11 2026. No macro, syntax, notation, axiom, sorry.
-/
import Derived.Test.YteojllilcejnhaaDoorRows
import GoSem.ClaimSeven
namespace Go.Proofs.YteojllilcejnhaaDoor
namespace Rows

/-- THE TIED CARD OF 'bandolierlaw01.MixIs'. -/
def mixIsCard : Claim7 := { stood := { row := mixIsRow, standIns := [], harness := (true, "93a37fd92f583ebca3d007b84365088ced8d564573948c9e9f65c08020b748c5"), looks := false }, kinds := [], alts := [], laidByText := true, laidKinds := [.data], laidTests := true, laidLooks := .later }
def MixIsCardSaid : Prop := Claim7.holds Tryd.pinned (.plain (OpenSpec.ofChange mixIsSpec)) mixIsCard

/-- THE TIED CARD OF 'bandolierlaw01.MixBack'. -/
def mixBackCard : Claim7 := { stood := { row := mixBackRow, standIns := [], harness := (true, "93a37fd92f583ebca3d007b84365088ced8d564573948c9e9f65c08020b748c5"), looks := false }, kinds := [], alts := [], laidByText := true, laidKinds := [.data], laidTests := true, laidLooks := .later }
def MixBackCardSaid : Prop := Claim7.holds Tryd.pinned (.plain (OpenSpec.ofChange mixBackSpec)) mixBackCard

/-- THE TIED CARD OF 'bandolierlaw01.MixTexts'. -/
def mixTextsCard : Claim7 := { stood := { row := mixTextsRow, standIns := [], harness := (true, "93a37fd92f583ebca3d007b84365088ced8d564573948c9e9f65c08020b748c5"), looks := false }, kinds := [], alts := [], laidByText := true, laidKinds := [.data], laidTests := true, laidLooks := .later }
def MixTextsCardSaid : Prop := Claim7.holds Tryd.pinned (.plain (OpenSpec.ofChange mixTextsSpec)) mixTextsCard

/-- THE TIED CARD OF 'bandolierlaw01.MixPairs'. -/
def mixPairsCard : Claim7 := { stood := { row := mixPairsRow, standIns := [], harness := (true, "93a37fd92f583ebca3d007b84365088ced8d564573948c9e9f65c08020b748c5"), looks := false }, kinds := [], alts := [], laidByText := true, laidKinds := [.data], laidTests := true, laidLooks := .later }
def MixPairsCardSaid : Prop := Claim7.holds Tryd.pinned (.plain (OpenSpec.ofChange mixPairsSpec)) mixPairsCard

/-- THE SECOND FORM's CARD OF 'bandolierlaw01.MixIs'. -/
def mixIsUptoCard : Claim7 := { stood := { row := mixIsUptoRow, standIns := [], harness := (true, "93a37fd92f583ebca3d007b84365088ced8d564573948c9e9f65c08020b748c5"), looks := false }, kinds := [], alts := [], laidByText := true, laidKinds := [.data], laidTests := true, laidLooks := .later }
def MixIsUptoCardSaid : Prop := Claim7.holds Tryd.pinned (.plain (OpenSpec.upto mixIsSpec)) mixIsUptoCard

/-- THE SECOND FORM's CARD OF 'bandolierlaw01.MixBack'. -/
def mixBackUptoCard : Claim7 := { stood := { row := mixBackUptoRow, standIns := [], harness := (true, "93a37fd92f583ebca3d007b84365088ced8d564573948c9e9f65c08020b748c5"), looks := false }, kinds := [], alts := [], laidByText := true, laidKinds := [.data], laidTests := true, laidLooks := .later }
def MixBackUptoCardSaid : Prop := Claim7.holds Tryd.pinned (.plain (OpenSpec.upto mixBackSpec)) mixBackUptoCard

/-- THE SECOND FORM's CARD OF 'bandolierlaw01.MixTexts'. -/
def mixTextsUptoCard : Claim7 := { stood := { row := mixTextsUptoRow, standIns := [], harness := (true, "93a37fd92f583ebca3d007b84365088ced8d564573948c9e9f65c08020b748c5"), looks := false }, kinds := [], alts := [], laidByText := true, laidKinds := [.data], laidTests := true, laidLooks := .later }
def MixTextsUptoCardSaid : Prop := Claim7.holds Tryd.pinned (.plain (OpenSpec.upto mixTextsSpec)) mixTextsUptoCard

/-- THE SECOND FORM's CARD OF 'bandolierlaw01.MixPairs'. -/
def mixPairsUptoCard : Claim7 := { stood := { row := mixPairsUptoRow, standIns := [], harness := (true, "93a37fd92f583ebca3d007b84365088ced8d564573948c9e9f65c08020b748c5"), looks := false }, kinds := [], alts := [], laidByText := true, laidKinds := [.data], laidTests := true, laidLooks := .later }
def MixPairsUptoCardSaid : Prop := Claim7.holds Tryd.pinned (.plain (OpenSpec.upto mixPairsSpec)) mixPairsUptoCard
end Rows
end Go.Proofs.YteojllilcejnhaaDoor
