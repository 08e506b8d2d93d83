/-
  NARROWER THAN 'FOR EVERY INPUT', by the rows' own cells (each row's printed sentence says how): MixIs: laid · MixBack: laid · MixTexts: laid · MixPairs: laid.
  DERIVED. THE GIVEN ROWS OF THIS SEAT. 4 by the template 'for every input the law returns true; each argument reads behind the call as it read before'; 0 by the template 'total and deterministic' (their statements: YteojllilcejnhaaDoorTotals.lean).
  GIVEN WITH THE SEED: the statements are not yours to turn. If you find one false, say at which input.
  Laid BY PROGRAM, IN A SANDBOX (cutbox-rows.mjs): the forced cells as the released guide's own fill.sh prints them over the translation 5402d59bef5d0eb0… (all of the seat's roots in one cut). By AI agents, Wed Nov 11 2026. No macro, syntax, notation, axiom, sorry.
-/
import Derived.Test.YteojllilcejnhaaDoorChecked
import GoSem.Claim
import GoSem.ClaimJoined
import GoSem.ClaimMapViews
import Derived.JoinedTies
import Derived.KernelRfl
namespace Go.Proofs.YteojllilcejnhaaDoor
/- THE CELL 'sum', in the pinned program and in every row, IS THE sha256 OF THE DUMP (.gsa) THAT YteojllilcejnhaaDoorProg.lean LOADS. Nothing in Lean hashes anything: it is a label: what it is worth is what the hold of that sum in a sandbox is worth. -/
noncomputable def Tryd.pinned : Pinned := { name := "yteojllilcejnhaadoor", sum := "5402d59bef5d0eb011d6e772926190a3a76a5ac0390d5b8919d16c0c47247766", checked := Tryd.checked }
namespace Rows
def none {H : Type} : Left H := { results := [], args := [] }

/- WHAT THE LISTED PACKAGE-LEVEL VARIABLES READ AS WHEN THE CALL BEGINS. Each datum BY PROGRAM (the guide's laid-datum.mjs) off the statement by which the dump's own 'gosem.cut.vars' lays the variable. In a bare row this is a premise. The card (YteojllilcejnhaaDoorCards.lean) ties it to the program's text. -/
def laid_bandolier_mix_rounds {H : Type} : DataW H := .agg [.agg [.lit (.int .u64 30), .lit (.int .u64 13787848793156543929), .lit (.int .u64 10871156337175269513)], .agg [.lit (.int .u64 27), .lit (.int .u64 10723151780598845931), .lit (.int .u64 3573116690164977347)], .agg [.lit (.int .u64 31), .lit (.int .u64 1), .lit (.int .u64 1)]]

/-- 'bandolierlaw01.MixIs': WHATEVER THE INPUT: true; the input reads as it did. -/
def mixIsSpec : ChangeSpec := { name := "mixIs", fn := fun _ => fun
  | [d1, d2] => { results := [.lit (.bool true)], args := [d1, d2] }
  | _ => none }
def mixIsRow : OpenClaim := { program := "yteojllilcejnhaadoor", sum := "5402d59bef5d0eb011d6e772926190a3a76a5ac0390d5b8919d16c0c47247766", func := "bandolier/bandolierlaw01.MixIs", spec := "mixIs", named := ["bandolier/mix.rounds"], apart := false, laid := [("bandolier/mix.rounds", laid_bandolier_mix_rounds)] }
def MixIsSaid : Prop := mixIsRow.holds Tryd.pinned (OpenSpec.ofChange mixIsSpec)

/-- ITS FALSE NEIGHBOUR: 'it returns false'. Refute it at one input. -/
def mixIsWrong : ChangeSpec := { name := "mixIs", fn := fun _ => fun
  | [d1, d2] => { results := [.lit (.bool false)], args := [d1, d2] }
  | _ => none }
def MixIsWrongFalsely : Prop := mixIsRow.holds Tryd.pinned (OpenSpec.ofChange mixIsWrong)

/-- 'bandolierlaw01.MixBack': WHATEVER THE INPUT: true; the input reads as it did. -/
def mixBackSpec : ChangeSpec := { name := "mixBack", fn := fun _ => fun
  | [d1, d2] => { results := [.lit (.bool true)], args := [d1, d2] }
  | _ => none }
def mixBackRow : OpenClaim := { program := "yteojllilcejnhaadoor", sum := "5402d59bef5d0eb011d6e772926190a3a76a5ac0390d5b8919d16c0c47247766", func := "bandolier/bandolierlaw01.MixBack", spec := "mixBack", named := ["bandolier/mix.rounds"], apart := false, laid := [("bandolier/mix.rounds", laid_bandolier_mix_rounds)] }
def MixBackSaid : Prop := mixBackRow.holds Tryd.pinned (OpenSpec.ofChange mixBackSpec)

/-- ITS FALSE NEIGHBOUR: 'it returns false'. Refute it at one input. -/
def mixBackWrong : ChangeSpec := { name := "mixBack", fn := fun _ => fun
  | [d1, d2] => { results := [.lit (.bool false)], args := [d1, d2] }
  | _ => none }
def MixBackWrongFalsely : Prop := mixBackRow.holds Tryd.pinned (OpenSpec.ofChange mixBackWrong)

/-- 'bandolierlaw01.MixTexts': WHATEVER THE INPUT: true; the input reads as it did. -/
def mixTextsSpec : ChangeSpec := { name := "mixTexts", fn := fun _ => fun
  | [d1, d2, d3] => { results := [.lit (.bool true)], args := [d1, d2, d3] }
  | _ => none }
def mixTextsRow : OpenClaim := { program := "yteojllilcejnhaadoor", sum := "5402d59bef5d0eb011d6e772926190a3a76a5ac0390d5b8919d16c0c47247766", func := "bandolier/bandolierlaw01.MixTexts", spec := "mixTexts", named := ["bandolier/mix.rounds"], apart := false, laid := [("bandolier/mix.rounds", laid_bandolier_mix_rounds)] }
def MixTextsSaid : Prop := mixTextsRow.holds Tryd.pinned (OpenSpec.ofChange mixTextsSpec)

/-- ITS FALSE NEIGHBOUR: 'it returns false'. Refute it at one input. -/
def mixTextsWrong : ChangeSpec := { name := "mixTexts", fn := fun _ => fun
  | [d1, d2, d3] => { results := [.lit (.bool false)], args := [d1, d2, d3] }
  | _ => none }
def MixTextsWrongFalsely : Prop := mixTextsRow.holds Tryd.pinned (OpenSpec.ofChange mixTextsWrong)

/-- 'bandolierlaw01.MixPairs': WHATEVER THE INPUT: true; the input reads as it did. -/
def mixPairsSpec : ChangeSpec := { name := "mixPairs", fn := fun _ => fun
  | [d1, d2] => { results := [.lit (.bool true)], args := [d1, d2] }
  | _ => none }
def mixPairsRow : OpenClaim := { program := "yteojllilcejnhaadoor", sum := "5402d59bef5d0eb011d6e772926190a3a76a5ac0390d5b8919d16c0c47247766", func := "bandolier/bandolierlaw01.MixPairs", spec := "mixPairs", named := ["bandolier/mix.rounds"], apart := false, laid := [("bandolier/mix.rounds", laid_bandolier_mix_rounds)] }
def MixPairsSaid : Prop := mixPairsRow.holds Tryd.pinned (OpenSpec.ofChange mixPairsSpec)

/-- ITS FALSE NEIGHBOUR: 'it returns false'. Refute it at one input. -/
def mixPairsWrong : ChangeSpec := { name := "mixPairs", fn := fun _ => fun
  | [d1, d2] => { results := [.lit (.bool false)], args := [d1, d2] }
  | _ => none }
def MixPairsWrongFalsely : Prop := mixPairsRow.holds Tryd.pinned (OpenSpec.ofChange mixPairsWrong)

/- THE SECOND FORM. 'bulk': how many values and letters a reading holds, each counted each time it is reached (what is shared counts as often as it is met; a slice's spare places count too). A statement '..UptoSaid' is the law's where the arguments, and the package variables that the reading takes, are together of bulk at most 1048576: NARROWER than '..Said'. Prove '..Said' where nothing that the law and all that it calls make is longer than what came in: it says more and counts as full. Else prove '..UptoSaid'. A law counts once. -/
mutual
def uptoBulk {H : Type} : DataW H → Nat
  | .lit (.string bytes) => bytes.length + 1
  | .lit _ => 1
  | .nil => 1
  | .ptr d => uptoBulk d + 1
  | .slice elems spare => uptoBulkAll elems + uptoBulkAll spare + 1
  | .agg parts => uptoBulkAll parts + 1
  | .iface _ d => uptoBulk d + 1
  | .map entries => uptoBulkEntries entries + 1
  | .held _ => 1
def uptoBulkAll {H : Type} : List (DataW H) → Nat
  | [] => 0
  | d :: r => uptoBulk d + uptoBulkAll r
def uptoBulkEntries {H : Type} : List (Lit × DataW H) → Nat
  | [] => 0
  | x :: r => uptoBulkEntry x + uptoBulkEntries r
def uptoBulkEntry {H : Type} : Lit × DataW H → Nat
  | (.string bytes, d) => bytes.length + uptoBulk d + 1
  | (_, d) => uptoBulk d + 1
 end
def uptoSmall : (H : Type) → List (DataW H) → Bool := fun _ ds => decide (uptoBulkAll ds ≤ 1048576)
def OpenSpec.upto (s : _root_.Go.ChangeSpec) : _root_.Go.OpenSpec := { _root_.Go.OpenSpec.ofChange s with cond := some uptoSmall }

/-- 'bandolierlaw01.MixIs', WHERE WHAT IT READS IS OF BULK AT MOST 1048576: true; the input reads as it did. -/
def mixIsUptoRow : OpenClaim := { program := "yteojllilcejnhaadoor", sum := "5402d59bef5d0eb011d6e772926190a3a76a5ac0390d5b8919d16c0c47247766", func := "bandolier/bandolierlaw01.MixIs", spec := "mixIs", named := ["bandolier/mix.rounds"], apart := false, laid := [("bandolier/mix.rounds", laid_bandolier_mix_rounds)], narrowed := true }
def MixIsUptoSaid : Prop := mixIsUptoRow.holds Tryd.pinned (OpenSpec.upto mixIsSpec)

/-- 'bandolierlaw01.MixBack', WHERE WHAT IT READS IS OF BULK AT MOST 1048576: true; the input reads as it did. -/
def mixBackUptoRow : OpenClaim := { program := "yteojllilcejnhaadoor", sum := "5402d59bef5d0eb011d6e772926190a3a76a5ac0390d5b8919d16c0c47247766", func := "bandolier/bandolierlaw01.MixBack", spec := "mixBack", named := ["bandolier/mix.rounds"], apart := false, laid := [("bandolier/mix.rounds", laid_bandolier_mix_rounds)], narrowed := true }
def MixBackUptoSaid : Prop := mixBackUptoRow.holds Tryd.pinned (OpenSpec.upto mixBackSpec)

/-- 'bandolierlaw01.MixTexts', WHERE WHAT IT READS IS OF BULK AT MOST 1048576: true; the input reads as it did. -/
def mixTextsUptoRow : OpenClaim := { program := "yteojllilcejnhaadoor", sum := "5402d59bef5d0eb011d6e772926190a3a76a5ac0390d5b8919d16c0c47247766", func := "bandolier/bandolierlaw01.MixTexts", spec := "mixTexts", named := ["bandolier/mix.rounds"], apart := false, laid := [("bandolier/mix.rounds", laid_bandolier_mix_rounds)], narrowed := true }
def MixTextsUptoSaid : Prop := mixTextsUptoRow.holds Tryd.pinned (OpenSpec.upto mixTextsSpec)

/-- 'bandolierlaw01.MixPairs', WHERE WHAT IT READS IS OF BULK AT MOST 1048576: true; the input reads as it did. -/
def mixPairsUptoRow : OpenClaim := { program := "yteojllilcejnhaadoor", sum := "5402d59bef5d0eb011d6e772926190a3a76a5ac0390d5b8919d16c0c47247766", func := "bandolier/bandolierlaw01.MixPairs", spec := "mixPairs", named := ["bandolier/mix.rounds"], apart := false, laid := [("bandolier/mix.rounds", laid_bandolier_mix_rounds)], narrowed := true }
def MixPairsUptoSaid : Prop := mixPairsUptoRow.holds Tryd.pinned (OpenSpec.upto mixPairsSpec)

end Rows
end Go.Proofs.YteojllilcejnhaaDoor
