/- The given rows' conditions opened: where the listed table of rounds reads as the program's text lays it, its nine cells hold those numbers; no other condition. -/
import Derived.Test.YtbbapaphfijpcaaDoorB
import Derived.ProofKit
import Derived.LaidMore
import Derived.OpenShut
import Derived.Stop.Joined
import Derived.Deep.Strs
namespace Go.Proofs.YtbbapaphfijpcaaDoor
open Go.ChangeShapes Go.WideShapes Go.ChangeAt Go.WideMaps Go.WideElems Go.RowKit Go.Deep

theorem own : ownKnob Tryd.prog.godebug = none := by kernel_rfl
theorem gRounds : Tryd.prog.globalNamed "bandolier/mix.rounds" = some 0 := by kernel_rfl
theorem tRounds : (Tryd.prog.globals[0]?).map (·.type) = some 75 := by kernel_rfl
theorem cells28 : Tryd.prog.cellsOf 28 = 1 := by kernel_rfl
theorem cells54 : Tryd.prog.cellsOf 54 = 1 := by kernel_rfl
theorem cells74 : Tryd.prog.cellsOf 74 = 3 := by kernel_rfl
theorem cells75 : Tryd.prog.cellsOf 75 = 9 := by kernel_rfl

def laidL : List (String × DataW Unit) := [("bandolier/mix.rounds", Rows.laid_bandolier_mix_rounds)]

theorem door_met (os : Os) (args : Array Value) : laidMetH Tryd.prog laidL ((World.doorLaid Tryd.prog 400 os).forCall (fun _ _ => 0) ⟨#[], args, []⟩).memory :=
  laidMetH_of_parts3 (fuel := 8) (laidMet_of_run' 8 (by kernel_rfl) (by kernel_rfl)) (by kernel_rfl) (by kernel_rfl)

theorem struct3 {H : Type} {enc : TypeId × Value → H} {w : World} {base : Nat} {spare : Nat → Bool} {held : Bool} {fuel : Nat} {a b c : Value} {x : DataW H × List MemPlace} {p q r : Int}
    (h : DataW.trod enc Tryd.prog w base spare held fuel 74 [a, b, c] = some x) (hx : x.1 = .agg [.lit (.int .u64 p), .lit (.int .u64 q), .lit (.int .u64 r)]) :
    a = .int .u64 p ∧ b = .int .u64 q ∧ c = .int .u64 r := by
  obtain ⟨y0, y1, y2, n, rfl, _, h0, h1, h2⟩ := trod_struct3 Tryd.underlying74 h
  simp only [cells54, cells28] at h0 h1 h2
  obtain ⟨n0, e0, rfl, _⟩ := DataW.trod_int Tryd.underlying54 h0
  obtain ⟨n1, e1, rfl, _⟩ := DataW.trod_int Tryd.underlying28 h1
  obtain ⟨n2, e2, rfl, _⟩ := DataW.trod_int Tryd.underlying28 h2
  simp at e0 e1 e2 hx
  obtain ⟨rfl, rfl, rfl⟩ := hx
  exact ⟨e0, e1, e2⟩

theorem nine (l : List Value) (h : l.length = 9) : ∃ a0 a1 a2 a3 a4 a5 a6 a7 a8, l = [a0, a1, a2, a3, a4, a5, a6, a7, a8] := by
  match l, h with
  | [a0, a1, a2, a3, a4, a5, a6, a7, a8], _ => exact ⟨a0, a1, a2, a3, a4, a5, a6, a7, a8, rfl⟩
theorem three {α : Type} (l : List α) (h : l.length = 3) : ∃ a0 a1 a2, l = [a0, a1, a2] := by
  match l, h with
  | [a0, a1, a2], _ => exact ⟨a0, a1, a2, rfl⟩

theorem of_laid {W : World} (h : laidMetH Tryd.prog laidL W) : Tab W := by
  rw [MakeChecks.laidMetH_plain _ _ _ (by kernel_rfl)] at h
  obtain ⟨ps, ⟨g0, t0, cs0, f0, p0, q0, hg0, ht0, hv0, hd0, _, _⟩, _, _⟩ := h
  obtain rfl := Option.some.inj (gRounds.symm.trans hg0)
  obtain rfl := Option.some.inj (tRounds.symm.trans ht0)
  have hcell := World.var?_cell hg0 hv0
  obtain ⟨xs, m1, rfl, hx1, hlen, hn3, hel⟩ := DataW.trod_array Tryd.underlying75 hd0
  rw [cells75] at hlen
  obtain ⟨l⟩ := cs0
  obtain ⟨a0, a1, a2, a3, a4, a5, a6, a7, a8, rfl⟩ := nine l hlen
  obtain ⟨x0, x1, x2, rfl⟩ := three xs hn3
  have r0 := hel 0 (by decide)
  have r1 := hel 1 (by decide)
  have r2 := hel 2 (by decide)
  rw [cells74] at r0 r1 r2
  simp [Rows.laid_bandolier_mix_rounds] at hx1 r0 r1 r2
  obtain ⟨⟨d0, d1, d2⟩, _⟩ := hx1
  obtain ⟨rfl, rfl, rfl⟩ := struct3 r0 d0.symm
  obtain ⟨rfl, rfl, rfl⟩ := struct3 r1 d1.symm
  obtain ⟨rfl, rfl, rfl⟩ := struct3 r2 d2.symm
  exact ⟨by simpa using hcell 0, by simpa using hcell 1, by simpa using hcell 2, by simpa using hcell 3, by simpa using hcell 4, by simpa using hcell 5, by simpa using hcell 6, by simpa using hcell 7, by simpa using hcell 8⟩
end Go.Proofs.YtbbapaphfijpcaaDoor
