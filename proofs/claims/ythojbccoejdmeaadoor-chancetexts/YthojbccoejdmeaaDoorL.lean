/- The given rows' conditions opened: where the library's listed tables read as the text lays them, the cell of the table of 64 places that base 16 asks for holds 4; no other condition. -/
import Derived.Test.YthojbccoejdmeaaDoorE2
import Derived.ProofKit
import Derived.LaidMore
import Derived.OpenShut
import Derived.Stop.Joined
import Derived.Deep.Strs
namespace Go.Proofs.YthojbccoejdmeaaDoor
open Go.ChangeShapes Go.WideShapes Go.ChangeAt Go.WideMaps Go.WideElems Go.RowKit Go.Deep

theorem own : ownKnob Tryd.prog.godebug = none := by kernel_rfl
theorem gTab : Tryd.prog.globalNamed "math/bits.deBruijn64tab" = some 6 := by kernel_rfl
theorem tTab : (Tryd.prog.globals[6]?).map (·.type) = some 108 := by kernel_rfl
theorem cells5 : Tryd.prog.cellsOf 5 = 1 := by kernel_rfl

def laidL : List (String × DataW Unit) := [("math/bits.deBruijn32tab", Rows.laid_math_bits_deBruijn32tab), ("math/bits.deBruijn64tab", Rows.laid_math_bits_deBruijn64tab), ("internal/strconv.uint64pow10", Rows.laid_internal_strconv_uint64pow10)]

set_option maxRecDepth 100000 in
theorem door_met (os : Os) (args : Array Value) : laidMetH Tryd.prog laidL ((World.doorLaid Tryd.prog 4000 os).forCall (fun _ _ => 0) ⟨#[], args, []⟩).memory :=
  laidMetH_of_parts3 (fuel := 8) (laidMet_of_run' 8 (by kernel_rfl) (by kernel_rfl)) (by kernel_rfl) (by kernel_rfl)

set_option maxRecDepth 100000 in
theorem laid15 : ∃ l : List (DataW Unit), Rows.laid_math_bits_deBruijn64tab = .agg l ∧ l[15]? = some (.lit (.int .u8 4)) := ⟨_, rfl, rfl⟩

set_option maxRecDepth 100000 in
theorem tab_of {W : World} {g t : Nat} {cs : Array Value} {fuel : Nat} {p : List MemPlace} (hg : Tryd.prog.globalNamed "math/bits.deBruijn64tab" = some g) (ht : (Tryd.prog.globals[g]?).map (·.type) = some t)
    (hv : W.var? Tryd.prog "math/bits.deBruijn64tab" = some cs) (hd : DataW.trod (fun _ => ()) Tryd.prog W 0 (fun _ => true) false fuel t cs.toList = some (Rows.laid_math_bits_deBruijn64tab, p)) : Tab W := by
  obtain rfl := Option.some.inj (gTab.symm.trans hg)
  obtain rfl := Option.some.inj (tTab.symm.trans ht)
  have hcell := World.var?_cell hg hv
  obtain ⟨xs, m, _, hx, hlen, hn, hel⟩ := DataW.trod_array Tryd.underlying108 hd
  obtain ⟨l, el, hl⟩ := laid15
  have hx1 : DataW.agg l = .agg (xs.map (·.1)) := by rw [← el]; exact congrArg Prod.fst hx
  injection hx1 with hx1
  rw [hx1, List.getElem?_map] at hl
  have r := hel 15 (by decide)
  rw [cells5] at r
  cases hy : xs[15]? with
  | none => rw [hy] at hl; cases hl
  | some y =>
    rw [hy] at hl r
    obtain ⟨n, e0, e1, _⟩ := DataW.trod_int Tryd.underlying5 r
    have e2 : y.1 = .lit (.int .u8 4) := by simpa using hl
    rw [e1] at e2
    simp at e2
    subst e2
    have hc : cs[15]? = some (.int .u8 4) := by
      rw [← Array.getElem?_toList]
      have := congrArg (fun l => l[0]?) e0
      simpa using this
    have h15 := (hcell 15).trans hc
    refine ⟨h15, ?_⟩
    rcases Nat.lt_or_ge 6 W.heap.size with h0 | h0
    · exact h0
    · rw [World.cell?] at h15
      have : W.heap[6]? = none := Array.getElem?_eq_none h0
      simp [this] at h15

theorem of_laid {W : World} (h : laidMetH Tryd.prog laidL W) : Tab W := by
  rw [MakeChecks.laidMetH_plain _ _ _ (by kernel_rfl)] at h
  obtain ⟨ps, ⟨g0, t0, cs0, f0, p0, q0, hg0, ht0, hv0, hd0, ⟨g1, t1, cs1, f1, p1, q1, hg1, ht1, hv1, hd1, _, _⟩, _⟩, _, _⟩ := h
  exact tab_of hg1 ht1 hv1 hd1
end Go.Proofs.YthojbccoejdmeaaDoor
