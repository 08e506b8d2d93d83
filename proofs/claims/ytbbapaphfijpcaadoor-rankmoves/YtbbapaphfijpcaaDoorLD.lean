/- A Move that came in, as the walk reads it. -/
import Derived.Test.YtbbapaphfijpcaaDoorLC
import Derived.Lib.SmallJoins
namespace Go.Proofs.YtbbapaphfijpcaaDoor
open Go.ChangeShapes Go.WideShapes Go.ChangeAt Go.WideMaps Go.WideElems Go.RowKit Go.Deep
theorem rd_open1 {H : Type} {enc : TypeId × Value → H} {W : World} {spare : Nat → Bool} {held : Bool} {fuel : Nat} {c : Value} {x : DataW H × List MemPlace}
    (h : DataW.trod enc Tryd.prog W 0 spare held fuel 22 [c] = some x) : ∃ ao n cap l, c = .slice ao n cap ∧ Rd (.slice ao n cap) l W ∧ l.length ≤ 9223372036854775807 := by
  rcases open_ints Tryd.underlying22 Tryd.underlying3 (by kernel_rfl) h with ⟨hcs, -⟩ | ⟨a, len, cap', zs, hcs, -⟩
  · simp at hcs
    subst hcs
    obtain ⟨l, h1, h2⟩ := rd_open (ao := none) (n := 0) (cap := 0) ⟨fuel, by simpa [Value.cells] using h⟩
    exact ⟨none, 0, 0, l, rfl, h1, h2⟩
  · simp at hcs
    subst hcs
    obtain ⟨l, h1, h2⟩ := rd_open (ao := some a) (n := len) (cap := cap') ⟨fuel, by simpa [Value.cells] using h⟩
    exact ⟨some a, len, cap', l, rfl, h1, h2⟩
end Go.Proofs.YtbbapaphfijpcaaDoor
