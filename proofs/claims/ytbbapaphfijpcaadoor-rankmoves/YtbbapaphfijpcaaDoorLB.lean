/- A slice of numbers that came in, as the walks read it. -/
import Derived.Test.YtbbapaphfijpcaaDoorL
import Derived.Test.YtbbapaphfijpcaaDoorD
import Derived.ChangeSlices
namespace Go.Proofs.YtbbapaphfijpcaaDoor
open Go.ChangeShapes Go.WideShapes Go.ChangeAt Go.WideMaps Go.WideElems Go.RowKit Go.Deep
theorem addr_none {w : World} {a : Addr} {v : Value} (h : w.cell? a = some v) : a.spot = none := by
  unfold World.cell? at h
  split at h
  · split at h
    · cases h
    · rename_i hs
      simpa using hs
  · cases h
theorem rd_open {H : Type} {enc : TypeId × Value → H} {W : World} {spare : Nat → Bool} {held : Bool} {ao : Option Addr} {n cap : Nat} {d : DataW H} {p : List MemPlace}
    (h : DataW.Trod enc Tryd.prog W 0 spare held 22 (.slice ao n cap) d p) : ∃ l, Rd (.slice ao n cap) l W ∧ l.length ≤ 9223372036854775807 := by
  obtain ⟨fuel, hf⟩ := h
  rcases Go.ChangeShapes.open_ints Tryd.underlying22 Tryd.underlying3 (by kernel_rfl) (by simpa [Value.cells] using hf) with ⟨hcs, -⟩ | ⟨a, len, cap', zs, hcs, -, hl, hm, hlen, hx, hel, hsz⟩
  · simp at hcs
    obtain ⟨rfl, rfl, rfl⟩ := hcs
    exact ⟨[], ⟨_, _, rfl, Nat.le_refl _, fun h => absurd h (Nat.lt_irrefl _)⟩, by decide⟩
  · simp at hcs
    obtain ⟨rfl, rfl, rfl⟩ := hcs
    have hnm : n ≤ zs.length := by rw [hlen]; split <;> omega
    have hz : (zs.take n).length = n := by rw [List.length_take]; omega
    refine ⟨zs.take n, ⟨some a, cap, by rw [hz], by rw [hz]; exact hl, fun hpos => ?_⟩, by rw [hz]; unfold maxLen at hm; omega⟩
    rw [hz] at hpos ⊢
    have h0 := hel 0 (by omega)
    have hsp := addr_none h0
    obtain ⟨ab, aoff, asp⟩ := a
    obtain rfl : asp = none := hsp
    refine ⟨ab, aoff, rfl, ?_, fun j hj => ?_⟩
    · have := World.block_lt_of_cell? W _ h0
      exact this
    · have := hel j (by omega)
      rw [Addr.add_lit] at this
      rw [this]
      congr 2
      simp [List.getD, List.getElem?_take, hj]
end Go.Proofs.YtbbapaphfijpcaaDoor
