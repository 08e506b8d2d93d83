/- A slice of texts that came in, as the walks read it. -/
import Derived.Test.YtbbapaphfijpcaaDoorLB
import Derived.SliceStrings
namespace Go.Proofs.YtbbapaphfijpcaaDoor
open Go.ChangeShapes Go.WideShapes Go.ChangeAt Go.WideMaps Go.WideElems Go.RowKit Go.Deep
theorem texts_open {H : Type} {enc : TypeId × Value → H} {W : World} {spare : Nat → Bool} {held : Bool} {ao : Option Addr} {n cap : Nat} {d : DataW H} {p : List MemPlace}
    (h1 : DataW.Trod enc Tryd.prog W 0 spare held 37 (.slice ao n cap) d p) : ∃ (b o : Nat) (ks : Nat → ByteArray), (0 < n → ao = some ⟨b, o, none⟩) ∧ (∀ j, j < n → W.cell? ⟨b, o + j, none⟩ = some (.string (ks j))) ∧ (∀ j, j < n → (ks j).size ≤ 9223372036854775807) ∧ n ≤ 9223372036854775807 := by
  obtain ⟨fuel, hf⟩ := h1
  rcases open_strings Tryd.underlying37 Tryd.underlying9 (by kernel_rfl) (by simpa [Value.cells] using hf) with ⟨hcs, -⟩ | ⟨a, len, cap', ss, hcs, -, hl, hm, hlen, hx, hel, hsz⟩
  · simp at hcs
    obtain ⟨rfl, rfl, rfl⟩ := hcs
    exact ⟨0, 0, fun _ => default, fun h => absurd h (Nat.lt_irrefl _), fun j hj => absurd hj (Nat.not_lt_zero _), fun j hj => absurd hj (Nat.not_lt_zero _), by decide⟩
  · simp at hcs
    obtain ⟨rfl, rfl, rfl⟩ := hcs
    have hnm : n ≤ ss.length := by rw [hlen]; split <;> omega
    have hn63 : n ≤ 9223372036854775807 := by unfold maxLen at hm; omega
    rcases Nat.eq_zero_or_pos n with rfl | hpos
    · exact ⟨0, 0, fun _ => default, fun h => absurd h (Nat.lt_irrefl _), fun j hj => absurd hj (Nat.not_lt_zero _), fun j hj => absurd hj (Nat.not_lt_zero _), by decide⟩
    · have hsp := addr_none (hel 0 (by omega))
      obtain ⟨ab, aoff, asp⟩ := a
      obtain rfl : asp = none := hsp
      refine ⟨ab, aoff, fun j => ss.getD j ByteArray.empty, fun _ => rfl, fun j hj => ?_, fun j hj => ?_, hn63⟩
      · have := hel j (by omega)
        rw [Addr.add_lit] at this
        exact this
      · have h9 : ss.getD j ByteArray.empty ∈ ss := by
          rw [List.getD_eq_getElem?_getD, List.getElem?_eq_getElem (by omega)]
          exact List.getElem_mem _
        have := hsz _ h9
        unfold maxLen at this
        show (ss.getD j ByteArray.empty).size ≤ _
        omega
end Go.Proofs.YtbbapaphfijpcaaDoor
