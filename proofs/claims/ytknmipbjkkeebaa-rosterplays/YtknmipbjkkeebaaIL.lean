/- Lists: what is put in the middle of a row, in place and anew. -/
import Derived.WalkKit
namespace Go.Proofs.Ytknmipbjkkeebaa
theorem ins_row {α : Type} (cur xs c : List α) (a s m : Nat) (ha : a ≤ m) (hm : m + s ≤ cur.length) (hx : cur.take m = xs) (hc : c.length = s) (A1 A2 : List α)
    (h1 : A1 = cur.take (a + s) ++ xs.drop a ++ cur.drop (a + s + (m - a))) (h2 : A2 = A1.take a ++ c ++ A1.drop (a + s)) :
    A2.take (m + s) = xs.take a ++ c ++ xs.drop a ∧ A1.length = cur.length ∧ A2.length = cur.length := by
  have hxl : xs.length = m := by rw [← hx, List.length_take]; omega
  have hxd : (xs.drop a).length = m - a := by rw [List.length_drop, hxl]
  have hl1 : A1.length = cur.length := by
    rw [h1, List.length_append, List.length_append, List.length_take, hxd, List.length_drop]; omega
  have t1 : A1.take a = xs.take a := by
    rw [h1, List.append_assoc, List.take_append_of_le_length (by rw [List.length_take]; omega), List.take_take, ← hx, List.take_take]
    congr 1; omega
  have t2 : A1.drop (a + s) = xs.drop a ++ cur.drop (a + s + (m - a)) := by
    have e : (cur.take (a + s)).length = a + s := by rw [List.length_take]; omega
    rw [h1, List.append_assoc, List.drop_append_of_le_length (by omega), List.drop_eq_nil_of_le (by omega), List.nil_append]
  have hl2 : A2.length = cur.length := by
    rw [h2, List.length_append, List.length_append, List.length_take, List.length_drop, hc, hl1]; omega
  refine ⟨?_, hl1, hl2⟩
  have e3 : (xs.take a ++ c ++ xs.drop a).length = m + s := by rw [List.length_append, List.length_append, List.length_take, hxd, hxl, hc]; omega
  rw [h2, t1, t2, ← List.append_assoc, List.take_append_of_le_length (by omega), List.take_of_length_le (by omega)]
theorem ins_new {α : Type} (xs c Z : List α) (a s m G : Nat) (ha : a ≤ m) (hxl : xs.length = m) (hc : c.length = s) (hZ : Z.length = G - a) (hG : m + s ≤ G) (R A1 A2 : List α)
    (hR : R = xs.take a ++ Z) (h1 : A1 = R.take a ++ c ++ R.drop (a + s)) (h2 : A2 = A1.take (a + s) ++ xs.drop a ++ A1.drop (a + s + (m - a))) :
    A2.take (m + s) = xs.take a ++ c ++ xs.drop a ∧ R.length = G ∧ A1.length = G ∧ A2.length = G := by
  have hxt : (xs.take a).length = a := by rw [List.length_take, hxl]; omega
  have hxd : (xs.drop a).length = m - a := by rw [List.length_drop, hxl]
  have hRl : R.length = G := by rw [hR, List.length_append, hxt, hZ]; omega
  have hl1 : A1.length = G := by
    rw [h1, List.length_append, List.length_append, List.length_take, hc, List.length_drop, hRl]; omega
  have hl2 : A2.length = G := by
    rw [h2, List.length_append, List.length_append, List.length_take, hxd, List.length_drop, hl1]; omega
  have t0 : R.take a = xs.take a := by
    rw [hR, List.take_append_of_le_length (by omega), List.take_of_length_le (by omega)]
  have e1 : (xs.take a ++ c).length = a + s := by rw [List.length_append, hxt, hc]
  have t1 : A1.take (a + s) = xs.take a ++ c := by
    rw [h1, t0, List.take_append_of_le_length (by omega), List.take_of_length_le (by omega)]
  refine ⟨?_, hRl, hl1, hl2⟩
  have e3 : (xs.take a ++ c ++ xs.drop a).length = m + s := by rw [List.length_append, e1, hxd]; omega
  rw [h2, t1, List.take_append_of_le_length (by omega), List.take_of_length_le (by omega)]
end Go.Proofs.Ytknmipbjkkeebaa
