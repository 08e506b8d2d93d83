/- A payload's sectors, and what is read of them: the payload. -/
import Derived.Test.YtncfbocbigdhiaaGreatGR
namespace Go.Proofs.YtncfbocbigdhiaaGreat
open Go.RowKit
theorem secP_split (x : ByteArray) : ∀ n i, i < n → ∃ r, secP x n = secP x i ++ ((68 :: (ppart x i).data.toList) ++ r)
  | 0, i, h => absurd h (Nat.not_lt_zero _)
  | n + 1, i, h => by
    rcases Nat.lt_or_ge i n with h1 | h1
    · obtain ⟨r, hr⟩ := secP_split x n i h1
      refine ⟨r ++ (68 :: (ppart x n).data.toList), ?_⟩
      rw [secP, hr]; simp
    · obtain rfl : i = n := by omega
      exact ⟨[], by rw [secP]; simp⟩
theorem secP_mk (x : ByteArray) (n i : Nat) (hi : i < n) (hx : 63 * n ≤ x.size) : Mk (O.tx (secP x n)) i := by
  obtain ⟨r, hr⟩ := secP_split x n i hi
  have hl := secP_length x i (by omega)
  unfold Mk
  rw [hr]
  show ((secP x i ++ ((68 :: (ppart x i).data.toList) ++ r)).toArray)[64 * i]? = some 68
  rw [List.getElem?_toArray, List.getElem?_append_right (by omega), hl]
  simp
theorem secP_part (x : ByteArray) (n i : Nat) (hi : i < n) (hx : 63 * n ≤ x.size) : spart (O.tx (secP x n)) i = ppart x i := by
  obtain ⟨r, hr⟩ := secP_split x n i hi
  have hl := secP_length x i (by omega)
  have hp : (ppart x i).data.toList.length = 63 := by rw [← O.size_list]; exact ppart_size x i (by omega)
  apply ByteArray.ext
  apply Array.toList_inj.1
  unfold spart
  rw [hr]
  rw [ByteArray.data_extract]
  show (((secP x i ++ ((68 :: (ppart x i).data.toList) ++ r)).toArray).extract (64 * i + 1) (64 * i + 64)).toList = _
  rw [List.extract_toArray]
  show List.extract _ _ _ = _
  rw [List.extract_eq_take_drop]
  have e : 64 * i + 64 - (64 * i + 1) = 63 := by omega
  rw [e, List.drop_append, hl]
  have e2 : 64 * i + 1 - 64 * i = 1 := by omega
  rw [e2, List.drop_of_length_le (by omega), List.nil_append]
  show List.take 63 ((ppart x i).data.toList ++ r) = _
  rw [List.take_append_of_le_length (by omega), List.take_of_length_le (by omega)]
theorem payL_secP (x : ByteArray) (n : Nat) (hx : 63 * n ≤ x.size) : ∀ k, k ≤ n → payL (O.tx (secP x n)) k = x.data.toList.take (63 * k)
  | 0, _ => by simp [payL]
  | k + 1, h => by
    rw [payL, payL_secP x n hx k (by omega), secP_part x n k (by omega) hx]
    unfold ppart
    rw [ByteArray.data_extract, Array.toList_extract, List.extract_eq_take_drop]
    have e : 63 * (k + 1) = 63 * k + 63 := by omega
    have e2 : 63 * k + 63 - 63 * k = 63 := by omega
    rw [e, e2, List.take_add]
theorem rdp_secP (x : ByteArray) (n : Nat) (hx : x.size = 63 * n) : rdp (O.tx (secP x n)) n = x := by
  unfold rdp
  rw [if_pos (fun i hi => secP_mk x n i hi (by omega)), payL_secP x n (by omega) n (Nat.le_refl _), List.take_of_length_le (by rw [← O.size_list]; omega)]
  rfl
end Go.Proofs.YtncfbocbigdhiaaGreat
