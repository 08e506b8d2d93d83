/- The law OctetLow as a call: for any number and any two counts it returns true, and nothing that was in memory is changed. -/
import Derived.Test.YtncfbocbigdhiaaGreatOV
namespace Go.Proofs.YtncfbocbigdhiaaGreat.O
set_option maxRecDepth 100000
set_option maxRecDepth 100000
set_option maxRecDepth 100000
open Go.RowKit

theorem numB_get (x k j : Nat) (hj : j < k) : (numB x k)[j]? = some (UInt8.ofNat (x / 256 ^ (k - 1 - j))) := by
  induction k generalizing j with
  | zero => omega
  | succ k ih =>
    simp only [numB]
    cases j with
    | zero => simp
    | succ j =>
      rw [List.getElem?_cons_succ, ih j (by omega)]
      congr 4; omega
theorem bn_numB (x k j : Nat) (r : List UInt8) (hj : j < k) : bn (tx (numB x k ++ r)) j = x / 256 ^ (k - 1 - j) % 256 := by
  rw [bn_tx, List.getElem?_append_left (by rw [numB_length]; exact hj), numB_get x k j hj]
  simp
theorem nv_numB (x k j : Nat) (r : List UInt8) (hj : j ≤ k) : nv (tx (numB x k ++ r)) j = x / 256 ^ (k - j) % 256 ^ j := by
  induction j with
  | zero => simp [nv, Nat.mod_one]
  | succ j ih =>
    simp only [nv]
    rw [ih (by omega), bn_numB x k j r (by omega)]
    have e1 : k - j = (k - (j + 1)) + 1 := by omega
    have e2 : k - 1 - j = k - (j + 1) := by omega
    rw [e1, e2, Nat.pow_succ, ← Nat.div_div_eq_div_mul, Nat.pow_succ, Nat.mul_comm (256 ^ j) 256, Nat.mod_mul]
    omega
theorem nv_all (x k : Nat) (r : List UInt8) : nv (tx (numB x k ++ r)) k = x % 256 ^ k := by
  rw [nv_numB x k k r (Nat.le_refl _), Nat.sub_self, Nat.pow_zero, Nat.div_one]
theorem extract_tx (l : List UInt8) (k : Nat) : (tx l).extract k (tx l).size = tx (l.drop k) := by
  apply ByteArray.ext
  apply Array.ext'
  have hsz := tx_size l
  simp only [ByteArray.data_extract, Array.toList_extract, List.extract_eq_take_drop]
  rw [hsz]
  simp [tx]
  exact List.take_of_length_le (by simp)
theorem zeros_rep (n : Nat) : zeros (tx (List.replicate n 0)) := by
  intro j hj
  rw [tx_size, List.length_replicate] at hj
  rw [bn_tx, List.getElem?_replicate, if_pos hj]; rfl
theorem fillN_mod (k f : Nat) (hf : 0 < f) : (k + fillN k f) % f = 0 := by
  unfold fillN
  have hlt := Nat.mod_lt k hf
  split
  · rename_i h; rw [Nat.add_zero]; exact h
  · have e := Nat.div_add_mod k f
    have : k + (f - k % f) = f * (k / f + 1) := by rw [Nat.mul_add, Nat.mul_one]; omega
    rw [this]; exact Nat.mul_mod_right ..
theorem fillN_zero (k : Nat) : fillN k 0 = 0 := by
  unfold fillN; split
  · rfl
  · omega
theorem fillN_again (k f : Nat) : fillN (k + fillN k f) f = 0 := by
  rcases Nat.eq_zero_or_pos f with h | h
  · subst h; exact fillN_zero _
  · have := fillN_mod k f h
    unfold fillN at *
    rw [if_pos this]
theorem fillN_le (k f : Nat) (hf : f ≤ 1000) : fillN k f ≤ 1000 := by
  unfold fillN; split <;> omega
theorem and_mask (x k : Nat) (hx : x < 18446744073709551616) (hk : k < 8) : bits .and .u64 (x : Int) (2 ^ (8 * k) - 1) = ((x % 256 ^ k : Nat) : Int) := by
  have h1 : (2 : Nat) ^ (8 * k) ≤ 2 ^ 56 := Nat.pow_le_pow_right (by decide) (by omega)
  have h0 : 0 < (2 : Nat) ^ (8 * k) := Nat.two_pow_pos _
  have e1 : ((2 : Int) ^ (8 * k) - 1) = ((2 ^ (8 * k) - 1 : Nat) : Int) := by
    rw [Int.natCast_sub (by omega), Int.natCast_pow]; rfl
  rw [e1, bits_and_u64_nat x (2 ^ (8 * k) - 1) hx (by have : (2 : Nat) ^ 56 < 18446744073709551616 := by decide
                                                      omega), Nat.and_two_pow_sub_one_eq_mod]
  rw [show (256 : Nat) = 2 ^ 8 by decide, ← Nat.pow_mul]

end Go.Proofs.YtncfbocbigdhiaaGreat.O
