/- Plain facts, no Go in sight: the sum of bytes (32 bits, bit by bit) written on natural numbers; that it is linear, and that it tells up to 32 bits one behind the other; no conditions but that numbers are below 2^32 and bytes below 2^8. -/
import Derived.WalkKit
namespace Go.Proofs.YtncfbocbigdhiaaGreat.S
set_option maxRecDepth 100000
set_option maxRecDepth 100000
set_option maxRecDepth 100000

def xr (a b : Nat) : Nat := a ^^^ b
theorem xr_assoc (a b c : Nat) : xr (xr a b) c = xr a (xr b c) := Nat.xor_assoc _ _ _
theorem xr_comm (a b : Nat) : xr a b = xr b a := Nat.xor_comm _ _
theorem xr_self (a : Nat) : xr a a = 0 := Nat.xor_self _
theorem xr_zero (a : Nat) : xr a 0 = a := Nat.xor_zero _
theorem zero_xr (a : Nat) : xr 0 a = a := Nat.zero_xor _
theorem xr_swap (a b c d : Nat) : xr (xr a b) (xr c d) = xr (xr a c) (xr b d) := by
  rw [xr_assoc, ← xr_assoc b c d, xr_comm b c, xr_assoc c b d, ← xr_assoc a c]
theorem xr_lt (a b : Nat) (ha : a < 4294967296) (hb : b < 4294967296) : xr a b < 4294967296 :=
  Nat.xor_lt_two_pow (n := 32) ha hb
theorem xr_half (a b : Nat) : xr a b / 2 = xr (a / 2) (b / 2) := by
  have : (a ^^^ b) >>> 1 = a >>> 1 ^^^ b >>> 1 := Nat.shiftRight_xor_distrib
  simpa [xr, Nat.shiftRight_succ] using this
theorem xr_odd (a b : Nat) : xr a b % 2 = (a % 2 + b % 2) % 2 := by
  unfold xr
  have h := Nat.xor_mod_two_pow (a := a) (b := b) (n := 1)
  simp at h
  rw [h]
  rcases Nat.mod_two_eq_zero_or_one a with h1 | h1 <;> rcases Nat.mod_two_eq_zero_or_one b with h2 | h2 <;> rw [h1, h2] <;> rfl
theorem xr_back (a b : Nat) : xr (xr a b) b = a := by rw [xr_assoc, xr_self, xr_zero]
theorem xr_eq_zero (a b : Nat) : xr a b = 0 ↔ a = b := by
  constructor
  · intro h; rw [← xr_back a b, h, zero_xr]
  · intro h; rw [h, xr_self]

def sh (x : Nat) : Nat := if x % 2 = 1 then xr (x / 2) 2197175160 else x / 2
theorem sh_lt (x : Nat) (hx : x < 4294967296) : sh x < 4294967296 := by
  unfold sh; split
  · exact xr_lt _ _ (by omega) (by decide)
  · omega
theorem sh_xr (a b : Nat) : sh (xr a b) = xr (sh a) (sh b) := by
  unfold sh
  rw [xr_odd, xr_half]
  rcases Nat.mod_two_eq_zero_or_one a with h1 | h1 <;> rcases Nat.mod_two_eq_zero_or_one b with h2 | h2 <;> rw [h1, h2] <;> simp
  · rw [xr_assoc]
  · rw [xr_assoc, xr_assoc, xr_comm (b / 2)]
  · rw [xr_swap, xr_self, xr_zero]
theorem sh_zero (x : Nat) (hx : x < 4294967296) (h : sh x = 0) : x = 0 := by
  unfold sh at h
  split at h
  · have := (xr_eq_zero _ _).1 h; omega
  · omega
theorem sh_double (x : Nat) : sh (2 * x) = x := by
  unfold sh; rw [if_neg (by omega)]; omega

def it : Nat → Nat → Nat
  | 0, x => x
  | k + 1, x => sh (it k x)
theorem it_add (j k x : Nat) : it (j + k) x = it j (it k x) := by
  induction j with
  | zero => simp [it]
  | succ j ih => rw [Nat.succ_add, it, it, ih]
theorem it_lt (k x : Nat) (hx : x < 4294967296) : it k x < 4294967296 := by
  induction k with
  | zero => exact hx
  | succ k ih => exact sh_lt _ ih
theorem it_xr (k a b : Nat) : it k (xr a b) = xr (it k a) (it k b) := by
  induction k with
  | zero => rfl
  | succ k ih => rw [it, it, it, ih, sh_xr]
theorem it_zero (k : Nat) : it k 0 = 0 := by
  induction k with
  | zero => rfl
  | succ k ih => rw [it, ih]; rfl
theorem it_nonzero (k x : Nat) (hx : x < 4294967296) (h : it k x = 0) : x = 0 := by
  induction k with
  | zero => exact h
  | succ k ih => exact ih (sh_zero _ (it_lt k x hx) h)
theorem it_pow (k x : Nat) : it k (2 ^ k * x) = x := by
  induction k generalizing x with
  | zero => simp [it]
  | succ k ih => rw [it, show 2 ^ (k + 1) * x = 2 ^ k * (2 * x) by rw [Nat.pow_succ, Nat.mul_assoc], ih, sh_double]

/-- A byte xored in, and moved through: of a text's bytes f, k of them. -/
def st (f : Nat → Nat) (x : Nat) : Nat → Nat
  | 0 => x
  | k + 1 => it 8 (xr (st f x k) (f k))
theorem st_lt (f : Nat → Nat) (hf : ∀ j, f j < 256) (x : Nat) (hx : x < 4294967296) : ∀ k, st f x k < 4294967296
  | 0 => hx
  | k + 1 => it_lt _ _ (xr_lt _ _ (st_lt f hf x hx k) (Nat.lt_trans (hf k) (by decide)))
theorem st_congr (f g : Nat → Nat) (x : Nat) : ∀ k, (∀ j, j < k → f j = g j) → st f x k = st g x k
  | 0, _ => rfl
  | k + 1, h => by rw [st, st, st_congr f g x k (fun j hj => h j (by omega)), h k (by omega)]
theorem st_xr (f g : Nat → Nat) (x y : Nat) : ∀ k, xr (st f x k) (st g y k) = st (fun j => xr (f j) (g j)) (xr x y) k
  | 0 => rfl
  | k + 1 => by rw [st, st, st, ← st_xr f g x y k, ← it_xr, xr_swap]
theorem st_add (f : Nat → Nat) (x j k : Nat) : st f x (j + k) = st (fun i => f (j + i)) (st f x j) k := by
  induction k with
  | zero => rfl
  | succ k ih => rw [← Nat.add_assoc, st, st, ih]
theorem st_none (f : Nat → Nat) (x : Nat) : ∀ k, (∀ j, j < k → f j = 0) → st f x k = it (8 * k) x
  | 0, _ => rfl
  | k + 1, h => by
    rw [st, st_none f x k (fun j hj => h j (by omega)), h k (by omega), xr_zero, ← it_add]
    congr 1; omega

/-! ### the document's own way, bit by bit -/
def rs (x b : Nat) : Nat → Nat
  | 0 => x
  | k + 1 => if rs x b k % 2 = b / 2 ^ k % 2 then rs x b k / 2 else xr (rs x b k / 2) 2197175160
theorem rs_it (x b : Nat) : ∀ k, xr (rs x b k) (b / 2 ^ k) = it k (xr x b)
  | 0 => by simp [rs, it]
  | k + 1 => by
    rw [it, ← rs_it x b k, rs]
    unfold sh
    rw [xr_odd, xr_half, show b / 2 ^ (k + 1) = b / 2 ^ k / 2 by rw [Nat.pow_succ, Nat.div_div_eq_div_mul]]
    by_cases h : rs x b k % 2 = b / 2 ^ k % 2
    · rw [if_pos h, if_neg (by omega)]
    · rw [if_neg h, if_pos (by omega), xr_assoc, xr_assoc, xr_comm 2197175160]
theorem rs_lt (x b : Nat) (hx : x < 4294967296) : ∀ k, rs x b k < 4294967296
  | 0 => hx
  | k + 1 => by
    have := rs_lt x b hx k
    rw [rs]; split
    · omega
    · exact xr_lt _ _ (by omega) (by decide)
theorem rs_8 (x b : Nat) (hb : b < 256) : rs x b 8 = it 8 (xr x b) := by
  rw [← rs_it, Nat.div_eq_of_lt (by omega), xr_zero]

/-! ### turned -/
theorem turn_sub (x : Nat) (hx : x < 4294967296) : 4294967295 - x = xr 4294967295 x := by
  unfold xr
  have h : (4294967295 ^^^ x : Nat) = 2 ^ 32 - 1 - x := by
    have := BitVec.toNat_not (x := BitVec.ofNat 32 x)
    rw [← BitVec.allOnes_xor] at this
    simpa [Nat.mod_eq_of_lt (show x < 2 ^ 32 from hx)] using this
  omega

/-! ### what four bytes do -/
theorem xr_add (a r : Nat) (ha : a < 256) : a + 256 * r = xr a (256 * r) := by
  unfold xr
  apply Nat.eq_of_testBit_eq
  intro i
  rw [Nat.testBit_xor, show a + 256 * r = 2 ^ 8 * r + a by omega, Nat.testBit_two_pow_mul_add r (show a < 2 ^ 8 from ha), show 256 * r = 2 ^ 8 * r by omega, Nat.testBit_two_pow_mul]
  by_cases h : i < 8
  · simp [h, show ¬ 8 ≤ i by omega]
  · have : a.testBit i = false := Nat.testBit_lt_two_pow (Nat.lt_of_lt_of_le (show a < 2 ^ 8 from ha) (Nat.pow_le_pow_right (by decide) (by omega)))
    simp [h, this]; omega
theorem it_byte (a r : Nat) (ha : a < 256) : it 8 (a + 256 * r) = xr (it 8 a) r := by
  rw [xr_add a r ha, it_xr, show 256 * r = 2 ^ 8 * r by omega, it_pow]
theorem it_step (k x y a r : Nat) (ha : a < 256) (hy : y = a + 256 * r) : it (k + 8) (xr x y) = it k (xr (it 8 (xr x a)) r) := by
  rw [it_add, it_xr, hy, it_byte a r ha, ← xr_assoc, ← it_xr]
theorem it_eq {j k : Nat} (h : j = k) (x : Nat) : it j x = it k x := by rw [h]
theorem st_four (v : Nat) (hv : v < 4294967296) (f : Nat → Nat) (hf : ∀ j, j < 4 → f j = v / 2 ^ (8 * j) % 256) : st f 0 4 = it 32 v := by
  have f0 : f 0 = v % 256 := by simpa using hf 0 (by decide)
  have f1 : f 1 = v / 256 % 256 := by simpa using hf 1 (by decide)
  have f2 : f 2 = v / 65536 % 256 := by simpa using hf 2 (by decide)
  have f3 : f 3 = v / 16777216 := by rw [hf 3 (by decide)]; exact Nat.mod_eq_of_lt (by omega)
  have i0 : it 32 (xr 0 v) = it 24 (xr (it 8 (xr 0 (f 0))) (v / 256)) := it_step 24 0 v (f 0) (v / 256) (by omega) (by omega)
  have i1 : it 24 (xr (it 8 (xr 0 (f 0))) (v / 256)) = it 16 (xr (it 8 (xr (it 8 (xr 0 (f 0))) (f 1))) (v / 65536)) := it_step 16 _ (v / 256) (f 1) (v / 65536) (by omega) (by omega)
  have i2 : it 16 (xr (it 8 (xr (it 8 (xr 0 (f 0))) (f 1))) (v / 65536)) = it 8 (xr (it 8 (xr (it 8 (xr (it 8 (xr 0 (f 0))) (f 1))) (f 2))) (f 3)) := by
    rw [f3]; exact it_step 8 _ (v / 65536) (f 2) (v / 16777216) (by omega) (by omega)
  rw [← zero_xr v, i0, i1, i2]
  rfl
end Go.Proofs.YtncfbocbigdhiaaGreat.S
