/- Plain facts, no Go in sight: the mixing of 64-bit numbers, written on natural numbers; that it is undone by its inverse; no conditions but that the numbers are below 2^64. -/
import Derived.WalkKit
namespace Go.Proofs.YtbbapaphfijpcaaDoor

def dn (x k : Nat) : Nat := x / 2 ^ k
def xr (a b : Nat) : Nat := a ^^^ b
def tm (a b : Nat) : Nat := a * b % 18446744073709551616
def ta (a k : Nat) : Nat := a * 2 ^ k % 18446744073709551616
def ts (a b k : Nat) : Nat := a * (b % 2 ^ k) % 18446744073709551616
def xd (x k : Nat) : Nat := xr x (dn x k)

def mixN (x : Nat) : Nat := xd (tm (xd (tm (xd x 30) 13787848793156543929) 27) 10723151780598845931) 31
def un (x k : Nat) : Nat := xd (xd x k) (k * 2)
def backN (x : Nat) : Nat := un (tm (un (tm (un (tm x 1) 31) 3573116690164977347) 27) 10871156337175269513) 30

theorem dn_zero (x : Nat) : dn x 0 = x := by simp [dn]
theorem dn_succ (x k : Nat) : dn x (k + 1) = dn x k / 2 := by
  unfold dn; rw [Nat.pow_succ, Nat.div_div_eq_div_mul]
theorem dn_lt (x k : Nat) (hx : x < 18446744073709551616) : dn x k < 18446744073709551616 :=
  Nat.lt_of_le_of_lt (Nat.div_le_self _ _) hx
theorem xr_lt (a b : Nat) (ha : a < 18446744073709551616) (hb : b < 18446744073709551616) : xr a b < 18446744073709551616 :=
  Nat.xor_lt_two_pow (n := 64) ha hb
theorem tm_lt (a b : Nat) : tm a b < 18446744073709551616 := Nat.mod_lt _ (by decide)
theorem xd_lt (x k : Nat) (hx : x < 18446744073709551616) : xd x k < 18446744073709551616 := xr_lt _ _ hx (dn_lt _ _ hx)
theorem mixN_lt (x : Nat) : mixN x < 18446744073709551616 := xd_lt _ _ (tm_lt _ _)
theorem un_lt (x k : Nat) (hx : x < 18446744073709551616) : un x k < 18446744073709551616 := xd_lt _ _ (xd_lt _ _ hx)
theorem backN_lt (x : Nat) : backN x < 18446744073709551616 := un_lt _ _ (tm_lt _ _)

theorem ta_zero (a : Nat) (ha : a < 18446744073709551616) : ta a 0 = a := by unfold ta; omega
theorem ts_zero (a b : Nat) : ts a b 0 = 0 := by simp [ts, Nat.mod_one]
theorem ta_lt (a k : Nat) : ta a k < 18446744073709551616 := Nat.mod_lt _ (by decide)
theorem ts_lt (a b k : Nat) : ts a b k < 18446744073709551616 := Nat.mod_lt _ (by decide)
theorem ta_succ (a k : Nat) : ta a (k + 1) = (ta a k + ta a k) % 18446744073709551616 := by
  unfold ta
  rw [Nat.pow_succ, ← Nat.mul_assoc]; omega
theorem ts_succ0 (a b k : Nat) (h : dn b k % 2 = 0) : ts a b (k + 1) = ts a b k := by
  unfold ts dn at *
  have e : b % 2 ^ (k + 1) = b % 2 ^ k := by
    rw [Nat.pow_succ, Nat.mod_mul, h]; simp
  rw [e]
theorem ts_succ1 (a b k : Nat) (h : dn b k % 2 = 1) : ts a b (k + 1) = (ts a b k + ta a k) % 18446744073709551616 := by
  unfold ts ta dn at *
  have e : b % 2 ^ (k + 1) = b % 2 ^ k + 2 ^ k := by
    rw [Nat.pow_succ, Nat.mod_mul, h]; simp
  rw [e, Nat.mul_add]; omega
theorem ts_end (a b : Nat) (hb : b < 18446744073709551616) : ts a b 64 = tm a b := by
  unfold ts tm
  rw [Nat.mod_eq_of_lt (show b < 2 ^ 64 from hb)]

/-! ### undone -/
theorem xr_assoc (a b c : Nat) : xr (xr a b) c = xr a (xr b c) := Nat.xor_assoc _ _ _
theorem xr_comm (a b : Nat) : xr a b = xr b a := Nat.xor_comm _ _
theorem xr_self (a : Nat) : xr a a = 0 := Nat.xor_self _
theorem xr_zero (a : Nat) : xr a 0 = a := Nat.xor_zero _
theorem zero_xr (a : Nat) : xr 0 a = a := Nat.zero_xor _
theorem dn_eq (x k : Nat) : dn x k = x >>> k := by rw [dn, Nat.shiftRight_eq_div_pow]
theorem dn_xr (a b k : Nat) : dn (xr a b) k = xr (dn a k) (dn b k) := by
  simp only [dn_eq]; exact Nat.shiftRight_xor_distrib
theorem dn_dn (x j k : Nat) : dn (dn x j) k = dn x (j + k) := by
  simp only [dn_eq, Nat.shiftRight_add]
theorem dn_big (x k : Nat) (hx : x < 18446744073709551616) (hk : 64 ≤ k) : dn x k = 0 := by
  unfold dn
  exact Nat.div_eq_of_lt (Nat.lt_of_lt_of_le (show x < 2 ^ 64 from hx) (Nat.pow_le_pow_right (by decide) hk))
theorem xd_xd (x k : Nat) : xd (xd x k) k = xd x (k + k) := by
  unfold xd
  rw [dn_xr, dn_dn, xr_assoc, ← xr_assoc (dn x k), xr_self, zero_xr]
theorem xd_comm (x j k : Nat) : xd (xd x j) k = xd (xd x k) j := by
  unfold xd
  rw [dn_xr, dn_xr, dn_dn, dn_dn, Nat.add_comm k j, xr_assoc, xr_assoc, ← xr_assoc (dn x j), ← xr_assoc (dn x k), xr_comm (dn x j) (dn x k)]
theorem xd_big (x k : Nat) (hx : x < 18446744073709551616) (hk : 64 ≤ k) : xd x k = x := by
  unfold xd; rw [dn_big x k hx hk, xr_zero]
theorem un_xd (x k : Nat) (hx : x < 18446744073709551616) (hk : 16 ≤ k) : un (xd x k) k = x := by
  unfold un
  rw [xd_xd, Nat.mul_two, xd_xd, xd_big _ _ hx (by omega)]
theorem xd_un (x k : Nat) (hx : x < 18446744073709551616) (hk : 16 ≤ k) : xd (un x k) k = x := by
  unfold un
  rw [xd_comm (xd x k) (k * 2) k, xd_xd, Nat.mul_two, xd_xd, xd_big _ _ hx (by omega)]
theorem tm_tm (x a b : Nat) (hx : x < 18446744073709551616) (h : a * b % 18446744073709551616 = 1) : tm (tm x a) b = x := by
  unfold tm
  rw [Nat.mod_mul_mod, Nat.mul_assoc, Nat.mul_mod, h]
  omega
theorem back_mix (x : Nat) (hx : x < 18446744073709551616) : backN (mixN x) = x := by
  unfold backN mixN
  rw [show ∀ y, tm (xd y 31) 1 = xd y 31 % 18446744073709551616 from fun y => by simp [tm]]
  rw [Nat.mod_eq_of_lt (xd_lt _ _ (tm_lt _ _)), un_xd _ 31 (tm_lt _ _) (by decide), tm_tm _ _ _ (xd_lt _ _ (tm_lt _ _)) (by decide), un_xd _ 27 (tm_lt _ _) (by decide), tm_tm _ _ _ (xd_lt _ _ hx) (by decide), un_xd _ 30 hx (by decide)]
theorem mix_back (x : Nat) (hx : x < 18446744073709551616) : mixN (backN x) = x := by
  unfold backN mixN
  have h1 : tm x 1 = x := by simp only [tm, Nat.mul_one]; exact Nat.mod_eq_of_lt hx
  rw [xd_un _ 30 (tm_lt _ _) (by decide), tm_tm _ _ _ (un_lt _ _ (tm_lt _ _)) (by decide), xd_un _ 27 (tm_lt _ _) (by decide), tm_tm _ _ _ (un_lt _ _ (tm_lt _ _)) (by decide), xd_un _ 31 (tm_lt _ _) (by decide), h1]
theorem mix_inj (x y : Nat) (hx : x < 18446744073709551616) (hy : y < 18446744073709551616) (h : mixN x = mixN y) : x = y := by
  rw [← back_mix x hx, h, back_mix y hy]
end Go.Proofs.YtbbapaphfijpcaaDoor
