/- Plain facts on the bits of numbers with a point, of 64 bits: what they are worth, that their order is the order of that worth, and that a draw times 2^-53 is exact; nothing of the program is said here. -/
import Ieee.Arith
import Derived.Laws.FloatBits
namespace Go.Proofs.YthojbccoejdmeaaDoor

def infR : Nat := 9218868437227405312
def topB : Nat := 9223372036854775808
def one : Nat := 4607182418800017408
def binR : Nat := 4503599627370496
def rg (x : Nat) : Nat := x % topB
def sgn (x : Nat) : Bool := x / topB % 2 == 1
def nan (x : Nat) : Prop := infR < rg x
def pw (e : Nat) : Nat := 2 ^ e
def V (r : Nat) : Nat := if r < binR then r else (binR + r % binR) * pw (r / binR - 1)
def sv (x : Nat) : Int := if sgn x then -(V (rg x) : Int) else (V (rg x) : Int)

theorem pw_pos (e : Nat) : 0 < pw e := Nat.two_pow_pos e
theorem pw_succ (e : Nat) : pw (e + 1) = 2 * pw e := by unfold pw; rw [Nat.pow_succ]; omega
theorem pw_add (a b : Nat) : pw (a + b) = pw a * pw b := by unfold pw; exact Nat.pow_add ..
theorem pw_zero : pw 0 = 1 := rfl
theorem pw_le {a b : Nat} (h : a ≤ b) : pw a ≤ pw b := Nat.pow_le_pow_right (by decide) h

theorem V_kept (a k : Nat) (hk : k ≤ 2 * binR) (h : a = 0 ∨ binR ≤ k) : V (a * binR + k) = k * pw a := by
  unfold V
  have hb : binR = 4503599627370496 := rfl
  by_cases h1 : k < binR
  · obtain rfl : a = 0 := by omega
    simp [h1, pw_zero]
  · have h2 : ¬ a * binR + k < binR := by omega
    rw [if_neg h2]
    by_cases h3 : k = 2 * binR
    · subst h3
      have e1 : (a * binR + 2 * binR) / binR = a + 2 := by
        rw [← Nat.add_mul]; exact Nat.mul_div_cancel _ (by decide)
      have e2 : (a * binR + 2 * binR) % binR = 0 := by
        rw [← Nat.add_mul]; exact Nat.mul_mod_left ..
      rw [e1, e2]
      have : a + 2 - 1 = a + 1 := by omega
      rw [this, pw_succ, Nat.add_zero]
      rw [Nat.mul_comm 2 binR, Nat.mul_assoc]
    · have e1 : (a * binR + k) / binR = a + 1 := by
        have : a * binR + k = (k - binR) + (a + 1) * binR := by rw [Nat.add_mul]; omega
        rw [this, Nat.add_mul_div_right _ _ (by decide), Nat.div_eq_of_lt (by omega)]; omega
      have e2 : (a * binR + k) % binR = k - binR := by
        have : a * binR + k = (k - binR) + (a + 1) * binR := by rw [Nat.add_mul]; omega
        rw [this, Nat.add_mul_mod_self_right, Nat.mod_eq_of_lt (by omega)]
      rw [e1, e2]
      have : binR + (k - binR) = k := by omega
      rw [this]; rfl

theorem V_succ (r : Nat) : V r < V (r + 1) := by
  have hb : binR = 4503599627370496 := rfl
  have hr : r = r / binR * binR + r % binR := (Nat.div_add_mod' ..).symm
  have hlt : r % binR < binR := Nat.mod_lt _ (by decide)
  rcases Nat.eq_zero_or_pos (r / binR) with h0 | h0
  · have e0 : V r = r := by
      have : r < binR := by rw [h0] at hr; omega
      unfold V; rw [if_pos this]
    have e1 : V (0 * binR + (r + 1)) = (r + 1) * pw 0 := V_kept 0 (r + 1) (by rw [h0] at hr; omega) (Or.inl rfl)
    rw [Nat.zero_mul, Nat.zero_add, pw_zero, Nat.mul_one] at e1
    omega
  · obtain ⟨a, ha⟩ : ∃ a, r / binR = a + 1 := ⟨r / binR - 1, by omega⟩
    have hr2 : r = a * binR + (binR + r % binR) := by rw [ha, Nat.add_mul] at hr; omega
    have e0 : V r = (binR + r % binR) * pw a := by
      rw [hr2]; rw [V_kept a _ (by omega) (Or.inr (by omega))]; rw [← hr2]
    have e1 : V (r + 1) = (binR + r % binR + 1) * pw a := by
      have : r + 1 = a * binR + (binR + r % binR + 1) := by omega
      rw [this]; rw [V_kept a _ (by omega) (Or.inr (by omega))]
    rw [e0, e1]
    exact Nat.mul_lt_mul_of_pos_right (by omega) (pw_pos a)

theorem V_lt {r s : Nat} (h : r < s) : V r < V s := by
  induction s with
  | zero => omega
  | succ n ih =>
    rcases Nat.lt_or_ge r n with h1 | h1
    · exact Nat.lt_trans (ih h1) (V_succ n)
    · obtain rfl : r = n := by omega
      exact V_succ r
theorem V_zero : V 0 = 0 := rfl
theorem V_le {r s : Nat} (h : r ≤ s) : V r ≤ V s := by
  rcases Nat.lt_or_ge r s with h1 | h1
  · exact Nat.le_of_lt (V_lt h1)
  · obtain rfl : r = s := by omega
    exact Nat.le_refl _
theorem V_lt_iff (r s : Nat) : V r < V s ↔ r < s := by
  constructor
  · intro h
    rcases Nat.lt_or_ge r s with h1 | h1
    · exact h1
    · exact absurd (V_le h1) (by omega)
  · exact V_lt

open Ieee

theorem cmp_lt {a b : Int} (h : a < b) : compare a b = .lt := by
  show compareOfLessAndEq a b = .lt
  unfold compareOfLessAndEq; rw [if_pos h]
theorem cmp_gt {a b : Int} (h : b < a) : compare a b = .gt := by
  show compareOfLessAndEq a b = .gt
  unfold compareOfLessAndEq; rw [if_neg (by omega), if_neg (by omega)]
theorem cmp_eq (a : Int) : compare a a = .eq := by
  show compareOfLessAndEq a a = .eq
  unfold compareOfLessAndEq; rw [if_neg (by omega), if_pos rfl]

theorem d_width : double.signWeight = topB := rfl
theorem d_bin : double.binade = binR := rfl
theorem d_inf : double.infRung = infR := by decide
theorem d_least : double.leastPlace = -1074 := rfl

/-- What a word stands for. -/
theorem read_eq (x : Nat) : double.read x =
    if rg x < binR then .number (sgn x) (rg x) (-1074)
    else if rg x < infR then .number (sgn x) (binR + rg x % binR) (-1074 + (rg x / binR - 1 : Nat))
    else if rg x = infR then .infinity (sgn x) else .nan (sgn x) (rg x - infR) := by
  unfold Format.read
  rw [d_width, d_bin, d_inf, d_least]
  rfl

theorem read_nan {x : Nat} (h : nan x) : double.read x = .nan (sgn x) (rg x - infR) := by
  have h' : infR < rg x := h
  have hb : binR = 4503599627370496 := rfl
  have hi : infR = 9218868437227405312 := rfl
  rw [read_eq, if_neg (by omega), if_neg (by omega), if_neg (by omega)]
theorem read_inf {x : Nat} (h : rg x = infR) : double.read x = .infinity (sgn x) := by
  have hb : binR = 4503599627370496 := rfl
  have hi : infR = 9218868437227405312 := rfl
  rw [read_eq, if_neg (by omega), if_neg (by omega), if_pos h]
theorem read_fin {x : Nat} (h : rg x < infR) : ∃ m k, double.read x = .number (sgn x) m (-1074 + (k : Nat)) ∧ m * pw k = V (rg x) ∧ m < 2 * binR ∧ k ≤ 2045 ∧ (m = 0 ↔ rg x = 0) ∧ (k = 0 ∨ binR ≤ m) := by
  have hb : binR = 4503599627370496 := rfl
  have hi : infR = 9218868437227405312 := rfl
  rw [read_eq]
  by_cases h1 : rg x < binR
  · rw [if_pos h1]
    refine ⟨rg x, 0, by simp, ?_, by omega, by omega, Iff.rfl, Or.inl rfl⟩
    unfold V; rw [if_pos h1, pw_zero, Nat.mul_one]
  · rw [if_neg h1, if_pos h]
    refine ⟨binR + rg x % binR, rg x / binR - 1, rfl, ?_, ?_, ?_, ?_, Or.inr (by omega)⟩
    · unfold V; rw [if_neg h1]
    · have := Nat.mod_lt (rg x) (show 0 < binR by decide); omega
    · have : rg x / binR < 2047 := by rw [Nat.div_lt_iff_lt_mul (by decide)]; omega
      omega
    · omega

theorem order_nan_left {x y : Nat} (h : nan x) : double.order x y = none := by
  unfold Format.order; rw [read_nan h]; simp [Datum.order]
theorem order_nan_right {x y : Nat} (h : nan y) : double.order x y = none := by
  unfold Format.order; rw [read_nan h]
  cases double.read x <;> simp [Datum.order]

theorem signed_eq (s : Bool) (m u : Nat) : signed s m u = (if s then -1 else 1) * ((m : Int) * (pw u : Int)) := by
  unfold signed pw
  cases s <;> simp [Nat.shiftLeft_eq]

theorem compare_mul (a b : Int) (p : Int) (hp : 0 < p) : compare (a * p) (b * p) = compare a b := by
  rcases Int.lt_trichotomy a b with h | h | h
  · rw [cmp_lt h, cmp_lt (Int.mul_lt_mul_of_pos_right h hp)]
  · subst h; rw [cmp_eq, cmp_eq]
  · rw [cmp_gt h, cmp_gt (Int.mul_lt_mul_of_pos_right h hp)]

theorem V_fin_lt {r : Nat} (h : r < infR) : V r < V infR := V_lt h

theorem order_num {x y : Nat} (hx : rg x < infR) (hy : rg y < infR) : double.order x y = some (compare (sv x) (sv y)) := by
  obtain ⟨m, i, ex, vx, _, _, _, _⟩ := read_fin hx
  obtain ⟨n, j, ey, vy, _, _, _, _⟩ := read_fin hy
  unfold Format.order; rw [ex, ey]
  simp only [Datum.order]
  have key : ∀ (a b : Int), a ≤ b → a = -1074 + (i : Int) ∨ a = -1074 + (j : Int) → True := fun _ _ _ _ => trivial
  have e : ∀ (s : Bool) (m i b : Nat), b ≤ i → signed s m (-1074 + (i : Int) - (-1074 + (b : Int))).toNat * (pw b : Int) = (if s then -1 else 1) * ((m * pw i : Nat) : Int) := by
    intro s m i b hb
    rw [signed_eq]
    have : (-1074 + (i : Int) - (-1074 + (b : Int))).toNat = i - b := by omega
    rw [this, Int.mul_assoc, Int.mul_assoc]
    congr 1
    rw [Int.natCast_mul]
    congr 1
    rw [← Int.natCast_mul, ← pw_add]
    congr 2; omega
  have hmin : min (-1074 + (i : Int)) (-1074 + (j : Int)) = -1074 + ((min i j : Nat) : Int) := by omega
  rw [hmin]
  congr 1
  rw [← compare_mul _ _ (pw (min i j) : Int) (by exact_mod_cast pw_pos _)]
  rw [e _ _ _ _ (Nat.min_le_left ..), e _ _ _ _ (Nat.min_le_right ..), vx, vy]
  unfold sv
  cases sgn x <;> cases sgn y <;> simp

theorem order_eq {x y : Nat} (hx : ¬ nan x) (hy : ¬ nan y) : double.order x y = some (compare (sv x) (sv y)) := by
  have hx' : rg x ≤ infR := by unfold nan at hx; omega
  have hy' : rg y ≤ infR := by unfold nan at hy; omega
  have vi : (0 : Int) < (V infR : Int) := by have := V_lt (show 0 < infR by decide); rw [V_zero] at this; omega
  rcases Nat.lt_or_eq_of_le hx' with h1 | h1 <;> rcases Nat.lt_or_eq_of_le hy' with h2 | h2
  · exact order_num h1 h2
  · obtain ⟨m, i, ex, vx, _, _, _, _⟩ := read_fin h1
    have hv := V_lt h1
    unfold Format.order; rw [ex, read_inf h2]
    simp only [Datum.order, sv, h2]
    cases sgn x <;> cases sgn y <;> simp <;> symm <;> first | (apply cmp_lt; omega) | (apply cmp_gt; omega)
  · obtain ⟨m, i, ex, vx, _, _, _, _⟩ := read_fin h2
    have hv := V_lt h2
    unfold Format.order; rw [ex, read_inf h1]
    simp only [Datum.order, sv, h1]
    cases sgn x <;> cases sgn y <;> simp <;> symm <;> first | (apply cmp_lt; omega) | (apply cmp_gt; omega)
  · unfold Format.order; rw [read_inf h1, read_inf h2]
    simp only [Datum.order, sv, h1, h2]
    cases sgn x <;> cases sgn y <;> simp
    · symm; apply cmp_gt; omega
    · symm; apply cmp_lt; omega
end Go.Proofs.YthojbccoejdmeaaDoor
