/- Plain functions on the bits of numbers with a point that the program's and the document's calls compute, and how they hang together; nothing of the program is said here. -/
import Derived.Test.YthojbccoejdmeaaDoorA2
namespace Go.Proofs.YthojbccoejdmeaaDoor
open Ieee

def two64 : Nat := 18446744073709551616
/-- Is it no number? -/
def nanB (x : Nat) : Bool := decide (infR < rg x)
/-- Is it above 0? -/
def gtz (x : Nat) : Bool := decide (0 < x ∧ x ≤ infR)
def gt1 (x : Nat) : Bool := decide (one < x ∧ x ≤ infR)
def ge1 (x : Nat) : Bool := decide (one ≤ x ∧ x ≤ infR)
/-- Is it let in? -/
def adm (p d : Nat) : Bool := decide (0 < p ∧ p ≤ infR ∧ (one ≤ p ∨ d / 2048 * pw 1021 < V p))
def cl (x : Nat) : Nat := if gtz x then (if gt1 x then one else x) else 0
def mns (x : Nat) : Bool := decide (topB ≤ x)
def exF (x : Nat) : Nat := x / 4503599627370496 % 2048
def mtF (x : Nat) : Nat := x % 4503599627370496
theorem exF_lt (x : Nat) : exF x < 2048 := Nat.mod_lt _ (by decide)
theorem mtF_lt (x : Nat) : mtF x < 4503599627370496 := Nat.mod_lt _ (by decide)
def lessB (x y : Nat) : Bool :=
  if topB ≤ x ∧ topB ≤ y then decide (y < x) else if topB ≤ x ∨ topB ≤ y then decide (topB ≤ x) else decide (x < y)
def plc (x : Nat) : Nat := if nanB x then 18446744073709551615 else if topB ≤ x then 18446744073709551615 - x else x + topB
def ordN (x y : Nat) : Int := if plc x < plc y then -1 else if plc y < plc x then 1 else 0

theorem split64 {x : Nat} (h : x < 18446744073709551616) : (x < topB ∧ rg x = x ∧ sgn x = false) ∨ (topB ≤ x ∧ rg x = x - topB ∧ sgn x = true) := by
  have ht : topB = 9223372036854775808 := rfl
  rcases Nat.lt_or_ge x topB with h1 | h1
  · exact Or.inl ⟨h1, rg_small h1, sgn_small h1⟩
  · refine Or.inr ⟨h1, ?_, ?_⟩
    · unfold rg; rw [ht] at *; omega
    · unfold sgn
      have : x / topB = 1 := by rw [ht] at *; omega
      rw [this]; rfl

theorem order_pos {x c : Nat} (hx : x < 18446744073709551616) (hc : c ≤ infR) (hn : nanB x = false) :
    double.order x c = some (if topB ≤ x then (if x = topB ∧ c = 0 then .eq else .lt) else if x < c then .lt else if c < x then .gt else .eq) := by
  have ht : topB = 9223372036854775808 := rfl
  have hi : infR = 9218868437227405312 := rfl
  have hx' : ¬ nan x := by simpa [nanB, nan] using hn
  have hct : c < topB := by omega
  have hc' : ¬ nan c := by unfold nan; rw [rg_small hct]; omega
  rw [order_eq hx' hc']
  congr 1
  unfold sv
  rw [rg_small hct, sgn_small hct]
  rcases split64 hx with ⟨h1, h2, h3⟩ | ⟨h1, h2, h3⟩
  · rw [h2, h3, if_neg (show ¬ topB ≤ x by omega)]
    simp only [Bool.false_eq_true, if_false]
    by_cases h4 : x < c
    · rw [if_pos h4]; exact cmp_lt (Int.ofNat_lt.2 (V_lt h4))
    · rw [if_neg h4]
      by_cases h5 : c < x
      · rw [if_pos h5]; exact cmp_gt (Int.ofNat_lt.2 (V_lt h5))
      · obtain rfl : x = c := by omega
        rw [if_neg h5]
        exact cmp_eq _
  · rw [h2, h3, if_pos h1]
    simp only [Bool.false_eq_true, if_false, if_true]
    by_cases h4 : x = topB ∧ c = 0
    · rw [if_pos h4]
      obtain ⟨rfl, rfl⟩ := h4
      rw [Nat.sub_self, V_zero]; exact cmp_eq 0
    · rw [if_neg h4]
      refine cmp_lt ?_
      rcases Nat.eq_zero_or_pos c with h5 | h5
      · have h6 : 0 < x - topB := by omega
        have h7 := V_lt h6
        rw [V_zero] at h7
        subst h5
        rw [V_zero]
        omega
      · have h7 := V_lt h5
        rw [V_zero] at h7
        generalize V c = vc at *
        generalize V (x - topB) = vx at *
        omega

theorem ord0 {p : Nat} (hp : p < 18446744073709551616) : (double.order p 0 == some .gt) = gtz p := by
  have ht : topB = 9223372036854775808 := rfl
  have hi : infR = 9218868437227405312 := rfl
  unfold gtz
  cases hn : nanB p
  · rw [order_pos hp (by decide) hn]
    have hx' : rg p ≤ infR := by simpa [nanB] using hn
    split
    · rw [decide_eq_false (by omega)]
      split <;> rfl
    · rename_i h
      rw [rg_small (by omega)] at hx'
      split
      · omega
      · split
        · rw [decide_eq_true (by omega)]; rfl
        · rw [decide_eq_false (by omega)]; rfl
  · have hx' : infR < rg p := by simpa [nanB] using hn
    rw [order_nan_left hx', decide_eq_false]
    · rfl
    · intro h
      rw [rg_small (by omega)] at hx'; omega

theorem ord1 {p : Nat} (hp : p < 18446744073709551616) : (double.order p 4607182418800017408 == some .gt) = gt1 p := by
  have ht : topB = 9223372036854775808 := rfl
  have hi : infR = 9218868437227405312 := rfl
  have ho : one = 4607182418800017408 := rfl
  unfold gt1
  cases hn : nanB p
  · rw [order_pos hp (by decide) hn]
    have hx' : rg p ≤ infR := by simpa [nanB] using hn
    split
    · rw [decide_eq_false (by omega)]
      split <;> rfl
    · rename_i h
      rw [rg_small (by omega)] at hx'
      split
      · rw [decide_eq_false (by omega)]; rfl
      · split
        · rw [decide_eq_true (by omega)]; rfl
        · rw [decide_eq_false (by omega)]; rfl
  · have hx' : infR < rg p := by simpa [nanB] using hn
    rw [order_nan_left hx', decide_eq_false]
    · rfl
    · intro h
      rw [rg_small (by omega)] at hx'; omega

theorem ord1e {p : Nat} (hp : p < 18446744073709551616) : (double.order p 4607182418800017408 == some .gt || double.order p 4607182418800017408 == some .eq) = ge1 p := by
  have ht : topB = 9223372036854775808 := rfl
  have hi : infR = 9218868437227405312 := rfl
  have ho : one = 4607182418800017408 := rfl
  unfold ge1
  cases hn : nanB p
  · rw [order_pos hp (by decide) hn]
    have hx' : rg p ≤ infR := by simpa [nanB] using hn
    split
    · rw [decide_eq_false (by omega)]
      split
      · omega
      · rfl
    · rename_i h
      rw [rg_small (by omega)] at hx'
      split
      · rw [decide_eq_false (by omega)]; rfl
      · split
        · rw [decide_eq_true (by omega)]; rfl
        · rw [decide_eq_true (by omega)]; rfl
  · have hx' : infR < rg p := by simpa [nanB] using hn
    rw [order_nan_left hx', decide_eq_false]
    · rfl
    · intro h
      rw [rg_small (by omega)] at hx'; omega

theorem ordSelf (p : Nat) : (double.order p p != some .eq) = nanB p := by
  cases hn : nanB p
  · have hx' : ¬ nan p := by simpa [nanB, nan] using hn
    rw [order_eq hx' hx', cmp_eq]; rfl
  · have hx' : nan p := by simpa [nanB, nan] using hn
    rw [order_nan_left hx']; rfl

theorem ordDraw {p d : Nat} (hp : p ≤ infR) (r : Nat) (hr : r < infR) (hv : V r = d * pw 1021) : (double.order r p == some .lt) = decide (d * pw 1021 < V p) := by
  have ht : topB = 9223372036854775808 := rfl
  have hi : infR = 9218868437227405312 := rfl
  rw [order_pos (by omega) hp (by unfold nanB; rw [rg_small (by omega)]; simp; omega), if_neg (by omega)]
  by_cases h : r < p
  · rw [if_pos h, decide_eq_true]
    · rfl
    · rw [← hv]; exact V_lt h
  · rw [if_neg h, decide_eq_false]
    · split <;> rfl
    · rw [← hv]
      have := V_le (show p ≤ r by omega)
      omega

theorem nan_bits (x : Nat) : nanB x = (decide (exF x = 2047) && decide (0 < mtF x)) := by
  unfold exF mtF
  have ht : topB = 9223372036854775808 := rfl
  have hi : infR = 9218868437227405312 := rfl
  unfold nanB rg
  rw [← Bool.decide_and]
  congr 1
  apply propext
  rw [ht, hi]
  omega
theorem adm_no {p d : Nat} (h : gtz p = false) : adm p d = false := by
  unfold adm; unfold gtz at h
  have h := of_decide_eq_false h
  rw [decide_eq_false]
  intro h'; exact h ⟨h'.1, h'.2.1⟩
theorem adm_yes {p d : Nat} (h : ge1 p = true) : adm p d = true := by
  unfold adm; unfold ge1 at h
  have h := of_decide_eq_true h
  have ho : one = 4607182418800017408 := rfl
  rw [decide_eq_true]
  exact ⟨by omega, h.2, Or.inl h.1⟩
theorem adm_mid {p d : Nat} (h : gtz p = true) (h2 : ge1 p = false) : adm p d = decide (d / 2048 * pw 1021 < V p) := by
  unfold adm; unfold gtz at h; unfold ge1 at h2
  have h := of_decide_eq_true h
  have h2 := of_decide_eq_false h2
  congr 1
  apply propext
  constructor
  · rintro ⟨_, _, h5 | h5⟩
    · exact absurd ⟨h5, h.2⟩ h2
    · exact h5
  · intro h5; exact ⟨h.1, h.2, Or.inr h5⟩
theorem gtz_le {p : Nat} (h : gtz p = true) : p ≤ infR := (of_decide_eq_true h).2
theorem cl_lt (x : Nat) : cl x ≤ one := by
  have ho : one = 4607182418800017408 := rfl
  unfold cl
  split
  · rename_i h
    have h := of_decide_eq_true h
    split
    · exact Nat.le_refl _
    · rename_i h2
      unfold gt1 at h2
      have h2 : ¬ (one < x ∧ x ≤ infR) := by simpa using h2
      omega
  · exact Nat.zero_le _
theorem plc_lt {x : Nat} (h : x < 18446744073709551616) : plc x < 18446744073709551616 := by
  have ht : topB = 9223372036854775808 := rfl
  unfold plc
  split
  · omega
  · split <;> omega
theorem top_bit {x : Nat} (h : x < 18446744073709551616) : x.testBit 63 = decide (topB ≤ x) := by
  have ht : topB = 9223372036854775808 := rfl
  rw [Nat.testBit_eq_decide_div_mod_eq]
  congr 1; apply propext; rw [ht]; omega
theorem and_top {x : Nat} (h : x < 18446744073709551616) : (x &&& 9223372036854775808) = if topB ≤ x then 9223372036854775808 else 0 := by
  have hb := top_bit h
  have e : (9223372036854775808 : Nat) = 2 ^ 63 := by decide
  rw [e]
  apply Nat.eq_of_testBit_eq
  intro i
  rw [Nat.testBit_and, Nat.testBit_two_pow]
  by_cases hi : 63 = i
  · subst hi
    rw [hb]
    by_cases h1 : topB ≤ x
    · rw [if_pos h1, decide_eq_true h1, Nat.testBit_two_pow]; rfl
    · rw [if_neg h1, decide_eq_false h1]; rfl
  · rw [decide_eq_false hi, Bool.and_false]
    by_cases h1 : topB ≤ x
    · rw [if_pos h1, Nat.testBit_two_pow, decide_eq_false hi]
    · rw [if_neg h1, Nat.zero_testBit]
theorem or_top {x : Nat} (h : x < topB) : (x ||| 9223372036854775808) = x + topB := by
  have ht : topB = 2 ^ 63 * 1 := by decide
  have e : (9223372036854775808 : Nat) = 2 ^ 63 * 1 := by decide
  rw [e, ht, Nat.or_comm, ← Nat.two_pow_add_eq_or_of_lt (show x < 2 ^ 63 from h) 1, Nat.add_comm]
end Go.Proofs.YthojbccoejdmeaaDoor
