/- Plain facts: the document's way to hold a chance's digits against a draw is the program's; more is let in of a greater chance and of a less draw; orders of bits; nothing of the program is said here. -/
import Derived.Test.YthojbccoejdmeaaDoorA3
namespace Go.Proofs.YthojbccoejdmeaaDoor

def hv (n k : Nat) : Nat := n / 2 ^ k
theorem hv_zero (n : Nat) : hv n 0 = n := by unfold hv; simp
theorem hv_succ (n k : Nat) : hv n k / 2 = hv n (k + 1) := by unfold hv; rw [Nat.div_div_eq_div_mul, Nat.pow_succ]
theorem hv_le (n k : Nat) : hv n k ≤ n := Nat.div_le_self ..
theorem hv_none {n k j : Nat} (h : hv n k = 0) (hj : k ≤ j) : hv n j = 0 := by
  obtain ⟨i, rfl⟩ : ∃ i, j = k + i := ⟨j - k, by omega⟩
  unfold hv at *
  rw [Nat.pow_add, ← Nat.div_div_eq_div_mul, h, Nat.zero_div]

def rM (p : Nat) : Nat := if 0 < exF p then mtF p + 4503599627370496 else mtF p
def rD (p : Nat) : Nat := if 0 < exF p then 1022 - exF p else 1021

theorem le_hv (d n k : Nat) : d ≤ hv n k ↔ d * pw k ≤ n := by
  unfold hv; exact Nat.le_div_iff_mul_le (Nat.two_pow_pos k)

theorem ref_adm {p : Nat} (d : Nat) (hp : p < topB) (h0 : p ≠ 0) (he : exF p < 1023) : decide (d / 2048 ≤ hv (rM p - 1) (rD p)) = adm p d := by
  have ht : topB = 9223372036854775808 := rfl
  have hi : infR = 9218868437227405312 := rfl
  have ho : one = 4607182418800017408 := rfl
  have hb : binR = 4503599627370496 := rfl
  have hp1 : p < one := by unfold exF at he; omega
  have hg : gtz p = true := by unfold gtz; rw [decide_eq_true]; omega
  have hge : ge1 p = false := by unfold ge1; rw [decide_eq_false]; omega
  rw [adm_mid hg hge]
  congr 1
  apply propext
  rw [le_hv]
  generalize d / 2048 = x
  by_cases h1 : 0 < exF p
  · have hd : rD p = 1022 - exF p := by unfold rD; rw [if_pos h1]
    have hm : rM p = mtF p + 4503599627370496 := by unfold rM; rw [if_pos h1]
    have hV : V p = rM p * pw (exF p - 1) := by
      unfold V
      have hge : ¬ p < binR := by unfold exF at h1; omega
      rw [if_neg hge, hm]
      have e1 : p / binR = exF p := by unfold exF; rw [hb]; omega
      have e2 : p % binR = mtF p := by unfold mtF; rw [hb]
      rw [e1, e2, Nat.add_comm, hb]
    rw [hV, hd]
    have e3 : pw 1021 = pw (1022 - exF p) * pw (exF p - 1) := by rw [← pw_add]; congr 1; omega
    rw [e3, ← Nat.mul_assoc]
    have hpos := pw_pos (exF p - 1)
    have hM : 0 < rM p := by omega
    constructor
    · intro h; exact Nat.mul_lt_mul_of_pos_right (by omega) hpos
    · intro h
      have := Nat.lt_of_mul_lt_mul_right h
      omega
  · have hd : rD p = 1021 := by unfold rD; rw [if_neg h1]
    have hm : rM p = mtF p := by unfold rM; rw [if_neg h1]
    have hlt : p < binR := by unfold exF at *; omega
    have hM : mtF p = p := by unfold mtF; omega
    have hV : V p = p := by unfold V; rw [if_pos hlt]
    rw [hV, hd, hm, hM]
    generalize x * pw 1021 = y
    omega
end Go.Proofs.YthojbccoejdmeaaDoor
