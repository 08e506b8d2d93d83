/- Plain facts on bringing any number to the nearest one of 64 bits: what is at most, or at least, a power of 2 stays so; greater whole numbers give no less; nothing of the program is said here. -/
import Derived.Test.YthojbccoejdmeaaDoorA6
namespace Go.Proofs.YthojbccoejdmeaaDoor
open Ieee

/-- What is cut off: up to the half, or it is one more. -/
theorem cut_bounds (neg : Bool) (n d : Nat) (hd : d ≤ n.log2 + 2) : n / pw d ≤ Toward.even.cut neg n d ∧ Toward.even.cut neg n d ≤ n / pw d + 1 ∧ (n % pw d = 0 → Toward.even.cut neg n d = n / pw d) := by
  unfold Toward.cut
  have hm : min d (n.log2 + 2) = d := by omega
  simp only [hm, Nat.shiftLeft_eq, Nat.one_mul]
  have e : (2 : Nat) ^ d = pw d := rfl
  rw [e]
  have hp := pw_pos d
  refine ⟨Nat.le_add_right _ _, ?_, fun h => ?_⟩
  · apply Nat.add_le_add_left
    generalize (decide (pw d < 2 * (n % pw d)) || (pw d == 2 * (n % pw d)) && (n / pw d % 2 == 1)) = b
    cases b <;> decide
  · rw [h]
    have h1 : ¬ pw d < 2 * 0 := by omega
    have h2 : (pw d == 2 * 0) = false := by rw [beq_eq_false_iff_ne]; omega
    simp [h1, h2]
theorem cut_le (neg : Bool) (n d M : Nat) (hd : d ≤ n.log2 + 2) (h : n ≤ M * pw d) : Toward.even.cut neg n d ≤ M := by
  obtain ⟨_, b, c⟩ := cut_bounds neg n d hd
  have hp := pw_pos d
  by_cases h0 : n % pw d = 0
  · rw [c h0]
    exact Nat.div_le_of_le_mul (by rw [Nat.mul_comm]; exact h)
  · have h1 : n / pw d < M := by
      rw [Nat.div_lt_iff_lt_mul hp]
      rcases Nat.lt_or_eq_of_le h with h2 | h2
      · exact h2
      · exfalso; apply h0; rw [h2]; exact Nat.mul_mod_left ..
    omega
theorem cut_ge (neg : Bool) (n d M : Nat) (hd : d ≤ n.log2 + 2) (h : M * pw d ≤ n) : M ≤ Toward.even.cut neg n d := by
  obtain ⟨a, _, _⟩ := cut_bounds neg n d hd
  exact Nat.le_trans ((Nat.le_div_iff_mul_le (pw_pos d)).2 h) a
theorem cut_mono (neg : Bool) (n n' d : Nat) (hd : d ≤ n.log2 + 2) (hd' : d ≤ n'.log2 + 2) (h : n ≤ n') : Toward.even.cut neg n d ≤ Toward.even.cut neg n' d := by
  have hp := pw_pos d
  obtain ⟨_, b, c⟩ := cut_bounds neg n d hd
  obtain ⟨a', _, _⟩ := cut_bounds neg n' d hd'
  have hq : n / pw d ≤ n' / pw d := Nat.div_le_div_right h
  rcases Nat.lt_or_eq_of_le hq with h1 | h1
  · omega
  · -- the same whole part: what is left over decides
    have hr : n % pw d ≤ n' % pw d := by
      have e1 := Nat.div_add_mod n (pw d)
      have e2 := Nat.div_add_mod n' (pw d)
      rw [h1] at e1
      omega
    unfold Toward.cut
    have hm : min d (n.log2 + 2) = d := by omega
    have hm' : min d (n'.log2 + 2) = d := by omega
    simp only [hm, hm', Nat.shiftLeft_eq, Nat.one_mul]
    have e : (2 : Nat) ^ d = pw d := rfl
    rw [e, h1]
    apply Nat.add_le_add_left
    generalize n % pw d = r at *
    generalize n' % pw d = r' at *
    generalize (n' / pw d % 2 == 1) = o
    by_cases c1 : pw d < 2 * r
    · have c2 : pw d < 2 * r' := by omega
      simp [c1, c2]
    · by_cases c3 : pw d = 2 * r
      · by_cases c4 : pw d < 2 * r'
        · have hb : (decide (pw d < 2 * r') || pw d == 2 * r' && o) = true := by simp [c4]
          rw [hb]
          generalize (decide (pw d < 2 * r) || pw d == 2 * r && o) = b1
          cases b1 <;> decide
        · have : r = r' := by omega
          subst this; exact Nat.le_refl _
      · have hb : (decide (pw d < 2 * r) || pw d == 2 * r && o) = false := by simp [c1, c3]
        rw [hb]; exact Nat.zero_le _

/-- What the nearest number is: 'X / Y' is the number, in units of the least one. -/
theorem nearest_kept (neg : Bool) (mag : Nat) (place : Int) (hm : mag ≠ 0) (ht : -1074 ≤ place ∨ -1022 ≤ place + (mag.log2 : Int)) :
    ∃ a kept : Nat, double.nearest neg mag place = double.word neg (min (a * binR + kept) infR) ∧ kept ≤ 2 * binR ∧ (a = 0 ∨ binR ≤ kept) ∧
      (a = 0 ∨ pw (a + 52) * pw (-(place + 1074)).toNat ≤ mag * pw (place + 1074).toNat) ∧
      (∀ M, mag * pw (place + 1074).toNat ≤ M * pw a * pw (-(place + 1074)).toNat → kept ≤ M) ∧ (∀ M, M * pw a * pw (-(place + 1074)).toNat ≤ mag * pw (place + 1074).toNat → M ≤ kept) := by
  have hf : (double.fractionBits : Int) = 52 := rfl
  obtain ⟨b1, b2⟩ := log2_bounds hm
  generalize hl : mag.log2 = l at *
  have c52 : binR = pw 52 := by decide
  have c53 : 2 * binR = pw 53 := by decide
  unfold Format.nearest
  rw [if_neg hm, d_least, d_bin, d_inf, hf, hl]
  dsimp only
  -- last = -1074 + a; up, d: how far it is moved
  obtain ⟨a, up, d, ha, hup, hd, hrel, hzero, hcase, hsmall⟩ : ∃ a up d : Nat, max (place + (l : Int) - 52) (-1074) = -1074 + (a : Int) ∧ (place - (-1074 + (a : Int))).toNat = up ∧ (-1074 + (a : Int) - place).toNat = d ∧ place + 1074 = (a : Int) - (d : Int) + (up : Int) ∧ (up = 0 ∨ d = 0) ∧ (a = 0 ∨ (a : Int) = place + 1074 + (l : Int) - 52) ∧ (d = 0 ∨ d + 52 = l) ∧ (place + 1074 + (l : Int) - 52 ≤ (a : Int)) := by
    by_cases h : -1074 ≤ place + (l : Int) - 52
    · refine ⟨(place + 1074 + (l : Int) - 52).toNat, _, _, by omega, rfl, rfl, by omega, by omega, Or.inr (by omega), by omega, by omega⟩
    · refine ⟨0, _, _, by omega, rfl, rfl, by omega, by omega, Or.inl rfl, by omega, by omega⟩
  obtain ⟨hsmall, hge⟩ := hsmall
  rw [ha, hup, hd]
  have e3 : (-1074 + (a : Int) - (-1074)).toNat = a := by omega
  rw [e3, Nat.shiftLeft_eq, show (2 : Nat) ^ up = pw up from rfl]
  have hn0 : mag * pw up ≠ 0 := Nat.mul_ne_zero hm (by have := pw_pos up; omega)
  have hnl : (mag * pw up).log2 = l + up := by
    refine log2_of ?_ ?_
    · rw [pw_add]; exact Nat.mul_le_mul_right _ b1
    · rw [show l + up + 1 = (l + 1) + up by omega, pw_add]; exact Nat.mul_lt_mul_of_pos_right b2 (pw_pos _)
  have hdl : d ≤ (mag * pw up).log2 + 2 := by rw [hnl]; omega
  -- the same number, two ways
  have key : mag * pw (place + 1074).toNat * pw d = mag * pw up * pw a * pw (-(place + 1074)).toNat := by
    have : (place + 1074).toNat + d = up + a + (-(place + 1074)).toNat := by omega
    rw [Nat.mul_assoc, ← pw_add, this, pw_add, pw_add]
    simp only [Nat.mul_assoc]
  have hY := pw_pos (-(place + 1074)).toNat
  have hA := pw_pos a
  have hD := pw_pos d
  generalize mag * pw (place + 1074).toNat = X at *
  generalize pw (-(place + 1074)).toNat = Y at *
  have U : ∀ M, X ≤ M * pw a * Y → Toward.even.cut neg (mag * pw up) d ≤ M := by
    intro M h
    refine cut_le neg _ d M hdl ?_
    have h2 : mag * pw up * (pw a * Y) ≤ M * pw d * (pw a * Y) := by
      have := Nat.mul_le_mul_right (pw d) h
      rw [key] at this
      calc mag * pw up * (pw a * Y) = mag * pw up * pw a * Y := by (generalize pw a = A; generalize pw up = B; ac_rfl)
        _ ≤ M * pw a * Y * pw d := this
        _ = M * pw d * (pw a * Y) := by
          generalize pw a = A; generalize pw d = D
          ac_rfl
    exact Nat.le_of_mul_le_mul_right h2 (Nat.mul_pos hA hY)
  have Lo : ∀ M, M * pw a * Y ≤ X → M ≤ Toward.even.cut neg (mag * pw up) d := by
    intro M h
    refine cut_ge neg _ d M hdl ?_
    have h2 : M * pw d * (pw a * Y) ≤ mag * pw up * (pw a * Y) := by
      have := Nat.mul_le_mul_right (pw d) h
      rw [key] at this
      calc M * pw d * (pw a * Y) = M * pw a * Y * pw d := by
            generalize pw a = A; generalize pw d = D
            ac_rfl
        _ ≤ mag * pw up * pw a * Y := this
        _ = mag * pw up * (pw a * Y) := by (generalize pw a = A; generalize pw up = B; ac_rfl)
    exact Nat.le_of_mul_le_mul_right h2 (Nat.mul_pos hA hY)
  have hn1 : mag * pw up ≤ pw 53 * pw d := by
    have : mag * pw up < pw (l + 1 + up) := by rw [pw_add]; exact Nat.mul_lt_mul_of_pos_right b2 (pw_pos _)
    refine Nat.le_trans (Nat.le_of_lt this) ?_
    rw [← pw_add]; exact pw_le (by omega)
  have hn2 : a = 0 ∨ pw 52 * pw d ≤ mag * pw up := by
    rcases hcase with h | h
    · exact Or.inl h
    · refine Or.inr ?_
      have : pw (l + up) ≤ mag * pw up := by rw [pw_add]; exact Nat.mul_le_mul_right _ b1
      refine Nat.le_trans ?_ this
      rw [← pw_add]; exact pw_le (by omega)
  refine ⟨a, Toward.even.cut neg (mag * pw up) d, rfl, ?_, ?_, ?_, U, Lo⟩
  · rw [c53]; exact cut_le neg _ d _ hdl hn1
  · rcases hn2 with h | h
    · exact Or.inl h
    · exact Or.inr (by rw [c52]; exact cut_ge neg _ d _ hdl h)
  · rcases hn2 with h | h
    · exact Or.inl h
    · refine Or.inr ?_
      have h2 := Nat.mul_le_mul_right (pw a * Y) h
      have : pw (a + 52) * Y * pw d ≤ X * pw d := by
        rw [key, pw_add]
        calc pw a * pw 52 * Y * pw d = pw 52 * pw d * (pw a * Y) := by
              generalize pw a = A; generalize pw d = D; generalize pw 52 = F
              ac_rfl
          _ ≤ mag * pw up * (pw a * Y) := h2
          _ = mag * pw up * pw a * Y := by (generalize pw a = A; generalize pw up = B; ac_rfl)
      exact Nat.le_of_mul_le_mul_right this hD
end Go.Proofs.YthojbccoejdmeaaDoor
