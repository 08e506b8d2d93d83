/- Plain facts on bringing a number to the nearest one of 64 bits: where it has at most 53 digits and is not too great or too small, it stays what it is; so a draw of 53 bits times 2^-53 is exact; nothing of the program is said here. -/
import Derived.Test.YthojbccoejdmeaaDoorA
namespace Go.Proofs.YthojbccoejdmeaaDoor
open Ieee

theorem cut_zero (neg : Bool) (n : Nat) : Toward.even.cut neg n 0 = n := by
  unfold Toward.cut
  simp [Nat.mod_one]
theorem cut_exact (neg : Bool) (n d : Nat) (hn : n ≠ 0) (h : pw d ∣ n) : Toward.even.cut neg n d = n / pw d := by
  obtain ⟨q, rfl⟩ := h
  have hq : q ≠ 0 := by rintro rfl; simp at hn
  have hle : d ≤ (pw d * q).log2 := by
    rw [Nat.le_log2 hn]
    exact Nat.le_mul_of_pos_right _ (Nat.pos_of_ne_zero hq)
  unfold Toward.cut
  have hm : min d ((pw d * q).log2 + 2) = d := by omega
  simp only [hm, Nat.shiftLeft_eq, Nat.one_mul]
  have e : (2 : Nat) ^ d = pw d := rfl
  rw [e, Nat.mul_mod_right, Nat.mul_div_cancel_left _ (pw_pos d)]
  have hp := pw_pos d
  have h1 : ¬ pw d < 2 * 0 := by omega
  have h2 : (pw d == 2 * 0) = false := by
    rw [beq_eq_false_iff_ne]; omega
  simp [h1, h2]

theorem log2_bounds {n : Nat} (hn : n ≠ 0) : pw n.log2 ≤ n ∧ n < pw (n.log2 + 1) :=
  ⟨Nat.log2_self_le hn, Nat.lt_log2_self⟩

theorem word_rg {r : Nat} (neg : Bool) (h : r < topB) : rg (double.word neg r) = r ∧ sgn (double.word neg r) = neg ∧ double.word neg r < 2 * topB := by
  have ht : topB = 9223372036854775808 := rfl
  unfold Format.word rg sgn
  rw [d_width]
  cases neg
  · refine ⟨Nat.mod_eq_of_lt h, ?_, ?_⟩
    · simp only [Bool.false_eq_true, if_false]
      rw [Nat.div_eq_of_lt h]; rfl
    · simp only [Bool.false_eq_true, if_false]; omega
  · simp only [if_true]
    refine ⟨by rw [Nat.add_mod_left, Nat.mod_eq_of_lt h], ?_, by omega⟩
    have : (topB + r) / topB = 1 := by rw [Nat.add_comm, Nat.add_div_right _ (by decide), Nat.div_eq_of_lt h]
    rw [this]; rfl

/-- What has at most 53 digits is kept whole. -/
theorem nearest_exact (neg : Bool) (mag k : Nat) (hm : mag ≠ 0) (hfit : pw (mag.log2 - 52) ∣ mag) (hover : k + mag.log2 ≤ 2097) :
    ∃ r, double.nearest neg mag (-1074 + (k : Int)) = double.word neg r ∧ r < infR ∧ V r = mag * pw k := by
  have hi : infR = 9218868437227405312 := rfl
  have hb : binR = 4503599627370496 := rfl
  have hf : (double.fractionBits : Int) = 52 := rfl
  obtain ⟨b1, b2⟩ := log2_bounds hm
  generalize hl : mag.log2 = l at *
  unfold Format.nearest
  rw [if_neg hm, d_least, d_bin, d_inf, hf, hl]
  dsimp only
  by_cases h1 : l ≤ 52
  · -- nothing is dropped
    have hmax : ∃ a : Nat, max (-1074 + (k : Int) + (l : Int) - 52) (-1074) = -1074 + (a : Int) ∧ a ≤ k ∧ (a = 0 ∨ a + 52 = k + l) ∧ k + l ≤ a + 52 := by
      by_cases h2 : k + l ≤ 52
      · exact ⟨0, by omega, by omega, Or.inl rfl, by omega⟩
      · exact ⟨k + l - 52, by omega, by omega, Or.inr (by omega), by omega⟩
    obtain ⟨a, ha, hak, hcase, hle⟩ := hmax
    rw [ha]
    have e1 : (-1074 + (a : Int) - (-1074 + (k : Int))).toNat = 0 := by omega
    have e2 : (-1074 + (k : Int) - (-1074 + (a : Int))).toNat = k - a := by omega
    have e3 : (-1074 + (a : Int) - (-1074)).toNat = a := by omega
    rw [e1, e2, e3, cut_zero, Nat.shiftLeft_eq]
    have hp : (2 : Nat) ^ (k - a) = pw (k - a) := rfl
    rw [hp]
    have u1 : mag * pw (k - a) < pw 53 := by
      refine Nat.lt_of_lt_of_le (Nat.mul_lt_mul_of_pos_right b2 (pw_pos _)) ?_
      rw [← pw_add]; exact pw_le (by omega)
    have c53 : pw 53 = 2 * binR := by decide
    have u2 : a = 0 ∨ binR ≤ mag * pw (k - a) := by
      rcases hcase with h | h
      · exact Or.inl h
      · refine Or.inr ?_
        have : pw 52 ≤ pw l * pw (k - a) := by rw [← pw_add]; exact pw_le (by omega)
        exact Nat.le_trans this (Nat.mul_le_mul_right _ b1)
    have hr : a * binR + mag * pw (k - a) < infR := by
      have : a ≤ 2045 := by omega
      have := Nat.mul_le_mul_right binR this
      omega
    refine ⟨_, by rw [Nat.min_eq_left (Nat.le_of_lt hr)], hr, ?_⟩
    rw [V_kept a _ (by omega) u2, Nat.mul_assoc, ← pw_add]
    congr 2; omega
  · have hmax : max (-1074 + (k : Int) + (l : Int) - 52) (-1074) = -1074 + ((k + l - 52 : Nat) : Int) := by omega
    rw [hmax]
    have e1 : (-1074 + ((k + l - 52 : Nat) : Int) - (-1074 + (k : Int))).toNat = l - 52 := by omega
    have e2 : (-1074 + (k : Int) - (-1074 + ((k + l - 52 : Nat) : Int))).toNat = 0 := by omega
    have e3 : (-1074 + ((k + l - 52 : Nat) : Int) - (-1074)).toNat = k + l - 52 := by omega
    rw [e1, e2, e3, Nat.shiftLeft_zero, cut_exact neg mag _ hm hfit]
    obtain ⟨q, hq⟩ := hfit
    have eq : mag / pw (l - 52) = q := by rw [hq]; exact Nat.mul_div_cancel_left _ (pw_pos _)
    rw [eq]
    have u1 : q < 2 * binR := by
      have c53 : pw 53 = 2 * binR := by decide
      rw [← c53]
      have : pw (l + 1) = pw (l - 52) * pw 53 := by rw [← pw_add]; congr 1; omega
      rw [hq, this] at b2
      exact Nat.lt_of_mul_lt_mul_left b2
    have u2 : binR ≤ q := by
      have c52 : pw 52 = binR := by decide
      rw [← c52]
      have : pw l = pw (l - 52) * pw 52 := by rw [← pw_add]; congr 1; omega
      rw [hq, this] at b1
      exact Nat.le_of_mul_le_mul_left b1 (pw_pos _)
    have hr : (k + l - 52) * binR + q < infR := by
      have : k + l - 52 ≤ 2045 := by omega
      have := Nat.mul_le_mul_right binR this
      omega
    refine ⟨_, by rw [Nat.min_eq_left (Nat.le_of_lt hr)], hr, ?_⟩
    rw [V_kept _ _ (by omega) (Or.inr u2), hq, Nat.mul_comm (pw (l - 52)) q, Nat.mul_assoc, ← pw_add]
    congr 2; omega

theorem log2_of {n l : Nat} (h1 : pw l ≤ n) (h2 : n < pw (l + 1)) : n.log2 = l := by
  have hn : n ≠ 0 := by have := pw_pos l; omega
  have a : l ≤ n.log2 := (Nat.le_log2 hn).2 h1
  have b : n.log2 < l + 1 := (Nat.log2_lt hn).2 h2
  omega
theorem log2_le_of_lt {n l : Nat} (h2 : n < pw (l + 1)) : n.log2 ≤ l := by
  rcases Nat.eq_zero_or_pos n with h | h
  · subst h; simp
  · have b : n.log2 < l + 1 := (Nat.log2_lt (by omega)).2 h2
    omega

/-- The nearest number to a whole one of at most 53 digits is it. -/
theorem ofInt_exact (d : Nat) (hd : d < pw 53) : ∃ r, double.write (.number false d 0) = r ∧ r < infR ∧ V r = d * pw 1074 := by
  rcases Nat.eq_zero_or_pos d with h | h
  · subst h
    exact ⟨0, rfl, by decide, by rw [V_zero, Nat.zero_mul]⟩
  · have hl : d.log2 ≤ 52 := log2_le_of_lt hd
    obtain ⟨r, e, hr, hv⟩ := nearest_exact false d 1074 (by omega) (by
      have : d.log2 - 52 = 0 := by omega
      rw [this, pw_zero]; exact Nat.one_dvd _) (by omega)
    exact ⟨r, by simpa [Format.write, Format.word] using e, hr, hv⟩

theorem rg_small {x : Nat} (h : x < topB) : rg x = x := Nat.mod_eq_of_lt h
theorem sgn_small {x : Nat} (h : x < topB) : sgn x = false := by
  unfold sgn; rw [Nat.div_eq_of_lt h]; rfl

def step : Nat := 4368491638549381120

theorem V_step : double.read step = .number false binR (-1074 + (969 : Nat)) := by
  rw [read_eq]; decide

/-- A draw of 53 bits, brought to a number and times 2^-53, is exact. -/
theorem draw_exact (d : Nat) (hd : d < pw 53) : ∃ r, double.mul (double.write (.number false d 0)) step = some r ∧ r < infR ∧ V r = d * pw 1021 := by
  obtain ⟨x, ex, hx, hv⟩ := ofInt_exact d hd
  have hxt : x < topB := Nat.lt_trans hx (by decide)
  rw [ex]
  unfold Format.mul
  obtain ⟨m, k, e, hmv, hm2, hk, hz, hn⟩ := read_fin (x := x) (by rw [rg_small hxt]; exact hx)
  rw [e, V_step, sgn_small hxt]
  simp only [Datum.product, Option.map, Format.write]
  rw [rg_small hxt, hv] at hmv
  rcases Nat.eq_zero_or_pos d with h | h
  · subst h
    rw [Nat.zero_mul] at hmv
    have : m = 0 := by
      rcases Nat.mul_eq_zero.1 hmv with h | h
      · exact h
      · have := pw_pos k; omega
    subst this
    refine ⟨0, ?_, by decide, by rw [V_zero, Nat.zero_mul]⟩
    simp [Format.nearest, Format.word]
  · have hm0 : m ≠ 0 := by
      rintro rfl
      have := Nat.mul_pos h (pw_pos 1074)
      omega
    have cb : binR = pw 52 := by decide
    have hp : (-1074 + (k : Int) + (-1074 + ((969 : Nat) : Int))) = -1074 + ((k - 105 : Nat) : Int) ∧ 105 ≤ k := by
      have : 105 ≤ k := by
        rcases Nat.lt_or_ge k 105 with h1 | h1
        · have u1 : m * pw k < pw 53 * pw 105 :=
            Nat.lt_of_lt_of_le (Nat.mul_lt_mul_of_pos_right (show m < pw 53 from hm2) (pw_pos _)) (Nat.mul_le_mul_left _ (pw_le (by omega)))
          have u2 : pw 1074 ≤ d * pw 1074 := Nat.le_mul_of_pos_left _ h
          have u3 : pw 53 * pw 105 ≤ pw 1074 := by rw [← pw_add]; exact pw_le (by omega)
          omega
        · exact h1
      exact ⟨by omega, this⟩
    rw [hp.1]
    have hl : (m * binR).log2 = m.log2 + 52 := by
      obtain ⟨b1, b2⟩ := log2_bounds hm0
      refine log2_of ?_ ?_
      · rw [pw_add, cb]; exact Nat.mul_le_mul_right _ b1
      · have : m.log2 + 52 + 1 = m.log2 + 1 + 52 := by omega
        rw [this, pw_add, cb]; exact Nat.mul_lt_mul_of_pos_right b2 (pw_pos _)
    have hml : m.log2 ≤ 52 := log2_le_of_lt hm2
    obtain ⟨r, er, hr, hvr⟩ := nearest_exact (false ^^ false) (m * binR) (k - 105) (Nat.mul_ne_zero hm0 (by decide)) (by
      rw [hl]
      refine Nat.dvd_trans (b := pw 52) ?_ ⟨m, by rw [Nat.mul_comm, cb]⟩
      exact Nat.pow_dvd_pow 2 (by omega)) (by rw [hl]; omega)
    refine ⟨r, ?_, hr, ?_⟩
    · rw [er]; rfl
    · rw [hvr]
      have hk2 : pw k = pw 105 * pw (k - 105) := by rw [← pw_add]; congr 1; omega
      have e5 : pw 1074 = pw 53 * pw 1021 := by rw [← pw_add]
      have e6 : pw 105 = pw 53 * pw 52 := by rw [← pw_add]
      rw [hk2, e5, e6] at hmv
      have : pw 53 * (m * binR * pw (k - 105)) = pw 53 * (d * pw 1021) := by
        rw [cb]
        calc pw 53 * (m * pw 52 * pw (k - 105)) = m * (pw 53 * pw 52 * pw (k - 105)) := by ac_rfl
          _ = d * (pw 53 * pw 1021) := hmv
          _ = _ := Nat.mul_left_comm ..
      exact Nat.eq_of_mul_eq_mul_left (pw_pos 53) this
end Go.Proofs.YthojbccoejdmeaaDoor
