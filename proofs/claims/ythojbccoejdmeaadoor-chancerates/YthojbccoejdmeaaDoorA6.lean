/- Plain facts: 1 times a number is it; a whole number of at most 2^53, times 2^-53, is let in just as often; nothing of the program is said here. -/
import Derived.Test.YthojbccoejdmeaaDoorA5
namespace Go.Proofs.YthojbccoejdmeaaDoor
open Ieee

theorem V_inj {r s : Nat} (h : V r = V s) : r = s := by
  rcases Nat.lt_trichotomy r s with h1 | h1 | h1
  · have := V_lt h1; omega
  · exact h1
  · have := V_lt h1; omega
theorem read_one : double.read one = .number false binR (-1074 + (1022 : Nat)) := by rw [read_eq]; decide

theorem one_mul {y : Nat} (hy : y < infR) (hbig : 53 * binR ≤ y) : double.mul one y = some y := by
  have hyt : y < topB := Nat.lt_trans hy (by decide)
  unfold Format.mul
  obtain ⟨m, k, e, hmv, hm2, hk, hz, hn⟩ := read_fin (x := y) (by rw [rg_small hyt]; exact hy)
  rw [e, read_one, sgn_small hyt]
  simp only [Datum.product, Option.map, Format.write]
  rw [rg_small hyt] at hmv hz
  by_cases h0 : m = 0
  · have hy0 := hz.1 h0
    subst h0 hy0
    simp [Format.nearest, Format.word]
  · have cb : binR = pw 52 := by decide
    have hl : (binR * m).log2 = m.log2 + 52 := by
      obtain ⟨b1, b2⟩ := log2_bounds h0
      rw [Nat.mul_comm]
      refine log2_of ?_ ?_
      · rw [pw_add, cb]; exact Nat.mul_le_mul_right _ b1
      · have : m.log2 + 52 + 1 = m.log2 + 1 + 52 := by omega
        rw [this, pw_add, cb]; exact Nat.mul_lt_mul_of_pos_right b2 (pw_pos _)
    have hml : m.log2 ≤ 52 := log2_le_of_lt hm2
    -- the exact product lies 52 places lower
    by_cases hk2 : 52 ≤ k
    · have hp : (-1074 + ((1022 : Nat) : Int) + (-1074 + (k : Int))) = -1074 + ((k - 52 : Nat) : Int) := by omega
      rw [hp]
      obtain ⟨r, er, hr, hvr⟩ := nearest_exact (false ^^ false) (binR * m) (k - 52) (Nat.mul_ne_zero (by decide) h0) (by
        rw [hl]
        refine Nat.dvd_trans (b := pw 52) ?_ ⟨m, by rw [cb]⟩
        exact Nat.pow_dvd_pow 2 (by omega)) (by rw [hl]; omega)
      have : r = y := V_inj (by
        rw [hvr, ← hmv, cb, Nat.mul_comm (pw 52), Nat.mul_assoc, ← pw_add]
        congr 2; omega)
      rw [er, this]; rfl
    · exfalso
      have h53 : V (52 * binR + binR) = binR * pw 52 := V_kept 52 binR (by decide) (Or.inr (Nat.le_refl _))
      have hge : binR * pw 52 ≤ V y := by rw [← h53]; exact V_le (by omega)
      have hlt : m * pw k < 2 * binR * pw k := Nat.mul_lt_mul_of_pos_right hm2 (pw_pos _)
      have h51 : pw k ≤ pw 51 := pw_le (by omega)
      have : 2 * binR * pw k ≤ 2 * binR * pw 51 := Nat.mul_le_mul_left _ h51
      have e : 2 * binR * pw 51 = binR * pw 52 := by decide
      omega

/-- A whole number k of at most 2^53: its bits are x, and of x, 53 binades lower, just k by 2^53 are let in. -/
theorem counts {k : Nat} (hk : k ≤ pw 53) (h0 : 0 < k) : ∃ x, double.write (.number false k 0) = x ∧ 1023 * binR ≤ x ∧ x < 1077 * binR ∧ ∀ d, d < 18446744073709551616 → adm (x - 53 * binR) d = decide (d / 2048 < k) := by
  have c53 : pw 53 = 9007199254740992 := by decide
  have hb : binR = 4503599627370496 := rfl
  have hi : infR = 9218868437227405312 := rfl
  have ho : one = 1022 * binR + binR := by decide
  have hk0 : k ≠ 0 := by omega
  obtain ⟨b1, b2⟩ := log2_bounds hk0
  have hl : k.log2 ≤ 53 := log2_le_of_lt (Nat.lt_of_le_of_lt hk (by decide))
  obtain ⟨x, ex, hxi, hv⟩ := nearest_exact false k 1074 hk0 (by
    by_cases h : k.log2 ≤ 52
    · have : k.log2 - 52 = 0 := by omega
      rw [this, pw_zero]; exact Nat.one_dvd _
    · have h53 : k.log2 = 53 := by omega
      rw [h53] at b1
      have : k = pw 53 := by omega
      rw [h53, this]; exact ⟨pw 52, by decide⟩) (by omega)
  have hV1 : V one = pw 1074 := by
    rw [ho, V_kept 1022 binR (by decide) (Or.inr (Nat.le_refl _))]
    have : binR = pw 52 := by decide
    rw [this, ← pw_add]
  have hx1 : 1023 * binR ≤ x := by
    rcases Nat.lt_or_ge x one with h | h
    · have := V_lt h
      rw [hV1, hv] at this
      have h2 : pw 1074 ≤ k * pw 1074 := Nat.le_mul_of_pos_left _ h0
      omega
    · omega
  have hx2 : x < 1077 * binR := by
    rcases Nat.lt_or_ge x (1076 * binR + binR) with h | h
    · omega
    · have h2 := V_le h
      rw [V_kept 1076 binR (by decide) (Or.inr (Nat.le_refl _)), hv] at h2
      have e : binR * pw 1076 = 2 * pw 53 * pw 1074 := by
        have e1 : binR = pw 52 := by decide
        have e2 : (2 : Nat) * pw 53 = pw 54 := by decide
        rw [e1, e2, ← pw_add, ← pw_add]
      rw [e] at h2
      have h3 := Nat.le_of_mul_le_mul_right h2 (pw_pos 1074)
      omega
  refine ⟨x, by simpa [Format.write, Format.word] using ex, hx1, hx2, fun d hd => ?_⟩
  have hVp : V (x - 53 * binR) * pw 53 = k * pw 1074 := by
    rw [← hv]
    have e1 : ¬ x < binR := by omega
    have e2 : ¬ x - 53 * binR < binR := by omega
    have e3 : (x - 53 * binR) % binR = x % binR := by rw [hb] at hx1 ⊢; omega
    have e4 : (x - 53 * binR) / binR - 1 + 53 = x / binR - 1 := by rw [hb] at hx1 ⊢; omega
    unfold V
    rw [if_neg e1, if_neg e2, e3, Nat.mul_assoc, ← pw_add, e4]
  have hVp2 : V (x - 53 * binR) = k * pw 1021 := by
    have e5 : pw 1074 = pw 1021 * pw 53 := by rw [← pw_add]
    rw [e5, ← Nat.mul_assoc] at hVp
    exact Nat.eq_of_mul_eq_mul_right (pw_pos 53) hVp
  rw [Bool.eq_iff_iff]
  unfold adm
  rw [decide_eq_true_iff, decide_eq_true_iff, hVp2]
  constructor
  · rintro ⟨_, _, h | h⟩
    · have h2 := V_le h
      rw [hV1, hVp2] at h2
      have e5 : pw 1074 = pw 53 * pw 1021 := by rw [← pw_add]
      rw [e5] at h2
      have h3 := Nat.le_of_mul_le_mul_right h2 (pw_pos 1021)
      omega
    · exact Nat.lt_of_mul_lt_mul_right h
  · intro h
    exact ⟨by omega, by omega, Or.inr (Nat.mul_lt_mul_of_pos_right h (pw_pos _))⟩
end Go.Proofs.YthojbccoejdmeaaDoor
