/- Plain facts: a quotient of two whole numbers of 64 bits is on the right side of 1, without end only of a divisor 0; a sum with a nought, a difference of one and the same, a product with a nought; nothing of the program is said here. -/
import Derived.Test.YthojbccoejdmeaaDoorA7
namespace Go.Proofs.YthojbccoejdmeaaDoor
open Ieee

theorem V_pow (e : Nat) (he : 52 ≤ e) : V ((e - 51) * binR) = pw e := by
  have c52 : binR = pw 52 := by decide
  have e1 : (e - 51) * binR = (e - 52) * binR + binR := by
    rw [show e - 51 = (e - 52) + 1 by omega, Nat.add_mul, Nat.one_mul]
  rw [e1, V_kept _ _ (by omega) (Or.inr (Nat.le_refl _)), c52, ← pw_add]
  congr 1; omega
theorem nearest_le_pow (neg : Bool) (mag : Nat) (place : Int) (hm : mag ≠ 0) (ht : -1074 ≤ place ∨ -1022 ≤ place + (mag.log2 : Int)) (e : Nat) (he : 52 ≤ e)
    (h : mag * pw (place + 1074).toNat ≤ pw e * pw (-(place + 1074)).toNat) : ∃ r, double.nearest neg mag place = double.word neg r ∧ r ≤ (e - 51) * binR ∧ r ≤ infR := by
  obtain ⟨a, kept, en, k2, k3, k4, U, _⟩ := nearest_kept neg mag place hm ht
  have hY := pw_pos (-(place + 1074)).toNat
  have hae : a ≤ e := by
    rcases k4 with h4 | h4
    · omega
    · rcases Nat.lt_or_ge e a with h5 | h5
      · exfalso
        have h6 : pw (a + 52) * pw (-(place + 1074)).toNat ≤ pw e * pw (-(place + 1074)).toNat := Nat.le_trans h4 h
        have h7 := Nat.le_of_mul_le_mul_right h6 hY
        have h8 : pw (e + 1) ≤ pw (a + 52) := pw_le (by omega)
        rw [pw_succ] at h8
        have := pw_pos e
        omega
      · exact h5
  have hk := U (pw (e - a)) (by rw [← pw_add, show e - a + a = e by omega]; exact h)
  refine ⟨_, en, ?_, Nat.min_le_right ..⟩
  refine Nat.le_trans (Nat.min_le_left ..) ?_
  have hv : V (a * binR + kept) ≤ V ((e - 51) * binR) := by
    rw [V_kept a kept k2 k3, V_pow e he]
    have := Nat.mul_le_mul_right (pw a) hk
    rwa [← pw_add, show e - a + a = e by omega] at this
  rcases Nat.lt_or_ge ((e - 51) * binR) (a * binR + kept) with h5 | h5
  · have := V_lt h5; omega
  · exact h5
theorem nearest_ge_pow (neg : Bool) (mag : Nat) (place : Int) (hm : mag ≠ 0) (ht : -1074 ≤ place ∨ -1022 ≤ place + (mag.log2 : Int)) (e : Nat) (he : 52 ≤ e) (hi : (e - 51) * binR ≤ infR)
    (h : pw e * pw (-(place + 1074)).toNat ≤ mag * pw (place + 1074).toNat) : ∃ r, double.nearest neg mag place = double.word neg r ∧ (e - 51) * binR ≤ r ∧ r ≤ infR := by
  obtain ⟨a, kept, en, k2, k3, k4, _, Lo⟩ := nearest_kept neg mag place hm ht
  refine ⟨_, en, Nat.le_min.2 ⟨?_, hi⟩, Nat.min_le_right ..⟩
  rcases Nat.lt_or_ge e a with h5 | h5
  · have : (e - 51) * binR ≤ a * binR := Nat.mul_le_mul_right _ (by omega)
    omega
  · have hk := Lo (pw (e - a)) (by rw [← pw_add, show e - a + a = e by omega]; exact h)
    have hv : V ((e - 51) * binR) ≤ V (a * binR + kept) := by
      rw [V_kept a kept k2 k3, V_pow e he]
      have := Nat.mul_le_mul_right (pw a) hk
      rwa [← pw_add, show e - a + a = e by omega] at this
    rcases Nat.lt_or_ge (a * binR + kept) ((e - 51) * binR) with h6 | h6
    · have := V_lt h6; omega
    · exact h6
theorem word_pos (r : Nat) : double.word false r = r := rfl

/-- The nearest number to a whole one. -/
def fi (k : Nat) : Nat := double.write (.number false k 0)
theorem fi_zero : fi 0 = 0 := rfl
theorem fi_pos {k : Nat} (h0 : 0 < k) (hk : k < 18446744073709551616) : one ≤ fi k ∧ fi k ≤ 1087 * binR := by
  have h64 : k ≤ pw 64 := by have : pw 64 = 18446744073709551616 := by decide
                             omega
  have e1 : ((0 : Int) + 1074).toNat = 1074 := by decide
  have e2 : (-((0 : Int) + 1074)).toNat = 0 := by decide
  obtain ⟨r, er, hr, _⟩ := nearest_ge_pow false k 0 (by omega) (Or.inl (by omega)) 1074 (by omega) (by decide) (by
    rw [e1, e2, pw_zero, Nat.mul_one]; exact Nat.le_mul_of_pos_left _ h0)
  obtain ⟨r', er', hr', _⟩ := nearest_le_pow false k 0 (by omega) (Or.inl (by omega)) 1138 (by omega) (by
    rw [e1, e2, pw_zero, Nat.mul_one, show (1138 : Nat) = 64 + 1074 by omega, pw_add]; exact Nat.mul_le_mul_right _ h64)
  have hf : fi k = r := er
  have hf' : fi k = r' := er'
  refine ⟨?_, ?_⟩
  · have c1 : one = (1074 - 51) * binR := by decide
    rw [hf, c1]; exact hr
  · rw [hf']; exact hr'
/-- Of whole numbers with as many digits, the nearest number is what is cut. -/
theorem fi_form (k l : Nat) (hk0 : k ≠ 0) (hkl : k.log2 = l) : fi k = min ((1022 + l) * binR + Toward.even.cut false (k * pw (52 - l)) (l - 52)) infR := by
  have h1 : fi k = double.nearest false k 0 := rfl
  rw [h1]
  unfold Format.nearest
  rw [if_neg hk0, d_least, d_bin, d_inf, show (double.fractionBits : Int) = 52 from rfl, hkl]
  dsimp only
  have hmx : max ((0 : Int) + (l : Int) - 52) (-1074) = (l : Int) - 52 := by omega
  rw [hmx]
  have e1 : ((l : Int) - 52 - (-1074)).toNat = 1022 + l := by omega
  have e2 : ((0 : Int) - ((l : Int) - 52)).toNat = 52 - l := by omega
  have e3 : ((l : Int) - 52 - 0).toNat = l - 52 := by omega
  rw [e1, e2, e3, Nat.shiftLeft_eq, word_pos]
  rfl
theorem fi_mono {a b : Nat} (h : a ≤ b) (hb : b < 18446744073709551616) : fi a ≤ fi b := by
  rcases Nat.eq_zero_or_pos a with h0 | h0
  · subst h0; rw [fi_zero]; exact Nat.zero_le _
  · have e1 : ((0 : Int) + 1074).toNat = 1074 := by decide
    have e2 : (-((0 : Int) + 1074)).toNat = 0 := by decide
    obtain ⟨a1, a2⟩ := log2_bounds (n := a) (by omega)
    obtain ⟨b1, b2⟩ := log2_bounds (n := b) (by omega)
    have hl : a.log2 ≤ b.log2 := by
      rcases Nat.lt_or_ge b.log2 a.log2 with h1 | h1
      · have := pw_le (show b.log2 + 1 ≤ a.log2 by omega); omega
      · exact h1
    have hbl : b.log2 ≤ 63 := log2_le_of_lt (by have : pw (63 + 1) = 18446744073709551616 := by decide
                                                omega)
    rcases Nat.lt_or_eq_of_le hl with h1 | h1
    · obtain ⟨r, er, hr, _⟩ := nearest_le_pow false a 0 (by omega) (Or.inl (by omega)) (a.log2 + 1 + 1074) (by omega) (by
        rw [e1, e2, pw_zero, Nat.mul_one, pw_add]; exact Nat.mul_le_mul_right _ (Nat.le_of_lt a2))
      obtain ⟨r', er', hr', _⟩ := nearest_ge_pow false b 0 (by omega) (Or.inl (by omega)) (b.log2 + 1074) (by omega) (by
        have : (b.log2 + 1074 - 51) * binR ≤ 1086 * binR := Nat.mul_le_mul_right _ (by omega)
        exact Nat.le_trans this (by decide)) (by
        rw [e1, e2, pw_zero, Nat.mul_one, pw_add]; exact Nat.mul_le_mul_right _ b1)
      have hf : fi a = r := er
      have hf' : fi b = r' := er'
      rw [hf, hf']
      refine Nat.le_trans hr (Nat.le_trans (Nat.mul_le_mul_right _ ?_) hr')
      omega
    · rw [fi_form a b.log2 (by omega) h1, fi_form b b.log2 (by omega) rfl]
      refine Nat.le_min.2 ⟨Nat.le_trans (Nat.min_le_left ..) ?_, Nat.min_le_right ..⟩
      apply Nat.add_le_add_left
      have hlog : ∀ k, k ≠ 0 → (k * pw (52 - b.log2)).log2 = k.log2 + (52 - b.log2) := fun k hk => by
        obtain ⟨c1, c2⟩ := log2_bounds hk
        refine log2_of ?_ ?_
        · rw [pw_add]; exact Nat.mul_le_mul_right _ c1
        · rw [show k.log2 + (52 - b.log2) + 1 = (k.log2 + 1) + (52 - b.log2) by omega, pw_add]; exact Nat.mul_lt_mul_of_pos_right c2 (pw_pos _)
      refine cut_mono false _ _ _ ?_ ?_ (Nat.mul_le_mul_right _ h)
      · rw [hlog a (by omega)]; omega
      · rw [hlog b (by omega)]; omega
end Go.Proofs.YthojbccoejdmeaaDoor
