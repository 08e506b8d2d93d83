/- Plain facts: a quotient of two whole numbers of 64 bits is on the right side of 1; a sum with a nought, a difference of one and the same, a product with a nought; nothing of the program is said here. -/
import Derived.Test.YthojbccoejdmeaaDoorA8
namespace Go.Proofs.YthojbccoejdmeaaDoor
open Ieee

theorem V_one : V one = pw 1074 := by
  have h := V_pow 1074 (by omega)
  have c : one = (1074 - 51) * binR := by decide
  rw [c]; exact h
theorem pw_lt_imp {a b : Nat} (h : pw a < pw b) : a < b := by
  rcases Nat.lt_or_ge a b with h1 | h1
  · exact h1
  · have := pw_le h1; omega
/-- What the bits of a whole number from 1 on stand for. -/
theorem read_fi {a : Nat} (h0 : 0 < a) (ha : a < 18446744073709551616) : ∃ m k, double.read (fi a) = .number false m (-1074 + (k : Nat)) ∧ m * pw k = V (fi a) ∧ m < 2 * binR ∧ binR ≤ m ∧ 1021 ≤ k ∧ k ≤ 1086 := by
  obtain ⟨f1, f2⟩ := fi_pos h0 ha
  have hi : fi a < infR := Nat.lt_of_le_of_lt f2 (by decide)
  have ht : fi a < topB := Nat.lt_trans hi (by decide)
  obtain ⟨m, k, e, hmv, hm2, hk, hz, hn⟩ := read_fin (x := fi a) (by rw [rg_small ht]; exact hi)
  rw [rg_small ht] at hmv hz
  rw [sgn_small ht] at e
  have v1 : pw 1074 ≤ V (fi a) := by rw [← V_one]; exact V_le f1
  have v2 : V (fi a) ≤ pw 1138 := by
    have h := V_pow 1138 (by omega)
    rw [← h]; exact V_le f2
  have c53 : pw 53 = 2 * binR := by decide
  have c52 : pw 52 = binR := by decide
  have hk1 : 1021 ≤ k := by
    have h1 : pw 1074 < pw 53 * pw k := by
      refine Nat.lt_of_le_of_lt v1 ?_
      rw [← hmv, c53]; exact Nat.mul_lt_mul_of_pos_right hm2 (pw_pos _)
    rw [← pw_add] at h1
    have := pw_lt_imp h1
    omega
  have hmb : binR ≤ m := by
    rcases hn with h | h
    · omega
    · exact h
  refine ⟨m, k, e, hmv, hm2, hmb, hk1, ?_⟩
  have h1 : pw 52 * pw k ≤ pw 1138 := by
    refine Nat.le_trans ?_ v2
    rw [← hmv, c52]; exact Nat.mul_le_mul_right _ hmb
  rw [← pw_add] at h1
  rcases Nat.lt_or_ge 1138 (52 + k) with h2 | h2
  · have := pw_le (show 1139 ≤ 52 + k by omega)
    have h3 : pw 1139 = 2 * pw 1138 := pw_succ 1138
    have := pw_pos 1138
    omega
  · omega

theorem quot_le (D n K Z : Nat) (hn : 0 < n) (hDn : n ≤ D) (hKZ : K ∣ Z ∨ Z < K) (hK : 0 < K) (h : D * K ≤ n * Z) : (2 * (D / n) + (D % n != 0).toNat) * K ≤ 2 * Z := by
  have e := Nat.div_add_mod D n
  have h1 : n * (D / n * K) + D % n * K ≤ n * Z := by
    have : n * (D / n * K) + D % n * K = D * K := by
      rw [← Nat.mul_assoc, ← Nat.add_mul, e]
    omega
  have hq1 : 1 ≤ D / n := (Nat.le_div_iff_mul_le hn).2 (by omega)
  by_cases h0 : D % n = 0
  · rw [h0]
    simp only [bne_self_eq_false, Bool.toNat_false, Nat.add_zero]
    have h2 : n * (D / n * K) ≤ n * Z := by omega
    have := Nat.le_of_mul_le_mul_left h2 hn
    rw [Nat.mul_assoc]; omega
  · have hb : (D % n != 0) = true := by simp [h0]
    rw [hb]
    have hpos : 0 < D % n * K := Nat.mul_pos (by omega) hK
    have h2 : n * (D / n * K) < n * Z := by omega
    have h3 := Nat.lt_of_mul_lt_mul_left h2
    rcases hKZ with ⟨c, hc⟩ | hZ
    · rw [hc, Nat.mul_comm K c] at h3
      have h4 := Nat.lt_of_mul_lt_mul_right h3
      have h5 : (D / n + 1) * K ≤ c * K := Nat.mul_le_mul_right _ h4
      rw [hc, Nat.mul_comm K c]
      have h6 : (2 * (D / n) + true.toNat) * K ≤ 2 * ((D / n + 1) * K) := by
        rw [← Nat.mul_assoc]; exact Nat.mul_le_mul_right _ (by simp; omega)
      omega
    · exfalso
      have : K ≤ D / n * K := Nat.le_mul_of_pos_left _ hq1
      omega
theorem quot_ge (D n K Z : Nat) (hn : 0 < n) (hDn : n ≤ D) (hKZ : K ∣ Z ∨ Z < K) (h : n * Z ≤ D * K) (hK : 0 < K) : 2 * Z ≤ (2 * (D / n) + (D % n != 0).toNat) * K := by
  have hq1 : 1 ≤ D / n := (Nat.le_div_iff_mul_le hn).2 (by omega)
  have h2 : 2 * (D / n * K) ≤ (2 * (D / n) + (D % n != 0).toNat) * K := by
    rw [← Nat.mul_assoc]; exact Nat.mul_le_mul_right _ (Nat.le_add_right _ _)
  refine Nat.le_trans ?_ h2
  rcases hKZ with ⟨c, hc⟩ | hZ
  · rw [hc, ← Nat.mul_assoc, Nat.mul_right_comm] at h
    have h3 := Nat.le_of_mul_le_mul_right h hK
    have h4 : c ≤ D / n := (Nat.le_div_iff_mul_le hn).2 (by rw [Nat.mul_comm]; exact h3)
    have := Nat.mul_le_mul_right K h4
    rw [hc, Nat.mul_comm K c]; omega
  · have : K ≤ D / n * K := Nat.le_mul_of_pos_left _ hq1
    omega

theorem div_fi {a b : Nat} (h0 : 0 < a) (h1 : 0 < b) (ha : a < 18446744073709551616) (hb : b < 18446744073709551616) :
    ∃ r, double.div (fi a) (fi b) = some r ∧ r ≤ infR ∧ (a ≤ b → r ≤ one) ∧ (b ≤ a → one ≤ r) := by
  obtain ⟨m, k1, em, vm, m1, m2, k1a, k1b⟩ := read_fi h0 ha
  obtain ⟨n, k2, en, vn, n1, n2, k2a, k2b⟩ := read_fi h1 hb
  have c52 : pw 52 = binR := by decide
  have c53 : pw (52 + 1) = 2 * binR := by decide
  have hbp : 0 < binR := by decide
  have hml : m.log2 = 52 := log2_of (by rw [c52]; exact m2) (by rw [c53]; exact m1)
  have hnl : n.log2 = 52 := log2_of (by rw [c52]; exact n2) (by rw [c53]; exact n1)
  unfold Format.div
  rw [em, en]
  have hn0 : n ≠ 0 := by omega
  simp only [Datum.quotient, if_neg hn0, Option.map, Format.write, hml, hnl]
  have hmore : double.fractionBits + 2 + 52 - 52 = 54 := rfl
  rw [hmore, Nat.shiftLeft_eq, show (2 : Nat) ^ 54 = pw 54 from rfl]
  have hD : n ≤ m * pw 54 := by
    have : 2 * binR ≤ pw 54 * binR := Nat.mul_le_mul_right _ (by decide)
    have h2 : pw 54 * binR ≤ pw 54 * m := Nat.mul_le_mul_left _ m2
    rw [Nat.mul_comm m]; omega
  have hq : 1 ≤ m * pw 54 / n := (Nat.le_div_iff_mul_le (by omega)).2 (by omega)
  generalize hqq : 2 * (m * pw 54 / n) + (m * pw 54 % n != 0).toNat = q
  have hq0 : q ≠ 0 := by omega
  have hpl : (-1074 + (k1 : Int) - (-1074 + (k2 : Int)) - ((54 : Nat) : Int) - 1) = (k1 : Int) - (k2 : Int) - 55 := by omega
  rw [hpl]
  have hb1 : -1074 ≤ (k1 : Int) - (k2 : Int) - 55 := by omega
  generalize hs : ((k1 : Int) - (k2 : Int) - 55 + 1074).toNat = s
  generalize hu : (-((k1 : Int) - (k2 : Int) - 55 + 1074)).toNat = u
  have hsu : s + (k2 + 54 + 1) = u + k1 + 1074 := by omega
  -- the two sides, 2 to the (k2 + 55) times greater
  have lift : q * pw s * pw (k2 + 54 + 1) = q * pw k1 * (pw 1074 * pw u) := by
    rw [Nat.mul_assoc, ← pw_add, hsu, pw_add, pw_add]
    generalize pw u = A; generalize pw k1 = B; generalize pw 1074 = C
    ac_rfl
  have hKZ : pw k1 ∣ pw (k2 + 54) ∨ pw (k2 + 54) < pw k1 := by
    rcases Nat.lt_or_ge (k2 + 54) k1 with h | h
    · refine Or.inr ?_
      have := pw_le (show k2 + 54 + 1 ≤ k1 by omega)
      rw [pw_succ] at this
      have := pw_pos (k2 + 54)
      omega
    · exact Or.inl (Nat.pow_dvd_pow 2 h)
  have hDK : ∀ x y : Nat, m * pw 54 * pw k1 = pw 54 * (m * pw k1) ∧ n * pw (k2 + 54) = pw 54 * (n * pw k2) := fun _ _ => by
    rw [pw_add]
    generalize pw 54 = A; generalize pw k1 = B; generalize pw k2 = C
    exact ⟨by ac_rfl, by ac_rfl⟩
  obtain ⟨d1, d2⟩ := hDK 0 0
  have hp2 := pw_pos (k2 + 54 + 1)
  have hcone : (1074 - 51) * binR = one := by decide
  have low : b ≤ a → pw 1074 * pw u ≤ q * pw s := by
    intro hab
    have hV : V (fi b) ≤ V (fi a) := V_le (fi_mono hab ha)
    have h3 : n * pw (k2 + 54) ≤ m * pw 54 * pw k1 := by
      rw [d1, d2, vm, vn]; exact Nat.mul_le_mul_left _ hV
    have h4 := quot_ge (m * pw 54) n (pw k1) (pw (k2 + 54)) (by omega) hD hKZ h3 (pw_pos _)
    rw [hqq, ← pw_succ] at h4
    have h5 : pw 1074 * pw u * pw (k2 + 54 + 1) ≤ q * pw s * pw (k2 + 54 + 1) := by
      rw [lift, Nat.mul_comm (q * pw k1)]
      exact Nat.mul_le_mul_left _ h4
    exact Nat.le_of_mul_le_mul_right h5 hp2
  have high : a ≤ b → q * pw s ≤ pw 1074 * pw u := by
    intro hab
    have hV : V (fi a) ≤ V (fi b) := V_le (fi_mono hab hb)
    have h3 : m * pw 54 * pw k1 ≤ n * pw (k2 + 54) := by
      rw [d1, d2, vm, vn]; exact Nat.mul_le_mul_left _ hV
    have h4 := quot_le (m * pw 54) n (pw k1) (pw (k2 + 54)) (by omega) hD hKZ (pw_pos _) h3
    rw [hqq, ← pw_succ] at h4
    have h5 : q * pw s * pw (k2 + 54 + 1) ≤ pw 1074 * pw u * pw (k2 + 54 + 1) := by
      rw [lift, Nat.mul_comm (q * pw k1)]
      exact Nat.mul_le_mul_left _ h4
    exact Nat.le_of_mul_le_mul_right h5 hp2
  rcases Nat.le_total a b with hab | hab
  · obtain ⟨r, er, hr, hri⟩ := nearest_le_pow (false ^^ false) q _ hq0 (Or.inl hb1) 1074 (by omega) (by rw [hs, hu]; exact high hab)
    rw [hcone] at hr
    refine ⟨r, by rw [er]; rfl, hri, fun _ => hr, fun hba => ?_⟩
    obtain ⟨r', er', hr', _⟩ := nearest_ge_pow (false ^^ false) q _ hq0 (Or.inl hb1) 1074 (by omega) (by decide) (by rw [hs, hu]; exact low hba)
    rw [hcone] at hr'
    have : double.word (false ^^ false) r = double.word (false ^^ false) r' := er.symm.trans er'
    have h6 : r = r' := this
    omega
  · obtain ⟨r, er, hr, hri⟩ := nearest_ge_pow (false ^^ false) q _ hq0 (Or.inl hb1) 1074 (by omega) (by decide) (by rw [hs, hu]; exact low hab)
    rw [hcone] at hr
    refine ⟨r, by rw [er]; rfl, hri, fun hba => ?_, fun _ => hr⟩
    obtain ⟨r', er', hr', _⟩ := nearest_le_pow (false ^^ false) q _ hq0 (Or.inl hb1) 1074 (by omega) (by rw [hs, hu]; exact high hba)
    rw [hcone] at hr'
    have : double.word (false ^^ false) r = double.word (false ^^ false) r' := er.symm.trans er'
    have h6 : r = r' := this
    omega

theorem fin_of {x : Nat} (h : x ≤ one) : x < infR ∧ x < topB := by
  have ho : one = 4607182418800017408 := rfl
  have ht : topB = 9223372036854775808 := rfl
  have hi : infR = 9218868437227405312 := rfl
  omega
theorem read_pos {x : Nat} (h : x ≤ one) : ∃ m k, double.read x = .number false m (-1074 + (k : Nat)) ∧ m * pw k = V x ∧ m < 2 * binR ∧ k ≤ 2045 ∧ (m = 0 ↔ x = 0) ∧ (k = 0 ∨ binR ≤ m) := by
  obtain ⟨hi, ht⟩ := fin_of h
  obtain ⟨m, k, e, r⟩ := read_fin (x := x) (by rw [rg_small ht]; exact hi)
  rw [rg_small ht] at r
  rw [sgn_small ht] at e
  exact ⟨m, k, e, r⟩
theorem read_zero : double.read 0 = .number false 0 (-1074 + (0 : Nat)) := by rw [read_eq]; decide
theorem read_nzero : double.read topB = .number true 0 (-1074 + (0 : Nat)) := by rw [read_eq]; decide

/-- A number of at most 1 and a nought are it. -/
theorem add_nought {x : Nat} (h : x ≤ one) (z : Nat) (hz : z = 0 ∨ z = topB) : double.add x z = some x := by
  obtain ⟨m, k, e, hv, hm2, hk, hz0, hn⟩ := read_pos h
  obtain ⟨t, ez⟩ : ∃ t, double.read z = .number t 0 (-1074 + (0 : Nat)) := by
    rcases hz with rfl | rfl
    · exact ⟨_, read_zero⟩
    · exact ⟨_, read_nzero⟩
  unfold Format.add
  rw [e, ez]
  simp only [Datum.sum, Option.map]
  have hmin : min (-1074 + (k : Int)) (-1074 + ((0 : Nat) : Int)) = -1074 + ((0 : Nat) : Int) := by omega
  rw [hmin]
  have e1 : (-1074 + (k : Int) - (-1074 + ((0 : Nat) : Int))).toNat = k := by omega
  have e2 : signed false m k = ((m * pw k : Nat) : Int) := by
    unfold signed; rw [Nat.shiftLeft_eq]; rfl
  have e3 : ∀ u, signed t 0 u = 0 := fun u => by unfold signed; cases t <;> simp
  rw [e1, e2, e3, Int.add_zero, hv]
  by_cases h0 : x = 0
  · subst h0
    rw [V_zero]
    simp [Format.write, Format.nearest, Format.word]
  · have hV : 0 < V x := by have := V_lt (show 0 < x by omega); rw [V_zero] at this; exact this
    have hne : ¬ ((V x : Int) = 0) := by omega
    have hns : decide ((V x : Int) < 0) = false := by rw [decide_eq_false]; omega
    rw [if_neg hne, hns]
    have hna : (V x : Int).natAbs = V x := by omega
    rw [hna]
    simp only [Format.write]
    -- V x has the digits of m, moved up
    have hm0 : m ≠ 0 := fun hh => h0 (hz0.1 hh)
    have hl : (V x).log2 = m.log2 + k := by
      rw [← hv]
      obtain ⟨b1, b2⟩ := log2_bounds hm0
      refine log2_of ?_ ?_
      · rw [pw_add]; exact Nat.mul_le_mul_right _ b1
      · rw [show m.log2 + k + 1 = (m.log2 + 1) + k by omega, pw_add]; exact Nat.mul_lt_mul_of_pos_right b2 (pw_pos _)
    have hml : m.log2 ≤ 52 := log2_le_of_lt hm2
    obtain ⟨r, er, hr, hvr⟩ := nearest_exact false (V x) 0 (by omega) (by
      rw [hl, ← hv]
      exact Nat.dvd_trans (Nat.pow_dvd_pow 2 (show m.log2 + k - 52 ≤ k by omega)) ⟨m, Nat.mul_comm ..⟩) (by rw [hl]; omega)
    rw [pw_zero, Nat.mul_one] at hvr
    have : r = x := V_inj hvr
    rw [er, this]; rfl
theorem sub_self' {x : Nat} (h : x ≤ one) : double.sub x x = some 0 := by
  obtain ⟨m, k, e, _⟩ := read_pos h
  unfold Format.sub
  rw [e]
  simp only [Datum.opposite, Datum.sum, Option.map]
  have : ∀ u, signed false m u + signed (!false) m u = 0 := fun u => by
    rw [signed_eq, signed_eq]
    simp only [Bool.false_eq_true, if_false, Bool.not_false, if_true, Int.one_mul, Int.neg_mul]
    omega
  rw [this]
  simp [Format.write, Format.nearest, Format.word]
theorem nought_mul {y : Nat} (t : Bool) (n : Nat) (j : Int) (h : double.read y = .number t n j) : ∃ z, double.mul 0 y = some z ∧ (z = 0 ∨ z = topB) := by
  unfold Format.mul
  rw [read_zero, h]
  simp only [Datum.product, Option.map, Format.write]
  rw [Nat.zero_mul]
  simp only [Format.nearest, if_true]
  cases t
  · exact ⟨0, rfl, Or.inl rfl⟩
  · exact ⟨topB, rfl, Or.inr rfl⟩
theorem mul_nought {x : Nat} (h : x ≤ one) : double.mul x 0 = some 0 := by
  obtain ⟨m, k, e, _⟩ := read_pos h
  unfold Format.mul
  rw [read_zero, e]
  simp only [Datum.product, Option.map, Format.write]
  rw [Nat.mul_zero]
  simp [Format.nearest, Format.word]
/-- A difference of two numbers of at most 1 has an end. -/
theorem sub_fin {x y : Nat} (hx : x ≤ one) (hy : y ≤ one) : ∃ z t n j, double.sub x y = some z ∧ z < 18446744073709551616 ∧ double.read z = .number t n j := by
  obtain ⟨m, k, ex, vx, _⟩ := read_pos hx
  obtain ⟨n, j, ey, vy, _⟩ := read_pos hy
  unfold Format.sub
  rw [ex, ey]
  simp only [Datum.opposite, Datum.sum, Option.map, Format.write]
  have hmin : min (-1074 + (k : Int)) (-1074 + (j : Int)) = -1074 + ((min k j : Nat) : Int) := by omega
  rw [hmin]
  generalize hT : signed false m (-1074 + (k : Int) - (-1074 + ((min k j : Nat) : Int))).toNat + signed (!false) n (-1074 + (j : Int) - (-1074 + ((min k j : Nat) : Int))).toNat = T
  have hV1x : V x ≤ pw 1074 := by rw [← V_one]; exact V_le hx
  have hV1y : V y ≤ pw 1074 := by rw [← V_one]; exact V_le hy
  have hTv : T * (pw (min k j) : Int) = (V x : Int) - (V y : Int) := by
    rw [← hT, Int.add_mul, ← vx, ← vy]
    have a1 : (-1074 + (k : Int) - (-1074 + ((min k j : Nat) : Int))).toNat + min k j = k := by omega
    have a2 : (-1074 + (j : Int) - (-1074 + ((min k j : Nat) : Int))).toNat + min k j = j := by omega
    generalize (-1074 + (k : Int) - (-1074 + ((min k j : Nat) : Int))).toNat = u1 at *
    generalize (-1074 + (j : Int) - (-1074 + ((min k j : Nat) : Int))).toNat = u2 at *
    rw [signed_eq, signed_eq]
    have q1 : pw k = pw u1 * pw (min k j) := by rw [← pw_add, a1]
    have q2 : pw j = pw u2 * pw (min k j) := by rw [← pw_add, a2]
    have p1 : (m : Int) * (pw u1 : Int) * (pw (min k j) : Int) = ((m * pw k : Nat) : Int) := by
      rw [q1, Int.natCast_mul, Int.natCast_mul, Int.mul_assoc]
    have p2 : (n : Int) * (pw u2 : Int) * (pw (min k j) : Int) = ((n * pw j : Nat) : Int) := by
      rw [q2, Int.natCast_mul, Int.natCast_mul, Int.mul_assoc]
    simp only [Bool.false_eq_true, if_false, Bool.not_false, if_true, Int.one_mul]
    rw [p1, Int.neg_mul, Int.one_mul, Int.neg_mul, p2]
    omega
  by_cases h0 : T.natAbs = 0
  · rw [h0]
    simp only [Format.nearest, if_true]
    generalize (if T = 0 then false && !false else decide (T < 0)) = sg
    cases sg
    · exact ⟨0, false, 0, _, rfl, by decide, read_zero⟩
    · exact ⟨topB, true, 0, _, rfl, by decide, read_nzero⟩
  · have hle : T.natAbs * pw (min k j) ≤ pw 1074 := by
      have h2 : (T * (pw (min k j) : Int)).natAbs = T.natAbs * pw (min k j) := by rw [Int.natAbs_mul]; rfl
      rw [hTv] at h2
      generalize pw 1074 = P at *
      omega
    have e1 : (-1074 + ((min k j : Nat) : Int) + 1074).toNat = min k j := by omega
    have e2 : (-(-1074 + ((min k j : Nat) : Int) + 1074)).toNat = 0 := by omega
    generalize (if T = 0 then false && !false else decide (T < 0)) = sg
    obtain ⟨r, er, hr, _⟩ := nearest_le_pow sg T.natAbs (-1074 + ((min k j : Nat) : Int)) h0 (Or.inl (by omega)) 1074 (by omega) (by
      rw [e1, e2, pw_zero, Nat.mul_one]; exact hle)
    have hcone : (1074 - 51) * binR = one := by decide
    rw [hcone] at hr
    obtain ⟨hri, hrt⟩ := fin_of hr
    obtain ⟨g1, g2, g3⟩ := word_rg sg hrt
    obtain ⟨m', k', er', _⟩ := read_fin (x := double.word sg r) (by rw [g1]; exact hri)
    refine ⟨double.word sg r, _, _, _, by rw [er], ?_, er'⟩
    have : 2 * topB = 18446744073709551616 := by decide
    omega
end Go.Proofs.YthojbccoejdmeaaDoor
