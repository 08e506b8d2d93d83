/- The law ChanceCounts as a call: of a number of at most 2^53, brought to a number with a point and times 2^-53 by the library's Ldexp, just as many draws are let in; for all numbers of 64 bits; the condition is that the library's table of 64 places reads as its text lays it. -/
import Derived.Test.YthojbccoejdmeaaDoorE2
import Derived.Test.YthojbccoejdmeaaDoorA6
import Derived.Laws.BitsAllLaws
namespace Go.Proofs.YthojbccoejdmeaaDoor
open Go.RowKit

theorem andNot_top (r : Nat) (hr : r < topB) : bits .andNot .u64 (r : Int) 9223372036854775808 = ((r : Nat) : Int) := by
  have ht : topB = 9223372036854775808 := rfl
  have := u64_andNot_nat r 9223372036854775808 (by omega) (by decide)
  rw [show (9223372036854775808 : Int) = ((9223372036854775808 : Nat) : Int) from rfl, this]
  congr 1
  have := Nat.and_two_pow_sub_one_eq_mod r 63
  rw [show (18446744073709551615 - 9223372036854775808 : Nat) = 2 ^ 63 - 1 by decide, this]
  exact Nat.mod_eq_of_lt hr
theorem abs_pos (r : Nat) (hr : r < topB) (w : World) : Calls Tryd.prog 42 #[.float .f64 r] w fun e w' => e = .returned (.float .f64 r) ∧ w' = w := by
  have hb := fbits
  have hb2 := frombits
  have ha := andNot_top r hr
  go_enter Tryd.func42, Tryd.ntmps42
  go_wp2
  go_ret
  exact ⟨rfl, rfl⟩
theorem inf0 (r : Nat) (hr : r < infR) (w : World) : Calls Tryd.prog 37 #[.float .f64 r, .int .i64 0] w fun e w' => e = .returned (.bool false) ∧ w' = w := by
  have hi : infR = 9218868437227405312 := rfl
  have ht : topB = 9223372036854775808 := rfl
  have h0 : (FloatKind.f64.format.order r 9218868437227405311 == some .gt) = false := by
    rw [ordBig (by omega), decide_eq_false (by omega)]
  have ha := abs_pos r (by omega)
  clear hi ht
  go_enter Tryd.func37, Tryd.ntmps37
  go_wp2_with fail
  go_call (ha w) as e w1 ⟨rfl, rfl⟩
  clear ha
  go_wp2
  go_ret
  exact ⟨rfl, rfl⟩
theorem norm_pos (r : Nat) (hr : r < infR) (hr1 : binR ≤ r) (w : World) : Calls Tryd.prog 41 #[.float .f64 r] w fun e w' => e = .returned (.tuple #[.float .f64 r, .int .i64 0]) ∧ w' = w := by
  have hi : infR = 9218868437227405312 := rfl
  have ht : topB = 9223372036854775808 := rfl
  have hbn : binR = 4503599627370496 := rfl
  have h0 : (FloatKind.f64.format.order r 4503599627370496 == some .lt) = false := by
    rw [show FloatKind.f64.format.order r 4503599627370496 = _ from order_pos (by omega) (by decide) (by unfold nanB; rw [rg_small (by omega)]; simp; omega), if_neg (by omega), if_neg (by omega)]
    split <;> rfl
  have ha := abs_pos r (by omega)
  clear hi ht hbn
  go_enter Tryd.func41, Tryd.ntmps41
  go_wp2_with fail
  go_call (ha w) as e w1 ⟨rfl, rfl⟩
  clear ha
  go_wp2
  go_returns
  exact ⟨rfl, rfl⟩

theorem andNot_exp (r : Nat) (hr : r < topB) : bits .andNot .u64 (r : Int) 9218868437227405312 = ((r % 4503599627370496 : Nat) : Int) := by
  have ht : topB = 9223372036854775808 := rfl
  have := u64_andNot_nat r 9218868437227405312 (by omega) (by decide)
  rw [show (9218868437227405312 : Int) = ((9218868437227405312 : Nat) : Int) from rfl, this]
  congr 1
  apply Nat.eq_of_testBit_eq
  intro i
  have e : (18446744073709551615 - 9218868437227405312 : Nat) = 2 ^ 63 + (2 ^ 52 - 1) := by decide
  rw [Nat.testBit_and, e, show (4503599627370496 : Nat) = 2 ^ 52 by decide, Nat.testBit_mod_two_pow]
  have hl : (2 ^ 52 - 1 : Nat) < 2 ^ 63 := by decide
  have e2 : (2 ^ 63 + (2 ^ 52 - 1) : Nat) = 2 ^ 63 * 1 + (2 ^ 52 - 1) := by decide
  rw [e2, Nat.testBit_two_pow_mul_add 1 hl i]
  by_cases h1 : i < 63
  · rw [if_pos h1, Nat.testBit_two_pow_sub_one, Bool.and_comm]
  · rw [if_neg h1]
    have h0 : r.testBit i = false := Nat.testBit_lt_two_pow (Nat.lt_of_lt_of_le (show r < 2 ^ 63 from hr) (Nat.pow_le_pow_right (by decide) (by omega)))
    rw [h0]; simp

theorem wrap64_id (x : Int) (h1 : -1000000 ≤ x) (h2 : x ≤ 1000000) : wrap64 x = x := by unfold wrap64; omega
theorem and2047 (e : Nat) (h1 : 1023 ≤ e) (h2 : e < 1077) : bits .and .i64 (e : Int) 2047 = (e : Int) := by
  obtain ⟨j, rfl⟩ : ∃ j, e = 1023 + j := ⟨e - 1023, by omega⟩
  have key : ∀ j : Fin 54, bits .and .i64 ((1023 + j.val : Nat) : Int) 2047 = ((1023 + j.val : Nat) : Int) := by decide
  exact key ⟨j, by omega⟩

theorem ld_nums (r : Nat) (h1 : 4607182418800017408 ≤ r) (h2 : r < 4850376798678024192) : ∃ e g m z : Nat, r / 4503599627370496 = e ∧ 1023 ≤ e ∧ e < 1077 ∧ g + 53 = e ∧ r % 4503599627370496 = m ∧ m < 4503599627370496 ∧ z + 238690780250636288 = r ∧ 4503599627370496 * g + m = z := by
  refine ⟨r / 4503599627370496, r / 4503599627370496 - 53, r % 4503599627370496, r - 238690780250636288, rfl, ?_, ?_, ?_, rfl, ?_, ?_, ?_⟩
  · omega
  · omega
  · omega
  · omega
  · omega
  · omega
theorem ld3 (e g : Nat) (h1 : 1023 ≤ e) (h2 : e < 1077) (h : g + 53 = e) : wrap64 (-53 + wrap64 ((e : Int) - 1023)) = (g : Int) - 1023 := by
  rw [wrap64_id ((e : Int) - 1023) (by omega) (by omega), wrap64_id _ (by omega) (by omega)]; omega
theorem ld8 (m g z : Nat) (hm : m < 4503599627370496) (hg : g < 2000) (h : 4503599627370496 * g + m = z) : bits .or .u64 (m : Int) ((g : Int) * 4503599627370496) = (z : Int) := by
  have := bits_or_u64_nat m (g * 4503599627370496) (by omega) (by omega)
  rw [show (g : Int) * 4503599627370496 = ((g * 4503599627370496 : Nat) : Int) by omega, this]
  congr 1
  have h3 := Nat.two_pow_add_eq_or_of_lt (i := 52) (b := m) (by omega) g
  rw [Nat.or_comm, Nat.mul_comm g, show (4503599627370496 : Nat) = 2 ^ 52 by decide, ← h3]
  exact h
theorem ord_eq0 (r : Nat) (h0 : 0 < r) (h : r < topB) (hn : nanB r = false) : (FloatKind.f64.format.order r 0 == some .eq) = false := by
  have ht : topB = 9223372036854775808 := rfl
  rw [show FloatKind.f64.format.order r 0 = _ from order_pos (by omega) (by decide) hn, if_neg (by omega), if_neg (by omega), if_pos h0]
  rfl
theorem ldexp_in (r e g m z : Nat) (hn : nanB r = false) (h0 : (FloatKind.f64.format.order r 0 == some .eq) = false) (hinf : ∀ w, Calls Tryd.prog 37 #[.float .f64 r, .int .i64 0] w fun e w' => e = .returned (.bool false) ∧ w' = w)
    (hnorm : ∀ w, Calls Tryd.prog 41 #[.float .f64 r] w fun e w' => e = .returned (.tuple #[.float .f64 r, .int .i64 0]) ∧ w' = w)
    (hre : (r : Int) / 4503599627370496 = (e : Int)) (f0 : wrap64 (e : Int) = (e : Int)) (f2 : bits .and .i64 (e : Int) 2047 = (e : Int)) (f3 : wrap64 (-53 + wrap64 ((e : Int) - 1023)) = (g : Int) - 1023)
    (f4 : ¬ ((g : Int) - 1023 < -1075)) (f5 : ¬ (1023 < (g : Int) - 1023)) (f6 : ¬ ((g : Int) - 1023 < -1022)) (f7 : bits .andNot .u64 (r : Int) 9218868437227405312 = (m : Int)) (f8 : bits .or .u64 (m : Int) ((g : Int) * 4503599627370496) = (z : Int))
    (f9 : ∀ w, (binOp .mul 24 (.float .f64 4607182418800017408) (.float .f64 z)).run Tryd.prog w = .ok (.float .f64 z) w) (w : World) :
    Calls Tryd.prog 34 #[.float .f64 r, .int .i64 (-53)] w fun e w' => e = .returned (.float .f64 z) ∧ w' = w := by
  have hb := fbits
  have hb2 := frombits
  go_enter Tryd.func34, Tryd.ntmps34
  go_wp2_with fail
  go_call (hinf w) as e w1 ⟨rfl, rfl⟩
  go_wp2_with fail
  go_call (isnan_any r w1) as e w1 ⟨rfl, rfl⟩
  go_wp2_with fail
  go_call (hnorm w1) as e w1 ⟨rfl, rfl⟩
  clear hinf hnorm
  go_wp2
  go_ret
  exact ⟨rfl, rfl⟩
theorem nan_small (r : Nat) (h : r ≤ infR) : nanB r = false := by
  have hi : infR = 9218868437227405312 := rfl
  have ht : topB = 9223372036854775808 := rfl
  unfold nanB; rw [rg_small (by omega), decide_eq_false (by omega)]
theorem ldexp_pos (r : Nat) (h1 : 1023 * binR ≤ r) (h2 : r < 1077 * binR) (w : World) : Calls Tryd.prog 17 #[.float .f64 r, .int .i64 (-53)] w fun e w' => e = .returned (.float .f64 (r - 53 * binR : Nat)) ∧ w' = w := by
  have c1 : 1023 * binR = 4607182418800017408 := by decide
  have c2 : 1077 * binR = 4850376798678024192 := by decide
  have c3 : 53 * binR = 238690780250636288 := by decide
  rw [c1] at h1
  rw [c2] at h2
  rw [c3]
  have hi : infR = 9218868437227405312 := rfl
  have ht : topB = 9223372036854775808 := rfl
  have hbn : binR = 4503599627370496 := rfl
  obtain ⟨e, g, m, z, he, he1, he2, hg, hm, hml, hz, hgm⟩ := ld_nums r h1 h2
  have hrz : r - 238690780250636288 = z := by omega
  rw [hrz]
  have hn := nan_small r (by omega)
  have key := ldexp_in r e g m z hn (ord_eq0 r (by omega) (by omega) hn) (inf0 r (by omega)) (norm_pos r (by omega) (by omega)) (by omega) (wrap64_id _ (by omega) (by omega)) (and2047 e he1 he2) (ld3 e g he1 he2 hg)
    (by omega) (by omega) (by omega) (by rw [andNot_exp r (by omega), hm]) (ld8 m g z hml (by omega) hgm) (fun w => run_float_arith w .mul 24 .f64 _ _ z (one_mul (by omega) (by rw [c3]; omega)))
  clear hrz hgm hz hml hm hg he1 he2 he c1 c2 c3 h1 h2 hi ht hbn hn
  go_enter Tryd.func17, Tryd.ntmps17
  go_wp2_with fail
  go_call (key w) as e w1 ⟨rfl, rfl⟩
  clear key
  go_wp2
  go_ret
  exact ⟨rfl, rfl⟩
theorem ldexp_zero (w : World) : Calls Tryd.prog 17 #[.float .f64 0, .int .i64 (-53)] w fun e w' => e = .returned (.float .f64 0) ∧ w' = w := by
  have h0 : (FloatKind.f64.format.order 0 0 == some .eq) = true := by
    rw [show FloatKind.f64.format.order 0 0 = _ from order_pos (by decide) (by decide) (by decide)]
    decide
  go_enter Tryd.func17, Tryd.ntmps17
  go_wp2
  go_ret
  exact ⟨rfl, rfl⟩
theorem counts_in (k d x p : Nat) (hd : d < 18446744073709551616) (hx : floatOfInt .f64 (k : Int) = x) (hl : ∀ w, Calls Tryd.prog 17 #[.float .f64 x, .int .i64 (-53)] w fun e w' => e = .returned (.float .f64 p) ∧ w' = w) (hp : p < 18446744073709551616)
    (ha : adm p d = decide (d / 2048 < k)) (k0 : Nat) (hk : (if (9007199254740992 : Int) < (k0 : Int) then 9007199254740992 else (k0 : Int)) = (k : Int)) (w : World) (ht : Tab w) :
    Calls Tryd.prog 4 #[.int .u64 (k0 : Nat), .int .u64 (d : Nat)] w fun e w' => e = .returned (.bool true) ∧ Below w.heap.size w w' := by
  obtain ⟨q, hq⟩ : ∃ q, d / 2048 = q := ⟨_, rfl⟩
  have hq1 : (d : Int) / 2048 = (q : Int) := by omega
  rw [hq] at ha
  clear hq
  have hmin : ∀ w, (Builtin.min_ #[22, 22] 22 #[.int .u64 (k0 : Int), .int .u64 9007199254740992]).run Tryd.prog w = .ok (.int .u64 (k : Int)) w := by
    intro w
    rw [run_min_int2, hk]
  clear hk
  go_enter Tryd.func4, Tryd.ntmps4
  go_wp2_with fail
  go_call (awake_any w ht.c ht.s) as e w1 ⟨rfl, hb⟩
  go_wp2_with fail
  go_call (hl w1) as e w1 ⟨rfl, rfl⟩
  go_wp2_with fail
  go_call (admit_any p d hp hd w1) as e w1 ⟨rfl, rfl⟩
  go_wp2
  go_ret
  exact ⟨retB (by simp), hb⟩
theorem of_int (k : Nat) : floatOfInt .f64 (k : Int) = Ieee.double.write (.number false k 0) := by
  unfold floatOfInt FloatKind.nearest FloatKind.encode FloatKind.format
  have e1 : decide ((k : Int) < 0) = false := by rw [decide_eq_false]; omega
  have e2 : ((k : Int)).natAbs = k := by omega
  rw [e1, e2]
theorem counts_walk (k0 d : Nat) (_hk : k0 < 18446744073709551616) (hd : d < 18446744073709551616) (w : World) (ht : Tab w) :
    Calls Tryd.prog 4 #[.int .u64 (k0 : Nat), .int .u64 (d : Nat)] w fun e w' => e = .returned (.bool true) ∧ Below w.heap.size w w' := by
  have c53 : pw 53 = 9007199254740992 := by decide
  have c3 : 53 * binR = 238690780250636288 := by decide
  have c2 : 1077 * binR = 4850376798678024192 := by decide
  obtain ⟨k, hk⟩ : ∃ k : Nat, (if (9007199254740992 : Int) < (k0 : Int) then 9007199254740992 else (k0 : Int)) = (k : Int) := by
    by_cases h : (9007199254740992 : Int) < (k0 : Int)
    · exact ⟨9007199254740992, by rw [if_pos h]; rfl⟩
    · exact ⟨k0, by rw [if_neg h]⟩
  have hkl : k ≤ 9007199254740992 := by split at hk <;> omega
  rcases Nat.eq_zero_or_pos k with h0 | h0
  · subst h0
    refine counts_in 0 d 0 0 hd (by rw [of_int]; rfl) ldexp_zero (by decide) ?_ k0 hk w ht
    rw [adm_no (by decide), decide_eq_false (by omega)]
  · obtain ⟨x, ex, hx1, hx2, hxa⟩ := counts (k := k) (by omega) h0
    refine counts_in k d x (x - 53 * binR) hd (by rw [of_int]; exact ex) (ldexp_pos x hx1 hx2) (by omega) (hxa d hd) k0 hk w ht
end Go.Proofs.YthojbccoejdmeaaDoor
