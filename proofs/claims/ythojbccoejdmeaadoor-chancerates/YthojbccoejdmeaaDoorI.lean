/- The law ChanceRates as a call: for any two counts and any bits of two numbers it returns true, and nothing that was in memory is changed; the condition is that the library's table of 64 places reads as its text lays it. -/
import Derived.Test.YthojbccoejdmeaaDoorG
import Derived.Test.YthojbccoejdmeaaDoorA9
namespace Go.Proofs.YthojbccoejdmeaaDoor
open Go.RowKit

theorem rclamp_any (p : Nat) (hp : p < 18446744073709551616) (w : World) :
    Calls Tryd.prog 27 #[.float .f64 p] w fun e w' => e = .returned (.float .f64 (cl p)) ∧ w' = w := by
  have ho : one = 4607182418800017408 := rfl
  have ht : topB = 9223372036854775808 := rfl
  have hi : infR = 9218868437227405312 := rfl
  have hle := less_any p 0
  have hle1 := less_any 4607182418800017408 p
  cases hn : nanB p
  · rcases nan_pos hp hn with h | h
    · by_cases h1 : one < p
      · have e1 : cl p = one := by unfold cl; rw [if_pos (show gtz p = true from decide_eq_true ⟨by omega, h⟩), if_pos (show gt1 p = true from decide_eq_true ⟨h1, h⟩)]
        have l1 : lessB p 0 = false := by unfold lessB; rw [if_neg (by omega), if_neg (by omega), decide_eq_false (by omega)]
        have l2 : lessB 4607182418800017408 p = true := by unfold lessB; rw [if_neg (by omega), if_neg (by omega), decide_eq_true (by omega)]
        rw [e1]
        clear ho ht hi h1 h e1
        go_enter Tryd.func27, Tryd.ntmps27
        go_wp2_with fail
        go_call (not_any p hp w) as e w1 ⟨rfl, rfl⟩
        go_wp2_with fail
        go_call (hle w1) as e w1 ⟨rfl, rfl⟩
        go_wp2_with fail
        go_call (hle1 w1) as e w1 ⟨rfl, rfl⟩
        clear hle hle1
        go_wp2
        go_ret
        exact ⟨rfl, rfl⟩
      · have e1 : cl p = p := by
          unfold cl
          by_cases h0 : p = 0
          · subst h0; rfl
          · rw [if_pos (show gtz p = true from decide_eq_true ⟨by omega, h⟩), if_neg (by unfold gt1; simp; omega)]
        have l1 : lessB p 0 = false := by unfold lessB; rw [if_neg (by omega), if_neg (by omega), decide_eq_false (by omega)]
        have l2 : lessB 4607182418800017408 p = false := by unfold lessB; rw [if_neg (by omega), if_neg (by omega), decide_eq_false (by omega)]
        rw [e1]
        clear ho ht hi h1 h e1
        go_enter Tryd.func27, Tryd.ntmps27
        go_wp2_with fail
        go_call (not_any p hp w) as e w1 ⟨rfl, rfl⟩
        go_wp2_with fail
        go_call (hle w1) as e w1 ⟨rfl, rfl⟩
        go_wp2_with fail
        go_call (hle1 w1) as e w1 ⟨rfl, rfl⟩
        clear hle hle1
        go_wp2
        go_ret
        exact ⟨rfl, rfl⟩
    · have e1 : cl p = 0 := by unfold cl; rw [if_neg (by unfold gtz; simp; omega)]
      have l1 : lessB p 0 = true := by unfold lessB; rw [if_neg (by omega), if_pos (by omega), decide_eq_true h.1]
      rw [e1]
      clear ho ht hi h e1
      go_enter Tryd.func27, Tryd.ntmps27
      go_wp2_with fail
      go_call (not_any p hp w) as e w1 ⟨rfl, rfl⟩
      go_wp2_with fail
      go_call (hle w1) as e w1 ⟨rfl, rfl⟩
      clear hle hle1
      go_wp2
      go_ret
      exact ⟨rfl, rfl⟩
  · have h3 : infR < rg p := of_decide_eq_true hn
    have e1 : cl p = 0 := by
      unfold cl; rw [if_neg]
      unfold gtz; simp
      intro h4
      rcases Nat.lt_or_ge p topB with h5 | h5
      · rw [rg_small h5] at h3; exact h3
      · omega
    rw [e1]
    clear ho ht hi h3 e1 hle hle1
    go_enter Tryd.func27, Tryd.ntmps27
    go_wp2_with fail
    go_call (not_any p hp w) as e w1 ⟨rfl, rfl⟩
    go_wp2
    go_ret
    exact ⟨rfl, rfl⟩

theorem text_inf (w : World) : Calls Tryd.prog 24 #[.float .f64 9218868437227405312] w fun e w' => e = .returned (.string ⟨#[97, 108, 108]⟩) ∧ w' = w := by
  have hn : nanB 9218868437227405312 = false := by decide
  have h1 : infU 9218868437227405312 = true := by decide
  go_enter Tryd.func24, Tryd.ntmps24
  go_wp2_with fail
  go_call (isnan_any _ w) as e w1 ⟨rfl, rfl⟩
  go_wp2_with fail
  go_call (isinf_up _ (by decide) w1) as e w1 ⟨rfl, rfl⟩
  go_wp2
  go_ret
  exact ⟨rfl, rfl⟩

theorem ratio_div (a b r : Nat) (h0 : 0 < a) (hd : Ieee.double.div (fi a) (fi b) = some r) (w : World) :
    Calls Tryd.prog 23 #[.int .u64 (a : Nat), .int .u64 (b : Nat)] w fun e w' => e = .returned (.float .f64 r) ∧ w' = w := by
  have e1 : floatOfInt .f64 (a : Int) = fi a := of_int a
  have e2 : floatOfInt .f64 (b : Int) = fi b := of_int b
  have hq : ∀ w, (binOp .quo 24 (.float .f64 (fi a)) (.float .f64 (fi b))).run Tryd.prog w = .ok (.float .f64 r) w := fun w => run_float_arith w .quo 24 .f64 _ _ r hd
  have ha : ¬ a = 0 := by omega
  clear hd h0
  go_enter Tryd.func23, Tryd.ntmps23
  go_wp2
  go_ret
  exact ⟨rfl, rfl⟩
theorem ratio_inf (a : Nat) (h0 : 0 < a) (ha : a < 18446744073709551616) (w : World) :
    Calls Tryd.prog 23 #[.int .u64 (a : Nat), .int .u64 0] w fun e w' => e = .returned (.float .f64 9218868437227405312) ∧ w' = w := by
  obtain ⟨m, k, em, _, _, hm, _⟩ := read_fi h0 ha
  have hm0 : m ≠ 0 := by have : binR = 4503599627370496 := rfl
                         omega
  have hd : Ieee.double.div (fi a) 0 = some 9218868437227405312 := by
    unfold Ieee.Format.div
    rw [em, read_zero]
    simp only [Ieee.Datum.quotient, if_true, if_neg hm0, Option.map, Ieee.Format.write]
    rw [d_inf]; rfl
  have e1 : floatOfInt .f64 (a : Int) = fi a := of_int a
  have e2 : floatOfInt .f64 0 = 0 := of_int 0
  have hq : ∀ w, (binOp .quo 24 (.float .f64 (fi a)) (.float .f64 0)).run Tryd.prog w = .ok (.float .f64 9218868437227405312) w := fun w => run_float_arith w .quo 24 .f64 _ _ _ hd
  have ha : ¬ a = 0 := by omega
  clear hd h0 hm0 hm em
  go_enter Tryd.func23, Tryd.ntmps23
  go_wp2
  go_ret
  exact ⟨rfl, rfl⟩
theorem ratio_zero (b : Nat) (h0 : 0 < b) (hb : b < 18446744073709551616) (w : World) :
    Calls Tryd.prog 23 #[.int .u64 0, .int .u64 (b : Nat)] w fun e w' => e = .returned (.float .f64 0) ∧ w' = w := by
  obtain ⟨m, k, em, _, _, hm, _⟩ := read_fi h0 hb
  have hm0 : m ≠ 0 := by have : binR = 4503599627370496 := rfl
                         omega
  have hd : Ieee.double.div 0 (fi b) = some 0 := by
    unfold Ieee.Format.div
    rw [em, read_zero]
    simp only [Ieee.Datum.quotient, if_neg hm0, Option.map, Ieee.Format.write]
    rw [Nat.zero_shiftLeft, Nat.zero_div, Nat.zero_mod]
    rfl
  have e1 : floatOfInt .f64 0 = 0 := of_int 0
  have e2 : floatOfInt .f64 (b : Int) = fi b := of_int b
  have hq : ∀ w, (binOp .quo 24 (.float .f64 0) (.float .f64 (fi b))).run Tryd.prog w = .ok (.float .f64 0) w := fun w => run_float_arith w .quo 24 .f64 _ _ _ hd
  have hb : ¬ b = 0 := by omega
  clear hd h0 hm0 hm em
  go_enter Tryd.func23, Tryd.ntmps23
  go_wp2
  go_ret
  exact ⟨rfl, rfl⟩
theorem ratio_none (w : World) :
    Calls Tryd.prog 23 #[.int .u64 0, .int .u64 0] w fun e w' => e = .returned (.float .f64 9221120237041090561) ∧ w' = w := by
  have hb : ∀ w, (callFunc 11 #[.int .u64 9221120237041090561]).run Tryd.prog w = .ok (.value (.float .f64 9221120237041090561)) w := frombits 9221120237041090561
  go_enter Tryd.func23, Tryd.ntmps23
  go_wp2
  go_ret
  exact ⟨rfl, rfl⟩
theorem blend_in (u v b more part s : Nat) (hu : u < 18446744073709551616) (hv : v < 18446744073709551616) (hb : b < 18446744073709551616) (h1 : Ieee.double.sub (cl v) (cl u) = some more) (h2 : Ieee.double.mul (cl b) more = some part) (h3 : Ieee.double.add (cl u) part = some s) (hs : s < 18446744073709551616) (w : World) :
    Calls Tryd.prog 28 #[.float .f64 u, .float .f64 v, .float .f64 b] w fun e w' => e = .returned (.float .f64 (cl s)) ∧ w' = w := by
  have q1 : ∀ w, (binOp .sub 24 (.float .f64 (cl v)) (.float .f64 (cl u))).run Tryd.prog w = .ok (.float .f64 more) w := fun w => run_float_arith w .sub 24 .f64 _ _ _ h1
  have q2 : ∀ w, (binOp .mul 24 (.float .f64 (cl b)) (.float .f64 more)).run Tryd.prog w = .ok (.float .f64 part) w := fun w => run_float_arith w .mul 24 .f64 _ _ _ h2
  have q3 : ∀ w, (binOp .add 24 (.float .f64 (cl u)) (.float .f64 part)).run Tryd.prog w = .ok (.float .f64 s) w := fun w => run_float_arith w .add 24 .f64 _ _ _ h3
  clear h1 h2 h3
  go_enter Tryd.func28, Tryd.ntmps28
  go_wp2_with fail
  go_call (clamp_any u hu w) as e w1 ⟨rfl, rfl⟩
  go_wp2_with fail
  go_call (clamp_any v hv w1) as e w1 ⟨rfl, rfl⟩
  go_wp2_with fail
  go_call (clamp_any b hb w1) as e w1 ⟨rfl, rfl⟩
  go_wp2_with fail
  go_call (clamp_any s hs w1) as e w1 ⟨rfl, rfl⟩
  go_wp2
  go_ret
  exact ⟨rfl, rfl⟩
theorem cl_small {x : Nat} (h : x ≤ one) : cl x = x := by
  have ho : one = 4607182418800017408 := rfl
  have hi : infR = 9218868437227405312 := rfl
  unfold cl
  by_cases h0 : x = 0
  · subst h0; rfl
  · rw [if_pos (show gtz x = true from decide_eq_true ⟨by omega, by omega⟩), if_neg (by unfold gt1; simp; omega)]
theorem d64 : 2 ^ Ieee.double.width = 18446744073709551616 := by decide
theorem blend_any (u v b : Nat) (hu : u < 18446744073709551616) (hv : v < 18446744073709551616) (hb : b < 18446744073709551616) :
    ∃ s, ∀ w, Calls Tryd.prog 28 #[.float .f64 u, .float .f64 v, .float .f64 b] w fun e w' => e = .returned (.float .f64 (cl s)) ∧ w' = w := by
  obtain ⟨more, t, n, j, h1, hm, hr⟩ := sub_fin (cl_lt v) (cl_lt u)
  obtain ⟨m, k, eb, _⟩ := read_pos (cl_lt b)
  obtain ⟨part, h2⟩ : ∃ part, Ieee.double.mul (cl b) more = some part := by
    unfold Ieee.Format.mul
    rw [eb, hr]; exact ⟨_, rfl⟩
  obtain ⟨m2, k2, eu, _⟩ := read_pos (cl_lt u)
  have hp : nanB part = false := by
    have : part = Ieee.double.nearest (false ^^ t) (m * n) (-1074 + (k : Int) + j) := by
      unfold Ieee.Format.mul at h2
      rw [eb, hr] at h2
      injection h2 with h2
      exact h2.symm
    rw [this]
    unfold Ieee.Format.nearest
    have hw : ∀ r, r ≤ infR → nanB (Ieee.double.word (false ^^ t) r) = false := fun r hr => by
      obtain ⟨g1, _, _⟩ := word_rg (false ^^ t) (show r < topB from Nat.lt_of_le_of_lt hr (by decide))
      unfold nanB; rw [g1, decide_eq_false (by omega)]
    split
    · exact hw 0 (Nat.zero_le _)
    · rw [d_inf]; exact hw _ (Nat.min_le_right ..)
  obtain ⟨s, h3⟩ : ∃ s, Ieee.double.add (cl u) part = some s := by
    unfold Ieee.Format.add
    rw [eu]
    have hpn : ¬ nan part := by simpa [nanB, nan] using hp
    rcases Nat.lt_or_eq_of_le (show rg part ≤ infR by unfold nan at hpn; omega) with h | h
    · obtain ⟨m', k', e', _⟩ := read_fin h
      rw [e']; exact ⟨_, rfl⟩
    · rw [read_inf h]; exact ⟨_, rfl⟩
  have hs : s < 18446744073709551616 := by rw [← d64]; exact Ieee.double.add_lt h3
  exact ⟨s, fun w => blend_in u v b more part s hu hv hb h1 h2 h3 hs w⟩
theorem blend_none (u v : Nat) (hu : u < 18446744073709551616) (hv : v < 18446744073709551616) (w : World) :
    Calls Tryd.prog 28 #[.float .f64 u, .float .f64 v, .float .f64 0] w fun e w' => e = .returned (.float .f64 (cl u)) ∧ w' = w := by
  obtain ⟨more, t, n, j, h1, hm, hr⟩ := sub_fin (cl_lt v) (cl_lt u)
  obtain ⟨z, h2, hz⟩ := nought_mul t n j hr
  have h3 := add_nought (cl_lt u) z hz
  have hc : cl 0 = 0 := rfl
  have := blend_in u v 0 more z (cl u) hu hv (by decide) h1 (by rw [hc]; exact h2) h3 (cl_lt64 u) w
  rwa [cl_small (cl_lt u)] at this
theorem blend_same (u b : Nat) (hu : u < 18446744073709551616) (hb : b < 18446744073709551616) (w : World) :
    Calls Tryd.prog 28 #[.float .f64 u, .float .f64 u, .float .f64 b] w fun e w' => e = .returned (.float .f64 (cl u)) ∧ w' = w := by
  have := blend_in u u b 0 0 (cl u) hu hu hb (sub_self' (cl_lt u)) (mul_nought (cl_lt b)) (add_nought (cl_lt u) 0 (Or.inl rfl)) (cl_lt64 u) w
  rwa [cl_small (cl_lt u)] at this
end Go.Proofs.YthojbccoejdmeaaDoor
