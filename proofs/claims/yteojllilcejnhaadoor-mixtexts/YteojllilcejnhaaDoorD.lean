/- The laws MixIs, MixBack and MixPairs as calls: for all numbers below 2^64, where the table of rounds reads as the program's text lays it, each returns true and memory only grows. -/
import Derived.Test.YteojllilcejnhaaDoorC
namespace Go.Proofs.YteojllilcejnhaaDoor
open Go.RowKit

theorem mix_lit0 (w : World) (ht : Tab w) :
    Calls Tryd.prog 8 #[.int .u64 0] w fun e w' => e = .returned (.int .u64 0) ∧ Grown w w' := mix_any 0 (by decide) w ht
theorem mix_lit1 (w : World) (ht : Tab w) :
    Calls Tryd.prog 8 #[.int .u64 1] w fun e w' => e = .returned (.int .u64 (mixN 1)) ∧ Grown w w' := mix_any 1 (by decide) w ht
theorem refMix_lit1 (w : World) :
    Calls Tryd.prog 9 #[.int .u64 1] w fun e w' => e = .returned (.int .u64 (mixN 1)) ∧ w' = w := refMix_any 1 (by decide) w
theorem mix1_pos : ((mixN 1 : Nat) : Int) ≠ 0 := by decide

set_option maxHeartbeats 400000 in
theorem awake_any (w : World) (ht : Tab w) :
    Calls Tryd.prog 7 #[] w fun e w' => e = .returned (.bool true) ∧ Grown w w' := by
  have hne : (((mixN 1 : Nat) : Int) != 0) = true := by simpa using mix1_pos
  have hc1 := mix_lit1
  have hc2 := refMix_lit1
  generalize mixN 1 = m at *
  go_enter Tryd.func7, Tryd.ntmps7
  go_wp2_with fail
  go_call (hc1 w ht) as e w1 ⟨rfl, g1⟩
  go_wp2_with fail
  go_call (hc2 w1) as e w2 ⟨rfl, rfl⟩
  go_wp2_with fail
  go_call (hc1 w2 (ht.grown g1)) as e w3 ⟨rfl, g2⟩
  go_wp2
  go_ret
  exact ⟨rfl, Grown.step g1 g2⟩

set_option maxHeartbeats 400000 in
theorem mixIs_walk (x y : Nat) (hx : x < 18446744073709551616) (hy : y < 18446744073709551616) (w : World) (ht : Tab w) :
    Calls Tryd.prog 3 #[.int .u64 x, .int .u64 y] w fun e w' => e = .returned (.bool true) ∧ Grown w w' := by
  have l1 := mixN_lt y
  have e1 := xr_bits x (mixN y) hx l1
  have l2 := xr_lt x (mixN y) hx l1
  go_enter Tryd.func3, Tryd.ntmps3
  go_wp2_with fail
  go_call (awake_any w ht) as e w1 ⟨rfl, g1⟩
  go_wp2_with fail
  go_call (mix_any x hx w1 (ht.grown g1)) as e w2 ⟨rfl, g2⟩
  go_wp2_with fail
  go_call (refMix_any x hx w2) as e w3 ⟨rfl, rfl⟩
  go_wp2_with fail
  go_call (pair_any x y hx hy w3 ((ht.grown g1).grown g2)) as e w4 ⟨rfl, g3⟩
  go_wp2_with fail
  go_call (refMix_any y hy w4) as e w5 ⟨rfl, rfl⟩
  go_wp2_with fail
  go_call (refMix_any (xr x (mixN y)) l2 w5) as e w6 ⟨rfl, rfl⟩
  have hp : mixN (xr x (mixN y)) = pairN x y := rfl
  go_wp2_with fail
  go_call (mix_lit0 w6 (((ht.grown g1).grown g2).grown g3)) as e w7 ⟨rfl, g4⟩
  go_wp2
  go_ret
  exact ⟨rfl, Grown.step (Grown.step (Grown.step g1 g2) g3) g4⟩

theorem pair_left (x y : Nat) (hx : x < 18446744073709551616) (hy : y < 18446744073709551616) (b : Nat) (h : pairN x b = pairN y b) : x = y := by
  have h1 := mix_inj _ _ (xr_lt _ _ hx (mixN_lt b)) (xr_lt _ _ hy (mixN_lt b)) h
  have h2 : xr (xr x (mixN b)) (mixN b) = xr (xr y (mixN b)) (mixN b) := by rw [h1]
  rwa [xr_assoc, xr_assoc, xr_self, xr_zero, xr_zero] at h2
theorem pair_right (x y : Nat) (hx : x < 18446744073709551616) (hy : y < 18446744073709551616) (a : Nat) (ha : a < 18446744073709551616) (h : pairN a x = pairN a y) : x = y := by
  have h1 := mix_inj _ _ (xr_lt _ _ ha (mixN_lt x)) (xr_lt _ _ ha (mixN_lt y)) h
  have h2 : xr a (xr a (mixN x)) = xr a (xr a (mixN y)) := by rw [h1]
  rw [← xr_assoc, ← xr_assoc, xr_self, zero_xr, zero_xr] at h2
  exact mix_inj _ _ hx hy h2
theorem beq_nat (a b : Nat) : (((a : Nat) : Int) == ((b : Nat) : Int)) = decide (a = b) := by
  rw [Bool.eq_iff_iff]; simp; omega
theorem pair_l7 (a : Nat) (ha : a < 18446744073709551616) (w : World) (ht : Tab w) :
    Calls Tryd.prog 10 #[.int .u64 7, .int .u64 a] w fun e w' => e = .returned (.int .u64 (pairN 7 a)) ∧ Grown w w' := pair_any 7 a (by decide) ha w ht
theorem pair_r7 (a : Nat) (ha : a < 18446744073709551616) (w : World) (ht : Tab w) :
    Calls Tryd.prog 10 #[.int .u64 a, .int .u64 7] w fun e w' => e = .returned (.int .u64 (pairN a 7)) ∧ Grown w w' := pair_any a 7 ha (by decide) w ht

set_option maxHeartbeats 400000 in
theorem mixBack_walk (x y : Nat) (hx : x < 18446744073709551616) (hy : y < 18446744073709551616) (w : World) (ht : Tab w) :
    Calls Tryd.prog 4 #[.int .u64 x, .int .u64 y] w fun e w' => e = .returned (.bool true) ∧ Grown w w' := by
  have lx := mixN_lt x
  have lb := backN_lt x
  have h1 := back_mix x hx
  have h2 := mix_back x hx
  have q1 : (((mixN x : Nat) : Int) == ((mixN y : Nat) : Int)) = ((x : Int) == (y : Int)) := by
    rw [beq_nat, beq_nat]; exact decide_eq_decide.2 ⟨mix_inj x y hx hy, fun h => by rw [h]⟩
  have q2 : (((pairN x 7 : Nat) : Int) == ((pairN y 7 : Nat) : Int)) = ((x : Int) == (y : Int)) := by
    rw [beq_nat, beq_nat]; exact decide_eq_decide.2 ⟨pair_left x y hx hy 7, fun h => by rw [h]⟩
  have q3 : (((pairN 7 x : Nat) : Int) == ((pairN 7 y : Nat) : Int)) = ((x : Int) == (y : Int)) := by
    rw [beq_nat, beq_nat]; exact decide_eq_decide.2 ⟨pair_right x y hx hy 7 (by decide), fun h => by rw [h]⟩
  go_enter Tryd.func4, Tryd.ntmps4
  go_wp2_with fail
  go_call (awake_any w ht) as e w1 ⟨rfl, g1⟩
  have t1 := ht.grown g1
  go_wp2_with fail
  go_call (mix_any x hx w1 t1) as e w2 ⟨rfl, g2⟩
  have t2 := t1.grown g2
  go_wp2_with fail
  go_call (back_any (mixN x) lx w2 t2) as e w3 ⟨rfl, g3⟩
  have t3 := t2.grown g3
  go_wp2_with fail
  go_call (back_any x hx w3 t3) as e w4 ⟨rfl, g4⟩
  have t4 := t3.grown g4
  go_wp2_with fail
  go_call (mix_any (backN x) lb w4 t4) as e w5 ⟨rfl, g5⟩
  have t5 := t4.grown g5
  go_wp2_with fail
  go_call (mix_any x hx w5 t5) as e w6 ⟨rfl, g6⟩
  have t6 := t5.grown g6
  go_wp2_with fail
  go_call (mix_any y hy w6 t6) as e w7 ⟨rfl, g7⟩
  have t7 := t6.grown g7
  go_wp2_with fail
  go_call (pair_r7 x hx w7 t7) as e w8 ⟨rfl, g8⟩
  have t8 := t7.grown g8
  go_wp2_with fail
  go_call (pair_r7 y hy w8 t8) as e w9 ⟨rfl, g9⟩
  have t9 := t8.grown g9
  go_wp2_with fail
  go_call (pair_l7 x hx w9 t9) as e w10 ⟨rfl, g10⟩
  have t10 := t9.grown g10
  go_wp2_with fail
  go_call (pair_l7 y hy w10 t10) as e w11 ⟨rfl, g11⟩
  go_wp2
  go_ret
  exact ⟨rfl, Grown.step (Grown.step (Grown.step (Grown.step (Grown.step (Grown.step (Grown.step (Grown.step (Grown.step (Grown.step g1 g2) g3) g4) g5) g6) g7) g8) g9) g10) g11⟩

set_option maxHeartbeats 400000 in
theorem mixPairs_walk (a b : Nat) (ha : a < 18446744073709551616) (hb : b < 18446744073709551616) (w : World) (ht : Tab w) :
    Calls Tryd.prog 6 #[.int .u64 a, .int .u64 b] w fun e w' => e = .returned (.bool true) ∧ Grown w w' := by
  have lm := mixN_lt b
  have lp := pairN_lt a b
  have lx := xr_lt a (mixN b) ha lm
  have h1 : backN (pairN a b) = xr a (mixN b) := back_mix _ lx
  have e1 : bits .xor .u64 ((xr a (mixN b) : Nat) : Int) ((mixN b : Nat) : Int) = ((a : Nat) : Int) := by
    rw [xr_bits _ _ lx lm, xr_assoc, xr_self, xr_zero]
  have e2 : bits .xor .u64 ((xr a (mixN b) : Nat) : Int) ((a : Nat) : Int) = ((mixN b : Nat) : Int) := by
    rw [xr_bits _ _ lx ha, xr_comm a, xr_assoc, xr_self, xr_zero]
  have h2 := back_mix b hb
  go_enter Tryd.func6, Tryd.ntmps6
  go_wp2_with fail
  go_call (awake_any w ht) as e w1 ⟨rfl, g1⟩
  have t1 := ht.grown g1
  go_wp2_with fail
  go_call (pair_any a b ha hb w1 t1) as e w2 ⟨rfl, g2⟩
  have t2 := t1.grown g2
  go_wp2_with fail
  go_call (back_any (pairN a b) lp w2 t2) as e w3 ⟨rfl, g3⟩
  have t3 := t2.grown g3
  go_wp2_with fail
  go_call (mix_any b hb w3 t3) as e w4 ⟨rfl, g4⟩
  have t4 := t3.grown g4
  go_wp2_with fail
  go_call (pair_any a b ha hb w4 t4) as e w5 ⟨rfl, g5⟩
  have t5 := t4.grown g5
  go_wp2_with fail
  go_call (back_any (pairN a b) lp w5 t5) as e w6 ⟨rfl, g6⟩
  have t6 := t5.grown g6
  go_wp2_with fail
  go_call (back_any (mixN b) lm w6 t6) as e w7 ⟨rfl, g7⟩
  go_wp2
  go_ret
  exact ⟨rfl, Grown.step (Grown.step (Grown.step (Grown.step (Grown.step (Grown.step g1 g2) g3) g4) g5) g6) g7⟩
end Go.Proofs.YteojllilcejnhaaDoor
