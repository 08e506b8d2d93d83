/- The law ChanceRates as a call: for any two counts and any bits of two numbers it returns true, and nothing that was in memory is changed; the condition is that the library's table of 64 places reads as its text lays it. -/
import Derived.Test.YthojbccoejdmeaaDoorI
namespace Go.Proofs.YthojbccoejdmeaaDoor
open Go.RowKit

theorem same_self (x : Nat) : same x x = true := by unfold same; simp
theorem cl_cl (x : Nat) : cl (cl x) = cl x := cl_small (cl_lt x)
theorem less_cl0 (x : Nat) : lessB (cl x) 0 = false := by
  have h := cl_lt x
  have ho : one = 4607182418800017408 := rfl
  have ht : topB = 9223372036854775808 := rfl
  unfold lessB; rw [if_neg (by omega), if_neg (by omega), decide_eq_false (by omega)]
theorem less_cl1 (x : Nat) : lessB 4607182418800017408 (cl x) = false := by
  have h := cl_lt x
  have ho : one = 4607182418800017408 := rfl
  have ht : topB = 9223372036854775808 := rfl
  unfold lessB; rw [if_neg (by omega), if_neg (by omega), decide_eq_false (by omega)]
theorem less1 {r : Nat} (h : r ≤ one) : lessB 4607182418800017408 r = false := by
  have ho : one = 4607182418800017408 := rfl
  have ht : topB = 9223372036854775808 := rfl
  unfold lessB; rw [if_neg (by omega), if_neg (by omega), decide_eq_false (by omega)]
theorem less2 {r : Nat} (h : one ≤ r) (hi : r ≤ infR) : lessB r 4607182418800017408 = false := by
  have ho : one = 4607182418800017408 := rfl
  have ht : topB = 9223372036854775808 := rfl
  have hh : infR = 9218868437227405312 := rfl
  unfold lessB; rw [if_neg (by omega), if_neg (by omega), decide_eq_false (by omega)]
theorem Tab.box {w : World} (h : Tab w) (o : Obj) : Tab (w.alloc o) :=
  ⟨by rw [World.cell?_alloc_past _ _ _ h.s]; exact h.c, by have := h.s; simp; omega⟩

set_option maxRecDepth 100000 in
set_option maxHeartbeats 1000000 in
theorem rates_nn  (x y : Nat) (hx : x < 18446744073709551616) (hy : y < 18446744073709551616) (w : World) (ht : Tab w) :
    Calls Tryd.prog 7 #[.agg #[.int .u64 0, .int .u64 0, .int .u64 (x : Nat), .int .u64 (y : Nat)]] w fun e w' => e = .returned (.bool true) ∧ Below w.heap.size w w' := by
  have hnn : nanB 9221120237041090561 = true := by decide
  have hrl : 9221120237041090561 < 18446744073709551616 := by decide
  have hratio : ∀ w, Calls Tryd.prog 23 #[.int .u64 0, .int .u64 0] w fun e w' => e = .returned (.float .f64 9221120237041090561) ∧ w' = w := ratio_none
  obtain ⟨s, hbl⟩ := blend_any x y 9221120237041090561 hx hy hrl
  have hbs := blend_same x 9221120237041090561 hx hrl
  have hcx := cl_lt64 x
  have hcs := cl_lt64 s
  have hcc := cl_cl x
  have hsx := same_self (cl x)
  have hns := cl_num s
  have hl0 := less_cl0 s
  have hl1 := less_cl1 s
  have hfb := frombits
  have hfb2 := fbits
  have ht2 := ht.box (.cells #[.int .u64 0, .int .u64 0, .int .u64 (x : Nat), .int .u64 (y : Nat)] 38)
  go_enter Tryd.func7, Tryd.ntmps7
  go_wp2_with fail
  go_call (awake_any _ ht2.c ht2.s) as e w1 ⟨rfl, hb⟩
  have hlt : w.heap.size < (w.alloc (.cells #[.int .u64 0, .int .u64 0, .int .u64 (x : Nat), .int .u64 (y : Nat)] 38)).heap.size := by simp
  have k0 : w1.cell? ⟨w.heap.size, 0, none⟩ = some (.int .u64 0) := (hb.cell (by exact hlt)).trans (by simp [go_sem])
  have k1 : w1.cell? ⟨w.heap.size, 1, none⟩ = some (.int .u64 0) := (hb.cell (by exact hlt)).trans (by simp [go_sem])
  have k2 : w1.cell? ⟨w.heap.size, 2, none⟩ = some (.int .u64 (x : Nat)) := (hb.cell (by exact hlt)).trans (by simp [go_sem])
  have k3 : w1.cell? ⟨w.heap.size, 3, none⟩ = some (.int .u64 (y : Nat)) := (hb.cell (by exact hlt)).trans (by simp [go_sem])
  have HB : Hid (Below w.heap.size w w1.drew) := ((Below.alloc (Below.refl _ _) (Nat.le_refl _) _).trans (hb.mono (by omega))).drew
  clear hb hlt ht2 ht
  go_wp2
  go_region
  clear k0 k1 k2 k3
  generalize w1.drew = w1 at *
  go_wp2_with fail
  go_call (hratio w1) as e w1 ⟨rfl, rfl⟩
  go_wp2_with fail
  go_call (not_any 9221120237041090561 (by decide) w1) as e w1 ⟨rfl, rfl⟩
  go_wp2_with fail
  go_call (clamp_any x hx w1) as e w1 ⟨rfl, rfl⟩
  go_wp2_with fail
  go_call (rclamp_any x hx w1) as e w1 ⟨rfl, rfl⟩
  go_wp2_with fail
  go_call (same_any (cl x) (cl x) hcx hcx w1) as e w1 ⟨rfl, rfl⟩
  go_wp2_with fail
  go_call (clamp_any x hx w1) as e w1 ⟨rfl, rfl⟩
  go_wp2_with fail
  go_call (clamp_any (cl x) hcx w1) as e w1 ⟨rfl, rfl⟩
  go_wp2_with fail
  go_call (clamp_any x hx w1) as e w1 ⟨rfl, rfl⟩
  go_wp2_with fail
  go_call (same_any (cl x) (cl x) hcx hcx w1) as e w1 ⟨rfl, rfl⟩
  go_wp2_with fail
  go_call (hbl w1) as e w1 ⟨rfl, rfl⟩
  go_wp2_with fail
  go_call (clamp_any x hx w1) as e w1 ⟨rfl, rfl⟩
  go_wp2_with fail
  go_call (clamp_any y hy w1) as e w1 ⟨rfl, rfl⟩
  go_wp2_with fail
  go_call (less_any (cl y) (cl x) w1) as e w1 ⟨rfl, rfl⟩
  cases hls : lessB (cl y) (cl x)
  all_goals
    go_wp2_with fail
    go_call (blend_none x y hx hy w1) as e w1 ⟨rfl, rfl⟩
    go_wp2_with fail
    go_call (clamp_any x hx w1) as e w1 ⟨rfl, rfl⟩
    go_wp2_with fail
    go_call (same_any (cl x) (cl x) hcx hcx w1) as e w1 ⟨rfl, rfl⟩
    go_wp2_with fail
    go_call (hbs w1) as e w1 ⟨rfl, rfl⟩
    go_wp2_with fail
    go_call (clamp_any x hx w1) as e w1 ⟨rfl, rfl⟩
    go_wp2_with fail
    go_call (same_any (cl x) (cl x) hcx hcx w1) as e w1 ⟨rfl, rfl⟩
    go_wp2_with fail
    go_call (not_any (cl s) hcs w1) as e w1 ⟨rfl, rfl⟩
    go_wp2_with fail
    go_call (less_any (cl s) 0 w1) as e w1 ⟨rfl, rfl⟩
    go_wp2_with fail
    go_call (less_any 4607182418800017408 (cl s) w1) as e w1 ⟨rfl, rfl⟩
    go_wp2
    go_ret
    exact ⟨rfl, HB.out⟩

set_option maxRecDepth 100000 in
set_option maxHeartbeats 1000000 in
theorem rates_inf (a : Nat) (h0 : 0 < a) (ha : a < 18446744073709551616) (x y : Nat) (hx : x < 18446744073709551616) (hy : y < 18446744073709551616) (w : World) (ht : Tab w) :
    Calls Tryd.prog 7 #[.agg #[.int .u64 (a : Nat), .int .u64 0, .int .u64 (x : Nat), .int .u64 (y : Nat)]] w fun e w' => e = .returned (.bool true) ∧ Below w.heap.size w w' := by
  have ha0 : ¬ a = 0 := by omega
  have hrl : 9218868437227405312 < 18446744073709551616 := by decide
  have hratio : ∀ w, Calls Tryd.prog 23 #[.int .u64 (a : Nat), .int .u64 0] w fun e w' => e = .returned (.float .f64 9218868437227405312) ∧ w' = w := ratio_inf a h0 ha
  obtain ⟨s, hbl⟩ := blend_any x y 9218868437227405312 hx hy hrl
  have hbs := blend_same x 9218868437227405312 hx hrl
  have hcx := cl_lt64 x
  have hcs := cl_lt64 s
  have hcc := cl_cl x
  have hsx := same_self (cl x)
  have hns := cl_num s
  have hl0 := less_cl0 s
  have hl1 := less_cl1 s
  have hfb := frombits
  have hfb2 := fbits
  have ht2 := ht.box (.cells #[.int .u64 (a : Nat), .int .u64 0, .int .u64 (x : Nat), .int .u64 (y : Nat)] 38)
  go_enter Tryd.func7, Tryd.ntmps7
  go_wp2_with fail
  go_call (awake_any _ ht2.c ht2.s) as e w1 ⟨rfl, hb⟩
  have hlt : w.heap.size < (w.alloc (.cells #[.int .u64 (a : Nat), .int .u64 0, .int .u64 (x : Nat), .int .u64 (y : Nat)] 38)).heap.size := by simp
  have k0 : w1.cell? ⟨w.heap.size, 0, none⟩ = some (.int .u64 (a : Nat)) := (hb.cell (by exact hlt)).trans (by simp [go_sem])
  have k1 : w1.cell? ⟨w.heap.size, 1, none⟩ = some (.int .u64 0) := (hb.cell (by exact hlt)).trans (by simp [go_sem])
  have k2 : w1.cell? ⟨w.heap.size, 2, none⟩ = some (.int .u64 (x : Nat)) := (hb.cell (by exact hlt)).trans (by simp [go_sem])
  have k3 : w1.cell? ⟨w.heap.size, 3, none⟩ = some (.int .u64 (y : Nat)) := (hb.cell (by exact hlt)).trans (by simp [go_sem])
  have HB : Hid (Below w.heap.size w w1.drew) := ((Below.alloc (Below.refl _ _) (Nat.le_refl _) _).trans (hb.mono (by omega))).drew
  clear hb hlt ht2 ht
  go_wp2
  go_region
  clear k0 k1 k2 k3
  generalize w1.drew = w1 at *
  go_wp2_with fail
  go_call (hratio w1) as e w1 ⟨rfl, rfl⟩
  go_wp2_with fail
  go_call (text_inf w1) as e w1 ⟨rfl, rfl⟩
  go_wp2_with fail
  go_call (clamp_any x hx w1) as e w1 ⟨rfl, rfl⟩
  go_wp2_with fail
  go_call (rclamp_any x hx w1) as e w1 ⟨rfl, rfl⟩
  go_wp2_with fail
  go_call (same_any (cl x) (cl x) hcx hcx w1) as e w1 ⟨rfl, rfl⟩
  go_wp2_with fail
  go_call (clamp_any x hx w1) as e w1 ⟨rfl, rfl⟩
  go_wp2_with fail
  go_call (clamp_any (cl x) hcx w1) as e w1 ⟨rfl, rfl⟩
  go_wp2_with fail
  go_call (clamp_any x hx w1) as e w1 ⟨rfl, rfl⟩
  go_wp2_with fail
  go_call (same_any (cl x) (cl x) hcx hcx w1) as e w1 ⟨rfl, rfl⟩
  go_wp2_with fail
  go_call (hbl w1) as e w1 ⟨rfl, rfl⟩
  go_wp2_with fail
  go_call (clamp_any x hx w1) as e w1 ⟨rfl, rfl⟩
  go_wp2_with fail
  go_call (clamp_any y hy w1) as e w1 ⟨rfl, rfl⟩
  go_wp2_with fail
  go_call (less_any (cl y) (cl x) w1) as e w1 ⟨rfl, rfl⟩
  cases hls : lessB (cl y) (cl x)
  all_goals
    go_wp2_with fail
    go_call (blend_none x y hx hy w1) as e w1 ⟨rfl, rfl⟩
    go_wp2_with fail
    go_call (clamp_any x hx w1) as e w1 ⟨rfl, rfl⟩
    go_wp2_with fail
    go_call (same_any (cl x) (cl x) hcx hcx w1) as e w1 ⟨rfl, rfl⟩
    go_wp2_with fail
    go_call (hbs w1) as e w1 ⟨rfl, rfl⟩
    go_wp2_with fail
    go_call (clamp_any x hx w1) as e w1 ⟨rfl, rfl⟩
    go_wp2_with fail
    go_call (same_any (cl x) (cl x) hcx hcx w1) as e w1 ⟨rfl, rfl⟩
    go_wp2_with fail
    go_call (not_any (cl s) hcs w1) as e w1 ⟨rfl, rfl⟩
    go_wp2_with fail
    go_call (less_any (cl s) 0 w1) as e w1 ⟨rfl, rfl⟩
    go_wp2_with fail
    go_call (less_any 4607182418800017408 (cl s) w1) as e w1 ⟨rfl, rfl⟩
    go_wp2
    go_ret
    exact ⟨rfl, HB.out⟩

set_option maxRecDepth 100000 in
set_option maxHeartbeats 1000000 in
theorem rates_zero (b : Nat) (h0 : 0 < b) (hb : b < 18446744073709551616) (x y : Nat) (hx : x < 18446744073709551616) (hy : y < 18446744073709551616) (w : World) (ht : Tab w) :
    Calls Tryd.prog 7 #[.agg #[.int .u64 0, .int .u64 (b : Nat), .int .u64 (x : Nat), .int .u64 (y : Nat)]] w fun e w' => e = .returned (.bool true) ∧ Below w.heap.size w w' := by
  have hb0 : ¬ b = 0 := by omega
  have hb1 : ¬ ((b : Int) ≤ 0) := by omega
  have hb2 : (0 : Int) ≤ (b : Int) := by omega
  have hlo := less1 (show 0 ≤ one by decide)
  have hrl : 0 < 18446744073709551616 := by decide
  have hratio : ∀ w, Calls Tryd.prog 23 #[.int .u64 0, .int .u64 (b : Nat)] w fun e w' => e = .returned (.float .f64 0) ∧ w' = w := ratio_zero b h0 hb
  obtain ⟨s, hbl⟩ := blend_any x y 0 hx hy hrl
  have hbs := blend_same x 0 hx hrl
  have hcx := cl_lt64 x
  have hcs := cl_lt64 s
  have hcc := cl_cl x
  have hsx := same_self (cl x)
  have hns := cl_num s
  have hl0 := less_cl0 s
  have hl1 := less_cl1 s
  have hfb := frombits
  have hfb2 := fbits
  have ht2 := ht.box (.cells #[.int .u64 0, .int .u64 (b : Nat), .int .u64 (x : Nat), .int .u64 (y : Nat)] 38)
  go_enter Tryd.func7, Tryd.ntmps7
  go_wp2_with fail
  go_call (awake_any _ ht2.c ht2.s) as e w1 ⟨rfl, hb⟩
  have hlt : w.heap.size < (w.alloc (.cells #[.int .u64 0, .int .u64 (b : Nat), .int .u64 (x : Nat), .int .u64 (y : Nat)] 38)).heap.size := by simp
  have k0 : w1.cell? ⟨w.heap.size, 0, none⟩ = some (.int .u64 0) := (hb.cell (by exact hlt)).trans (by simp [go_sem])
  have k1 : w1.cell? ⟨w.heap.size, 1, none⟩ = some (.int .u64 (b : Nat)) := (hb.cell (by exact hlt)).trans (by simp [go_sem])
  have k2 : w1.cell? ⟨w.heap.size, 2, none⟩ = some (.int .u64 (x : Nat)) := (hb.cell (by exact hlt)).trans (by simp [go_sem])
  have k3 : w1.cell? ⟨w.heap.size, 3, none⟩ = some (.int .u64 (y : Nat)) := (hb.cell (by exact hlt)).trans (by simp [go_sem])
  have HB : Hid (Below w.heap.size w w1.drew) := ((Below.alloc (Below.refl _ _) (Nat.le_refl _) _).trans (hb.mono (by omega))).drew
  clear hb hlt ht2 ht
  go_wp2
  go_region
  clear k0 k1 k2 k3
  generalize w1.drew = w1 at *
  go_wp2_with fail
  go_call (hratio w1) as e w1 ⟨rfl, rfl⟩
  go_wp2_with fail
  go_call (less_any 4607182418800017408 0 w1) as e w1 ⟨rfl, rfl⟩
  go_wp2_with fail
  go_call (clamp_any x hx w1) as e w1 ⟨rfl, rfl⟩
  go_wp2_with fail
  go_call (rclamp_any x hx w1) as e w1 ⟨rfl, rfl⟩
  go_wp2_with fail
  go_call (same_any (cl x) (cl x) hcx hcx w1) as e w1 ⟨rfl, rfl⟩
  go_wp2_with fail
  go_call (clamp_any x hx w1) as e w1 ⟨rfl, rfl⟩
  go_wp2_with fail
  go_call (clamp_any (cl x) hcx w1) as e w1 ⟨rfl, rfl⟩
  go_wp2_with fail
  go_call (clamp_any x hx w1) as e w1 ⟨rfl, rfl⟩
  go_wp2_with fail
  go_call (same_any (cl x) (cl x) hcx hcx w1) as e w1 ⟨rfl, rfl⟩
  go_wp2_with fail
  go_call (hbl w1) as e w1 ⟨rfl, rfl⟩
  go_wp2_with fail
  go_call (clamp_any x hx w1) as e w1 ⟨rfl, rfl⟩
  go_wp2_with fail
  go_call (clamp_any y hy w1) as e w1 ⟨rfl, rfl⟩
  go_wp2_with fail
  go_call (less_any (cl y) (cl x) w1) as e w1 ⟨rfl, rfl⟩
  cases hls : lessB (cl y) (cl x)
  all_goals
    go_wp2_with fail
    go_call (blend_none x y hx hy w1) as e w1 ⟨rfl, rfl⟩
    go_wp2_with fail
    go_call (clamp_any x hx w1) as e w1 ⟨rfl, rfl⟩
    go_wp2_with fail
    go_call (same_any (cl x) (cl x) hcx hcx w1) as e w1 ⟨rfl, rfl⟩
    go_wp2_with fail
    go_call (hbs w1) as e w1 ⟨rfl, rfl⟩
    go_wp2_with fail
    go_call (clamp_any x hx w1) as e w1 ⟨rfl, rfl⟩
    go_wp2_with fail
    go_call (same_any (cl x) (cl x) hcx hcx w1) as e w1 ⟨rfl, rfl⟩
    go_wp2_with fail
    go_call (not_any (cl s) hcs w1) as e w1 ⟨rfl, rfl⟩
    go_wp2_with fail
    go_call (less_any (cl s) 0 w1) as e w1 ⟨rfl, rfl⟩
    go_wp2_with fail
    go_call (less_any 4607182418800017408 (cl s) w1) as e w1 ⟨rfl, rfl⟩
    go_wp2
    go_ret
    exact ⟨rfl, HB.out⟩

set_option maxRecDepth 100000 in
set_option maxHeartbeats 1000000 in
theorem rates_lt (a b r : Nat) (ha : ¬ a = 0) (hb : ¬ b = 0) (hrat : ∀ w, Calls Tryd.prog 23 #[.int .u64 (a : Nat), .int .u64 (b : Nat)] w fun e w' => e = .returned (.float .f64 r) ∧ w' = w) (hrr : r < 18446744073709551616) (hab : a < b) (hlo : lessB 4607182418800017408 r = false) (x y : Nat) (hx : x < 18446744073709551616) (hy : y < 18446744073709551616) (w : World) (ht : Tab w) :
    Calls Tryd.prog 7 #[.agg #[.int .u64 (a : Nat), .int .u64 (b : Nat), .int .u64 (x : Nat), .int .u64 (y : Nat)]] w fun e w' => e = .returned (.bool true) ∧ Below w.heap.size w w' := by
  have c1 : (a : Int) ≤ (b : Int) := by omega
  have c2 : ¬ ((b : Int) ≤ (a : Int)) := by omega
  have hrl : r < 18446744073709551616 := hrr
  have hratio : ∀ w, Calls Tryd.prog 23 #[.int .u64 (a : Nat), .int .u64 (b : Nat)] w fun e w' => e = .returned (.float .f64 r) ∧ w' = w := hrat
  obtain ⟨s, hbl⟩ := blend_any x y r hx hy hrl
  have hbs := blend_same x r hx hrl
  have hcx := cl_lt64 x
  have hcs := cl_lt64 s
  have hcc := cl_cl x
  have hsx := same_self (cl x)
  have hns := cl_num s
  have hl0 := less_cl0 s
  have hl1 := less_cl1 s
  have hfb := frombits
  have hfb2 := fbits
  have ht2 := ht.box (.cells #[.int .u64 (a : Nat), .int .u64 (b : Nat), .int .u64 (x : Nat), .int .u64 (y : Nat)] 38)
  go_enter Tryd.func7, Tryd.ntmps7
  go_wp2_with fail
  go_call (awake_any _ ht2.c ht2.s) as e w1 ⟨rfl, hb⟩
  have hlt : w.heap.size < (w.alloc (.cells #[.int .u64 (a : Nat), .int .u64 (b : Nat), .int .u64 (x : Nat), .int .u64 (y : Nat)] 38)).heap.size := by simp
  have k0 : w1.cell? ⟨w.heap.size, 0, none⟩ = some (.int .u64 (a : Nat)) := (hb.cell (by exact hlt)).trans (by simp [go_sem])
  have k1 : w1.cell? ⟨w.heap.size, 1, none⟩ = some (.int .u64 (b : Nat)) := (hb.cell (by exact hlt)).trans (by simp [go_sem])
  have k2 : w1.cell? ⟨w.heap.size, 2, none⟩ = some (.int .u64 (x : Nat)) := (hb.cell (by exact hlt)).trans (by simp [go_sem])
  have k3 : w1.cell? ⟨w.heap.size, 3, none⟩ = some (.int .u64 (y : Nat)) := (hb.cell (by exact hlt)).trans (by simp [go_sem])
  have HB : Hid (Below w.heap.size w w1.drew) := ((Below.alloc (Below.refl _ _) (Nat.le_refl _) _).trans (hb.mono (by omega))).drew
  clear hb hlt ht2 ht
  go_wp2
  go_region
  clear k0 k1 k2 k3
  generalize w1.drew = w1 at *
  go_wp2_with fail
  go_call (hratio w1) as e w1 ⟨rfl, rfl⟩
  go_wp2_with fail
  go_call (less_any 4607182418800017408 r w1) as e w1 ⟨rfl, rfl⟩
  go_wp2_with fail
  go_call (clamp_any x hx w1) as e w1 ⟨rfl, rfl⟩
  go_wp2_with fail
  go_call (rclamp_any x hx w1) as e w1 ⟨rfl, rfl⟩
  go_wp2_with fail
  go_call (same_any (cl x) (cl x) hcx hcx w1) as e w1 ⟨rfl, rfl⟩
  go_wp2_with fail
  go_call (clamp_any x hx w1) as e w1 ⟨rfl, rfl⟩
  go_wp2_with fail
  go_call (clamp_any (cl x) hcx w1) as e w1 ⟨rfl, rfl⟩
  go_wp2_with fail
  go_call (clamp_any x hx w1) as e w1 ⟨rfl, rfl⟩
  go_wp2_with fail
  go_call (same_any (cl x) (cl x) hcx hcx w1) as e w1 ⟨rfl, rfl⟩
  go_wp2_with fail
  go_call (hbl w1) as e w1 ⟨rfl, rfl⟩
  go_wp2_with fail
  go_call (clamp_any x hx w1) as e w1 ⟨rfl, rfl⟩
  go_wp2_with fail
  go_call (clamp_any y hy w1) as e w1 ⟨rfl, rfl⟩
  go_wp2_with fail
  go_call (less_any (cl y) (cl x) w1) as e w1 ⟨rfl, rfl⟩
  cases hls : lessB (cl y) (cl x)
  all_goals
    go_wp2_with fail
    go_call (blend_none x y hx hy w1) as e w1 ⟨rfl, rfl⟩
    go_wp2_with fail
    go_call (clamp_any x hx w1) as e w1 ⟨rfl, rfl⟩
    go_wp2_with fail
    go_call (same_any (cl x) (cl x) hcx hcx w1) as e w1 ⟨rfl, rfl⟩
    go_wp2_with fail
    go_call (hbs w1) as e w1 ⟨rfl, rfl⟩
    go_wp2_with fail
    go_call (clamp_any x hx w1) as e w1 ⟨rfl, rfl⟩
    go_wp2_with fail
    go_call (same_any (cl x) (cl x) hcx hcx w1) as e w1 ⟨rfl, rfl⟩
    go_wp2_with fail
    go_call (not_any (cl s) hcs w1) as e w1 ⟨rfl, rfl⟩
    go_wp2_with fail
    go_call (less_any (cl s) 0 w1) as e w1 ⟨rfl, rfl⟩
    go_wp2_with fail
    go_call (less_any 4607182418800017408 (cl s) w1) as e w1 ⟨rfl, rfl⟩
    go_wp2
    go_ret
    exact ⟨rfl, HB.out⟩

set_option maxRecDepth 100000 in
set_option maxHeartbeats 1000000 in
theorem rates_gt (a b r : Nat) (ha : ¬ a = 0) (hb : ¬ b = 0) (hrat : ∀ w, Calls Tryd.prog 23 #[.int .u64 (a : Nat), .int .u64 (b : Nat)] w fun e w' => e = .returned (.float .f64 r) ∧ w' = w) (hrr : r < 18446744073709551616) (hab : b < a) (hhi : lessB r 4607182418800017408 = false) (x y : Nat) (hx : x < 18446744073709551616) (hy : y < 18446744073709551616) (w : World) (ht : Tab w) :
    Calls Tryd.prog 7 #[.agg #[.int .u64 (a : Nat), .int .u64 (b : Nat), .int .u64 (x : Nat), .int .u64 (y : Nat)]] w fun e w' => e = .returned (.bool true) ∧ Below w.heap.size w w' := by
  have c1 : ¬ ((a : Int) ≤ (b : Int)) := by omega
  have c2 : (b : Int) ≤ (a : Int) := by omega
  have hrl : r < 18446744073709551616 := hrr
  have hratio : ∀ w, Calls Tryd.prog 23 #[.int .u64 (a : Nat), .int .u64 (b : Nat)] w fun e w' => e = .returned (.float .f64 r) ∧ w' = w := hrat
  obtain ⟨s, hbl⟩ := blend_any x y r hx hy hrl
  have hbs := blend_same x r hx hrl
  have hcx := cl_lt64 x
  have hcs := cl_lt64 s
  have hcc := cl_cl x
  have hsx := same_self (cl x)
  have hns := cl_num s
  have hl0 := less_cl0 s
  have hl1 := less_cl1 s
  have hfb := frombits
  have hfb2 := fbits
  have ht2 := ht.box (.cells #[.int .u64 (a : Nat), .int .u64 (b : Nat), .int .u64 (x : Nat), .int .u64 (y : Nat)] 38)
  go_enter Tryd.func7, Tryd.ntmps7
  go_wp2_with fail
  go_call (awake_any _ ht2.c ht2.s) as e w1 ⟨rfl, hb⟩
  have hlt : w.heap.size < (w.alloc (.cells #[.int .u64 (a : Nat), .int .u64 (b : Nat), .int .u64 (x : Nat), .int .u64 (y : Nat)] 38)).heap.size := by simp
  have k0 : w1.cell? ⟨w.heap.size, 0, none⟩ = some (.int .u64 (a : Nat)) := (hb.cell (by exact hlt)).trans (by simp [go_sem])
  have k1 : w1.cell? ⟨w.heap.size, 1, none⟩ = some (.int .u64 (b : Nat)) := (hb.cell (by exact hlt)).trans (by simp [go_sem])
  have k2 : w1.cell? ⟨w.heap.size, 2, none⟩ = some (.int .u64 (x : Nat)) := (hb.cell (by exact hlt)).trans (by simp [go_sem])
  have k3 : w1.cell? ⟨w.heap.size, 3, none⟩ = some (.int .u64 (y : Nat)) := (hb.cell (by exact hlt)).trans (by simp [go_sem])
  have HB : Hid (Below w.heap.size w w1.drew) := ((Below.alloc (Below.refl _ _) (Nat.le_refl _) _).trans (hb.mono (by omega))).drew
  clear hb hlt ht2 ht
  go_wp2
  go_region
  clear k0 k1 k2 k3
  generalize w1.drew = w1 at *
  go_wp2_with fail
  go_call (hratio w1) as e w1 ⟨rfl, rfl⟩
  go_wp2_with fail
  go_call (less_any r 4607182418800017408 w1) as e w1 ⟨rfl, rfl⟩
  go_wp2_with fail
  go_call (clamp_any x hx w1) as e w1 ⟨rfl, rfl⟩
  go_wp2_with fail
  go_call (rclamp_any x hx w1) as e w1 ⟨rfl, rfl⟩
  go_wp2_with fail
  go_call (same_any (cl x) (cl x) hcx hcx w1) as e w1 ⟨rfl, rfl⟩
  go_wp2_with fail
  go_call (clamp_any x hx w1) as e w1 ⟨rfl, rfl⟩
  go_wp2_with fail
  go_call (clamp_any (cl x) hcx w1) as e w1 ⟨rfl, rfl⟩
  go_wp2_with fail
  go_call (clamp_any x hx w1) as e w1 ⟨rfl, rfl⟩
  go_wp2_with fail
  go_call (same_any (cl x) (cl x) hcx hcx w1) as e w1 ⟨rfl, rfl⟩
  go_wp2_with fail
  go_call (hbl w1) as e w1 ⟨rfl, rfl⟩
  go_wp2_with fail
  go_call (clamp_any x hx w1) as e w1 ⟨rfl, rfl⟩
  go_wp2_with fail
  go_call (clamp_any y hy w1) as e w1 ⟨rfl, rfl⟩
  go_wp2_with fail
  go_call (less_any (cl y) (cl x) w1) as e w1 ⟨rfl, rfl⟩
  cases hls : lessB (cl y) (cl x)
  all_goals
    go_wp2_with fail
    go_call (blend_none x y hx hy w1) as e w1 ⟨rfl, rfl⟩
    go_wp2_with fail
    go_call (clamp_any x hx w1) as e w1 ⟨rfl, rfl⟩
    go_wp2_with fail
    go_call (same_any (cl x) (cl x) hcx hcx w1) as e w1 ⟨rfl, rfl⟩
    go_wp2_with fail
    go_call (hbs w1) as e w1 ⟨rfl, rfl⟩
    go_wp2_with fail
    go_call (clamp_any x hx w1) as e w1 ⟨rfl, rfl⟩
    go_wp2_with fail
    go_call (same_any (cl x) (cl x) hcx hcx w1) as e w1 ⟨rfl, rfl⟩
    go_wp2_with fail
    go_call (not_any (cl s) hcs w1) as e w1 ⟨rfl, rfl⟩
    go_wp2_with fail
    go_call (less_any (cl s) 0 w1) as e w1 ⟨rfl, rfl⟩
    go_wp2_with fail
    go_call (less_any 4607182418800017408 (cl s) w1) as e w1 ⟨rfl, rfl⟩
    go_wp2
    go_ret
    exact ⟨rfl, HB.out⟩

set_option maxRecDepth 100000 in
set_option maxHeartbeats 1000000 in
theorem rates_eq (a r : Nat) (ha : ¬ a = 0) (hrat : ∀ w, Calls Tryd.prog 23 #[.int .u64 (a : Nat), .int .u64 (a : Nat)] w fun e w' => e = .returned (.float .f64 r) ∧ w' = w) (hrr : r < 18446744073709551616) (hlo : lessB 4607182418800017408 r = false) (hhi : lessB r 4607182418800017408 = false) (x y : Nat) (hx : x < 18446744073709551616) (hy : y < 18446744073709551616) (w : World) (ht : Tab w) :
    Calls Tryd.prog 7 #[.agg #[.int .u64 (a : Nat), .int .u64 (a : Nat), .int .u64 (x : Nat), .int .u64 (y : Nat)]] w fun e w' => e = .returned (.bool true) ∧ Below w.heap.size w w' := by
  have c1 : (a : Int) ≤ (a : Int) := by omega
  have hrl : r < 18446744073709551616 := hrr
  have hratio : ∀ w, Calls Tryd.prog 23 #[.int .u64 (a : Nat), .int .u64 (a : Nat)] w fun e w' => e = .returned (.float .f64 r) ∧ w' = w := hrat
  obtain ⟨s, hbl⟩ := blend_any x y r hx hy hrl
  have hbs := blend_same x r hx hrl
  have hcx := cl_lt64 x
  have hcs := cl_lt64 s
  have hcc := cl_cl x
  have hsx := same_self (cl x)
  have hns := cl_num s
  have hl0 := less_cl0 s
  have hl1 := less_cl1 s
  have hfb := frombits
  have hfb2 := fbits
  have ht2 := ht.box (.cells #[.int .u64 (a : Nat), .int .u64 (a : Nat), .int .u64 (x : Nat), .int .u64 (y : Nat)] 38)
  go_enter Tryd.func7, Tryd.ntmps7
  go_wp2_with fail
  go_call (awake_any _ ht2.c ht2.s) as e w1 ⟨rfl, hb⟩
  have hlt : w.heap.size < (w.alloc (.cells #[.int .u64 (a : Nat), .int .u64 (a : Nat), .int .u64 (x : Nat), .int .u64 (y : Nat)] 38)).heap.size := by simp
  have k0 : w1.cell? ⟨w.heap.size, 0, none⟩ = some (.int .u64 (a : Nat)) := (hb.cell (by exact hlt)).trans (by simp [go_sem])
  have k1 : w1.cell? ⟨w.heap.size, 1, none⟩ = some (.int .u64 (a : Nat)) := (hb.cell (by exact hlt)).trans (by simp [go_sem])
  have k2 : w1.cell? ⟨w.heap.size, 2, none⟩ = some (.int .u64 (x : Nat)) := (hb.cell (by exact hlt)).trans (by simp [go_sem])
  have k3 : w1.cell? ⟨w.heap.size, 3, none⟩ = some (.int .u64 (y : Nat)) := (hb.cell (by exact hlt)).trans (by simp [go_sem])
  have HB : Hid (Below w.heap.size w w1.drew) := ((Below.alloc (Below.refl _ _) (Nat.le_refl _) _).trans (hb.mono (by omega))).drew
  clear hb hlt ht2 ht
  go_wp2
  go_region
  clear k0 k1 k2 k3
  generalize w1.drew = w1 at *
  go_wp2_with fail
  go_call (hratio w1) as e w1 ⟨rfl, rfl⟩
  go_wp2_with fail
  go_call (less_any 4607182418800017408 r w1) as e w1 ⟨rfl, rfl⟩
  go_wp2_with fail
  go_call (less_any r 4607182418800017408 w1) as e w1 ⟨rfl, rfl⟩
  go_wp2_with fail
  go_call (clamp_any x hx w1) as e w1 ⟨rfl, rfl⟩
  go_wp2_with fail
  go_call (rclamp_any x hx w1) as e w1 ⟨rfl, rfl⟩
  go_wp2_with fail
  go_call (same_any (cl x) (cl x) hcx hcx w1) as e w1 ⟨rfl, rfl⟩
  go_wp2_with fail
  go_call (clamp_any x hx w1) as e w1 ⟨rfl, rfl⟩
  go_wp2_with fail
  go_call (clamp_any (cl x) hcx w1) as e w1 ⟨rfl, rfl⟩
  go_wp2_with fail
  go_call (clamp_any x hx w1) as e w1 ⟨rfl, rfl⟩
  go_wp2_with fail
  go_call (same_any (cl x) (cl x) hcx hcx w1) as e w1 ⟨rfl, rfl⟩
  go_wp2_with fail
  go_call (hbl w1) as e w1 ⟨rfl, rfl⟩
  go_wp2_with fail
  go_call (clamp_any x hx w1) as e w1 ⟨rfl, rfl⟩
  go_wp2_with fail
  go_call (clamp_any y hy w1) as e w1 ⟨rfl, rfl⟩
  go_wp2_with fail
  go_call (less_any (cl y) (cl x) w1) as e w1 ⟨rfl, rfl⟩
  cases hls : lessB (cl y) (cl x)
  all_goals
    go_wp2_with fail
    go_call (blend_none x y hx hy w1) as e w1 ⟨rfl, rfl⟩
    go_wp2_with fail
    go_call (clamp_any x hx w1) as e w1 ⟨rfl, rfl⟩
    go_wp2_with fail
    go_call (same_any (cl x) (cl x) hcx hcx w1) as e w1 ⟨rfl, rfl⟩
    go_wp2_with fail
    go_call (hbs w1) as e w1 ⟨rfl, rfl⟩
    go_wp2_with fail
    go_call (clamp_any x hx w1) as e w1 ⟨rfl, rfl⟩
    go_wp2_with fail
    go_call (same_any (cl x) (cl x) hcx hcx w1) as e w1 ⟨rfl, rfl⟩
    go_wp2_with fail
    go_call (not_any (cl s) hcs w1) as e w1 ⟨rfl, rfl⟩
    go_wp2_with fail
    go_call (less_any (cl s) 0 w1) as e w1 ⟨rfl, rfl⟩
    go_wp2_with fail
    go_call (less_any 4607182418800017408 (cl s) w1) as e w1 ⟨rfl, rfl⟩
    go_wp2
    go_ret
    exact ⟨rfl, HB.out⟩

theorem rates_walk (a b x y : Nat) (ha : a < 18446744073709551616) (hb : b < 18446744073709551616) (hx : x < 18446744073709551616) (hy : y < 18446744073709551616) (w : World) (ht : Tab w) :
    Calls Tryd.prog 7 #[.agg #[.int .u64 (a : Nat), .int .u64 (b : Nat), .int .u64 (x : Nat), .int .u64 (y : Nat)]] w fun e w' => e = .returned (.bool true) ∧ Below w.heap.size w w' := by
  rcases Nat.eq_zero_or_pos b with hb0 | hb0
  · subst hb0
    rcases Nat.eq_zero_or_pos a with ha0 | ha0
    · subst ha0; exact rates_nn x y hx hy w ht
    · exact rates_inf a ha0 ha x y hx hy w ht
  · rcases Nat.eq_zero_or_pos a with ha0 | ha0
    · subst ha0; exact rates_zero b hb0 hb x y hx hy w ht
    · obtain ⟨r, hd, hri, hlo, hhi⟩ := div_fi ha0 hb0 ha hb
      have hrr : r < 18446744073709551616 := Nat.lt_of_le_of_lt hri (by decide)
      have hrat := ratio_div a b r ha0 hd
      rcases Nat.lt_trichotomy a b with h | h | h
      · exact rates_lt a b r (by omega) (by omega) hrat hrr h (less1 (hlo (by omega))) x y hx hy w ht
      · subst h
        exact rates_eq a r (by omega) hrat hrr (less1 (hlo (by omega))) (less2 (hhi (by omega)) hri) x y hx hy w ht
      · exact rates_gt a b r (by omega) (by omega) hrat hrr h (less2 (hhi (by omega)) hri) x y hx hy w ht
end Go.Proofs.YthojbccoejdmeaaDoor
