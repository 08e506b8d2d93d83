/- The laws ChanceMore, ChanceOrders and ChanceClamps as calls: for all numbers of 64 bits they return true, and nothing that was in memory is changed; the condition is that the library's table of 64 places reads as its text lays it. -/
import Derived.Test.YthojbccoejdmeaaDoorE
namespace Go.Proofs.YthojbccoejdmeaaDoor
open Go.RowKit

theorem more_walk (p q d : Nat) (hp : p < 18446744073709551616) (hq : q < 18446744073709551616) (hd : d < 18446744073709551616) (w : World) (ht : Tab w) :
    Calls Tryd.prog 5 #[.int .u64 (p : Nat), .int .u64 (q : Nat), .int .u64 (d : Nat)] w fun e w' => e = .returned (.bool true) ∧ Below w.heap.size w w' := by
  have hfb := frombits
  have hd2 : IntKind.u64.wrap ((d : Int) / 2) = ((d / 2 : Nat) : Int) := by rw [IntKind.wrap_u64]; omega
  cases h1 : nanB p
  · cases h2 : nanB q
    · cases h3 : lessB q p
      · cases h4 : adm p d
        · go_enter Tryd.func5, Tryd.ntmps5
          go_wp2_with fail
          go_call (awake_any w ht.c ht.s) as e w1 ⟨rfl, hb⟩
          go_wp2_with fail
          go_call (not_any p hp w1) as e w1 ⟨rfl, rfl⟩
          go_wp2_with fail
          go_call (not_any q hq w1) as e w1 ⟨rfl, rfl⟩
          go_wp2_with fail
          go_call (less_any q p w1) as e w1 ⟨rfl, rfl⟩
          go_wp2_with fail
          go_call (admit_any p d hp hd w1) as e w1 ⟨rfl, rfl⟩
          go_wp2
          go_ret
          exact ⟨rfl, hb⟩
        · obtain ⟨h5, h6⟩ := adm_more hp hq h1 h2 h3 h4
          go_enter Tryd.func5, Tryd.ntmps5
          go_wp2_with fail
          go_call (awake_any w ht.c ht.s) as e w1 ⟨rfl, hb⟩
          go_wp2_with fail
          go_call (not_any p hp w1) as e w1 ⟨rfl, rfl⟩
          go_wp2_with fail
          go_call (not_any q hq w1) as e w1 ⟨rfl, rfl⟩
          go_wp2_with fail
          go_call (less_any q p w1) as e w1 ⟨rfl, rfl⟩
          go_wp2_with fail
          go_call (admit_any p d hp hd w1) as e w1 ⟨rfl, rfl⟩
          go_wp2_with fail
          go_call (admit_any q d hq hd w1) as e w1 ⟨rfl, rfl⟩
          go_wp2_with fail
          go_call (admit_any p (d / 2) hp (by omega) w1) as e w1 ⟨rfl, rfl⟩
          go_wp2
          go_ret
          exact ⟨rfl, hb⟩
      · have h3' : lessB p q = false := by
          rw [less_plc hq hp h2 h1] at h3
          rw [less_plc hp hq h1 h2]
          have := of_decide_eq_true h3
          exact decide_eq_false (by omega)
        cases h4 : adm q d
        · go_enter Tryd.func5, Tryd.ntmps5
          go_wp2_with fail
          go_call (awake_any w ht.c ht.s) as e w1 ⟨rfl, hb⟩
          go_wp2_with fail
          go_call (not_any p hp w1) as e w1 ⟨rfl, rfl⟩
          go_wp2_with fail
          go_call (not_any q hq w1) as e w1 ⟨rfl, rfl⟩
          go_wp2_with fail
          go_call (less_any q p w1) as e w1 ⟨rfl, rfl⟩
          go_wp2_with fail
          go_call (admit_any q d hq hd w1) as e w1 ⟨rfl, rfl⟩
          go_wp2
          go_ret
          exact ⟨rfl, hb⟩
        · obtain ⟨h5, h6⟩ := adm_more hq hp h2 h1 h3' h4
          clear h3'
          go_enter Tryd.func5, Tryd.ntmps5
          go_wp2_with fail
          go_call (awake_any w ht.c ht.s) as e w1 ⟨rfl, hb⟩
          go_wp2_with fail
          go_call (not_any p hp w1) as e w1 ⟨rfl, rfl⟩
          go_wp2_with fail
          go_call (not_any q hq w1) as e w1 ⟨rfl, rfl⟩
          go_wp2_with fail
          go_call (less_any q p w1) as e w1 ⟨rfl, rfl⟩
          go_wp2_with fail
          go_call (admit_any q d hq hd w1) as e w1 ⟨rfl, rfl⟩
          go_wp2_with fail
          go_call (admit_any p d hp hd w1) as e w1 ⟨rfl, rfl⟩
          go_wp2_with fail
          go_call (admit_any q (d / 2) hq (by omega) w1) as e w1 ⟨rfl, rfl⟩
          go_wp2
          go_ret
          exact ⟨rfl, hb⟩
    · go_enter Tryd.func5, Tryd.ntmps5
      go_wp2_with fail
      go_call (awake_any w ht.c ht.s) as e w1 ⟨rfl, hb⟩
      go_wp2_with fail
      go_call (not_any p hp w1) as e w1 ⟨rfl, rfl⟩
      go_wp2_with fail
      go_call (not_any q hq w1) as e w1 ⟨rfl, rfl⟩
      go_wp2
      go_ret
      exact ⟨rfl, hb⟩
  · go_enter Tryd.func5, Tryd.ntmps5
    go_wp2_with fail
    go_call (awake_any w ht.c ht.s) as e w1 ⟨rfl, hb⟩
    go_wp2_with fail
    go_call (not_any p hp w1) as e w1 ⟨rfl, rfl⟩
    go_wp2
    go_ret
    exact ⟨rfl, hb⟩

theorem wrap_ord (x y : Nat) : IntKind.i64.wrap (-ordN x y) = -ordN x y := by
  unfold ordN; split
  · rfl
  · split <;> rfl

theorem orders_walk (p q r : Nat) (hp : p < 18446744073709551616) (hq : q < 18446744073709551616) (hr : r < 18446744073709551616) (w : World) (ht : Tab w) :
    Calls Tryd.prog 6 #[.int .u64 (p : Nat), .int .u64 (q : Nat), .int .u64 (r : Nat)] w fun e w' => e = .returned (.bool true) ∧ Below w.heap.size w w' := by
  have hfb := frombits
  have e1 : (ordN p q != ordN p q) = false := by simp
  have e2 : (ordN q p != -ordN p q) = false := by rw [← ordN_neg]; simp
  have e3 : (ordN p p != 0) = false := by rw [ordN_self]; rfl
  have e4 : (!((ordN p q == 0) == same p q)) = false := by rw [ordN_zero hp hq]; simp
  have e5 := wrap_ord p q
  have e6 := ordN_trans p q r
  go_enter Tryd.func6, Tryd.ntmps6
  go_wp2_with fail
  go_call (awake_any w ht.c ht.s) as e w1 ⟨rfl, hb⟩
  go_wp2_with fail
  go_call (order_any p q hp hq w1) as e w1 ⟨rfl, rfl⟩
  go_wp2_with fail
  go_call (order_any q r hq hr w1) as e w1 ⟨rfl, rfl⟩
  go_wp2_with fail
  go_call (rorder_any p q hp hq w1) as e w1 ⟨rfl, rfl⟩
  go_wp2_with fail
  go_call (order_any q p hq hp w1) as e w1 ⟨rfl, rfl⟩
  go_wp2_with fail
  go_call (order_any p p hp hp w1) as e w1 ⟨rfl, rfl⟩
  go_wp2_with fail
  go_call (same_any p q hp hq w1) as e w1 ⟨rfl, rfl⟩
  by_cases h1 : ordN p q ≤ 0
  · by_cases h2 : ordN q r ≤ 0
    · have e7 := e6 h1 h2
      clear e6
      go_wp2_with fail
      go_call (order_any p r hp hr w1) as e w1 ⟨rfl, rfl⟩
      go_wp2
      go_ret
      refine ⟨retB ?_, hb⟩
      rw [decide_eq_false (show ¬ 0 < ordN p r by omega)]
      rfl
    · clear e6
      go_wp2
      go_ret
      exact ⟨rfl, hb⟩
  · clear e6
    go_wp2
    go_ret
    exact ⟨rfl, hb⟩

theorem clamps_walk (p q d : Nat) (hp : p < 18446744073709551616) (hq : q < 18446744073709551616) (hd : d < 18446744073709551616) (w : World) (ht : Tab w) :
    Calls Tryd.prog 9 #[.int .u64 (p : Nat), .int .u64 (q : Nat), .int .u64 (d : Nat)] w fun e w' => e = .returned (.bool true) ∧ Below w.heap.size w w' := by
  have hfb := frombits
  have e1 : (!(adm (cl p) d == adm p d)) = false := by rw [adm_cl hp]; simp
  have e2 := cl_mono hp hq
  go_enter Tryd.func9, Tryd.ntmps9
  go_wp2_with fail
  go_call (awake_any w ht.c ht.s) as e w1 ⟨rfl, hb⟩
  go_wp2_with fail
  go_call (clamp_any p hp w1) as e w1 ⟨rfl, rfl⟩
  go_wp2_with fail
  go_call (admit_any (cl p) d (cl_lt64 p) hd w1) as e w1 ⟨rfl, rfl⟩
  go_wp2_with fail
  go_call (admit_any p d hp hd w1) as e w1 ⟨rfl, rfl⟩
  go_wp2_with fail
  go_call (not_any p hp w1) as e w1 ⟨rfl, rfl⟩
  cases h1 : nanB p
  · go_wp2_with fail
    go_call (not_any q hq w1) as e w1 ⟨rfl, rfl⟩
    cases h2 : nanB q
    · go_wp2_with fail
      go_call (order_any p q hp hq w1) as e w1 ⟨rfl, rfl⟩
      by_cases h3 : 0 < ordN p q
      · clear e2
        go_wp2
        go_ret
        exact ⟨rfl, hb⟩
      · have e3 := e2 h1 h2 (by omega)
        clear e2
        go_wp2_with fail
        go_call (clamp_any p hp w1) as e w1 ⟨rfl, rfl⟩
        go_wp2_with fail
        go_call (clamp_any q hq w1) as e w1 ⟨rfl, rfl⟩
        go_wp2_with fail
        go_call (order_any (cl p) (cl q) (cl_lt64 p) (cl_lt64 q) w1) as e w1 ⟨rfl, rfl⟩
        go_wp2
        go_ret
        exact ⟨rfl, hb⟩
    · clear e2
      go_wp2
      go_ret
      exact ⟨rfl, hb⟩
  · clear e2
    go_wp2
    go_ret
    exact ⟨rfl, hb⟩
end Go.Proofs.YthojbccoejdmeaaDoor
