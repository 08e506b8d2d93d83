/- The laws ChanceAdmits, ChanceMore, ChanceOrders and ChanceClamps as calls: for all numbers of 64 bits they return true, and nothing that was in memory is changed; the condition is that the library's table of 64 places reads as its text lays it. -/
import Derived.Test.YthojbccoejdmeaaDoorD
import Derived.Test.YthojbccoejdmeaaDoorA5
namespace Go.Proofs.YthojbccoejdmeaaDoor
open Go.RowKit

/-- What the walks ask of memory. -/
structure Tab (w : World) : Prop where
  c : w.cell? ⟨6, 15, none⟩ = some (.int .u8 4)
  s : 6 < w.heap.size

theorem rorder_any (p q : Nat) (hp : p < 18446744073709551616) (hq : q < 18446744073709551616) (w : World) :
    Calls Tryd.prog 21 #[.float .f64 p, .float .f64 q] w fun e w' => e = .returned (.int .i64 (ordN p q)) ∧ w' = w := by
  rw [← rord_eq hp hq]
  unfold rord
  cases h1 : nanB p <;> cases h2 : nanB q
  · cases h3 : lessB p q
    · cases h4 : lessB q p
      all_goals
        go_enter Tryd.func21, Tryd.ntmps21
        go_wp2_with fail
        go_call (not_any p hp w) as e w1 ⟨rfl, rfl⟩
        go_wp2_with fail
        go_call (not_any p hp w1) as e w1 ⟨rfl, rfl⟩
        go_wp2_with fail
        go_call (not_any q hq w1) as e w1 ⟨rfl, rfl⟩
        go_wp2_with fail
        go_call (less_any p q w1) as e w1 ⟨rfl, rfl⟩
        go_wp2_with fail
        go_call (less_any q p w1) as e w1 ⟨rfl, rfl⟩
        go_wp2
        go_ret
        exact ⟨rfl, rfl⟩
    · go_enter Tryd.func21, Tryd.ntmps21
      go_wp2_with fail
      go_call (not_any p hp w) as e w1 ⟨rfl, rfl⟩
      go_wp2_with fail
      go_call (not_any p hp w1) as e w1 ⟨rfl, rfl⟩
      go_wp2_with fail
      go_call (not_any q hq w1) as e w1 ⟨rfl, rfl⟩
      go_wp2_with fail
      go_call (less_any p q w1) as e w1 ⟨rfl, rfl⟩
      go_wp2
      go_ret
      exact ⟨rfl, rfl⟩
  · go_enter Tryd.func21, Tryd.ntmps21
    go_wp2_with fail
    go_call (not_any p hp w) as e w1 ⟨rfl, rfl⟩
    go_wp2_with fail
    go_call (not_any p hp w1) as e w1 ⟨rfl, rfl⟩
    go_wp2_with fail
    go_call (not_any q hq w1) as e w1 ⟨rfl, rfl⟩
    go_wp2
    go_ret
    exact ⟨rfl, rfl⟩
  · go_enter Tryd.func21, Tryd.ntmps21
    go_wp2_with fail
    go_call (not_any p hp w) as e w1 ⟨rfl, rfl⟩
    go_wp2_with fail
    go_call (not_any q hq w1) as e w1 ⟨rfl, rfl⟩
    go_wp2_with fail
    go_call (not_any p hp w1) as e w1 ⟨rfl, rfl⟩
    go_wp2
    go_ret
    exact ⟨rfl, rfl⟩
  · go_enter Tryd.func21, Tryd.ntmps21
    go_wp2_with fail
    go_call (not_any p hp w) as e w1 ⟨rfl, rfl⟩
    go_wp2_with fail
    go_call (not_any q hq w1) as e w1 ⟨rfl, rfl⟩
    go_wp2
    go_ret
    exact ⟨rfl, rfl⟩

theorem same_any (p q : Nat) (hp : p < 18446744073709551616) (hq : q < 18446744073709551616) (w : World) :
    Calls Tryd.prog 22 #[.float .f64 p, .float .f64 q] w fun e w' => e = .returned (.bool (same p q)) ∧ w' = w := by
  have hb := fbits
  have he : (((p : Nat) : Int) == ((q : Nat) : Int)) = decide (p = q) := by
    rw [Bool.eq_iff_iff, beq_iff_eq, decide_eq_true_eq]; omega
  unfold same
  cases h1 : nanB p
  · go_enter Tryd.func22, Tryd.ntmps22
    go_wp2_with fail
    go_call (not_any p hp w) as e w1 ⟨rfl, rfl⟩
    go_wp2
    go_ret
    refine ⟨retB ?_, rfl⟩
    first | rfl | simp [he]
  · cases h2 : nanB q
    · go_enter Tryd.func22, Tryd.ntmps22
      go_wp2_with fail
      go_call (not_any p hp w) as e w1 ⟨rfl, rfl⟩
      go_wp2_with fail
      go_call (not_any q hq w1) as e w1 ⟨rfl, rfl⟩
      go_wp2
      go_ret
      refine ⟨retB ?_, rfl⟩
      first | rfl | simp [he]
    · go_enter Tryd.func22, Tryd.ntmps22
      go_wp2_with fail
      go_call (not_any p hp w) as e w1 ⟨rfl, rfl⟩
      go_wp2_with fail
      go_call (not_any q hq w1) as e w1 ⟨rfl, rfl⟩
      go_wp2
      go_ret
      exact ⟨rfl, rfl⟩

theorem admits_walk (p d : Nat) (hp : p < 18446744073709551616) (hd : d < 18446744073709551616) (w : World) (ht : Tab w) :
    Calls Tryd.prog 3 #[.int .u64 (p : Nat), .int .u64 (d : Nat)] w fun e w' => e = .returned (.bool true) ∧ Below w.heap.size w w' := by
  have hb := frombits
  have a1 := adm_inf d
  have a2 : adm 18442240474082181120 d = false := adm_no (by decide)
  have a3 : adm 9221120237041090561 d = false := adm_no (by decide)
  have a4 : adm topB d = false := adm_no (by decide)
  go_enter Tryd.func3, Tryd.ntmps3
  go_wp2_with fail
  go_call (awake_any w ht.c ht.s) as e w1 ⟨rfl, hb⟩
  go_wp2_with fail
  go_call (admit_any p d hp hd w1) as e w1 ⟨rfl, rfl⟩
  go_wp2_with fail
  go_call (radmit_any p d hp hd w1) as e w1 ⟨rfl, rfl⟩
  have hs : (adm p d == adm p d) = true := by simp
  go_wp2_with fail
  go_call (inf_up w1) as e w1 ⟨rfl, rfl⟩
  go_wp2_with fail
  go_call (admit_any infR d (by decide) hd w1) as e w1 ⟨rfl, rfl⟩
  go_wp2_with fail
  go_call (inf_down w1) as e w1 ⟨rfl, rfl⟩
  go_wp2_with fail
  go_call (admit_any 18442240474082181120 d (by decide) hd w1) as e w1 ⟨rfl, rfl⟩
  go_wp2_with fail
  go_call (nan_call w1) as e w1 ⟨rfl, rfl⟩
  go_wp2_with fail
  go_call (admit_any 9221120237041090561 d (by decide) hd w1) as e w1 ⟨rfl, rfl⟩
  go_wp2_with fail
  go_call (csign w1) as e w1 ⟨rfl, rfl⟩
  go_wp2_with fail
  go_call (admit_any topB d (by decide) hd w1) as e w1 ⟨rfl, rfl⟩
  go_wp2
  go_ret
  exact ⟨rfl, hb⟩
end Go.Proofs.YthojbccoejdmeaaDoor
