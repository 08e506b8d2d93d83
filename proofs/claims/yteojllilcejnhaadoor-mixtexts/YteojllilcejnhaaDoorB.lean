/- What the document's own functions (halving, adding, mixing by bits) answer, as calls: for every number below 2^64 they return the plain functions' numbers and leave memory as it was. -/
import Derived.Test.YteojllilcejnhaaDoorA
import Derived.Test.YteojllilcejnhaaDoorRows
import Derived.WalkKit
import Derived.WalkSpells
import Derived.WalkLawsBesides
import Derived.Handy
namespace Go.Proofs.YteojllilcejnhaaDoor
open Go.RowKit

theorem xr_bits (a b : Nat) (ha : a < 18446744073709551616) (hb : b < 18446744073709551616) : bits .xor .u64 (a : Int) (b : Int) = ((xr a b : Nat) : Int) := bits_xor_u64_nat a b ha hb
theorem half_u64 (v : Nat) (hv : v < 18446744073709551616) : IntKind.u64.wrap ((v : Int) / 2) = ((v / 2 : Nat) : Int) := by
  rw [IntKind.wrap_u64]; omega
theorem add_u64 (u v : Nat) : IntKind.u64.wrap ((u : Int) + (v : Int)) = (((u + v) % 18446744073709551616 : Nat) : Int) := by
  rw [IntKind.wrap_u64]; omega

set_option maxHeartbeats 400000 in
theorem down_any (x n : Nat) (hx : x < 18446744073709551616) (hn : n < 64) (w : World) :
    Calls Tryd.prog 16 #[.int .u64 x, .int .i64 n] w fun e w' => e = .returned (.int .u64 (dn x n)) ∧ w' = w := by
  go_enter Tryd.func16, Tryd.ntmps16
  go_wp2
  go_loop [0, 5] (fun v i => ∃ k : Nat, k ≤ n ∧ i = .int .i64 k ∧ v = .int .u64 (dn x k))
    (fun _ i => n - (intOf i).toNat)
  case atStart => exact ⟨0, Nat.zero_le _, rfl, by rw [dn_zero]⟩
  case round =>
    obtain ⟨k, hk, rfl, rfl⟩ := hrel
    go_wp2
    · have hlt : k < n := by assumption
      go_round
      case rel => exact ⟨k + 1, by omega, by go_num, by rw [half_u64 _ (dn_lt _ _ hx), dn_succ]⟩
      case measure => simp only [intOf]; omega
    · have hge : ¬ k < n := by assumption
      obtain rfl : k = n := by omega
      go_ret
      exact ⟨rfl, rfl⟩

set_option maxHeartbeats 400000 in
theorem times_any (a b : Nat) (ha : a < 18446744073709551616) (hb : b < 18446744073709551616) (w : World) :
    Calls Tryd.prog 15 #[.int .u64 a, .int .u64 b] w fun e w' => e = .returned (.int .u64 (tm a b)) ∧ w' = w := by
  go_enter Tryd.func15, Tryd.ntmps15
  go_wp2
  go_loop [0, 1, 5, 6] (fun x y s i => ∃ k : Nat, k ≤ 64 ∧ i = .int .i64 k ∧ x = .int .u64 (ta a k) ∧ y = .int .u64 (dn b k) ∧ s = .int .u64 (ts a b k))
    (fun _ _ _ i => 64 - (intOf i).toNat)
  case atStart => exact ⟨0, Nat.zero_le _, rfl, by rw [ta_zero a ha], by rw [dn_zero], by rw [ts_zero]; rfl⟩
  case round =>
    obtain ⟨k, hk, rfl, rfl, rfl, rfl⟩ := hrel
    go_wp2
    · have hlt : (k : Int) < 64 := by assumption
      have hb1 : ((dn b k : Int) % 2 == 1) = true := by assumption
      have hb2 : dn b k % 2 = 1 := by have := beq_iff_eq.1 hb1; omega
      go_round
      case rel => exact ⟨k + 1, by omega, by go_num, by rw [add_u64, ta_succ], by rw [half_u64 _ (dn_lt _ _ hb), dn_succ], by rw [add_u64, ts_succ1 _ _ _ hb2]⟩
      case measure => simp only [intOf]; omega
    · have hlt : (k : Int) < 64 := by assumption
      have hb1 : ((dn b k : Int) % 2 == 1) = false := by assumption
      have hb2 : dn b k % 2 = 0 := by have := beq_eq_false_iff_ne.1 hb1; omega
      go_round
      case rel => exact ⟨k + 1, by omega, by go_num, by rw [add_u64, ta_succ], by rw [half_u64 _ (dn_lt _ _ hb), dn_succ], by rw [ts_succ0 _ _ _ hb2]⟩
      case measure => simp only [intOf]; omega
    · have hge : (64 : Int) ≤ k := by assumption
      obtain rfl : k = 64 := by omega
      go_ret
      exact ⟨by rw [ts_end a b hb]; rfl, rfl⟩

theorem times_c1 (a : Nat) (ha : a < 18446744073709551616) (w : World) :
    Calls Tryd.prog 15 #[.int .u64 a, .int .u64 13787848793156543929] w fun e w' => e = .returned (.int .u64 (tm a 13787848793156543929)) ∧ w' = w :=
  times_any a 13787848793156543929 ha (by decide) w
theorem times_c2 (a : Nat) (ha : a < 18446744073709551616) (w : World) :
    Calls Tryd.prog 15 #[.int .u64 a, .int .u64 10723151780598845931] w fun e w' => e = .returned (.int .u64 (tm a 10723151780598845931)) ∧ w' = w :=
  times_any a 10723151780598845931 ha (by decide) w
theorem down_30 (x : Nat) (hx : x < 18446744073709551616) (w : World) :
    Calls Tryd.prog 16 #[.int .u64 x, .int .i64 30] w fun e w' => e = .returned (.int .u64 (dn x 30)) ∧ w' = w := down_any x 30 hx (by decide) w
theorem down_27 (x : Nat) (hx : x < 18446744073709551616) (w : World) :
    Calls Tryd.prog 16 #[.int .u64 x, .int .i64 27] w fun e w' => e = .returned (.int .u64 (dn x 27)) ∧ w' = w := down_any x 27 hx (by decide) w
theorem down_31 (x : Nat) (hx : x < 18446744073709551616) (w : World) :
    Calls Tryd.prog 16 #[.int .u64 x, .int .i64 31] w fun e w' => e = .returned (.int .u64 (dn x 31)) ∧ w' = w := down_any x 31 hx (by decide) w

theorem xd_bits (x k : Nat) (hx : x < 18446744073709551616) : bits .xor .u64 (x : Int) (dn x k : Int) = ((xd x k : Nat) : Int) := xr_bits x (dn x k) hx (dn_lt _ _ hx)

set_option maxHeartbeats 400000 in
theorem refMix_any (x : Nat) (hx : x < 18446744073709551616) (w : World) :
    Calls Tryd.prog 9 #[.int .u64 x] w fun e w' => e = .returned (.int .u64 (mixN x)) ∧ w' = w := by
  have hm : mixN x = xd (tm (xd (tm (xd x 30) 13787848793156543929) 27) 10723151780598845931) 31 := rfl
  have e1 := xd_bits x 30 hx
  have l1 := xd_lt x 30 hx
  generalize xd x 30 = x1 at *
  have l2 := tm_lt x1 13787848793156543929
  generalize hx2 : tm x1 13787848793156543929 = x2 at *
  have e2 := xd_bits x2 27 l2
  have l3 := xd_lt x2 27 l2
  generalize xd x2 27 = x3 at *
  have l4 := tm_lt x3 10723151780598845931
  generalize hx4 : tm x3 10723151780598845931 = x4 at *
  have e3 := xd_bits x4 31 l4
  rw [hm]; clear hm
  go_enter Tryd.func9, Tryd.ntmps9
  go_wp2_with fail
  go_call (down_30 x hx) as e w1 ⟨rfl, rfl⟩
  go_wp2_with fail
  go_call (times_c1 x1 l1) as e w1 ⟨rfl, rfl⟩
  go_wp2_with fail
  go_call (down_27 x2 l2) as e w1 ⟨rfl, rfl⟩
  go_wp2_with fail
  go_call (times_c2 x3 l3) as e w1 ⟨rfl, rfl⟩
  go_wp2_with fail
  go_call (down_31 x4 l4) as e w1 ⟨rfl, rfl⟩
  go_wp2
  go_ret
  exact ⟨rfl, rfl⟩
end Go.Proofs.YteojllilcejnhaaDoor
