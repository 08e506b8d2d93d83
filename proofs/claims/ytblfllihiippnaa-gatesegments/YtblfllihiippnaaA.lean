/- GateSegments: for every size and every number of sectors of a segment. -/
import Derived.Test.YtblfllihiippnaaRows
import Derived.WalkKit
import Derived.WalkSpells
import Derived.WalkLawsBesides
import Derived.Handy
import Derived.Lib.MinMax
namespace Go.Proofs.Ytblfllihiippnaa
open Go.RowKit
theorem seg_no (s p : Int) (h : s < 1) (w : World) : Calls Try.prog 5 #[.int .i64 s, .int .i64 p] w fun e w' => e = .returned (.int .i64 0) ∧ w' = w := by
  go_enter Try.func5, Try.ntmps5
  go_wp2
  go_ret
  exact ⟨rfl, rfl⟩
theorem seg_yes (s p q : Nat) (h : 1 ≤ s) (hp : 1 ≤ p) (hs : s ≤ 5000) (hq : min ((s - 1) / p) 1000 = q) (w : World) : Calls Try.prog 5 #[.int .i64 (s : Nat), .int .i64 (p : Nat)] w fun e w' => e = .returned (.int .i64 (if q < 2 then 0 else q : Nat)) ∧ w' = w := by
  have hd : ((s : Int) - 1).tdiv (p : Int) = ((s - 1) / p : Nat) := by
    rw [show ((s : Int) - 1) = ((s - 1 : Nat) : Int) by omega]
    exact (Int.ofNat_tdiv _ _).symm
  have hz : ¬ (p : Int) = 0 := by omega
  have hb : (s - 1) / p ≤ 5000 := Nat.le_trans (Nat.div_le_self _ _) (by omega)
  generalize (s - 1) / p = d at *
  have hw : wrap64 (d : Int) = d := by have := IntKind.wrap_i64 (d : Int); unfold wrap64; omega
  have hm : min (d : Int) 1000 = (q : Int) := by omega
  have hs1 : (1 : Int) ≤ s := by omega
  have hp1 : (1 : Int) ≤ p := by omega
  clear hq hb
  by_cases hq2 : q < 2
  · have hq3 : (q : Int) < 2 := by omega
    rw [if_pos hq2]
    clear hq2
    go_enter Try.func5, Try.ntmps5
    go_wp2
    go_ret
    exact ⟨rfl, rfl⟩
  · have hq3 : ¬ (q : Int) < 2 := by omega
    rw [if_neg hq2]
    clear hq2
    go_enter Try.func5, Try.ntmps5
    go_wp2
    go_ret
    exact ⟨rfl, rfl⟩
theorem awake4 (w : World) : Calls Try.prog 4 #[] w fun e w' => e = .returned (.bool true) ∧ w' = w := by
  have h1 := seg_yes 33 8 4 (by decide) (by decide) (by decide) (by decide) w
  have h2 := seg_yes 16 8 1 (by decide) (by decide) (by decide) (by decide) w
  go_enter Try.func4, Try.ntmps4
  go_wp2_with fail
  go_call h1 as e w1 ⟨rfl, rfl⟩
  go_wp2_with fail
  go_call h2 as e w1 ⟨rfl, rfl⟩
  go_wp2
  go_ret
  exact ⟨rfl, rfl⟩
theorem gateSegments_walk (a b : Int) (w : World) : Calls Try.prog 3 #[.int .i64 a, .int .i64 b] w fun e w' => e = .returned (.bool true) ∧ Below w.heap.size w w' := by
  obtain ⟨s, hs⟩ : ∃ s : Nat, max 0 (min a 5000) = (s : Int) := ⟨(max 0 (min a 5000)).toNat, by omega⟩
  obtain ⟨p, hp⟩ : ∃ p : Nat, max 1 (min b 64) = (p : Int) := ⟨(max 1 (min b 64)).toNat, by omega⟩
  have hs1 : s ≤ 5000 := by omega
  have hp1 : 1 ≤ p := by omega
  have hp2 : p ≤ 64 := by omega
  have ha := awake4 w
  by_cases h0 : s < 1
  · have h1 := seg_no s p (by omega) w
    obtain rfl : s = 0 := by omega
    have hlt : ((0 : Nat) : Int) < 1 + 2 * (p : Int) := by omega
    go_enter Try.func3, Try.ntmps3
    go_wp2_with fail
    go_call ha as e w1 ⟨rfl, rfl⟩
    go_wp2_with fail
    go_call h1 as e w1 ⟨rfl, rfl⟩
    go_wp2
    go_ret
    exact ⟨by show Ending.returned (Value.bool (decide ((0 : Int) < 1 + 2 * (p : Int)))) = _; rw [decide_eq_true (show (0 : Int) < 1 + 2 * (p : Int) by omega)], Below.refl _ _⟩
  · obtain ⟨q, hq⟩ : ∃ q, min ((s - 1) / p) 1000 = q := ⟨_, rfl⟩
    have h1 := seg_yes s p q (by omega) hp1 hs1 hq w
    have e1 : (s - 1) / p * p ≤ s - 1 := Nat.div_mul_le_self _ _
    have e2 : s - 1 < ((s - 1) / p + 1) * p := Nat.lt_mul_of_div_lt (Nat.lt_succ_self _) (by omega)
    generalize (s - 1) / p = d at *
    by_cases hq2 : q < 2
    · rw [if_pos hq2] at h1
      have hd : (d + 1) * p ≤ 2 * p := Nat.mul_le_mul_right _ (by omega)
      have hlt : (s : Int) < 1 + 2 * (p : Int) := by omega
      clear e1 e2 hd hq hq2
      go_enter Try.func3, Try.ntmps3
      go_wp2_with fail
      go_call ha as e w1 ⟨rfl, rfl⟩
      go_wp2_with fail
      go_call h1 as e w1 ⟨rfl, rfl⟩
      go_wp2
      go_ret
      exact ⟨by first | rfl | (congr 2; exact decide_eq_true hlt), Below.refl _ _⟩
    · rw [if_neg hq2] at h1
      have k1 : q * p ≤ d * p := Nat.mul_le_mul_right _ (by omega)
      have k2 : (1 : Int) + (q : Int) * (p : Int) ≤ s := by rw [← Int.natCast_mul]; omega
      have k3 : (0 : Int) ≤ (q : Int) * (p : Int) := by rw [← Int.natCast_mul]; omega
      have k6 : q ≤ 1000 := by omega
      by_cases hq4 : q = 1000
      · have hq5 : (q : Int) = 1000 := by omega
        subst hq4
        clear e1 e2 hq k1 hq5 h0 hs1 hp1 k6
        have k7 : (0 : Int) ≤ ((1000 : Nat) : Int) * (p : Int) := k3
        go_enter Try.func3, Try.ntmps3
        go_wp2_with fail
        go_call ha as e w1 ⟨rfl, rfl⟩
        go_wp2_with fail
        go_call h1 as e w1 ⟨rfl, rfl⟩
        go_wp2
        go_ret
        exact ⟨rfl, Below.refl _ _⟩
      · have hqd : q = d := by omega
        subst hqd
        have k4 : (s : Int) < 1 + ((q : Int) + 1) * (p : Int) := by
          rw [show ((q : Int) + 1) * (p : Int) = (((q + 1) * p : Nat) : Int) by rw [Int.natCast_mul]; rfl]; omega
        have k5 : ((q : Int) + 1) * (p : Int) = (q : Int) * (p : Int) + p := by rw [Int.add_mul, Int.one_mul]
        have hq5 : ¬ (q : Int) = 1000 := by omega
        have hq6 : ¬ (q : Int) = 0 := by omega
        have hq7 : 2 ≤ (q : Int) := by omega
        have hq8 : (q : Int) ≤ 1000 := by omega
        clear e1 e2 hq k1 hq4
        go_enter Try.func3, Try.ntmps3
        go_wp2_with fail
        go_call ha as e w1 ⟨rfl, rfl⟩
        go_wp2_with fail
        go_call h1 as e w1 ⟨rfl, rfl⟩
        go_wp2
        have hk : decide ((s : Int) < 1 + ((q : Int) * (p : Int) + (p : Int))) = true := decide_eq_true (by omega)
        go_ret
        exact ⟨by show Ending.returned (Value.bool ((q : Int) == 1000 || decide ((s : Int) < 1 + ((q : Int) * (p : Int) + (p : Int))))) = _; rw [hk, Bool.or_true], Below.refl _ _⟩
end Go.Proofs.Ytblfllihiippnaa
