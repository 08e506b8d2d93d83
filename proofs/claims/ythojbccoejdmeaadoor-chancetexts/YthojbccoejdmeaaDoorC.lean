/- What the document's own functions of numbers with a point answer, as calls, by the numbers' bits: for all bits below 2^64. -/
import Derived.Test.YthojbccoejdmeaaDoorB
import Derived.Test.YthojbccoejdmeaaDoorA4
namespace Go.Proofs.YthojbccoejdmeaaDoor
open Go.RowKit

theorem small_bits {p : Nat} (hp : p < 18446744073709551616) (hm : mns p = false) : p < topB ∧ p = exF p * 4503599627370496 + mtF p := by
  have h : ¬ topB ≤ p := of_decide_eq_false hm
  have ht : topB = 9223372036854775808 := rfl
  refine ⟨by omega, ?_⟩
  unfold exF mtF
  omega

set_option maxRecDepth 100000 in
set_option maxHeartbeats 800000 in
theorem radmit_low (p d : Nat) (hp : p < 18446744073709551616) (hd : d < 18446744073709551616) (hn : nanB p = false) (hm : mns p = false) (h1 : exF p = 0) (h2 : mtF p ≠ 0) (w : World) :
    Calls Tryd.prog 13 #[.float .f64 p, .int .u64 d] w fun e w' => e = .returned (.bool (adm p d)) ∧ w' = w := by
  have hfin := ref_adm d (small_bits hp hm).1 (by have := (small_bits hp hm).2; omega) (by omega)
  have hD : rD p = 1021 := by unfold rD; rw [if_neg (by omega)]
  have hMm : rM p = mtF p := by unfold rM; rw [if_neg (by omega)]
  have hlt := mtF_lt p
  have hM : IntKind.u64.wrap (((mtF p : Nat) : Int) - 1) = ((rM p - 1 : Nat) : Int) := by rw [IntKind.wrap_u64, hMm]; omega
  have hMl : rM p - 1 < 18446744073709551616 := by omega
  have hne : (((mtF p : Nat) : Int) == 0) = false := by rw [beq_eq_false_iff_ne]; omega
  clear hMm hlt
  rw [hD] at hfin
  clear hD
  all_goals
    go_enter Tryd.func13, Tryd.ntmps13
    go_wp2_with fail
    go_call (rbits_any p hp w) as e w1 ⟨rfl, rfl⟩
    go_wp2_with fail
    go_call (not_any p hp w1) as e w1 ⟨rfl, rfl⟩
    go_wp2
    go_loop [7, 10] (fun m i => ∃ k : Nat, k ≤ 1021 ∧ i = .int .u64 k ∧ m = .int .u64 (hv (rM p - 1) k : Nat))
      (fun _ i => 1021 - (intOf i).toNat)
    case atStart => exact ⟨0, Nat.zero_le _, rfl, by rw [hv_zero]⟩
    case round =>
      obtain ⟨k, hk, rfl, rfl⟩ := hrel
      have hle := hv_le (rM p - 1) k
      have hs := hv_succ (rM p - 1) k
      have hh : IntKind.u64.wrap (((hv (rM p - 1) k : Nat) : Int) / 2) = ((hv (rM p - 1) (k + 1) : Nat) : Int) := by
        rw [← hs, IntKind.wrap_u64]; omega
      have hi1 : IntKind.u64.wrap ((k : Int) + 1) = ((k + 1 : Nat) : Int) := by rw [IntKind.wrap_u64]; omega
      by_cases hlt : k < 1021
      · have hlt' : (k : Int) < 1021 := by omega
        by_cases hz : hv (rM p - 1) k = 0
        · have hz' : hv (rM p - 1) (1021) = 0 := hv_none hz (Nat.le_of_lt hlt)
          rw [hz] at *
          go_wp2
          go_ret
          refine ⟨retB ?_, rfl⟩
          rw [← hfin, hz']
          congr 1; apply propext; omega
        · go_wp2
          go_round
          case rel => exact ⟨k + 1, by omega, rfl, rfl⟩
          case measure => simp only [intOf]; omega
      · have hge : ¬ (k : Int) < 1021 := by omega
        obtain rfl : k = 1021 := by omega
        go_wp2
        go_ret
        refine ⟨retB ?_, rfl⟩
        rw [← hfin]
        congr 1; apply propext; omega

set_option maxRecDepth 100000 in
set_option maxHeartbeats 800000 in
theorem radmit_mid (p d : Nat) (hp : p < 18446744073709551616) (hd : d < 18446744073709551616) (hn : nanB p = false) (hm : mns p = false) (h1 : 0 < exF p) (h2 : exF p < 1023) (w : World) :
    Calls Tryd.prog 13 #[.float .f64 p, .int .u64 d] w fun e w' => e = .returned (.bool (adm p d)) ∧ w' = w := by
  have hfin := ref_adm d (small_bits hp hm).1 (by have := (small_bits hp hm).2; omega) (by omega)
  have hne : ¬ exF p = 0 := by omega
  all_goals
    go_enter Tryd.func13, Tryd.ntmps13
    go_wp2_with fail
    go_call (rbits_any p hp w) as e w1 ⟨rfl, rfl⟩
    go_wp2_with fail
    go_call (not_any p hp w1) as e w1 ⟨rfl, rfl⟩
    go_wp2
    have hD : rD p + exF p = 1022 := by unfold rD; rw [if_pos h1]; omega
    have hDl : rD p < 1022 := by omega
    have hMm : rM p = mtF p + 4503599627370496 := by unfold rM; rw [if_pos h1]
    have hlt := mtF_lt p
    have hM : IntKind.u64.wrap (IntKind.u64.wrap (((mtF p : Nat) : Int) + 4503599627370496) - 1) = ((rM p - 1 : Nat) : Int) := by
      have : IntKind.u64.wrap (((mtF p : Nat) : Int) + 4503599627370496) = ((mtF p : Nat) : Int) + 4503599627370496 := by rw [IntKind.wrap_u64]; omega
      rw [this, IntKind.wrap_u64, hMm]; omega
    have hMl : rM p - 1 < 18446744073709551616 := by omega
    rw [hM]
    clear hM hlt hMm
    generalize rM p - 1 = M1 at *

    go_loop [7, 10] (fun m i => ∃ k : Nat, k ≤ rD p ∧ i = .int .u64 k ∧ m = .int .u64 (hv (M1) k : Nat))
      (fun _ i => rD p - (intOf i).toNat)
    case atStart => exact ⟨0, Nat.zero_le _, rfl, by rw [hv_zero]⟩
    case round =>
      obtain ⟨k, hk, rfl, rfl⟩ := hrel
      have hle := hv_le (M1) k
      have hs := hv_succ (M1) k
      have hh : IntKind.u64.wrap (((hv (M1) k : Nat) : Int) / 2) = ((hv (M1) (k + 1) : Nat) : Int) := by
        rw [← hs, IntKind.wrap_u64]; omega
      have hi1 : IntKind.u64.wrap ((k : Int) + 1) = ((k + 1 : Nat) : Int) := by rw [IntKind.wrap_u64]; omega
      by_cases hlt : k < rD p
      · have hlt' : (k : Int) < 1022 - ((exF p : Nat) : Int) := by omega
        by_cases hz : hv (M1) k = 0
        · have hz' : hv (M1) (rD p) = 0 := hv_none hz (Nat.le_of_lt hlt)
          rw [hz] at *
          go_wp2
          go_ret
          refine ⟨retB ?_, rfl⟩
          rw [← hfin, hz']
          congr 1; apply propext; omega
        · go_wp2
          go_round
          case rel => exact ⟨k + 1, by omega, rfl, rfl⟩
          case measure => simp only [intOf]; omega
      · have hge : ¬ (k : Int) < 1022 - ((exF p : Nat) : Int) := by omega
        obtain rfl : k = rD p := by omega
        go_wp2
        go_ret
        refine ⟨retB ?_, rfl⟩
        rw [← hfin]
        congr 1; apply propext; omega

set_option maxRecDepth 100000 in
set_option maxHeartbeats 800000 in
theorem radmit_any (p d : Nat) (hp : p < 18446744073709551616) (hd : d < 18446744073709551616) (w : World) :
    Calls Tryd.prog 13 #[.float .f64 p, .int .u64 d] w fun e w' => e = .returned (.bool (adm p d)) ∧ w' = w := by
  have hi : infR = 9218868437227405312 := rfl
  have ho : one = 4607182418800017408 := rfl
  have ht : topB = 9223372036854775808 := rfl
  cases hn : nanB p
  · cases hm : mns p
    · have hsm := small_bits hp hm
      by_cases h1 : exF p = 0
      · by_cases h2 : mtF p = 0
        · have hadm : adm p d = false := adm_no (by unfold gtz; rw [decide_eq_false]; omega)
          rw [hadm]
          clear hadm hsm hi ho ht
          go_enter Tryd.func13, Tryd.ntmps13
          go_wp2_with fail
          go_call (rbits_any p hp w) as e w1 ⟨rfl, rfl⟩
          go_wp2_with fail
          go_call (not_any p hp w1) as e w1 ⟨rfl, rfl⟩
          go_wp2
          go_ret
          exact ⟨rfl, rfl⟩
        · exact radmit_low p d hp hd hn hm h1 h2 w
      · by_cases h2 : exF p < 1023
        · exact radmit_mid p d hp hd hn hm (by omega) h2 w
        · have hnn : rg p ≤ infR := by simpa [nanB] using hn
          rw [rg_small hsm.1] at hnn
          have hadm : adm p d = true := adm_yes (by unfold ge1; rw [decide_eq_true]; omega)
          rw [hadm]
          clear hadm hsm hi ho ht hnn
          go_enter Tryd.func13, Tryd.ntmps13
          go_wp2_with fail
          go_call (rbits_any p hp w) as e w1 ⟨rfl, rfl⟩
          go_wp2_with fail
          go_call (not_any p hp w1) as e w1 ⟨rfl, rfl⟩
          go_wp2
          go_ret
          exact ⟨rfl, rfl⟩
    · have h3 : topB ≤ p := of_decide_eq_true hm
      have hadm : adm p d = false := adm_no (by unfold gtz; rw [decide_eq_false]; omega)
      rw [hadm]
      clear hadm hi ho ht
      go_enter Tryd.func13, Tryd.ntmps13
      go_wp2_with fail
      go_call (rbits_any p hp w) as e w1 ⟨rfl, rfl⟩
      go_wp2_with fail
      go_call (not_any p hp w1) as e w1 ⟨rfl, rfl⟩
      go_wp2
      go_ret
      exact ⟨rfl, rfl⟩
  · have h3 : infR < rg p := of_decide_eq_true hn
    have hadm : adm p d = false := adm_no (by
      unfold gtz; rw [decide_eq_false]
      rintro ⟨_, h5⟩
      rw [rg_small (by omega)] at h3
      omega)
    rw [hadm]
    clear hadm hi ho ht
    go_enter Tryd.func13, Tryd.ntmps13
    go_wp2_with fail
    go_call (rbits_any p hp w) as e w1 ⟨rfl, rfl⟩
    go_wp2_with fail
    go_call (not_any p hp w1) as e w1 ⟨rfl, rfl⟩
    go_wp2
    go_ret
    exact ⟨rfl, rfl⟩
theorem csign (w : World) : Calls Tryd.prog 16 #[.float .f64 0, .float .f64 13830554455654793216] w fun e w' => e = .returned (.float .f64 topB) ∧ w' = w := by
  have hb : ∀ w, (callFunc 25 #[.float .f64 0]).run Tryd.prog w = .ok (.value (.int .u64 0)) w := fbits 0
  have hb3 := fbits
  have e1 : bits BinOp.andNot IntKind.u64 0 9223372036854775808 = 0 := by decide
  have e2 : bits BinOp.and IntKind.u64 13830554455654793216 9223372036854775808 = 9223372036854775808 := by decide
  have e3 : bits BinOp.or IntKind.u64 0 9223372036854775808 = 9223372036854775808 := by decide
  have hb2 : ∀ w, (callFunc 11 #[.int .u64 9223372036854775808]).run Tryd.prog w = .ok (.value (.float .f64 9223372036854775808)) w := frombits 9223372036854775808
  go_enter Tryd.func16, Tryd.ntmps16
  go_wp2
  go_ret
  exact ⟨rfl, rfl⟩
end Go.Proofs.YthojbccoejdmeaaDoor
