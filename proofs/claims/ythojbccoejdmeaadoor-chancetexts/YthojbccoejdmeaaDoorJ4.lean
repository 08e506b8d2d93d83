/- The other Text of any number. -/
import Derived.Test.YthojbccoejdmeaaDoorJ2
namespace Go.Proofs.YthojbccoejdmeaaDoor
open Go.RowKit

theorem htx_succ (u n : Nat) : (⟨#[UInt8.ofNat (hxd (ud u n))]⟩ : ByteArray) ++ htx u n = htx u (n + 1) := by
  apply ByteArray.ext
  rw [ByteArray.data_append]
  unfold htx htl
  apply Array.ext'
  simp [List.range_succ_eq_map, Function.comp_def]
  intro a ha
  congr 3
  omega
theorem inf_bits (p : Nat) (hp : p < 18446744073709551616) (hn : nanB p = false) : (exF p = 2047) = (infU p = true ∨ infD p = true) := by
  have ht : topB = 9223372036854775808 := rfl
  have hi : infR = 9218868437227405312 := rfl
  rw [nan_bits] at hn
  unfold infU infD exF
  unfold exF mtF at hn
  simp only [decide_eq_true_eq]
  apply propext
  constructor
  · intro h
    rw [h] at hn
    simp at hn
    omega
  · intro h; omega
theorem conv1 (w : World) (v : Nat) (hv : v < 256) (z : Int) (hz : z = (v : Int)) : (convert 57 9 (.slice (some ⟨w.heap.size, 0, none⟩) 1 1)).run Tryd.prog (w.alloc (.cells #[.int .u8 z] 5)) = .ok (.string ⟨#[UInt8.ofNat v]⟩) (w.alloc (.cells #[.int .u8 z] 5)) := by
  subst hz
  have h0 : (w.alloc (.cells #[.int .u8 (v : Int)] 5)).heap[w.heap.size]? = some (.cells #[.int .u8 (v : Int)] 5) := by
    show (w.heap.push _)[w.heap.size]? = _
    rw [Array.getElem?_push, if_pos rfl]
  exact run_convert_bytes_back (P := Tryd.prog) _ 57 9 5 ⟨w.heap.size, 0, none⟩ 1 [UInt8.ofNat v] Tryd.underlying57 Tryd.underlying5 Tryd.underlying9 (by
    intro j hj
    obtain rfl : j = 0 := by simpa using hj
    have ha : (⟨w.heap.size, 0, none⟩ : Addr).add 0 = ⟨w.heap.size, 0, none⟩ := by simp [Addr.add]
    rw [ha]
    simp only [World.cell?, h0]
    simp
    omega)
set_option maxRecDepth 100000 in
theorem rtext_any (p : Nat) (hp : p < 18446744073709551616) (w : World) :
    Calls Tryd.prog 30 #[.float .f64 p] w fun e w' => e = .returned (.string (txt p)) ∧ Below w.heap.size w w' := by
  have hb := fbits
  cases hn : nanB p
  · by_cases hx : ((exF p : Nat) : Int) = 2047
    · have hh : infU p = true ∨ infD p = true := by rw [← inf_bits p hp hn]; omega
      have ht : topB = 9223372036854775808 := rfl
      have hi : infR = 9218868437227405312 := rfl
      cases hu : infU p
      · have hd : infD p = true := by simpa [hu] using hh
        have hm : mns p = true := by
          unfold infD at hd; unfold mns
          simp only [decide_eq_true_eq] at *
          omega
        have HT : Hid (txt p = ⟨#[45, 97, 108, 108]⟩) := by
          show txt p = _
          unfold txt; rw [hn, hu, hd]; rfl
        go_enter Tryd.func30, Tryd.ntmps30
        go_wp2_with fail
        go_call (rbits_any p hp w) as e w1 ⟨rfl, rfl⟩
        go_wp2_with fail
        go_call (not_any p hp w1) as e w1 ⟨rfl, rfl⟩
        go_wp2
        go_ret
        exact ⟨by rw [HT.out]; rfl, Below.refl _ _⟩
      · have hm : mns p = false := by
          unfold infU at hu; unfold mns
          simp only [decide_eq_true_eq] at hu
          rw [decide_eq_false]; omega
        have HT : Hid (txt p = ⟨#[97, 108, 108]⟩) := by
          show txt p = _
          unfold txt; rw [hn, hu]; rfl
        go_enter Tryd.func30, Tryd.ntmps30
        go_wp2_with fail
        go_call (rbits_any p hp w) as e w1 ⟨rfl, rfl⟩
        go_wp2_with fail
        go_call (not_any p hp w1) as e w1 ⟨rfl, rfl⟩
        go_wp2
        go_ret
        exact ⟨by rw [HT.out]; rfl, Below.refl _ _⟩
    · have HT : Hid (txt p = htx p 16) := by
        show txt p = _
        have := inf_bits p hp hn
        have h2 : ¬ (infU p = true ∨ infD p = true) := by rw [← this]; omega
        rw [not_or] at h2
        unfold txt
        rw [hn, if_neg h2.1, if_neg h2.2]
        rfl
      have HB : Hid (Below w.heap.size w w) := Below.refl _ _
      go_enter Tryd.func30, Tryd.ntmps30
      go_wp2_with fail
      go_call (rbits_any p hp w) as e w1 ⟨rfl, rfl⟩
      go_wp2_with fail
      go_call (not_any p hp w1) as e w1 ⟨rfl, rfl⟩
      go_wp2_with fail
      go_loopw [6, 7, 8] (fun u' s i wr => ∃ n : Nat, n ≤ 16 ∧ u' = .int .u64 (ux p n : Nat) ∧ s = .string (htx p n) ∧ i = .int .i64 (n : Nat) ∧ Hid (Below w1.heap.size w1 wr))
        (fun _ _ i _ => 16 - (intOf i).toNat)
      case atStart => exact ⟨0, by omega, by rw [ux_zero], rfl, rfl, HB⟩
      case round =>
        obtain ⟨n, hn16, rfl, rfl, rfl, hre⟩ := hrel
        have hle := ux_le p n
        rcases Nat.lt_or_ge n 16 with hlt | hge
        · have hsh := ux_succ p n
          have hud : ux p n % 16 = ud p n := rfl
          have hdl := ud_lt p n
          have hsz : (htx p n).size = n := by
            show (htx p n).data.size = n
            unfold htx htl
            simp
          have hcat := htx_succ p n
          have hsz2 : (⟨#[UInt8.ofNat (hxd (ud p n))]⟩ : ByteArray).size = 1 := rfl
          have hbl : ∀ o, Hid (Below w1.heap.size w1 (wr.alloc o)) := fun o => Below.alloc hre.out hre.out.size _
          by_cases h10 : ud p n < 10
          · have hcv := conv1 wr (hxd (ud p n)) (hxd_lt _ hdl) (48 + (ux p n : Int) % 16) (by unfold hxd; rw [if_pos h10]; omega)
            go_wp2
            go_roundw
            case rel => exact ⟨n + 1, by omega, by congr 1; omega, rfl, rfl, hbl _⟩
            case measure => simp only [intOf]; omega
          · have hcv := conv1 wr (hxd (ud p n)) (hxd_lt _ hdl) (87 + (ux p n : Int) % 16) (by unfold hxd; rw [if_neg h10]; omega)
            go_wp2
            go_roundw
            case rel => exact ⟨n + 1, by omega, by congr 1; omega, rfl, rfl, hbl _⟩
            case measure => simp only [intOf]; omega
        · obtain rfl : n = 16 := by omega
          go_wp2
          go_ret
          exact ⟨by rw [HT.out]; rfl, hre.out⟩
  · go_enter Tryd.func30, Tryd.ntmps30
    go_wp2_with fail
    go_call (rbits_any p hp w) as e w1 ⟨rfl, rfl⟩
    go_wp2_with fail
    go_call (not_any p hp w1) as e w1 ⟨rfl, rfl⟩
    go_wp2
    go_ret
    exact ⟨by unfold txt; rw [hn]; rfl, Below.refl _ _⟩
end Go.Proofs.YthojbccoejdmeaaDoor
