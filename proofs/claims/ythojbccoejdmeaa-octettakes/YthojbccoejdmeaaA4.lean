/- The document's 'take' and 'number', as calls. -/
import Derived.Test.YthojbccoejdmeaaA3
import Derived.Deep.QuietTactic
import Derived.BigQuiet
namespace Go.Proofs.Ythojbccoejdmeaa
open Go.RowKit
theorem rtake_no (s : ByteArray) (n : Int) (hn : (s.size : Int) < n) (w : World) :
    Calls Try.prog 37 #[.string s, .int .i64 n] w fun e w' => e = .returned (.tuple #[.string ⟨#[]⟩, .string ⟨#[]⟩, .bool false]) ∧ w' = w := by
  obtain ⟨m, rfl⟩ : ∃ m : Nat, n = (m : Int) := ⟨n.toNat, by omega⟩
  have hm : max (m : Int) 0 = (m : Int) := by omega
  have hn2 : s.size < m := by omega
  go_enter Try.func37, Try.ntmps37
  go_wp2
  go_returns
  exact ⟨rfl, rfl⟩
theorem rtake_ok (s : ByteArray) (n : Int) (k : Nat) (hk : n.toNat = k) (hn : k ≤ s.size) (hs : s.size ≤ 1000000) (w : World) :
    Calls Try.prog 37 #[.string s, .int .i64 n] w fun e w' => e = .returned (.tuple #[.string (s.extract 0 k), .string (s.extract k s.size), .bool true]) ∧ Below w.heap.size w w' := by
  have hn3 : ¬ (s.size < k) := by omega
  by_cases hneg : n < 0
  · obtain rfl : k = 0 := by omega
    have e1 : s.extract 0 0 = ⟨#[]⟩ := by apply ByteArray.ext; simp
    have e2 := extract_all s
    rw [e1, e2]
    clear e1 e2 hk
    go_enter Try.func37, Try.ntmps37
    go_wp2_with fail
    go_quiet (fail)
    go_wp2
    go_returns
    exact ⟨rfl, ⟨rfl, rfl, rfl, Nat.le_refl _, fun _ _ => rfl⟩⟩
  · obtain rfl : n = (k : Int) := by omega
    clear hneg hk
    rcases Nat.eq_zero_or_pos k with rfl | hpos
    · have e1 : s.extract 0 0 = ⟨#[]⟩ := by apply ByteArray.ext; simp
      have e2 := extract_all s
      rw [e1, e2]
      clear e1 e2
      go_enter Try.func37, Try.ntmps37
      go_wp2_with fail
      go_quiet (fail)
      go_wp2
      go_returns
      exact ⟨rfl, ⟨rfl, rfl, rfl, Nat.le_refl _, fun _ _ => rfl⟩⟩
    · go_enter Try.func37, Try.ntmps37
      go_wp2_with fail
      go_quiet (fail)
      go_wp2
      go_returns
      exact ⟨rfl, ⟨rfl, rfl, rfl, Nat.le_refl _, fun _ _ => rfl⟩⟩
theorem number_any (d : ByteArray) (hd : d.size ≤ 8) (w : World) :
    Calls Try.prog 38 #[.string d] w fun e w' => e = .returned (.int .u64 (nv d d.size : Nat)) ∧ w' = w := by
  go_enter Try.func38, Try.ntmps38
  go_wp2
  go_loop [3, 4] (fun x i => ∃ j : Nat, j ≤ d.size ∧ i = .int .i64 j ∧ x = .int .u64 (nv d j : Nat)) (fun _ i => d.size - (intOf i).toNat)
  case atStart => exact ⟨0, Nat.zero_le _, rfl, rfl⟩
  case round =>
    obtain ⟨j, hj, rfl, rfl⟩ := hrel
    by_cases hlt : j < d.size
    · have hbb := bn_lt d j
      have hnl := nv_lt64 d (j + 1) (by omega)
      have hnx : nv d (j + 1) = nv d j * 256 + bn d j := rfl
      obtain ⟨y, hy⟩ : ∃ y, nv d (j + 1) = y := ⟨_, rfl⟩
      rw [hy] at hnl hnx
      have HY : Hid (nv d (j + 1) = y) := hy
      clear hy
      have hb : (d[j]'hlt).toNat = bn d j := by unfold bn; rw [dif_pos hlt]
      generalize nv d j = x at *
      generalize bn d j = b at *
      go_wp2
      go_round
      case rel => exact ⟨j + 1, by omega, by go_num, by rw [HY.out]; congr 1; omega⟩
      case measure => simp only [intOf]; omega
    · obtain rfl : j = d.size := by omega
      go_wp2
      go_ret
      exact ⟨rfl, rfl⟩
end Go.Proofs.Ythojbccoejdmeaa
