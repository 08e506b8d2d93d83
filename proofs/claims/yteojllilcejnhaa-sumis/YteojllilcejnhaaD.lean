/- The law SumIs as a call: for every text and every number at which it is parted it returns true, and memory only grows by new blocks; no condition. -/
import Derived.Test.YteojllilcejnhaaC
import Derived.RegionTactic
import Derived.ChangeAlike
namespace Go.Proofs.Yteojllilcejnhaa
open Go.RowKit

theorem bn_eq (s : ByteArray) (k : Nat) : bn s k = ((s.data.toList[k]?).map UInt8.toNat).getD 0 := by
  unfold bn
  by_cases h : k < s.size
  · rw [dif_pos h]
    have h2 : k < s.data.toList.length := by simpa using h
    rw [List.getElem?_eq_getElem h2]
    simp [ByteArray.getElem_eq_getElem_data]
  · rw [dif_neg h, List.getElem?_eq_none (by simpa using h)]
    rfl
theorem bn_take (c : ByteArray) (k j : Nat) (hj : j < k) : bn (c.extract 0 k) j = bn c j := by
  rw [bn_eq, bn_eq, ByteArray.data_extract]
  simp [List.getElem?_take_of_lt hj]
theorem bn_drop (c : ByteArray) (k j : Nat) (_hk : k ≤ c.size) (hj : j < c.size - k) : bn (c.extract k c.size) j = bn c (k + j) := by
  rw [bn_eq, bn_eq, ByteArray.data_extract]
  simp only [Array.toList_extract, List.extract_eq_take_drop]
  rw [List.getElem?_take_of_lt hj, List.getElem?_drop]
theorem onN_empty (x : Nat) : onN x ByteArray.empty = x := tn_tn x
theorem join_at (c : ByteArray) (k : Nat) (hk : k ≤ c.size) : onN (onN 0 (c.extract 0 k)) (c.extract k c.size) = onN 0 c := by
  have s1 : (c.extract 0 k).size = k := by simp [ByteArray.size_extract]; omega
  have s2 : (c.extract k c.size).size = c.size - k := by simp [ByteArray.size_extract]
  have e := st_add (bn c) (tn 0) k (c.size - k)
  rw [show k + (c.size - k) = c.size by omega] at e
  unfold onN
  rw [tn_tn, s1, s2, e, st_congr _ _ _ k (fun j hj => bn_take c k j hj), st_congr _ _ _ (c.size - k) (fun j hj => bn_drop c k j hk hj)]

set_option maxHeartbeats 400000 in
theorem sumIs_walk (s : ByteArray) (cut : Int) (w : World) :
    Calls Try.prog 3 #[.string s, .int .i64 cut] w fun e w' => e = .returned (.bool true) ∧ Grown w w' := by
  have hcut := cut_200 s
  have hcs : (s.extract 0 200).size ≤ 200 := by simp [ByteArray.size_extract]; omega
  generalize s.extract 0 200 = c at *
  have hcs2 : c.size ≤ 9223372036854775807 := by omega
  obtain ⟨m, hm⟩ : ∃ m : Int, (if (c.size : Int) < cut then (c.size : Int) else cut) = m := ⟨_, rfl⟩
  have hmc : m ≤ c.size := by rw [← hm]; split <;> omega
  obtain ⟨k, hk⟩ : ∃ k : Nat, (if 0 < m then m else 0) = (k : Int) := ⟨m.toNat, by split <;> omega⟩
  have hkc : k ≤ c.size := by
    have : (if 0 < m then m else 0) ≤ (c.size : Int) := by split <;> omega
    omega
  clear hmc
  have hj := join_at c k hkc
  have la : (c.extract 0 k).size ≤ 9223372036854775807 := by simp [ByteArray.size_extract]; omega
  have lb : (c.extract k c.size).size ≤ 9223372036854775807 := by simp [ByteArray.size_extract]; omega
  have l0 := onN_lt 0 (c.extract 0 k) (by decide)
  have h3 : onN (onN (onN 0 (c.extract 0 k)) ByteArray.empty) (c.extract k c.size) = onN 0 c := by rw [onN_empty, hj]
  go_enter Try.func3, Try.ntmps3
  go_wp2_with fail
  go_call (awake_any w) as e w1 ⟨rfl, g1⟩
  go_wp2_with fail
  go_call (hcut w1) as e w2 ⟨rfl, rfl⟩
  go_wp2_with fail
  go_region
  go_wp2_with fail
  go_call (of1 c w2.heap.size _ hcs2 (by simp [go_sem])) as e w3 ⟨rfl, hw3⟩
  have g3 : Grown w w3 := by rw [hw3]; exact Grown.step g1 (by go_grown)
  clear hw3 g1
  go_wp2_with fail
  go_call (refOf_any c hcs2 w3) as e w4 ⟨rfl, rfl⟩
  go_wp2_with fail
  go_call (of2 (c.extract 0 k) (c.extract k c.size) w4.heap.size _ la lb (by simp [go_sem]) (by simp [go_sem])) as e w5 ⟨rfl, hw5⟩
  have g5 : Grown w w5 := by rw [hw5]; exact Grown.step g3 (by go_grown)
  clear hw5 g3
  go_wp2_with fail
  go_call (of1 c w5.heap.size _ hcs2 (by simp [go_sem])) as e w6 ⟨rfl, hw6⟩
  have g6 : Grown w w6 := by rw [hw6]; exact Grown.step g5 (by go_grown)
  clear hw6 g5
  go_wp2_with fail
  go_call (of1 (c.extract 0 k) w6.heap.size _ la (by simp [go_sem])) as e w7 ⟨rfl, hw7⟩
  have g7 : Grown w w7 := by rw [hw7]; exact Grown.step g6 (by go_grown)
  clear hw7 g6
  go_wp2_with fail
  go_call (on_any (onN 0 (c.extract 0 k)) (c.extract k c.size) l0 lb w7) as e w8 ⟨rfl, rfl⟩
  go_wp2_with fail
  go_call (of1 c w8.heap.size _ hcs2 (by simp [go_sem])) as e w9 ⟨rfl, hw9⟩
  have g9 : Grown w w9 := by rw [hw9]; exact Grown.step g7 (by go_grown)
  clear hw9 g7
  go_wp2_with fail
  go_call (of3 (c.extract 0 k) ByteArray.empty (c.extract k c.size) w9.heap.size _ la (by decide) lb (by simp [go_sem]) (by simp [go_sem]; rfl) (by simp [go_sem])) as e w10 ⟨rfl, hw10⟩
  have g10 : Grown w w10 := by rw [hw10]; exact Grown.step g9 (by go_grown)
  clear hw10 g9
  go_wp2_with fail
  go_call (of1 c w10.heap.size _ hcs2 (by simp [go_sem])) as e w11 ⟨rfl, hw11⟩
  have g11 : Grown w w11 := by rw [hw11]; exact Grown.step g10 (by go_grown)
  clear hw11 g10
  go_wp2
  go_ret
  exact ⟨rfl, g11⟩
end Go.Proofs.Yteojllilcejnhaa
