/- What is split is whole, and its text comes back; what lies there says which. -/
import Derived.Test.YtknmipbjkkeebaaGreatIM
namespace Go.Proofs.YtknmipbjkkeebaaGreat
open Go.RowKit
theorem ext_list (x : ByteArray) (a b : Nat) : (x.extract a b).data.toList = (x.data.toList.drop a).take (b - a) := by
  rw [ByteArray.data_extract, Array.toList_extract, List.extract_eq_take_drop]
theorem datL_take (g : Nat → Pg) (x : ByteArray) (q t : Nat) (h : ∀ j, j < t → g j = spP x q j) : ∀ k, k ≤ t → datL g k = x.data.toList.take (k * 40)
  | 0, _ => by simp [datL]
  | k + 1, hk => by
    rw [datL, datL_take g x q t h k (by omega), h k (by omega)]
    show _ ++ (x.extract (k * 40) (k * 40 + 40)).data.toList = _
    rw [ext_list, show k * 40 + 40 - k * 40 = 40 by omega, show (k + 1) * 40 = k * 40 + 40 by omega, List.take_add]
theorem spT_all (n : Nat) : n ≤ spT n * 40 := by unfold spT; omega
theorem tx_back_list (x : ByteArray) : O.tx x.data.toList = x := by unfold O.tx; apply ByteArray.ext; simp
theorem datL_text (g : Nat → Pg) (x : ByteArray) (q : Nat) (h : ∀ j, j < spT x.size → g j = spP x q j) : O.tx (datL g (spT x.size)) = x := by
  rw [datL_take g x q _ h _ (Nat.le_refl _), List.take_of_length_le (by rw [← O.size_list]; exact spT_all _)]
  exact tx_back_list x
/-- What is split is whole. -/
theorem whl_split (g : Nat → Pg) (x : ByteArray) (q : Nat) (h : ∀ j, j < spT x.size → g j = spP x q j) : Whl g := by
  have h0 := h 0 (spT_pos _)
  have hn : (g 0).n = spT x.size := by rw [h0]; rfl
  have hq : (g 0).q = q := by rw [h0]; rfl
  unfold Whl
  rw [hn, hq, datL_text g x q h]
  exact ⟨spT_pos _, fun j hj => by rw [gk_lt _ _ _ hj]; exact h j hj⟩
theorem whl_zero (g : Nat → Pg) (h : (g 0).n = 0) : ¬ Whl g := fun hw => by
  have := hw.1
  omega
theorem text_split (g : Nat → Pg) (x : ByteArray) (q : Nat) (h : ∀ j, j < spT x.size → g j = spP x q j) : O.tx (datL g (g 0).n) = x := by
  have h0 := h 0 (spT_pos _)
  have hn : (g 0).n = spT x.size := by rw [h0]; rfl
  rw [hn]; exact datL_text g x q h
theorem mostN_le (g : Nat → Pg) (m : Nat) (h : ∀ j, j < 16 → (g j).q ≤ m) : ∀ k, k ≤ 16 → mostN g k ≤ m
  | 0, _ => Nat.zero_le _
  | k + 1, hk => by
    rw [mostN]
    have := mostN_le g m h k (by omega)
    have := h k (by omega)
    omega
theorem mostN_ge (g : Nat → Pg) (j : Nat) : ∀ k, j < k → (g j).q ≤ mostN g k
  | 0, h => absurd h (Nat.not_lt_zero _)
  | k + 1, h => by
    rw [mostN]
    rcases Nat.lt_or_ge j k with h1 | h1
    · have := mostN_ge g j k h1; omega
    · obtain rfl : j = k := by omega
      omega
theorem mostN_is (g : Nat → Pg) (m : Nat) (h : ∀ j, j < 16 → (g j).q ≤ m) (h0 : (g 0).q = m) : mostN g 16 = m := by
  have a := mostN_le g m h 16 (Nat.le_refl _)
  have b := mostN_ge g 0 16 (by decide)
  omega
/-- What is found where both slots are told: the one of the greater Seq, or the one there is, or none. -/
theorem scan_two (G : Nat → Nat → Pg) : (scan G 2).sl.most = max (mostN (G 0) 16) (mostN (G 1) 16) := by
  have e0 : scan G 0 = ⟨⟨0, 0, 0, false⟩, ⟨#[]⟩, 0⟩ := rfl
  have m1 : (scan G 1).sl.most = mostN (G 0) 16 := by
    by_cases h : Whl (G 0)
    · by_cases h2 : (scan G 0).sl.seq < (G 0 0).q
      · rw [scan_new G 0 h h2, e0]; show max 0 _ = _; omega
      · rw [scan_old G 0 h h2, e0]; show max 0 _ = _; omega
    · rw [scan_no G 0 h, e0]; show max 0 _ = _; omega
  by_cases h : Whl (G 1)
  · by_cases h2 : (scan G 1).sl.seq < (G 1 0).q
    · rw [scan_new G 1 h h2]; show max (scan G 1).sl.most _ = _; rw [m1]
    · rw [scan_old G 1 h h2]; show max (scan G 1).sl.most _ = _; rw [m1]
  · rw [scan_no G 1 h]; show max (scan G 1).sl.most _ = _; rw [m1]
theorem scan_first (G : Nat → Nat → Pg) (h0 : Whl (G 0)) (hq : 0 < (G 0 0).q) (h1 : ¬ Whl (G 1) ∨ (G 1 0).q ≤ (G 0 0).q) : (scan G 2).text = O.tx (datL (G 0) (G 0 0).n) ∧ (scan G 2).sl.slot = 0 ∧ (scan G 2).sl.seq = (G 0 0).q ∧ 0 < (scan G 2).found := by
  have e1 := scan_new G 0 h0 hq
  by_cases h : Whl (G 1)
  · rcases h1 with h1 | h1
    · exact absurd h h1
    · have e2 := scan_old G 1 h (by rw [e1]; show ¬ (G 0 0).q < _; omega)
      rw [e2, e1]; exact ⟨rfl, rfl, rfl, Nat.succ_pos _⟩
  · rw [scan_no G 1 h, e1]; exact ⟨rfl, rfl, rfl, Nat.succ_pos _⟩
theorem scan_second (G : Nat → Nat → Pg) (h1 : Whl (G 1)) (hq : (Whl (G 0) → (G 0 0).q < (G 1 0).q)) (h0 : 0 < (G 1 0).q) : (scan G 2).text = O.tx (datL (G 1) (G 1 0).n) ∧ (scan G 2).sl.slot = 1 ∧ (scan G 2).sl.seq = (G 1 0).q ∧ 0 < (scan G 2).found := by
  have hlt : (scan G 1).sl.seq < (G 1 0).q := by
    by_cases h : Whl (G 0)
    · by_cases h2 : (scan G 0).sl.seq < (G 0 0).q
      · rw [scan_new G 0 h h2]; exact hq h
      · rw [scan_old G 0 h h2]; exact h0
    · rw [scan_no G 0 h]; exact h0
  rw [scan_new G 1 h1 hlt]; exact ⟨rfl, rfl, rfl, Nat.succ_pos _⟩
theorem scan_none (G : Nat → Nat → Pg) (h0 : ¬ Whl (G 0)) (h1 : ¬ Whl (G 1)) : (scan G 2).text = ⟨#[]⟩ ∧ (scan G 2).sl.slot = 0 ∧ (scan G 2).sl.seq = 0 ∧ (scan G 2).found = 0 := by
  rw [scan_no G 1 h1, scan_no G 0 h0]; exact ⟨rfl, rfl, rfl, rfl⟩
end Go.Proofs.YtknmipbjkkeebaaGreat
