/- The law OctetHex as a call: for any two texts it returns true, and nothing that was in memory is changed. -/
import Derived.Test.YtncfbocbigdhiaaGreatOH
namespace Go.Proofs.YtncfbocbigdhiaaGreat.O
set_option maxRecDepth 100000
set_option maxRecDepth 100000
set_option maxRecDepth 100000
open Go.RowKit

theorem dgv_hxd (k : Nat) (h : k < 16) : dgv (hxd k) = k := by
  unfold dgv hxd
  by_cases h1 : k < 10
  · rw [if_pos h1, if_pos (by omega)]; omega
  · rw [if_neg h1, if_neg (by omega), if_pos (by omega)]; omega
theorem hxd_dgv (b : Nat) (h : dgv b < 16) : hxd (dgv b) = b := by
  unfold dgv at *
  by_cases h1 : 48 ≤ b ∧ b ≤ 57
  · rw [if_pos h1] at *
    unfold hxd; rw [if_pos (by omega)]; omega
  · rw [if_neg h1] at *
    by_cases h2 : 97 ≤ b ∧ b ≤ 102
    · rw [if_pos h2] at *
      unfold hxd; rw [if_neg (by omega)]; omega
    · rw [if_neg h2] at h; omega

def tx (l : List UInt8) : ByteArray := ⟨l.toArray⟩
theorem tx_size (l : List UInt8) : (tx l).size = l.length := by
  show l.toArray.size = _
  simp
theorem tx_toList (s : ByteArray) : tx s.data.toList = s := by
  unfold tx; cases s; simp
theorem tx_app2 (l : List UInt8) (a b : UInt8) : tx l ++ tx [a] ++ tx [b] = tx (l ++ [a, b]) := by
  apply ByteArray.ext
  simp [tx, ByteArray.data_append]
theorem list2 {a b c d : UInt8} (h1 : a = c) (h2 : b = d) : [a, b] = [c, d] := by rw [h1, h2]
theorem bn_tx (l : List UInt8) (k : Nat) : bn (tx l) k = ((l[k]?).map UInt8.toNat).getD 0 := by
  unfold bn
  by_cases h : k < (tx l).size
  · rw [dif_pos h]
    rw [tx_size] at h
    rw [List.getElem?_eq_getElem h]
    simp [tx]
    rfl
  · rw [dif_neg h]
    rw [tx_size] at h
    rw [List.getElem?_eq_none (by omega)]
    rfl
theorem hexN_get (s : ByteArray) (n j : Nat) (hj : j < n) : (hexN s n)[2 * j]? = some (hx (bn s j / 16)) ∧ (hexN s n)[2 * j + 1]? = some (hx (bn s j % 16)) := by
  induction n with
  | zero => omega
  | succ n ih =>
    simp only [hexN]
    have hl := hexN_length s n
    by_cases h : j < n
    · rw [List.getElem?_append_left (by omega), List.getElem?_append_left (by omega)]
      exact ih h
    · obtain rfl : j = n := by omega
      rw [List.getElem?_append_right (by omega), List.getElem?_append_right (by omega), hl]
      have e1 : 2 * j - 2 * j = 0 := by omega
      have e2 : 2 * j + 1 - 2 * j = 1 := by omega
      rw [e1, e2]; exact ⟨rfl, rfl⟩
theorem bn_hex (s : ByteArray) (n j : Nat) (hj : j < n) : bn (tx (hexN s n)) (2 * j) = hxd (bn s j / 16) ∧ bn (tx (hexN s n)) (2 * j + 1) = hxd (bn s j % 16) := by
  obtain ⟨a, b⟩ := hexN_get s n j hj
  have hb := bn_lt s j
  rw [bn_tx, bn_tx, a, b]
  exact ⟨hx_nat _ (by omega), hx_nat _ (by omega)⟩
theorem unL_hex (s : ByteArray) (n k : Nat) (hk : k ≤ n) (hn : n ≤ s.size) : unL (tx (hexN s n)) k = s.data.toList.take k := by
  induction k with
  | zero => simp [unL]
  | succ k ih =>
    obtain ⟨a, b⟩ := bn_hex s n k (by omega)
    have hb := bn_lt s k
    simp only [unL]
    rw [ih (by omega), a, b, dgv_hxd _ (by omega), dgv_hxd _ (by omega), List.take_add_one, bn_get s k (by omega)]
    congr 3
    have : 16 * (bn s k / 16) + bn s k % 16 = bn s k := by omega
    rw [this]
theorem back_hex (s : ByteArray) : uhB (tx (hexN s s.size)) = true ∧ uhS (tx (hexN s s.size)) = s := by
  have hsz : (tx (hexN s s.size)).size = 2 * s.size := by rw [tx_size, hexN_length]
  have hp : uhP (tx (hexN s s.size)) := by
    refine ⟨by omega, fun j hj => ?_⟩
    rw [hsz] at hj
    obtain ⟨a, b⟩ := bn_hex s s.size j (by omega)
    have hb := bn_lt s j
    unfold gd
    rw [a, b, dgv_hxd _ (by omega), dgv_hxd _ (by omega)]
    omega
  obtain ⟨e1, e2⟩ := uhB_yes hp
  refine ⟨e1, ?_⟩
  rw [e2, hsz, show 2 * s.size / 2 = s.size by omega, unL_hex s s.size s.size (Nat.le_refl _) (Nat.le_refl _), size_list, List.take_length]
theorem hex_unL (t : ByteArray) (hp : uhP t) (m : Nat) (hm : m = t.size / 2) (k : Nat) (hk : k ≤ m) : hexN (tx (unL t m)) k = t.data.toList.take (2 * k) := by
  have hget : ∀ m k, k < m → (unL t m)[k]? = some (UInt8.ofNat (16 * dgv (bn t (2 * k)) + dgv (bn t (2 * k + 1)))) := by
    intro m
    induction m with
    | zero => intro k h; omega
    | succ m ih =>
      intro k h
      simp only [unL]
      have hl := unL_length t m
      by_cases h2 : k < m
      · rw [List.getElem?_append_left (by omega)]; exact ih k h2
      · obtain rfl : k = m := by omega
        rw [List.getElem?_append_right (by omega), hl, Nat.sub_self]; rfl
  induction k with
  | zero => simp [hexN]
  | succ k ih =>
    have hev := hp.1
    obtain ⟨g1, g2⟩ := hp.2 k (by omega)
    have hb : bn (tx (unL t m)) k = 16 * dgv (bn t (2 * k)) + dgv (bn t (2 * k + 1)) := by
      rw [bn_tx, hget m k (by omega)]
      simp; omega
    simp only [hexN]
    have e1 : bn (tx (unL t m)) k / 16 = dgv (bn t (2 * k)) := by rw [hb]; omega
    have e2 : bn (tx (unL t m)) k % 16 = dgv (bn t (2 * k + 1)) := by rw [hb]; omega
    rw [ih (by omega), e1, e2]
    unfold hx
    rw [hxd_dgv _ g1, hxd_dgv _ g2]
    have e3 : 2 * (k + 1) = 2 * k + 1 + 1 := by omega
    rw [e3, List.take_add_one, List.take_add_one, bn_get t (2 * k) (by omega), bn_get t (2 * k + 1) (by omega)]
    simp
theorem on_hex (t : ByteArray) (h : uhB t = true) : tx (hexN (uhS t) (uhS t).size) = t := by
  have hp : uhP t := by
    by_cases hp : uhP t
    · exact hp
    · rw [(uhB_no hp).1] at h; cases h
  obtain ⟨_, e2⟩ := uhB_yes hp
  have e3 : uhS t = tx (unL t (t.size / 2)) := e2
  rw [e3, tx_size, unL_length, hex_unL t hp _ rfl _ (Nat.le_refl _)]
  have h2 : 2 * (t.size / 2) = t.data.toList.length := by rw [← size_list]; have := hp.1; omega
  rw [h2, List.take_length]
  exact tx_toList t

theorem cut_size (s : ByteArray) (n : Nat) : (s.extract 0 n).size ≤ n := by simp [ByteArray.size_extract]; omega

theorem conv1 (W : World) (B : Nat) (z : Int) (h : W.cell? ⟨B, 0, none⟩ = some (.int .u8 z)) : (convert 75 9 (.slice (some ⟨B, 0, none⟩) 1 1)).run Tryz.prog W = .ok (.string (tx [UInt8.ofNat z.toNat])) W := by
  rw [run_convert_bytes_string W 75 9 5 (some ⟨B, 0, none⟩) 1 1 Tryz.underlying75 Tryz.underlying5 Tryz.underlying9]
  have hl := run_loadCells_list (P := Tryz.prog) W ⟨B, 0, none⟩ ([z].map (Value.int .u8)) (fun j v hj => by
    match j, hj with
    | 0, hj => simp at hj; subst hj; simpa [Addr.add] using h)
  simp only [List.length_map] at hl
  rw [run_bytesToString W ⟨B, 0, none⟩ 1 1 _ hl]
  rfl
theorem conv1a (w : World) (o : Obj) (z : Int) : (convert 75 9 (.slice (some ⟨w.heap.size + 1, 0, none⟩) 1 1)).run Tryz.prog ((w.alloc o).alloc (.cells #[.int .u8 z] 5)).drew = .ok (.string (tx [UInt8.ofNat z.toNat])) ((w.alloc o).alloc (.cells #[.int .u8 z] 5)).drew :=
  conv1 _ _ z (by simp [go_sem])
theorem conv1b (w : World) (o o2 : Obj) (z : Int) : (convert 75 9 (.slice (some ⟨w.heap.size + 1 + 1, 0, none⟩) 1 1)).run Tryz.prog (((w.alloc o).alloc o2).alloc (.cells #[.int .u8 z] 5)).drew = .ok (.string (tx [UInt8.ofNat z.toNat])) (((w.alloc o).alloc o2).alloc (.cells #[.int .u8 z] 5)).drew :=
  conv1 _ _ z (by simp [go_sem])

end Go.Proofs.YtncfbocbigdhiaaGreat.O
