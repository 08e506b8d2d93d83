/- The law OctetHex as a call: for any two texts it returns true, and nothing that was in memory is changed. -/
import Derived.Test.YthojbccoejdmeaaH
namespace Go.Proofs.Ythojbccoejdmeaa
open Go.RowKit

theorem dgv_hxd (k : Nat) (h : k < 16) : dgv (hxd k) = k := by
  unfold dgv hxd
  by_cases h1 : k < 10
  · rw [if_pos h1, if_pos (by omega)]; omega
  · rw [if_neg h1, if_neg (by omega), if_pos (by omega)]; omega
theorem hxd_dgv (b : Nat) (h : dgv b < 16) : hxd (dgv b) = b := by
  unfold dgv at *
  by_cases h1 : 48 ≤ b ∧ b ≤ 57
  · rw [if_pos h1] at *
    unfold hxd; rw [if_pos (by omega)]; omega
  · rw [if_neg h1] at *
    by_cases h2 : 97 ≤ b ∧ b ≤ 102
    · rw [if_pos h2] at *
      unfold hxd; rw [if_neg (by omega)]; omega
    · rw [if_neg h2] at h; omega

def tx (l : List UInt8) : ByteArray := ⟨l.toArray⟩
theorem tx_size (l : List UInt8) : (tx l).size = l.length := by
  show l.toArray.size = _
  simp
theorem tx_toList (s : ByteArray) : tx s.data.toList = s := by
  unfold tx; cases s; simp
theorem tx_app2 (l : List UInt8) (a b : UInt8) : tx l ++ tx [a] ++ tx [b] = tx (l ++ [a, b]) := by
  apply ByteArray.ext
  simp [tx, ByteArray.data_append]
theorem list2 {a b c d : UInt8} (h1 : a = c) (h2 : b = d) : [a, b] = [c, d] := by rw [h1, h2]
theorem bn_tx (l : List UInt8) (k : Nat) : bn (tx l) k = ((l[k]?).map UInt8.toNat).getD 0 := by
  unfold bn
  by_cases h : k < (tx l).size
  · rw [dif_pos h]
    rw [tx_size] at h
    rw [List.getElem?_eq_getElem h]
    simp [tx]
    rfl
  · rw [dif_neg h]
    rw [tx_size] at h
    rw [List.getElem?_eq_none (by omega)]
    rfl
theorem hexN_get (s : ByteArray) (n j : Nat) (hj : j < n) : (hexN s n)[2 * j]? = some (hx (bn s j / 16)) ∧ (hexN s n)[2 * j + 1]? = some (hx (bn s j % 16)) := by
  induction n with
  | zero => omega
  | succ n ih =>
    simp only [hexN]
    have hl := hexN_length s n
    by_cases h : j < n
    · rw [List.getElem?_append_left (by omega), List.getElem?_append_left (by omega)]
      exact ih h
    · obtain rfl : j = n := by omega
      rw [List.getElem?_append_right (by omega), List.getElem?_append_right (by omega), hl]
      have e1 : 2 * j - 2 * j = 0 := by omega
      have e2 : 2 * j + 1 - 2 * j = 1 := by omega
      rw [e1, e2]; exact ⟨rfl, rfl⟩
theorem bn_hex (s : ByteArray) (n j : Nat) (hj : j < n) : bn (tx (hexN s n)) (2 * j) = hxd (bn s j / 16) ∧ bn (tx (hexN s n)) (2 * j + 1) = hxd (bn s j % 16) := by
  obtain ⟨a, b⟩ := hexN_get s n j hj
  have hb := bn_lt s j
  rw [bn_tx, bn_tx, a, b]
  exact ⟨hx_nat _ (by omega), hx_nat _ (by omega)⟩
theorem unL_hex (s : ByteArray) (n k : Nat) (hk : k ≤ n) (hn : n ≤ s.size) : unL (tx (hexN s n)) k = s.data.toList.take k := by
  induction k with
  | zero => simp [unL]
  | succ k ih =>
    obtain ⟨a, b⟩ := bn_hex s n k (by omega)
    have hb := bn_lt s k
    simp only [unL]
    rw [ih (by omega), a, b, dgv_hxd _ (by omega), dgv_hxd _ (by omega), List.take_add_one, bn_get s k (by omega)]
    congr 3
    have : 16 * (bn s k / 16) + bn s k % 16 = bn s k := by omega
    rw [this]
theorem back_hex (s : ByteArray) : uhB (tx (hexN s s.size)) = true ∧ uhS (tx (hexN s s.size)) = s := by
  have hsz : (tx (hexN s s.size)).size = 2 * s.size := by rw [tx_size, hexN_length]
  have hp : uhP (tx (hexN s s.size)) := by
    refine ⟨by omega, fun j hj => ?_⟩
    rw [hsz] at hj
    obtain ⟨a, b⟩ := bn_hex s s.size j (by omega)
    have hb := bn_lt s j
    unfold gd
    rw [a, b, dgv_hxd _ (by omega), dgv_hxd _ (by omega)]
    omega
  obtain ⟨e1, e2⟩ := uhB_yes hp
  refine ⟨e1, ?_⟩
  rw [e2, hsz, show 2 * s.size / 2 = s.size by omega, unL_hex s s.size s.size (Nat.le_refl _) (Nat.le_refl _), size_list, List.take_length]
theorem hex_unL (t : ByteArray) (hp : uhP t) (m : Nat) (hm : m = t.size / 2) (k : Nat) (hk : k ≤ m) : hexN (tx (unL t m)) k = t.data.toList.take (2 * k) := by
  have hget : ∀ m k, k < m → (unL t m)[k]? = some (UInt8.ofNat (16 * dgv (bn t (2 * k)) + dgv (bn t (2 * k + 1)))) := by
    intro m
    induction m with
    | zero => intro k h; omega
    | succ m ih =>
      intro k h
      simp only [unL]
      have hl := unL_length t m
      by_cases h2 : k < m
      · rw [List.getElem?_append_left (by omega)]; exact ih k h2
      · obtain rfl : k = m := by omega
        rw [List.getElem?_append_right (by omega), hl, Nat.sub_self]; rfl
  induction k with
  | zero => simp [hexN]
  | succ k ih =>
    have hev := hp.1
    obtain ⟨g1, g2⟩ := hp.2 k (by omega)
    have hb : bn (tx (unL t m)) k = 16 * dgv (bn t (2 * k)) + dgv (bn t (2 * k + 1)) := by
      rw [bn_tx, hget m k (by omega)]
      simp; omega
    simp only [hexN]
    have e1 : bn (tx (unL t m)) k / 16 = dgv (bn t (2 * k)) := by rw [hb]; omega
    have e2 : bn (tx (unL t m)) k % 16 = dgv (bn t (2 * k + 1)) := by rw [hb]; omega
    rw [ih (by omega), e1, e2]
    unfold hx
    rw [hxd_dgv _ g1, hxd_dgv _ g2]
    have e3 : 2 * (k + 1) = 2 * k + 1 + 1 := by omega
    rw [e3, List.take_add_one, List.take_add_one, bn_get t (2 * k) (by omega), bn_get t (2 * k + 1) (by omega)]
    simp
theorem on_hex (t : ByteArray) (h : uhB t = true) : tx (hexN (uhS t) (uhS t).size) = t := by
  have hp : uhP t := by
    by_cases hp : uhP t
    · exact hp
    · rw [(uhB_no hp).1] at h; cases h
  obtain ⟨_, e2⟩ := uhB_yes hp
  have e3 : uhS t = tx (unL t (t.size / 2)) := e2
  rw [e3, tx_size, unL_length, hex_unL t hp _ rfl _ (Nat.le_refl _)]
  have h2 : 2 * (t.size / 2) = t.data.toList.length := by rw [← size_list]; have := hp.1; omega
  rw [h2, List.take_length]
  exact tx_toList t

theorem cut_any (s : ByteArray) (n : Nat) (hn : n ≤ 1000) (w : World) :
    Calls Try.prog 9 #[.string s, .int .i64 n] w fun e w' => e = .returned (.string (s.extract 0 n)) ∧ w' = w := by
  go_enter Try.func9, Try.ntmps9
  go_wp2
  · go_ret
    exact ⟨rfl, rfl⟩
  · have hge : ¬ n < s.size := by assumption
    go_ret
    refine ⟨?_, rfl⟩
    have : s.extract 0 n = s := by
      apply ByteArray.ext
      simp only [ByteArray.data_extract]
      rw [Array.extract_eq_self_of_le (by show s.size ≤ n; omega)]
    rw [this]
    rfl
theorem cut_size (s : ByteArray) (n : Nat) : (s.extract 0 n).size ≤ n := by simp [ByteArray.size_extract]; omega

theorem conv1 (W : World) (B : Nat) (z : Int) (h : W.cell? ⟨B, 0, none⟩ = some (.int .u8 z)) : (convert 38 9 (.slice (some ⟨B, 0, none⟩) 1 1)).run Try.prog W = .ok (.string (tx [UInt8.ofNat z.toNat])) W := by
  rw [run_convert_bytes_string W 38 9 5 (some ⟨B, 0, none⟩) 1 1 Try.underlying38 Try.underlying5 Try.underlying9]
  have hl := run_loadCells_list (P := Try.prog) W ⟨B, 0, none⟩ ([z].map (Value.int .u8)) (fun j v hj => by
    match j, hj with
    | 0, hj => simp at hj; subst hj; simpa [Addr.add] using h)
  simp only [List.length_map] at hl
  rw [run_bytesToString W ⟨B, 0, none⟩ 1 1 _ hl]
  rfl
theorem conv1a (w : World) (o : Obj) (z : Int) : (convert 38 9 (.slice (some ⟨w.heap.size + 1, 0, none⟩) 1 1)).run Try.prog ((w.alloc o).alloc (.cells #[.int .u8 z] 5)).drew = .ok (.string (tx [UInt8.ofNat z.toNat])) ((w.alloc o).alloc (.cells #[.int .u8 z] 5)).drew :=
  conv1 _ _ z (by simp [go_sem])
theorem conv1b (w : World) (o o2 : Obj) (z : Int) : (convert 38 9 (.slice (some ⟨w.heap.size + 1 + 1, 0, none⟩) 1 1)).run Try.prog (((w.alloc o).alloc o2).alloc (.cells #[.int .u8 z] 5)).drew = .ok (.string (tx [UInt8.ofNat z.toNat])) (((w.alloc o).alloc o2).alloc (.cells #[.int .u8 z] 5)).drew :=
  conv1 _ _ z (by simp [go_sem])

set_option maxHeartbeats 1000000 in
theorem hex_walk (s t : ByteArray) (w : World) :
    Calls Try.prog 7 #[.string s, .string t] w fun e w' => e = .returned (.bool true) ∧ Below w.heap.size w w' := by
  have c1 := cut_any s 60 (by decide)
  have c2 := cut_any t 60 (by decide)
  have z1 := cut_size s 60
  have z2 := cut_size t 60
  generalize s.extract 0 60 = c at *
  generalize t.extract 0 60 = d at *
  go_enter Try.func7, Try.ntmps7
  go_wp2_with fail
  go_call (awake_any w) as e w1 ⟨rfl, g1⟩
  go_wp2_with fail
  go_call (c1 w1) as e w1 ⟨rfl, rfl⟩
  go_wp2_with fail
  go_call (c2 w1) as e w1 ⟨rfl, rfl⟩
  clear c1 c2
  have HB : Hid (Below w.heap.size w w1) := g1
  clear g1
  have gc := get_bn c
  go_wp2_with fail
  go_loopw [5, 21] (fun v i wr => ∃ k : Nat, k ≤ c.size ∧ i = .int .i64 k ∧ v = .string (tx (hexN c k)) ∧ Hid (Below w.heap.size w wr))
    (fun _ i _ => c.size - (intOf i).toNat)
  case atStart => exact ⟨0, Nat.zero_le _, rfl, rfl, HB⟩
  case round =>
    obtain ⟨k, hk, rfl, rfl, hre⟩ := hrel
    clear HB
    by_cases hkn : k < c.size
    · have hbb := bn_lt c k
      have hnext : hexN c (k + 1) = hexN c k ++ [hx (bn c k / 16), hx (bn c k % 16)] := rfl
      obtain ⟨p, hp⟩ : ∃ p, bn c k / 16 = p := ⟨_, rfl⟩
      obtain ⟨q, hq⟩ : ∃ q, bn c k % 16 = q := ⟨_, rfl⟩
      rw [hp, hq] at hnext
      have hp1 : ((bn c k : Nat) : Int) / 16 % 256 = (p : Int) := by omega
      have hp2 : ((bn c k : Nat) : Int) / 16 = (p : Int) := by omega
      have hq1 : ((bn c k : Nat) : Int) % 16 = (q : Int) := by omega
      have hpl : p < 16 := by omega
      have hql : q < 16 := by omega
      have HX : Hid (hexN c (k + 1) = hexN c k ++ [hx p, hx q]) := hnext
      clear hp hq hnext
      go_wp2
      go_region
      clear hp1 hq1 hp2
      generalize bn c k = b at *
      have ka := conv1a wr
      have kb := conv1b wr
      have hts := tx_size
      have hxl := hexN_length c k
      have h2k : k ≤ 60 := by omega
      by_cases h1 : p < 10 <;> by_cases h2 : q < 10
      all_goals
        go_wp2
        go_rounds 3
        go_roundw
        case rel =>
          refine ⟨k + 1, by omega, by go_num, ?_, ?_⟩
          · rw [HX.out]
            congr 1
            rw [tx_app2]
            refine congrArg (fun z => tx (hexN c k ++ z)) ?_
            refine list2 ?_ ?_
            all_goals (apply UInt8.toNat_inj.1; simp [hx, hxd, h1, h2]; try omega)
          · exact (((hre.out.alloc hre.out.size _).alloc (by have := hre.out.size; simp; omega) _).alloc (by have := hre.out.size; simp; omega) _).drew
        case measure => simp only [intOf]; omega
    · obtain rfl : k = c.size := by omega
      clear gc
      have hz : (tx (hexN c c.size)).size ≤ 120 := by rw [tx_size, hexN_length]; omega
      obtain ⟨b1, b2⟩ := back_hex c
      have HH : Hid (uhB (tx (hexN c c.size)) = true ∧ uhS (tx (hexN c c.size)) = c) := ⟨b1, b2⟩
      clear b1 b2
      have hx1 : ∀ w, Calls Try.prog 33 #[.string c] w fun e w' => e = .returned (.string (tx (hexN c c.size))) ∧ Below w.heap.size w w' := fun w => hex_any c w (by omega)
      generalize tx (hexN c c.size) = H at *
      have hx2 : ∀ w, Calls Try.prog 32 #[.string H] w fun e w' => e = .returned (.tuple #[.string c, .bool true]) ∧ Below w.heap.size w w' := fun w => by
        have := unhex_any H w (by omega)
        rwa [HH.out.1, HH.out.2] at this
      have hbw := hre.out
      clear HH hre
      go_wp2_with fail
      go_call (hx1 wr) as e w2 ⟨rfl, g2⟩
      go_wp2_with fail
      go_call (hx2 w2) as e w3 ⟨rfl, g3⟩
      go_wp2_with fail
      go_call (hx1 w3) as e w4 ⟨rfl, g4⟩
      have s2 := hbw.size
      have hb4 : Below w.heap.size w w4 := hbw.trans ((g2.mono s2).trans ((g3.mono (Nat.le_trans s2 g2.size)).trans (g4.mono (Nat.le_trans s2 (Nat.le_trans g2.size g3.size)))))
      have HB4 : Hid _ := hb4
      clear hb4 g2 g3 g4 hbw s2 hx1 hx2
      have hu := unhex_any d w4 (by omega)
      have hon := on_hex d
      have hus : (uhS d).size ≤ 60 := by
        unfold uhS
        split
        · show (tx _).size ≤ 60
          rw [tx_size, unL_length]; omega
        · exact Nat.zero_le _
      have hno : uhB d = false → uhS d = ⟨#[]⟩ := fun h => by unfold uhS; rw [h]; rfl
      generalize uhS d = x at *
      cases hB : uhB d
      · have hx0 := hno hB
        subst hx0
        rw [hB] at hu
        clear hno hon hB
        go_wp2_with fail
        go_call hu as e w5 ⟨rfl, g5⟩
        have HB5 : Hid (Below w.heap.size w w5) := HB4.out.trans (g5.mono HB4.out.size)
        clear hu g5 HB4
        go_wp2
        go_ret
        exact ⟨rfl, HB5.out⟩
      · have hon1 := hon hB
        rw [hB] at hu
        clear hno hon hB
        have hx3 : ∀ w, Calls Try.prog 33 #[.string x] w fun e w' => e = .returned (.string d) ∧ Below w.heap.size w w' := fun w => by
          have := hex_any x w (by omega)
          rwa [show (⟨(hexN x x.size).toArray⟩ : ByteArray) = d from hon1] at this
        clear hon1
        go_wp2_with fail
        go_call hu as e w5 ⟨rfl, g5⟩
        have HB5 : Hid (Below w.heap.size w w5) := HB4.out.trans (g5.mono HB4.out.size)
        clear hu g5 HB4
        go_wp2_with fail
        go_call (hx3 w5) as e w6 ⟨rfl, g6⟩
        have HB6 : Hid (Below w.heap.size w w6) := HB5.out.trans (g6.mono HB5.out.size)
        clear hx3 g6 HB5
        go_wp2
        go_ret
        exact ⟨rfl, HB6.out⟩
end Go.Proofs.Ythojbccoejdmeaa
