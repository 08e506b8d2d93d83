/- The law SumTells as a call: for every text, every place and every number of 32 bits it returns true, and nothing that was in memory is changed; no condition. -/
import Derived.Test.YteojllilcejnhaaD
import Derived.Lib.SlBytesConst
namespace Go.Proofs.Yteojllilcejnhaa
open Go.RowKit

set_option maxHeartbeats 400000 in
theorem awake_below (w : World) :
    Calls Try.prog 7 #[] w fun e w' => e = .returned (.bool true) ∧ Below w.heap.size w w' := by
  have h9 := sum9
  go_enter Try.func7, Try.ntmps7
  go_wp2_with fail
  go_call (of1 ⟨#[49, 50, 51, 52, 53, 54, 55, 56, 57]⟩ w.heap.size _ (by decide) (by simp [go_sem])) as e w1 ⟨rfl, rfl⟩
  go_wp2_with fail
  go_call (of_nil _) as e w2 ⟨rfl, rfl⟩
  go_wp2
  go_ret
  exact ⟨rfl, by go_grown⟩

theorem conv_string (d : ByteArray) (w : World) : ∃ (W0 : World) (cap : Nat), (convert 9 31 (.string d)).run Try.prog w = .ok (.slice (some ⟨w.heap.size, 0, none⟩) d.size cap) W0 ∧
    (∀ j, j < d.size → W0.cell? ⟨w.heap.size, j, none⟩ = some (.int .u8 (bn d j : Int))) ∧ (∀ j, j < d.size → W0.frozen? ⟨w.heap.size, j, none⟩ = false) ∧ Below w.heap.size w W0 ∧ w.heap.size < W0.heap.size := by
  refine ⟨_, _, run_bytes_of_string w 9 31 5 d Try.underlying9 Try.underlying31 Try.underlying5, ?_, ?_, ?_, ?_⟩
  · intro j hj
    generalize grownCap w d.size 0 5 = cap
    have h1 : (w.drew.alloc (.cells (bytesRow d cap) 5 ((bytesRow d cap).size, (bytesRow d cap).size + 1))).heap[w.heap.size]? = some (.cells (bytesRow d cap) 5 ((bytesRow d cap).size, (bytesRow d cap).size + 1)) := by
      show (w.heap.push _)[w.heap.size]? = _
      simp
    simp only [World.cell?, h1]
    have h2 : (bytesRow d cap)[j]? = some (.int .u8 (bn d j : Int)) := by
      unfold bytesRow
      rw [Array.getElem?_append_left (by simpa using hj)]
      have hj2 : j < d.data.size := hj
      simp only [Array.getElem?_map, Array.getElem?_eq_getElem hj2, Option.map_some]
      unfold bn
      rw [dif_pos hj]
      rfl
    simp [h2]
  · intro j hj
    generalize grownCap w d.size 0 5 = cap
    have h1 : (w.drew.alloc (.cells (bytesRow d cap) 5 ((bytesRow d cap).size, (bytesRow d cap).size + 1))).heap[w.heap.size]? = some (.cells (bytesRow d cap) 5 ((bytesRow d cap).size, (bytesRow d cap).size + 1)) := by
      show (w.heap.push _)[w.heap.size]? = _
      simp
    simp only [World.frozen?, h1]
    have : d.size ≤ (bytesRow d cap).size := by unfold bytesRow; simp
    simp; omega
  · exact Below.alloc (Below.drew (Below.refl _ _)) (Nat.le_refl _) _
  · show w.heap.size < (w.heap.push _).size
    simp

/-- The byte j behind n stores: n bytes from k on are xored with v's. -/
def xb (d : ByteArray) (k v n j : Nat) : Nat := if k ≤ j ∧ j < k + n then xr (bn d j) (v / 2 ^ (8 * (j - k)) % 256) else bn d j
theorem xb_lt (d : ByteArray) (k v n j : Nat) : xb d k v n j < 256 := by
  unfold xb; split
  · exact Nat.xor_lt_two_pow (n := 8) (bn_lt d j) (by omega)
  · exact bn_lt d j
theorem xb_zero (d : ByteArray) (k v j : Nat) : xb d k v 0 j = bn d j := by
  unfold xb; rw [if_neg (by omega)]
theorem xb_at (d : ByteArray) (k v n : Nat) : xb d k v n (k + n) = bn d (k + n) := by
  unfold xb; rw [if_neg (by omega)]
theorem xb_other (d : ByteArray) (k v n j : Nat) (h : j ≠ k + n) : xb d k v (n + 1) j = xb d k v n j := by
  unfold xb
  by_cases h1 : k ≤ j ∧ j < k + n
  · rw [if_pos h1, if_pos (by omega)]
  · rw [if_neg h1, if_neg (by omega)]
theorem xb_new (d : ByteArray) (k v n : Nat) : xb d k v (n + 1) (k + n) = xr (bn d (k + n)) (v / 2 ^ (8 * n) % 256) := by
  unfold xb; rw [if_pos (by omega), show k + n - k = n by omega]
theorem xb_bits (d : ByteArray) (k v n : Nat) : bits .xor .u8 (xb d k v n (k + n) : Int) (((v / 2 ^ (8 * n) % 256 : Nat)) : Int) = (xb d k v (n + 1) (k + n) : Int) := by
  rw [xb_at, xb_new]
  exact u8_xor_nat _ _ (bn_lt _ _) (by omega)

theorem rel_step (wr w : World) (B k v n : Nat) (d : ByteArray) (hB : w.heap.size ≤ B)
    (hc : Hid (∀ j, j < d.size → wr.cell? ⟨B, j, none⟩ = some (.int .u8 (xb d k v n j : Int)))) (hf : Hid (∀ j, j < d.size → wr.frozen? ⟨B, j, none⟩ = false)) (hb : Below w.heap.size w wr) :
    Hid (∀ j, j < d.size → ((wr.setCell ⟨B, k + n, none⟩ (.int .u8 (xb d k v (n + 1) (k + n) : Int))).drew).cell? ⟨B, j, none⟩ = some (.int .u8 (xb d k v (n + 1) j : Int))) ∧
    Hid (∀ j, j < d.size → ((wr.setCell ⟨B, k + n, none⟩ (.int .u8 (xb d k v (n + 1) (k + n) : Int))).drew).frozen? ⟨B, j, none⟩ = false) ∧
    Below w.heap.size w ((wr.setCell ⟨B, k + n, none⟩ (.int .u8 (xb d k v (n + 1) (k + n) : Int))).drew) := by
  refine ⟨fun j hj => ?_, fun j hj => ?_, ?_⟩
  · rw [World.cell?_drew]
    by_cases h : j = k + n
    · subst h
      exact World.cell?_setCell_same wr _ _ (hc.out _ hj)
    · rw [World.cell?_setCell_other wr _ _ _ (by intro e; exact h (congrArg Addr.off e).symm), hc.out j hj, xb_other _ _ _ _ _ h]
  · show (wr.setCell _ _).frozen? _ = _
    rw [World.frozen?_setCell]
    exact hf.out j hj
  · exact Below.drew (Below.setCell hb hB _)

/-- The text behind the four stores. -/
def xt (d : ByteArray) (k v : Nat) : ByteArray := ⟨((List.range d.size).map fun j => UInt8.ofNat (xb d k v 4 j)).toArray⟩
theorem xt_size (d : ByteArray) (k v : Nat) : (xt d k v).size = d.size := by
  show (List.toArray _).size = _
  simp
theorem bn_xt (d : ByteArray) (k v j : Nat) (hj : j < d.size) : bn (xt d k v) j = xb d k v 4 j := by
  rw [bn_eq]
  have hl := xb_lt d k v 4 j
  simp [xt, List.getElem?_map, List.getElem?_range hj]
  omega
theorem conv_back (d : ByteArray) (k v B cap : Nat) (wr : World) (hc : Hid (∀ j, j < d.size → wr.cell? ⟨B, j, none⟩ = some (.int .u8 (xb d k v 4 j : Int)))) :
    (convert 31 9 (.slice (some ⟨B, 0, none⟩) d.size cap)).run Try.prog wr = .ok (.string (xt d k v)) wr := by
  have h := run_convert_bytes_back (P := Try.prog) wr 31 9 5 ⟨B, 0, none⟩ cap ((List.range d.size).map fun j => UInt8.ofNat (xb d k v 4 j)) Try.underlying31 Try.underlying5 Try.underlying9 (by
    intro j hj
    have hj2 : j < d.size := by simpa using hj
    have hl := xb_lt d k v 4 j
    have ha : (⟨B, 0, none⟩ : Addr).add j = ⟨B, j, none⟩ := by simp [Addr.add]; omega
    rw [ha, hc.out j hj2]
    simp
    omega)
  simpa [xt] using h
theorem tells (d : ByteArray) (k v : Nat) (hk : k + 4 ≤ d.size) (hv : v < 4294967296) : onN 0 (xt d k v) = onN 0 d ↔ v = 0 := by
  have e0 : ∀ a b : Nat, tn a = tn b ↔ a = b := fun a b => ⟨fun h => by rw [← tn_tn a, h, tn_tn], fun h => by rw [h]⟩
  unfold onN
  rw [xt_size, e0, ← xr_eq_zero, st_congr _ (xb d k v 4) _ d.size (fun j hj => bn_xt d k v j hj), st_xr, xr_self]
  generalize hg : (fun j => xr (xb d k v 4 j) (bn d j)) = g
  have gz : ∀ j, ¬ (k ≤ j ∧ j < k + 4) → g j = 0 := fun j hj => by rw [← hg]; simp only [xb, if_neg hj, xr_self]
  have gn : ∀ j, j < 4 → g (k + j) = v / 2 ^ (8 * j) % 256 := fun j hj => by
    rw [← hg]; simp only [xb]
    rw [if_pos (by omega), show k + j - k = j by omega, xr_comm (bn d (k + j)), xr_back]
  have hsz : d.size = k + (4 + (d.size - (k + 4))) := by omega
  rw [hsz, st_add, st_none g 0 k (fun j hj => gz j (by omega)), it_zero, st_add, st_four v hv _ gn, st_none _ _ _ (fun j hj => gz _ (by omega))]
  constructor
  · intro h
    exact it_nonzero 32 v hv (it_nonzero _ _ (it_lt 32 v hv) h)
  · intro h; rw [h, it_zero, it_zero]

set_option maxHeartbeats 1000000 in
theorem sumTells_long (s c : ByteArray) (at_ : Int) (v : Nat) (hv : v < 4294967296) (w : World) (hcut : ∀ w : World, Calls Try.prog 8 #[.string s, .int .i64 200] w fun e w' => e = .returned (.string c) ∧ w' = w) (hcs : c.size ≤ 200) (h4 : ¬ c.size < 4) :
    Calls Try.prog 5 #[.string s, .int .i64 at_, .int .u32 v] w fun e w' => e = .returned (.bool true) ∧ Below w.heap.size w w' := by
    obtain ⟨m1, hm1⟩ : ∃ m1 : Int, at_.tmod ((c.size : Int) - 3) = m1 := ⟨_, rfl⟩
    have b1 : m1 < (c.size : Int) - 3 := by rw [← hm1]; exact Int.tmod_lt_of_pos _ (by omega)
    have b2 : -((c.size : Int) - 3) < m1 := by rw [← hm1]; have := Int.lt_tmod_of_pos at_ (show 0 < (c.size : Int) - 3 by omega); omega
    obtain ⟨k, hk⟩ : ∃ k : Nat, (m1 + (c.size : Int) - 3).tmod ((c.size : Int) - 3) = (k : Int) := ⟨((m1 + (c.size : Int) - 3).tmod ((c.size : Int) - 3)).toNat, by
      have := Int.tmod_nonneg ((c.size : Int) - 3) (show 0 ≤ m1 + (c.size : Int) - 3 by omega); omega⟩
    have hkc : k + 4 ≤ c.size := by
      have := Int.tmod_lt_of_pos (m1 + (c.size : Int) - 3) (show 0 < (c.size : Int) - 3 by omega); omega
    have hcs2 : c.size ≤ 9223372036854775807 := by omega
    have hxs : (xt c k v).size ≤ 9223372036854775807 := by rw [xt_size]; exact hcs2
    have hq : (((onN 0 (xt c k v) : Nat) : Int) == ((onN 0 c : Nat) : Int)) = ((v : Int) == 0) := by
      have h1 := tells c k v hkc hv
      rw [Bool.eq_iff_iff]; simp only [beq_iff_eq]
      constructor
      · intro h; have := h1.1 (by omega); omega
      · intro h; have := h1.2 (by omega); omega
    go_enter Try.func5, Try.ntmps5
    go_wp2_with fail
    go_call (awake_below w) as e w1 ⟨rfl, g1⟩
    go_wp2_with fail
    go_call (hcut w1) as e w2 ⟨rfl, rfl⟩
    obtain ⟨W0, cap, hrun, hcell0, hfr0, hb0, hs0⟩ := conv_string c w2
    have hB : w.heap.size ≤ w2.heap.size := g1.size
    have hbw : Below w.heap.size w W0 := g1.trans (hb0.mono hB)
    have HC : Hid (∀ j, j < c.size → W0.cell? ⟨w2.heap.size, j, none⟩ = some (.int .u8 (bn c j : Int))) := hcell0
    have HF : Hid (∀ j, j < c.size → W0.frozen? ⟨w2.heap.size, j, none⟩ = false) := hfr0
    clear hcell0 hfr0
    clear hb0 g1
    go_wp2_with fail
    generalize hBe : w2.heap.size = B at *
    clear hBe hrun hcut hs0
    go_loopw [34] (fun i wr => ∃ n : Nat, n ≤ 4 ∧ i = .int .i64 n ∧ Hid (∀ j, j < c.size → wr.cell? ⟨B, j, none⟩ = some (.int .u8 (xb c k v n j : Int))) ∧ Hid (∀ j, j < c.size → wr.frozen? ⟨B, j, none⟩ = false) ∧ Below w.heap.size w wr)
      (fun i _ => 4 - (intOf i).toNat)
    case atStart => exact ⟨0, Nat.zero_le _, rfl, fun j hj => by rw [HC.out j hj, xb_zero], HF, hbw⟩
    case round =>
      obtain ⟨n, hn, rfl, hce, hfe, hbe⟩ := hrel
      clear HC HF hbw
      rcases (show n = 0 ∨ n = 1 ∨ n = 2 ∨ n = 3 ∨ n = 4 by omega) with rfl | rfl | rfl | rfl | rfl
      · have hc1 : wr.cell? ⟨B, k, none⟩ = some (.int .u8 (xb c k v 0 (k) : Int)) := hce.out (k) (by omega)
        have hf1 : wr.frozen? ⟨B, k, none⟩ = false := hfe.out (k) (by omega)
        have hx1 : bits .xor .u8 (xb c k v 0 (k) : Int) ((v : Int) % 256) = (xb c k v 1 (k) : Int) := by have := xb_bits c k v 0; simpa using this
        obtain ⟨n1, n2, n3⟩ := rel_step wr w B k v 0 c hB hce hfe hbe
        have N1 := Hid.out n1
        clear hce hfe hbe
        go_wp2
        go_region
        go_wp2
        go_roundw
        case rel => exact ⟨1, by decide, rfl, n1, n2, n3⟩
        case measure => simp [intOf]
      · have hc1 : wr.cell? ⟨B, k + 1, none⟩ = some (.int .u8 (xb c k v 1 (k + 1) : Int)) := hce.out (k + 1) (by omega)
        have hf1 : wr.frozen? ⟨B, k + 1, none⟩ = false := hfe.out (k + 1) (by omega)
        have hx1 : bits .xor .u8 (xb c k v 1 (k + 1) : Int) ((v : Int) / 256 % 256) = (xb c k v 2 (k + 1) : Int) := by have := xb_bits c k v 1; simpa using this
        obtain ⟨n1, n2, n3⟩ := rel_step wr w B k v 1 c hB hce hfe hbe
        have N1 := Hid.out n1
        clear hce hfe hbe
        go_wp2
        go_region
        go_wp2
        go_roundw
        case rel => exact ⟨2, by decide, rfl, n1, n2, n3⟩
        case measure => simp [intOf]
      · have hc1 : wr.cell? ⟨B, k + 2, none⟩ = some (.int .u8 (xb c k v 2 (k + 2) : Int)) := hce.out (k + 2) (by omega)
        have hf1 : wr.frozen? ⟨B, k + 2, none⟩ = false := hfe.out (k + 2) (by omega)
        have hx1 : bits .xor .u8 (xb c k v 2 (k + 2) : Int) ((v : Int) / 65536 % 256) = (xb c k v 3 (k + 2) : Int) := by have := xb_bits c k v 2; simpa using this
        obtain ⟨n1, n2, n3⟩ := rel_step wr w B k v 2 c hB hce hfe hbe
        have N1 := Hid.out n1
        clear hce hfe hbe
        go_wp2
        go_region
        go_wp2
        go_roundw
        case rel => exact ⟨3, by decide, rfl, n1, n2, n3⟩
        case measure => simp [intOf]
      · have hc1 : wr.cell? ⟨B, k + 3, none⟩ = some (.int .u8 (xb c k v 3 (k + 3) : Int)) := hce.out (k + 3) (by omega)
        have hf1 : wr.frozen? ⟨B, k + 3, none⟩ = false := hfe.out (k + 3) (by omega)
        have hx1 : bits .xor .u8 (xb c k v 3 (k + 3) : Int) ((v : Int) / 16777216) = (xb c k v 4 (k + 3) : Int) := by have := xb_bits c k v 3; rw [Nat.mod_eq_of_lt (show v / 2 ^ (8 * 3) < 256 by omega)] at this; simpa using this
        obtain ⟨n1, n2, n3⟩ := rel_step wr w B k v 3 c hB hce hfe hbe
        have N1 := Hid.out n1
        clear hce hfe hbe
        go_wp2
        go_region
        go_wp2
        go_roundw
        case rel => exact ⟨4, by decide, rfl, n1, n2, n3⟩
        case measure => simp [intOf]
      · have hcv := conv_back c k v B cap wr hce
        have hws : w.heap.size ≤ wr.heap.size := hbe.size
        clear hce hfe
        go_wp2_with fail
        go_call (of1 (xt c k v) wr.heap.size _ hxs (by simp [go_sem])) as e w3 ⟨rfl, hw3⟩
        have g3 : Below w.heap.size w w3 := by rw [hw3]; exact Below.alloc hbe hws _
        clear hw3 hbe hws hcv
        have hws3 : w.heap.size ≤ w3.heap.size := g3.size
        go_wp2_with fail
        go_call (of1 c w3.heap.size _ hcs2 (by simp [go_sem])) as e w4 ⟨rfl, hw4⟩
        have g4 : Below w.heap.size w w4 := by rw [hw4]; exact Below.alloc g3 hws3 _
        clear hw4 g3 hws3
        go_wp2
        go_ret
        exact ⟨rfl, g4⟩

set_option maxHeartbeats 1000000 in
theorem sumTells_short (s c0 c : ByteArray) (at_ : Int) (v : Nat) (hv : v < 4294967296) (w : World) (hcut : ∀ w : World, Calls Try.prog 8 #[.string s, .int .i64 200] w fun e w' => e = .returned (.string c0) ∧ w' = w) (hc0 : c0.size < 4)
    (hcs : c.size = c0.size + 4) (hadd : ∀ W : World, (Op.stringOp .add c0 ⟨#[97, 98, 99, 100]⟩).run Try.prog W = .ok (.string c) W) :
    Calls Try.prog 5 #[.string s, .int .i64 at_, .int .u32 v] w fun e w' => e = .returned (.bool true) ∧ Below w.heap.size w w' := by
    have hcl : 4 ≤ c.size := by omega
    have hcu : c.size ≤ 200 := by omega
    have HS : Hid (c.size = c0.size + 4) := hcs
    clear hcs
    obtain ⟨m1, hm1⟩ : ∃ m1 : Int, at_.tmod ((c.size : Int) - 3) = m1 := ⟨_, rfl⟩
    have b1 : m1 < (c.size : Int) - 3 := by rw [← hm1]; exact Int.tmod_lt_of_pos _ (by omega)
    have b2 : -((c.size : Int) - 3) < m1 := by rw [← hm1]; have := Int.lt_tmod_of_pos at_ (show 0 < (c.size : Int) - 3 by omega); omega
    obtain ⟨k, hk⟩ : ∃ k : Nat, (m1 + (c.size : Int) - 3).tmod ((c.size : Int) - 3) = (k : Int) := ⟨((m1 + (c.size : Int) - 3).tmod ((c.size : Int) - 3)).toNat, by
      have := Int.tmod_nonneg ((c.size : Int) - 3) (show 0 ≤ m1 + (c.size : Int) - 3 by omega); omega⟩
    have hkc : k + 4 ≤ c.size := by
      have := Int.tmod_lt_of_pos (m1 + (c.size : Int) - 3) (show 0 < (c.size : Int) - 3 by omega); omega
    have hcs2 : c.size ≤ 9223372036854775807 := by omega
    have hxs : (xt c k v).size ≤ 9223372036854775807 := by rw [xt_size]; exact hcs2
    have hq : (((onN 0 (xt c k v) : Nat) : Int) == ((onN 0 c : Nat) : Int)) = ((v : Int) == 0) := by
      have h1 := tells c k v hkc hv
      rw [Bool.eq_iff_iff]; simp only [beq_iff_eq]
      constructor
      · intro h; have := h1.1 (by omega); omega
      · intro h; have := h1.2 (by omega); omega
    go_enter Try.func5, Try.ntmps5
    go_wp2_with fail
    go_call (awake_below w) as e w1 ⟨rfl, g1⟩
    go_wp2_with fail
    go_call (hcut w1) as e w2 ⟨rfl, rfl⟩
    obtain ⟨W0, cap, hrun, hcell0, hfr0, hb0, hs0⟩ := conv_string c w2
    have hB : w.heap.size ≤ w2.heap.size := g1.size
    have hbw : Below w.heap.size w W0 := g1.trans (hb0.mono hB)
    have HC : Hid (∀ j, j < c.size → W0.cell? ⟨w2.heap.size, j, none⟩ = some (.int .u8 (bn c j : Int))) := hcell0
    have HF : Hid (∀ j, j < c.size → W0.frozen? ⟨w2.heap.size, j, none⟩ = false) := hfr0
    clear hcell0 hfr0
    clear hb0 g1
    go_wp2_with fail
    generalize hBe : w2.heap.size = B at *
    clear hBe hrun hcut hs0
    go_loopw [34] (fun i wr => ∃ n : Nat, n ≤ 4 ∧ i = .int .i64 n ∧ Hid (∀ j, j < c.size → wr.cell? ⟨B, j, none⟩ = some (.int .u8 (xb c k v n j : Int))) ∧ Hid (∀ j, j < c.size → wr.frozen? ⟨B, j, none⟩ = false) ∧ Below w.heap.size w wr)
      (fun i _ => 4 - (intOf i).toNat)
    case atStart => exact ⟨0, Nat.zero_le _, rfl, fun j hj => by rw [HC.out j hj, xb_zero], HF, hbw⟩
    case round =>
      obtain ⟨n, hn, rfl, hce, hfe, hbe⟩ := hrel
      clear HC HF hbw
      rcases (show n = 0 ∨ n = 1 ∨ n = 2 ∨ n = 3 ∨ n = 4 by omega) with rfl | rfl | rfl | rfl | rfl
      · have hc1 : wr.cell? ⟨B, k, none⟩ = some (.int .u8 (xb c k v 0 (k) : Int)) := hce.out (k) (by omega)
        have hf1 : wr.frozen? ⟨B, k, none⟩ = false := hfe.out (k) (by omega)
        have hx1 : bits .xor .u8 (xb c k v 0 (k) : Int) ((v : Int) % 256) = (xb c k v 1 (k) : Int) := by have := xb_bits c k v 0; simpa using this
        obtain ⟨n1, n2, n3⟩ := rel_step wr w B k v 0 c hB hce hfe hbe
        have N1 := Hid.out n1
        clear hce hfe hbe
        go_wp2
        go_region
        go_wp2
        go_roundw
        case rel => exact ⟨1, by decide, rfl, n1, n2, n3⟩
        case measure => simp [intOf]
      · have hc1 : wr.cell? ⟨B, k + 1, none⟩ = some (.int .u8 (xb c k v 1 (k + 1) : Int)) := hce.out (k + 1) (by omega)
        have hf1 : wr.frozen? ⟨B, k + 1, none⟩ = false := hfe.out (k + 1) (by omega)
        have hx1 : bits .xor .u8 (xb c k v 1 (k + 1) : Int) ((v : Int) / 256 % 256) = (xb c k v 2 (k + 1) : Int) := by have := xb_bits c k v 1; simpa using this
        obtain ⟨n1, n2, n3⟩ := rel_step wr w B k v 1 c hB hce hfe hbe
        have N1 := Hid.out n1
        clear hce hfe hbe
        go_wp2
        go_region
        go_wp2
        go_roundw
        case rel => exact ⟨2, by decide, rfl, n1, n2, n3⟩
        case measure => simp [intOf]
      · have hc1 : wr.cell? ⟨B, k + 2, none⟩ = some (.int .u8 (xb c k v 2 (k + 2) : Int)) := hce.out (k + 2) (by omega)
        have hf1 : wr.frozen? ⟨B, k + 2, none⟩ = false := hfe.out (k + 2) (by omega)
        have hx1 : bits .xor .u8 (xb c k v 2 (k + 2) : Int) ((v : Int) / 65536 % 256) = (xb c k v 3 (k + 2) : Int) := by have := xb_bits c k v 2; simpa using this
        obtain ⟨n1, n2, n3⟩ := rel_step wr w B k v 2 c hB hce hfe hbe
        have N1 := Hid.out n1
        clear hce hfe hbe
        go_wp2
        go_region
        go_wp2
        go_roundw
        case rel => exact ⟨3, by decide, rfl, n1, n2, n3⟩
        case measure => simp [intOf]
      · have hc1 : wr.cell? ⟨B, k + 3, none⟩ = some (.int .u8 (xb c k v 3 (k + 3) : Int)) := hce.out (k + 3) (by omega)
        have hf1 : wr.frozen? ⟨B, k + 3, none⟩ = false := hfe.out (k + 3) (by omega)
        have hx1 : bits .xor .u8 (xb c k v 3 (k + 3) : Int) ((v : Int) / 16777216) = (xb c k v 4 (k + 3) : Int) := by have := xb_bits c k v 3; rw [Nat.mod_eq_of_lt (show v / 2 ^ (8 * 3) < 256 by omega)] at this; simpa using this
        obtain ⟨n1, n2, n3⟩ := rel_step wr w B k v 3 c hB hce hfe hbe
        have N1 := Hid.out n1
        clear hce hfe hbe
        go_wp2
        go_region
        go_wp2
        go_roundw
        case rel => exact ⟨4, by decide, rfl, n1, n2, n3⟩
        case measure => simp [intOf]
      · have hcv := conv_back c k v B cap wr hce
        have hws : w.heap.size ≤ wr.heap.size := hbe.size
        clear hce hfe
        go_wp2_with fail
        go_call (of1 (xt c k v) wr.heap.size _ hxs (by simp [go_sem])) as e w3 ⟨rfl, hw3⟩
        have g3 : Below w.heap.size w w3 := by rw [hw3]; exact Below.alloc hbe hws _
        clear hw3 hbe hws hcv
        have hws3 : w.heap.size ≤ w3.heap.size := g3.size
        go_wp2_with fail
        go_call (of1 c w3.heap.size _ hcs2 (by simp [go_sem])) as e w4 ⟨rfl, hw4⟩
        have g4 : Below w.heap.size w w4 := by rw [hw4]; exact Below.alloc g3 hws3 _
        clear hw4 g3 hws3
        go_wp2
        go_ret
        exact ⟨rfl, g4⟩

theorem sumTells_walk (s : ByteArray) (at_ : Int) (v : Nat) (hv : v < 4294967296) (w : World) :
    Calls Try.prog 5 #[.string s, .int .i64 at_, .int .u32 v] w fun e w' => e = .returned (.bool true) ∧ Below w.heap.size w w' := by
  have hcs : (s.extract 0 200).size ≤ 200 := by simp [ByteArray.size_extract]; omega
  by_cases h4 : (s.extract 0 200).size < 4
  · refine sumTells_short s (s.extract 0 200) (s.extract 0 200 ++ ⟨#[97, 98, 99, 100]⟩) at_ v hv w (cut_200 s) h4 ?_ (fun W => run_string_add_sum W _ _ ?_)
    · rw [ByteArray.size_append]; rfl
    · rw [show (ByteArray.mk #[97, 98, 99, 100]).size = 4 from rfl]; omega
  · exact sumTells_long s (s.extract 0 200) at_ v hv w (cut_200 s) hcs h4
end Go.Proofs.Yteojllilcejnhaa
