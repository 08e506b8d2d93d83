/- The law MixTexts as a call: for every text, every number below 2^64 and every byte it returns true, and memory only grows by new blocks; the condition is that the table of rounds reads as the program's text lays it. -/
import Derived.Test.YteojllilcejnhaaDoorG
import Derived.RegionTactic
import Derived.ChangeAlike
namespace Go.Proofs.YteojllilcejnhaaDoor
open Go.RowKit

theorem cut_60 (s : ByteArray) (hs : s.size ≤ 9223372036854775807) (w : World) :
    Calls Tryd.prog 12 #[.string s, .int .i64 60] w fun e w' => e = .returned (.string (s.extract 0 60)) ∧ w' = w := cut_any s 60 hs (by decide) w

/-! ### bytes -/
theorem bn_eq (s : ByteArray) (k : Nat) : bn s k = ((s.data.toList[k]?).map UInt8.toNat).getD 0 := by
  unfold bn
  by_cases h : k < s.size
  · rw [dif_pos h]
    have h2 : k < s.data.toList.length := by simpa using h
    rw [List.getElem?_eq_getElem h2]
    simp [ByteArray.getElem_eq_getElem_data]
  · rw [dif_neg h, List.getElem?_eq_none (by simpa using h)]
    rfl
theorem bytes_ext (s t : ByteArray) (hz : s.size = t.size) (h : ∀ k, k < s.size → bn s k = bn t k) : s = t := by
  apply ByteArray.ext
  apply Array.ext (by simpa using hz)
  intro i h1 h2
  have h1' : i < s.size := by simpa using h1
  have h2' : i < t.size := by simpa using h2
  have := h i h1'
  unfold bn at this
  rw [dif_pos h1', dif_pos h2'] at this
  exact UInt8.toNat_inj.1 this
def one (b : Nat) : ByteArray := ⟨#[UInt8.ofNat b]⟩
def lastB (c : ByteArray) (b : Nat) : ByteArray := c.extract 0 (c.size - 1) ++ one b
theorem lastB_list (c : ByteArray) (b : Nat) : (lastB c b).data.toList = c.data.toList.take (c.size - 1) ++ [UInt8.ofNat b] := by
  unfold lastB one
  rw [ByteArray.data_append, ByteArray.data_extract]
  simp [List.dropLast_eq_take]
theorem lastB_size (c : ByteArray) (b : Nat) (hz : 0 < c.size) : (lastB c b).size = c.size := by
  have : (lastB c b).data.toList.length = c.size := by
    rw [lastB_list]; simp; omega
  simpa using this
theorem bn_lastB (c : ByteArray) (b k : Nat) (hk : k < c.size - 1) : bn (lastB c b) k = bn c k := by
  rw [bn_eq, bn_eq, lastB_list, List.getElem?_append_left (by simp; omega), List.getElem?_take_of_lt hk]
theorem bn_lastB_last (c : ByteArray) (b : Nat) (hb : b < 256) : bn (lastB c b) (c.size - 1) = b := by
  rw [bn_eq, lastB_list, List.getElem?_append_right (by simp)]
  simp
  exact hb
theorem txt_congr (s t : ByteArray) (x0 : Nat) : ∀ k, (∀ j, j < k → bn s j = bn t j) → txt s x0 k = txt t x0 k
  | 0, _ => rfl
  | k + 1, h => by
    rw [txt, txt, txt_congr s t x0 k (fun j hj => h j (by omega)), h k (by omega)]
theorem text_last (c : ByteArray) (b seed : Nat) (hz : 0 < c.size) (hb : b < 256) : textN (lastB c b) seed = textN c seed ↔ lastB c b = c := by
  constructor
  · intro h
    unfold textN at h
    rw [lastB_size c b hz] at h
    generalize hn : c.size - 1 = n
    have hc : c.size = n + 1 := by omega
    have h1 : bn (lastB c b) n = b := by rw [← hn]; exact bn_lastB_last c b hb
    have h2 : ∀ j, j < n → bn (lastB c b) j = bn c j := fun j hj => bn_lastB c b j (by omega)
    generalize hx0 : mixN (ad seed c.size) = x0 at h
    by_cases hx : x0 < 18446744073709551616
    · rw [hc, txt, txt, txt_congr _ _ x0 n h2, h1] at h
      have l0 := txt_lt c x0 hx n
      have l1 := bn_lt c n
      have h3 := mix_inj _ _ (xr_lt _ _ l0 (by omega)) (xr_lt _ _ l0 (by omega)) h
      have h4 : xr (txt c x0 n) (xr (txt c x0 n) b) = xr (txt c x0 n) (xr (txt c x0 n) (bn c n)) := by rw [h3]
      rw [← xr_assoc, ← xr_assoc, xr_self, zero_xr, zero_xr] at h4
      apply bytes_ext _ _ (lastB_size c b hz)
      intro k hk
      rw [lastB_size c b hz] at hk
      by_cases hkn : k < n
      · exact h2 k hkn
      · obtain rfl : k = n := by omega
        rw [h1, h4]
    · exact absurd (show x0 < 18446744073709551616 by rw [← hx0]; exact mixN_lt _) hx
  · intro h; rw [h]
theorem conv_one (w : World) (b : Nat) (hb : b < 256) :
    (convert 29 9 (.slice (some ⟨w.heap.size, 0, none⟩) 1 1)).run Tryd.prog (w.alloc (.cells #[.int .u8 b] 5)).drew = .ok (.string (one b)) (w.alloc (.cells #[.int .u8 b] 5)).drew := by
  have := run_convert_bytes_back (P := Tryd.prog) (w.alloc (.cells #[.int .u8 b] 5)).drew 29 9 5 ⟨w.heap.size, 0, none⟩ 1 [UInt8.ofNat b] Tryd.underlying29 Tryd.underlying5 Tryd.underlying9 (by
    intro j hj
    match j, hj with
    | 0, _ => simp [go_sem, Addr.add, Nat.mod_eq_of_lt hb])
  simpa [one] using this

set_option maxHeartbeats 400000 in
theorem mixTexts_walk (s : ByteArray) (seed b : Nat) (hs : s.size ≤ 9223372036854775807) (hb : b < 256) (hseed : seed < 18446744073709551616) (w : World) (ht : Tab w) :
    Calls Tryd.prog 5 #[.string s, .int .u64 seed, .int .u8 b] w fun e w' => e = .returned (.bool true) ∧ Grown w w' := by
  have hcut := cut_60 s hs
  have hcs : (s.extract 0 60).size ≤ 60 := by simp [ByteArray.size_extract]; omega
  generalize s.extract 0 60 = c at *
  have hcs2 : c.size ≤ 9223372036854775807 := by omega
  go_enter Tryd.func5, Tryd.ntmps5
  go_wp2_with fail
  go_call (awake_any w ht) as e w1 ⟨rfl, g1⟩
  have t1 := ht.grown g1
  go_wp2_with fail
  go_call (hcut w1) as e w2 ⟨rfl, rfl⟩
  go_wp2_with fail
  go_call (text_any c seed hcs2 w2 t1) as e w3 ⟨rfl, g3⟩
  have t3 := t1.grown g3
  go_wp2_with fail
  go_call (refText_any c seed hcs2 w3) as e w4 ⟨rfl, rfl⟩
  go_wp2_with fail
  · have hemp : c.toList.isEmpty = true := by assumption
    have hz : c.size = 0 := by
      rw [ByteArray.toList_eq] at hemp
      simpa using congrArg List.length (List.isEmpty_iff.1 hemp)
    go_call (text_any c seed hcs2 w4 t3) as e w5 ⟨rfl, g5⟩
    go_wp2_with fail
    go_call (mix_any seed hseed w5 (t3.grown g5)) as e w6 ⟨rfl, g6⟩
    have htx : textN c seed = mixN seed := by
      unfold textN
      rw [hz]
      simp only [txt, ad, Nat.add_zero, Nat.mod_eq_of_lt hseed]
    go_wp2
    go_ret
    exact ⟨rfl, Grown.step (Grown.step (Grown.step g1 g3) g5) g6⟩
  · have hemp : c.toList.isEmpty = false := by assumption
    have hz : 0 < c.size := by
      rw [ByteArray.toList_eq] at hemp
      rcases Nat.eq_zero_or_pos c.size with h0 | h0
      · have : c.data.toList = [] := List.eq_nil_of_length_eq_zero (by simpa using h0)
        rw [this] at hemp; simp at hemp
      · exact h0
    have hcv := conv_one w4 b hb
    have hadd : ∀ W : World, (Op.stringOp .add (c.extract 0 (c.size - 1)) (one b)).run Tryd.prog W = .ok (.string (lastB c b)) W := fun W =>
      run_string_add_sum W _ _ (by rw [show (one b).size = 1 from rfl]; simp [ByteArray.size_extract]; omega)
    have hq : (((textN (lastB c b) seed : Nat) : Int) == ((textN c seed : Nat) : Int)) = ((lastB c b).toList == c.toList) := by
      have h1 := text_last c b seed hz hb
      rw [beq_nat, Bool.eq_iff_iff]
      simp only [decide_eq_true_eq, beq_iff_eq, ByteArray.toList_eq]
      rw [h1]
      exact ⟨fun h => by rw [h], fun h => ByteArray.ext (Array.toList_inj.1 h)⟩
    have hls : (lastB c b).size ≤ 9223372036854775807 := by rw [lastB_size c b hz]; exact hcs2
    go_region
    go_wp2_with fail
    go_call (text_any (lastB c b) seed hls (w4.alloc (.cells #[.int .u8 b] 5)).drew (t3.grown (by go_grown))) as e w5 ⟨rfl, g5⟩
    have g4 : Grown w4 w5 := Grown.step (by go_grown) g5
    have t5 := t3.grown g4
    clear hcv g5
    go_wp2_with fail
    go_call (text_any c seed hcs2 w5 t5) as e w6 ⟨rfl, g6⟩
    go_wp2
    go_ret
    exact ⟨rfl, Grown.step (Grown.step (Grown.step g1 g3) g4) g6⟩
end Go.Proofs.YteojllilcejnhaaDoor
