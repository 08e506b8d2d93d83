/- What the program's Text and the document's own answer for it are, as calls: for every text and every number below 2^64 both return one plain function of the text's bytes; where the table of rounds reads as the program's text lays it. -/
import Derived.Test.YteojllilcejnhaaDoorD
namespace Go.Proofs.YteojllilcejnhaaDoor
open Go.RowKit

def bn (s : ByteArray) (k : Nat) : Nat := if h : k < s.size then (s[k]'h).toNat else 0
theorem get_bn (s : ByteArray) : ∀ (n : Nat) (h : n < s.size), ((s[n]'h).toNat : Int) = (bn s n : Int) := fun n h => by unfold bn; rw [dif_pos h]
theorem bn_lt (s : ByteArray) (k : Nat) : bn s k < 256 := by
  unfold bn; split
  · exact (s[k]).toNat_lt
  · omega
def ad (a b : Nat) : Nat := (a + b) % 18446744073709551616
theorem ad_lt (a b : Nat) : ad a b < 18446744073709551616 := Nat.mod_lt _ (by decide)
def txt (s : ByteArray) (x0 : Nat) : Nat → Nat
  | 0 => x0
  | k + 1 => mixN (xr (txt s x0 k) (bn s k))
def textN (s : ByteArray) (seed : Nat) : Nat := txt s (mixN (ad seed s.size)) s.size
theorem txt_lt (s : ByteArray) (x0 : Nat) (h : x0 < 18446744073709551616) : ∀ k, txt s x0 k < 18446744073709551616
  | 0 => h
  | _ + 1 => mixN_lt _
theorem textN_lt (s : ByteArray) (seed : Nat) : textN s seed < 18446744073709551616 := txt_lt _ _ (mixN_lt _) _

set_option maxHeartbeats 400000 in
theorem text_any (s : ByteArray) (seed : Nat) (hs : s.size ≤ 9223372036854775807) (w : World) (ht : Tab w) :
    Calls Tryd.prog 13 #[.string s, .int .u64 seed] w fun e w' => e = .returned (.int .u64 (textN s seed)) ∧ Grown w w' := by
  have e1 : IntKind.u64.wrap ((seed : Int) + (s.size : Int)) = ((ad seed s.size : Nat) : Int) := add_u64 _ _
  have l1 := ad_lt seed s.size
  have hm : textN s seed = txt s (mixN (ad seed s.size)) s.size := rfl
  have lx := mixN_lt (ad seed s.size)
  have hc := mix_any (ad seed s.size) l1 w ht
  rw [hm]; clear hm
  generalize mixN (ad seed s.size) = x0 at *
  go_enter Tryd.func13, Tryd.ntmps13
  go_wp2_with fail
  go_call hc as e w1 ⟨rfl, g1⟩
  have hb := get_bn s
  go_wp2
  go_loopw [5, 15] (fun v i wr => ∃ k : Nat, k ≤ s.size ∧ i = .int .i64 k ∧ v = .int .u64 (txt s x0 k) ∧ Grown w wr)
    (fun _ i _ => s.size - (intOf i).toNat)
  case atStart => exact ⟨0, Nat.zero_le _, rfl, rfl, g1⟩
  case round =>
    obtain ⟨k, hk, rfl, rfl, gr⟩ := hrel
    have q1 := txt_lt s x0 lx k
    have q2 := bn_lt s k
    have q3 := xr_bits (txt s x0 k) (bn s k) q1 (by omega)
    have q4 := xr_lt (txt s x0 k) (bn s k) q1 (by omega)
    go_wp2_with fail
    · have hlt : k < s.size := by assumption
      go_call (mix_any (xr (txt s x0 k) (bn s k)) q4 wr (ht.grown gr)) as e w2 ⟨rfl, g2⟩
      go_wp2
      go_roundw
      case rel => exact ⟨k + 1, by omega, by go_num, rfl, Grown.step gr g2⟩
      case measure => simp only [intOf]; omega
    · have hge : ¬ k < s.size := by assumption
      have hk2 : k = s.size := by omega
      go_ret
      exact ⟨by rw [← hk2]; rfl, gr⟩

set_option maxHeartbeats 400000 in
theorem refText_any (s : ByteArray) (seed : Nat) (hs : s.size ≤ 9223372036854775807) (w : World) :
    Calls Tryd.prog 14 #[.string s, .int .u64 seed] w fun e w' => e = .returned (.int .u64 (textN s seed)) ∧ w' = w := by
  have e1 : IntKind.u64.wrap ((seed : Int) + (s.size : Int)) = ((ad seed s.size : Nat) : Int) := add_u64 _ _
  have l1 := ad_lt seed s.size
  have hm : textN s seed = txt s (mixN (ad seed s.size)) s.size := rfl
  have lx := mixN_lt (ad seed s.size)
  have hc := refMix_any (ad seed s.size) l1 w
  rw [hm]; clear hm
  generalize mixN (ad seed s.size) = x0 at *
  go_enter Tryd.func14, Tryd.ntmps14
  go_wp2_with fail
  go_call hc as e w1 ⟨rfl, rfl⟩
  have hb := get_bn s
  go_wp2
  go_loop [5, 6] (fun v i => ∃ k : Nat, k ≤ s.size ∧ i = .int .i64 k ∧ v = .int .u64 (txt s x0 k))
    (fun _ i => s.size - (intOf i).toNat)
  case atStart => exact ⟨0, Nat.zero_le _, rfl, rfl⟩
  case round =>
    obtain ⟨k, hk, rfl, rfl⟩ := hrel
    have q1 := txt_lt s x0 lx k
    have q2 := bn_lt s k
    have q3 := xr_bits (txt s x0 k) (bn s k) q1 (by omega)
    have q4 := xr_lt (txt s x0 k) (bn s k) q1 (by omega)
    go_wp2_with fail
    · have hlt : k < s.size := by assumption
      go_call (refMix_any (xr (txt s x0 k) (bn s k)) q4 w1) as e w2 ⟨rfl, rfl⟩
      go_wp2
      go_round
      case rel => exact ⟨k + 1, by omega, by go_num, rfl⟩
      case measure => simp only [intOf]; omega
    · have hge : ¬ k < s.size := by assumption
      have hk2 : k = s.size := by omega
      go_ret
      exact ⟨by rw [← hk2]; rfl, rfl⟩

theorem extract_all (s : ByteArray) (n : Nat) (h : s.size ≤ n) : s.extract 0 n = s := by
  apply ByteArray.ext
  rw [ByteArray.data_extract, Array.extract_eq_self_of_le h]

set_option maxHeartbeats 400000 in
theorem cut_any (s : ByteArray) (n : Nat) (_hs : s.size ≤ 9223372036854775807) (hn : n ≤ 1000) (w : World) :
    Calls Tryd.prog 12 #[.string s, .int .i64 n] w fun e w' => e = .returned (.string (s.extract 0 n)) ∧ w' = w := by
  go_enter Tryd.func12, Tryd.ntmps12
  go_wp2
  · go_ret
    exact ⟨rfl, rfl⟩
  · have hge : ¬ n < s.size := by assumption
    go_ret
    refine ⟨?_, rfl⟩
    rw [extract_all s n (by omega)]
    rfl
end Go.Proofs.YteojllilcejnhaaDoor
