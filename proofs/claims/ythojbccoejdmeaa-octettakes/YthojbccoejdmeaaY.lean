/- The other Num and Text, as calls. -/
import Derived.Test.YthojbccoejdmeaaQ
namespace Go.Proofs.Ythojbccoejdmeaa
open Go.RowKit

def tb (l : List UInt8) : ByteArray := ⟨l.toArray⟩
theorem tb_append (a b : List UInt8) : tb a ++ tb b = tb (a ++ b) := by
  apply ByteArray.ext
  rw [ByteArray.data_append]
  unfold tb
  rw [List.append_toArray]
theorem tb_size (l : List UInt8) : (tb l).size = l.length := by
  show (tb l).data.size = _
  unfold tb; simp
theorem convY (w : World) (v : Nat) (hv : v < 256) (z : Int) (hz : z = (v : Int)) : (convert 38 9 (.slice (some ⟨w.heap.size, 0, none⟩) 1 1)).run Try.prog (w.alloc (.cells #[.int .u8 z] 5)) = .ok (.string ⟨#[UInt8.ofNat v]⟩) (w.alloc (.cells #[.int .u8 z] 5)) := by
  subst hz
  have h0 : (w.alloc (.cells #[.int .u8 (v : Int)] 5)).heap[w.heap.size]? = some (.cells #[.int .u8 (v : Int)] 5) := by
    show (w.heap.push _)[w.heap.size]? = _
    rw [Array.getElem?_push, if_pos rfl]
  exact run_convert_bytes_back (P := Try.prog) _ 38 9 5 ⟨w.heap.size, 0, none⟩ 1 [UInt8.ofNat v] Try.underlying38 Try.underlying5 Try.underlying9 (by
    intro j hj
    obtain rfl : j = 0 := by simpa using hj
    have ha : (⟨w.heap.size, 0, none⟩ : Addr).add 0 = ⟨w.heap.size, 0, none⟩ := by simp [Addr.add]
    rw [ha]
    simp only [World.cell?, h0]
    simp
    omega)
theorem rnum_any (x n : Nat) (hx : x < 18446744073709551616) (hn : n ≤ 8) (w : World) :
    Calls Try.prog 15 #[.int .u64 (x : Nat), .int .i64 (n : Nat)] w fun e w' => e = .returned (.string (tb (numB x n))) ∧ Below w.heap.size w w' := by
  have HB : Hid (Below w.heap.size w w) := Below.refl _ _
  go_enter Try.func15, Try.ntmps15
  go_wp2
  go_loopw [0, 5, 6] (fun u s i wr => ∃ k : Nat, k ≤ n ∧ u = .int .u64 (x / 256 ^ k : Nat) ∧ s = .string (tb (numB x k)) ∧ i = .int .i64 (k : Nat) ∧ Hid (Below w.heap.size w wr))
    (fun _ _ i _ => n - (intOf i).toNat)
  case atStart => exact ⟨0, by omega, by simp, rfl, rfl, HB⟩
  case round =>
    obtain ⟨k, hk, rfl, rfl, rfl, hre⟩ := hrel
    rcases Nat.lt_or_ge k n with hlt | hge
    · obtain ⟨u, hu⟩ : ∃ u, u = x / 256 ^ k := ⟨_, rfl⟩
      have hul : u ≤ x := by rw [hu]; exact Nat.div_le_self ..
      have hnx : u / 256 = x / 256 ^ (k + 1) := by rw [hu, Nat.div_div_eq_div_mul, Nat.pow_succ]
      have hsz : (tb (numB x k)).size = k := by rw [tb_size, numB_length]
      have hcat : (⟨#[UInt8.ofNat (u % 256)]⟩ : ByteArray) ++ tb (numB x k) = tb (numB x (k + 1)) := by
        have e : UInt8.ofNat (u % 256) = UInt8.ofNat u := by
          apply UInt8.toNat_inj.1
          simp [UInt8.toNat_ofNat']
        rw [e, hu]
        exact tb_append [UInt8.ofNat (x / 256 ^ k)] (numB x k)
      have hbl : ∀ o, Hid (Below w.heap.size w (wr.alloc o)) := fun o => Below.alloc hre.out hre.out.size _
      have hcv := convY wr (u % 256) (by omega) ((u : Int) % 256) (by omega)
      rw [← hu]
      clear hu
      go_wp2
      go_roundw
      case rel => exact ⟨k + 1, by omega, by congr 1; omega, rfl, rfl, hbl _⟩
      case measure => simp only [intOf]; omega
    · obtain rfl : k = n := by omega
      go_wp2
      go_ret
      exact ⟨rfl, hre.out⟩
theorem rtext_any (s : ByteArray) (hs : s.size ≤ 60000) (w : World) :
    Calls Try.prog 17 #[.string s] w fun e w' => e = .returned (.string (tb (numB s.size 2 ++ s.data.toList))) ∧ Below w.heap.size w w' := by
  have hsz : (tb (numB s.size 2)).size = 2 := by rw [tb_size, numB_length]
  have hcat : tb (numB s.size 2) ++ s = tb (numB s.size 2 ++ s.data.toList) := by
    rw [← tb_append]; rfl
  go_enter Try.func17, Try.ntmps17
  go_wp2_with fail
  go_call (rnum_any s.size 2 (by omega) (by omega) w) as e w1 ⟨rfl, hb⟩
  have HB : Hid (Below w.heap.size w w1) := hb
  clear hb
  go_wp2
  go_ret
  exact ⟨rfl, HB.out⟩
end Go.Proofs.Ythojbccoejdmeaa
