/- long and Cut, as calls. -/
import Derived.Test.YtknmipbjkkeebaaGreatIP
namespace Go.Proofs.YtknmipbjkkeebaaGreat
open Go.RowKit
set_option maxHeartbeats 1000000 in
set_option maxRecDepth 100000 in
theorem long_any (s : ByteArray) (hs : s.size ≤ 1000) (n : Int) (w : World) :
    Calls Tryz.prog 10 #[.string s, .int .i64 n] w fun e w' => ∃ x : ByteArray, (x.size : Int) = max 0 (min n 640) ∧ e = .returned (.string x) ∧ w' = w := by
  obtain ⟨m, hm⟩ : ∃ m : Nat, ((m : Nat) : Int) = max 0 (min n 640) := ⟨(max 0 (min n 640)).toNat, by omega⟩
  have hm6 : m ≤ 640 := by omega
  have HM : Hid _ := hm
  have hmx : max 0 (min n 640) = ((m : Nat) : Int) := hm.symm
  clear hm
  rw [hmx]
  go_enter Tryz.func10, Tryz.ntmps10
  go_wp2
  go_loopw [5] (fun o wr => ∃ y : ByteArray, o = .string y ∧ y.size ≤ 2000 ∧ wr = w) (fun o _ => match o with | .string b => m - b.size | _ => 0)
  case atStart => exact ⟨s, rfl, by omega, rfl⟩
  case round =>
    obtain ⟨y, rfl, hy, rfl⟩ := hrel
    rcases Nat.lt_or_ge y.size m with h | h
    · have hsz : (y ++ (s ++ ⟨#[46]⟩)).size = y.size + (s.size + 1) := by rw [ByteArray.size_append, ByteArray.size_append]; rfl
      go_wp2
      go_roundw
      case rel => exact ⟨y ++ (s ++ ⟨#[46]⟩), rfl, by rw [hsz]; omega, by first | rfl | trivial⟩
      case measure =>
        show m - (y ++ (s ++ ⟨#[46]⟩)).size < m - y.size
        rw [hsz]; omega
    · go_wp2
      go_returns
      exact ⟨y.extract 0 m, by rw [ByteArray.size_extract]; omega, by first | rfl | simp, rfl⟩
set_option maxRecDepth 100000 in
theorem cut_any (s : ByteArray) (n : Nat) (hn : n ≤ 1000) (w : World) :
    Calls Tryz.prog 11 #[.string s, .int .i64 (n : Nat)] w fun e w' => ∃ x : ByteArray, x.size ≤ n ∧ e = .returned (.string x) ∧ w' = w := by
  rcases Nat.lt_or_ge n s.size with h | h
  · go_enter Tryz.func11, Tryz.ntmps11
    go_wp2
    go_returns
    exact ⟨s.extract 0 n, by rw [ByteArray.size_extract]; omega, rfl, rfl⟩
  · go_enter Tryz.func11, Tryz.ntmps11
    go_wp2
    go_returns
    exact ⟨s, h, rfl, rfl⟩
end Go.Proofs.YtknmipbjkkeebaaGreat
