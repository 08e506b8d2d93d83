/- Read and count where there is nothing to read. -/
import Derived.Test.YtncfbocbigdhiaaGreatGS
namespace Go.Proofs.YtncfbocbigdhiaaGreat
open Go.RowKit
set_option maxHeartbeats 1000000 in
set_option maxRecDepth 100000 in
theorem sread_no (s : Sg) (hs : s.p ≤ 64) (Sb : Nat) (t k : Nat) (ht : 1 ≤ t ∧ t ≤ 1000) (hk : k = 0 ∨ s.p ≤ t + k) (hk2 : k ≤ 255) (w : World) (h : w.heap[Sb]? = some (.cells s.cs 44)) :
    Calls Tryz.prog 60 #[.pointer (some ⟨Sb, 0, none⟩), .int .i64 (t : Nat), .int .i64 (k : Nat)] w fun e w' => e = .returned (.string ⟨#[]⟩) ∧ Below w.heap.size w w' := by
  obtain ⟨M, c, j, n, b, p, a⟩ := s
  have hp1 : p ≤ 64 := hs
  have c5 : w.cell? ⟨Sb, 5, none⟩ = some (.int .i64 (p : Nat)) := F.cell_of h 5
  have ht1 : ¬ (t : Int) < 1 := by omega
  have hwr : IntKind.i64.wrap ((p : Int) - (t : Int)) = (p : Int) - (t : Int) := by rw [IntKind.wrap_i64]; omega
  have HB : Hid (Below w.heap.size w w) := Below.refl _ _
  rcases Nat.eq_zero_or_pos k with rfl | hkp
  · clear h hs hk
    go_enter Tryz.func60, Tryz.ntmps60
    go_wp2
    go_returns
    exact ⟨rfl, HB.out⟩
  · have hk1 : ¬ (k : Int) < 1 := by omega
    have hkp : (p : Int) - (t : Int) ≤ (k : Int) := by
      have : p ≤ t + k := by rcases hk with h | h; exact absurd h (by omega); exact h
      omega
    clear h hs hk
    go_enter Tryz.func60, Tryz.ntmps60
    go_wp2
    go_returns
    exact ⟨rfl, HB.out⟩
set_option maxHeartbeats 1000000 in
set_option maxRecDepth 100000 in
theorem count_out (s : Sg) (Sb : Nat) (t : Nat) (ht : s.p ≤ t) (w : World) (h : w.heap[Sb]? = some (.cells s.cs 44)) :
    Calls Tryz.prog 99 #[.pointer (some ⟨Sb, 0, none⟩), .int .i64 (t : Nat)] w fun e w' => e = .returned (.int .i64 0) ∧ Below w.heap.size w w' := by
  obtain ⟨M, c, j, n, b, p, a⟩ := s
  have hp1 : p ≤ t := ht
  have c5 : w.cell? ⟨Sb, 5, none⟩ = some (.int .i64 (p : Nat)) := F.cell_of h 5
  have hpi : (p : Int) ≤ (t : Int) := by omega
  have HB : Hid (Below w.heap.size w w) := Below.refl _ _
  clear h ht
  go_enter Tryz.func99, Tryz.ntmps99
  go_wp2
  go_returns
  exact ⟨rfl, HB.out⟩
end Go.Proofs.YtncfbocbigdhiaaGreat
