/- A segment: its commit, Room, as calls. -/
import Derived.Test.YtncfbocbigdhiaaGreatGI
namespace Go.Proofs.YtncfbocbigdhiaaGreat
open Go.RowKit
/-- A segment. -/
structure Sg where
  M : Nat
  c : Nat
  j : Nat
  n : Nat
  b : Nat
  p : Nat
  a : Nat
def Sg.cs (s : Sg) : Array Value := #[.pointer (some ⟨s.M, 0, none⟩), .int .u64 (s.c : Nat), .int .u64 (s.j : Nat), .int .u64 (s.n : Nat), .int .i64 (s.b : Nat), .int .i64 (s.p : Nat), .int .i64 (s.a : Nat)]
structure Sg.Ok (s : Sg) : Prop where
  c : s.c < 18446744073709551616
  j : s.j < 18446744073709551616
  n : s.n < 18446744073709551616
  b : s.b ≤ 10000
  p0 : 8 ≤ s.p
  p1 : s.p ≤ 64
  a0 : 1 ≤ s.a
  a1 : s.a ≤ s.p
theorem sum_pay (x : ByteArray) (hx : x.size ≤ 100000) (b : Nat) (w : World) (hb : w.cell? ⟨b, 0, none⟩ = some (.string x)) :
    Calls Tryz.prog 98 #[.slice (some ⟨b, 0, none⟩) 1 1] w fun e w' => e = .returned (.int .u32 (sm x : Nat)) ∧ w' = w := by
  have h := S.of_any (fun _ => x) 1 b (by decide) (fun _ => by omega) w (fun j hj => by
    obtain rfl : j = 0 := by omega
    exact hb)
  exact h
/-- The one Commit that a group of that payload has there. -/
def Sg.cm (s : Sg) (a : Nat) (x : ByteArray) : Cm := ⟨s.c, s.j, s.n, a, x.size / 63, sm x⟩
set_option maxRecDepth 100000 in
set_option maxHeartbeats 1000000 in
theorem room_any (s : Sg) (B : Nat) (k : Int) (w : World) (h : w.heap[B]? = some (.cells s.cs 44)) (hs : s.p ≤ 1000 ∧ s.a ≤ 1000) :
    Calls Tryz.prog 14 #[.pointer (some ⟨B, 0, none⟩), .int .i64 k] w fun e w' => e = .returned (.bool (decide (0 < k ∧ k < (s.p : Nat) - (s.a : Nat)))) ∧ Below w.heap.size w w' := by
  obtain ⟨M, c, jn, nm, b, p, a⟩ := s
  have c5 : ∀ n, (w.drewN n).cell? ⟨B, 5, none⟩ = some (.int .i64 (p : Nat)) := fun n => F.cell_of (w := w.drewN n) h 5
  have c6 : ∀ n, (w.drewN n).cell? ⟨B, 6, none⟩ = some (.int .i64 (a : Nat)) := fun n => F.cell_of (w := w.drewN n) h 6
  have hs1 : p ≤ 1000 := hs.1
  have hs2 : a ≤ 1000 := hs.2
  show Calls Tryz.prog 14 #[.pointer (some ⟨B, 0, none⟩), .int .i64 k] w fun e w' => e = .returned (.bool (decide (0 < k ∧ k < (p : Int) - (a : Int)))) ∧ Below w.heap.size w w'
  clear h hs
  by_cases hk : 0 < k
  · by_cases hk2 : k < (p : Int) - (a : Int)
    · rw [decide_eq_true ⟨hk, hk2⟩]
      have hwr : IntKind.i64.wrap ((p : Int) - (a : Int)) = (p : Int) - (a : Int) := by rw [IntKind.wrap_i64]; omega
      go_enter Tryz.func14, Tryz.ntmps14
      go_wp2
      go_quiet (fail)
      go_wp2
      go_returns
      exact ⟨by first | rfl | simp [hk2] | (simp; omega), ⟨rfl, rfl, rfl, Nat.le_refl _, fun _ _ => rfl⟩⟩
    · rw [decide_eq_false (fun q => hk2 q.2)]
      have hk3 : ¬ k < (p : Int) - (a : Int) := hk2
      have hwr : IntKind.i64.wrap ((p : Int) - (a : Int)) = (p : Int) - (a : Int) := by rw [IntKind.wrap_i64]; omega
      go_enter Tryz.func14, Tryz.ntmps14
      go_wp2
      go_quiet (fail)
      go_wp2
      go_returns
      exact ⟨by first | rfl | simp [hk2] | (simp; omega), ⟨rfl, rfl, rfl, Nat.le_refl _, fun _ _ => rfl⟩⟩
  · rw [decide_eq_false (fun q => hk q.1)]
    have hk0 : decide (0 < k) = false := decide_eq_false hk
    have hk1 : k ≤ 0 := by omega
    go_enter Tryz.func14, Tryz.ntmps14
    go_wp2
    go_quiet (fail)
    go_wp2
    go_returns
    exact ⟨rfl, ⟨rfl, rfl, rfl, Nat.le_refl _, fun _ _ => rfl⟩⟩
end Go.Proofs.YtncfbocbigdhiaaGreat
