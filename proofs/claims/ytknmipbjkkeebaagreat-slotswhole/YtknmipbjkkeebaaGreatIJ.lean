/- A Slots' own numbers, as calls. -/
import Derived.Test.YtknmipbjkkeebaaGreatIH
namespace Go.Proofs.YtknmipbjkkeebaaGreat
open Go.RowKit
/-- A Slots, as it lies there. -/
structure Sl where
  slot : Nat
  seq : Nat
  most : Nat
  unsure : Bool
def Sl.cs (s : Sl) (M : Nat) : Array Value := #[.pointer (some ⟨M, 0, none⟩), .int .i64 (s.slot : Nat), .int .u64 (s.seq : Nat), .int .u64 (s.most : Nat), .bool s.unsure]
set_option maxRecDepth 100000 in
theorem seq_any (s : Sl) (S M : Nat) (w : World) (h : w.heap[S]? = some (.cells (s.cs M) 72)) : Calls Tryz.prog 15 #[.pointer (some ⟨S, 0, none⟩)] w fun e w' => e = .returned (.int .u64 (s.seq : Nat)) ∧ w' = w := by
  have c2 : w.cell? ⟨S, 2, none⟩ = some (.int .u64 (s.seq : Nat)) := F.cell_of h 2
  clear h
  go_enter Tryz.func15, Tryz.ntmps15
  go_wp2
  go_returns
  exact ⟨rfl, rfl⟩
def Sl.other (s : Sl) : Nat := if s.seq = 0 then 0 else 1 - s.slot
set_option maxRecDepth 100000 in
theorem other_any (s : Sl) (hs : s.slot ≤ 1) (S M : Nat) (w : World) (h : w.heap[S]? = some (.cells (s.cs M) 72)) : Calls Tryz.prog 38 #[.pointer (some ⟨S, 0, none⟩)] w fun e w' => e = .returned (.int .i64 (s.other : Nat)) ∧ w' = w := by
  have c1 : w.cell? ⟨S, 1, none⟩ = some (.int .i64 (s.slot : Nat)) := F.cell_of h 1
  have c2 : w.cell? ⟨S, 2, none⟩ = some (.int .u64 (s.seq : Nat)) := F.cell_of h 2
  clear h
  by_cases h0 : s.seq = 0
  · have e : Hid (s.other = 0) := if_pos h0
    rw [h0] at c2
    go_enter Tryz.func38, Tryz.ntmps38
    go_wp2
    go_returns
    exact ⟨by rw [e.out]; rfl, rfl⟩
  · have e : Hid (s.other = 1 - s.slot) := if_neg h0
    have hq : ¬ ((s.seq : Nat) : Int) = 0 := by omega
    have hsub : (1 : Int) - ((s.slot : Nat) : Int) = ((1 - s.slot : Nat) : Int) := by omega
    go_enter Tryz.func38, Tryz.ntmps38
    go_wp2
    go_returns
    exact ⟨by rw [e.out]; first | rfl | (rw [← hsub]; rfl), rfl⟩
end Go.Proofs.YtknmipbjkkeebaaGreat
