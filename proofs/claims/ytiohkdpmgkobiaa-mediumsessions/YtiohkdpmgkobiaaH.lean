/- Guard as a call, over a pool of one device. -/
import Derived.Test.YtiohkdpmgkobiaaG
namespace Go.Proofs.Ytiohkdpmgkobiaa
open Go.RowKit
set_option maxHeartbeats 1000000 in
theorem guard_ok (f : Nat) (cap : Array Value) (R : World → Prop) (w : World) (hent : ∀ args W, (callFunc f args).run Try.prog W = .ok (.enter f args) W)
    (hdo : Calls Try.prog f cap (G0 w) fun e W => e = .returned (.tuple #[]) ∧ W.heap[w.heap.size]? = some bob ∧ W.heap[w.heap.size + 1]? = some iob ∧ R W) :
    Calls Try.prog 29 #[.func (.func f) #[] cap] w fun e w' => e = .returned (.tuple #[.agg #[.int .i64 0, .int .i64 0], .bool false]) ∧ ∃ W, R W ∧ KT w.heap.size W w' := by
  have hmf : ∀ (fn : Fn) (first cap : Array Value) (w : World), (Instr.makeFunc fn first cap).run Try.prog w = .ok (.func fn first cap) w := fun _ _ _ _ => rfl
  have hg0 : (w.alloc (.cells #[.int .i64 0, .int .i64 0] 59)).alloc (.cells #[.bool false] 4) = G0 w := rfl
  go_enter_defers Try.func29, Try.ntmps29
  go_wp2_with fail
  go_call hdo as e W1 ⟨rfl, h1, h2, h3⟩
  clear hdo hent
  have c0 : W1.cell? ⟨w.heap.size, 0, none⟩ = some (.int .i64 0) := cell_of h1 0
  have c1 : W1.cell? ⟨w.heap.size, 1, none⟩ = some (.int .i64 0) := cell_of h1 1
  have c2 : W1.cell? ⟨w.heap.size + 1, 0, none⟩ = some (.bool false) := cell_of h2 0
  have g0 : W1.frozen? ⟨w.heap.size, 0, none⟩ = false := frz_of h1 0
  have g1 : W1.frozen? ⟨w.heap.size, 1, none⟩ = false := frz_of h1 1
  have g2 : W1.frozen? ⟨w.heap.size + 1, 0, none⟩ = false := frz_of h2 0
  have HR : Hid (R W1 ∧ W1.heap[w.heap.size]? = some bob ∧ W1.heap[w.heap.size + 1]? = some iob) := ⟨h3, h1, h2⟩
  clear h1 h2 h3
  have F : ((((W1.setCell ⟨w.heap.size, 0, none⟩ (.int .i64 0)).setCell ⟨w.heap.size, 1, none⟩ (.int .i64 0)).setCell ⟨w.heap.size + 1, 0, none⟩ (.bool false)).heap[w.heap.size]? = some (.cells #[.int .i64 0, .int .i64 0] 59)) ∧ ((((W1.setCell ⟨w.heap.size, 0, none⟩ (.int .i64 0)).setCell ⟨w.heap.size, 1, none⟩ (.int .i64 0)).setCell ⟨w.heap.size + 1, 0, none⟩ (.bool false)).heap[w.heap.size + 1]? = some (.cells #[.bool false] 4)) ∧
      KT w.heap.size W1 (((W1.setCell ⟨w.heap.size, 0, none⟩ (.int .i64 0)).setCell ⟨w.heap.size, 1, none⟩ (.int .i64 0)).setCell ⟨w.heap.size + 1, 0, none⟩ (.bool false)) := by
    obtain ⟨_, h1, h2⟩ := HR.out
    refine ⟨?_, ?_, (((KT.refl _ W1).set ⟨w.heap.size, 0, none⟩ (Or.inl rfl) _).set ⟨w.heap.size, 1, none⟩ (Or.inl rfl) _).set ⟨w.heap.size + 1, 0, none⟩ (Or.inr rfl) _⟩
    · rw [Below.heap_setCell _ _ _ _ (by show w.heap.size ≠ w.heap.size + 1; omega), block_set (block_set h1 _) _]; rfl
    · rw [block_set (cs := #[.bool false]) (t := 4)]
      · rfl
      · rw [Below.heap_setCell _ _ _ _ (by show w.heap.size + 1 ≠ w.heap.size; omega), Below.heap_setCell _ _ _ _ (by show w.heap.size + 1 ≠ w.heap.size; omega)]; exact h2
  have HF : Hid _ := F
  clear F
  go_wp2
  obtain ⟨F1, F2, F3⟩ := HF.out
  generalize (((W1.setCell ⟨w.heap.size, 0, none⟩ (.int .i64 0)).setCell ⟨w.heap.size, 1, none⟩ (.int .i64 0)).setCell ⟨w.heap.size + 1, 0, none⟩ (.bool false)) = w3 at *
  have e0 : w3.cell? ⟨w.heap.size, 0, none⟩ = some (.int .i64 0) := cell_of F1 0
  have e1 : w3.cell? ⟨w.heap.size, 1, none⟩ = some (.int .i64 0) := cell_of F1 1
  have e2 : w3.cell? ⟨w.heap.size + 1, 0, none⟩ = some (.bool false) := cell_of F2 0
  refine leaves_cons (f := 89) (args := #[.pointer (some ⟨w.heap.size, 0, none⟩), .pointer (some ⟨w.heap.size + 1, 0, none⟩)]) (by simp) (by simp [go_sem]) ?_
  refine (catch_idle w.heap.size _).mono ?_
  rintro e u' w'' ⟨rfl, rfl, rfl⟩
  have hend : Hid (∃ W, R W ∧ KT w.heap.size W w'') := ⟨W1, HR.out.1, F3⟩
  simp [Leaves, settle, results, Try.results29, go_sem, e0, e1, e2]
  exact hend.out
set_option maxHeartbeats 1000000 in
theorem guard_fail (f : Nat) (cap : Array Value) (s y : Int) (R : World → Prop) (w : World) (hent : ∀ args W, (callFunc f args).run Try.prog W = .ok (.enter f args) W)
    (hdo : Calls Try.prog f cap (G0 w) fun e W => e = .panicked [fl s y] ∧ W.heap[w.heap.size]? = some bob ∧ W.heap[w.heap.size + 1]? = some iob ∧ R W) :
    Calls Try.prog 29 #[.func (.func f) #[] cap] w fun e w' => e = .returned (.tuple #[.agg #[.int .i64 s, .int .i64 y], .bool true]) ∧ ∃ W, R W ∧ KT w.heap.size W w' := by
  have hmf : ∀ (fn : Fn) (first cap : Array Value) (w : World), (Instr.makeFunc fn first cap).run Try.prog w = .ok (.func fn first cap) w := fun _ _ _ _ => rfl
  have hg0 : (w.alloc (.cells #[.int .i64 0, .int .i64 0] 59)).alloc (.cells #[.bool false] 4) = G0 w := rfl
  go_enter_defers Try.func29, Try.ntmps29
  go_wp2_with fail
  go_call hdo as e W1 ⟨rfl, h1, h2, h3⟩
  clear hdo hent
  go_wp2
  refine leaves_cons (f := 89) (args := #[.pointer (some ⟨w.heap.size, 0, none⟩), .pointer (some ⟨w.heap.size + 1, 0, none⟩)]) (by simp) (by simp [go_sem]) ?_
  refine (catch_fl w.heap.size s y [] W1 h1 h2).mono ?_
  rintro e u' w'' ⟨rfl, rfl, F1, F2, F3⟩
  have e0 : w''.cell? ⟨w.heap.size, 0, none⟩ = some (.int .i64 s) := cell_of F1 0
  have e1 : w''.cell? ⟨w.heap.size, 1, none⟩ = some (.int .i64 y) := cell_of F1 1
  have e2 : w''.cell? ⟨w.heap.size + 1, 0, none⟩ = some (.bool true) := cell_of F2 0
  have hend : Hid (∃ W, R W ∧ KT w.heap.size W w'') := ⟨W1, h3, F3⟩
  simp [Leaves, settle, results, Try.results29, go_sem, e0, e1, e2]
  exact hend.out
set_option maxHeartbeats 1000000 in
theorem guard_oth (f : Nat) (cap : Array Value) (t : ByteArray) (R : World → Prop) (w : World) (hent : ∀ args W, (callFunc f args).run Try.prog W = .ok (.enter f args) W)
    (hdo : Calls Try.prog f cap (G0 w) fun e W => e = .panicked [oth t] ∧ R (W.alloc (.cells #[.int .i64 0, .int .i64 0] 123))) :
    Calls Try.prog 29 #[.func (.func f) #[] cap] w fun e w' => e = .panicked [oth t, { oth t with recovered := true }] ∧ R w' := by
  have hmf : ∀ (fn : Fn) (first cap : Array Value) (w : World), (Instr.makeFunc fn first cap).run Try.prog w = .ok (.func fn first cap) w := fun _ _ _ _ => rfl
  have hg0 : (w.alloc (.cells #[.int .i64 0, .int .i64 0] 59)).alloc (.cells #[.bool false] 4) = G0 w := rfl
  go_enter_defers Try.func29, Try.ntmps29
  go_wp2_with fail
  go_call hdo as e W1 ⟨rfl, h3⟩
  clear hdo hent
  go_wp2
  refine leaves_cons (f := 89) (args := #[.pointer (some ⟨w.heap.size, 0, none⟩), .pointer (some ⟨w.heap.size + 1, 0, none⟩)]) (by simp) (by simp [go_sem]) ?_
  refine (catch_oth w.heap.size t [] W1).mono ?_
  rintro e u' w'' ⟨rfl, rfl, rfl⟩
  exact ⟨rfl, h3⟩
end Go.Proofs.Ytiohkdpmgkobiaa
