/- Take as a call: where what was handed in returns, its answer is what is left; where it is broken off, the error is told. -/
import Derived.Test.YtncfbocbigdhiaaGreatOU
namespace Go.Proofs.YtncfbocbigdhiaaGreat.O
set_option maxRecDepth 100000
set_option maxRecDepth 100000
set_option maxRecDepth 100000
open Go.RowKit

/-- The world in which what was handed in is called. -/
def W0 (w : World) (s : ByteArray) : World :=
  (((w.alloc (.cells #[.string ⟨#[]⟩] 9)).alloc (.cells #[.int .i64 0] 35)).alloc (.cells #[.string s, .int .i64 0] 215)).alloc (.cells #[.pointer (some ⟨w.heap.size + 1 + 1, 0, none⟩)] 192)
/-- Take's own variables are as they were laid. -/
structure TK (L : Nat) (W : World) : Prop where
  l : W.cell? ⟨L, 0, none⟩ = some (.string ⟨#[]⟩)
  lf : W.frozen? ⟨L, 0, none⟩ = false
  e : W.cell? ⟨L + 1, 0, none⟩ = some (.int .i64 0)
  ef : W.frozen? ⟨L + 1, 0, none⟩ = false
  v : W.cell? ⟨L + 3, 0, none⟩ = some (.pointer (some ⟨L + 2, 0, none⟩))

set_option maxHeartbeats 1000000 in
theorem take_ok (f : Nat) (cap : Array Value) (s t : ByteArray) (R : World → Prop) (w : World) (hent : ∀ args W, (callFunc f args).run Tryz.prog W = .ok (.enter f args) W)
    (hdo : Calls Tryz.prog f (#[.pointer (some ⟨w.heap.size + 1 + 1, 0, none⟩)] ++ cap) (W0 w s) fun e W => e = .returned (.tuple #[]) ∧ InIs W (w.heap.size + 2) t 0 ∧ TK w.heap.size W ∧ R W) :
    Calls Tryz.prog 169 #[.string s, .func (.func f) #[] cap] w fun e w' => e = .returned (.tuple #[.string t, .int .i64 0]) ∧ ∃ W, R W ∧ KT w.heap.size W w' := by
  have hmf : ∀ (fn : Fn) (first cap : Array Value) (w : World), (Instr.makeFunc fn first cap).run Tryz.prog w = .ok (.func fn first cap) w := fun _ _ _ _ => rfl
  go_enter_defers Tryz.func169, Tryz.ntmps169
  go_wp2_with fail
  go_call hdo as e W1 ⟨rfl, h1, h2, h3⟩
  clear hdo hent
  have hen := ended_ok (w.heap.size + 2) t W1 h1
  obtain ⟨l, lf, e, ef, v⟩ := h2
  have HR : Hid (R W1) := h3
  clear h1 h3
  go_wp2_with fail
  go_call hen as e w2 ⟨rfl, rfl⟩
  clear hen
  have F1 : ((w2.setCell ⟨w.heap.size, 0, none⟩ (.string t)).setCell ⟨w.heap.size + 1, 0, none⟩ (.int .i64 0)).cell? ⟨w.heap.size, 0, none⟩ = some (.string t) := by
    rw [World.cell?_setCell_other _ _ _ _ (by intro e; have := congrArg Addr.block e; simp at this), World.cell?_setCell_same _ _ _ l]
  have F2 : ((w2.setCell ⟨w.heap.size, 0, none⟩ (.string t)).setCell ⟨w.heap.size + 1, 0, none⟩ (.int .i64 0)).cell? ⟨w.heap.size + 1, 0, none⟩ = some (.int .i64 0) :=
    World.cell?_setCell_same _ _ _ (by rw [World.cell?_setCell_other _ _ _ _ (by intro e; have := congrArg Addr.block e; simp at this)]; exact e)
  have F3 := KT.sets w.heap.size w2 (.string t) (.int .i64 0)
  have FF : Hid _ := And.intro F1 (And.intro F2 F3)
  clear F1 F2 F3
  go_wp2
  obtain ⟨F1, F2, F3⟩ := FF.out
  generalize ((w2.setCell ⟨w.heap.size, 0, none⟩ (.string t)).setCell ⟨w.heap.size + 1, 0, none⟩ (.int .i64 0)) = w3 at *
  refine leaves_cons (f := 178) (args := #[.pointer (some ⟨w.heap.size + 3, 0, none⟩), .pointer (some ⟨w.heap.size, 0, none⟩), .pointer (some ⟨w.heap.size + 1, 0, none⟩)]) (by simp) (by simp [go_sem]) ?_
  refine (catch_idle w.heap.size _).mono ?_
  rintro e u' w'' ⟨rfl, rfl, rfl⟩
  have hend : Hid (∃ W, R W ∧ KT w.heap.size W w'') := ⟨w2, HR.out, F3⟩
  simp [Leaves, settle, results, Tryz.results169, go_sem, F1, F2]
  exact hend.out
set_option maxHeartbeats 1000000 in
theorem take_no (f : Nat) (cap : Array Value) (s t : ByteArray) (y : Int) (R : World → Prop) (w : World) (hent : ∀ args W, (callFunc f args).run Tryz.prog W = .ok (.enter f args) W)
    (hdo : Calls Tryz.prog f (#[.pointer (some ⟨w.heap.size + 1 + 1, 0, none⟩)] ++ cap) (W0 w s) fun e W => e = .panicked [brk (w.heap.size + 2)] ∧ InIs W (w.heap.size + 2) t y ∧ TK w.heap.size W ∧ R W) :
    Calls Tryz.prog 169 #[.string s, .func (.func f) #[] cap] w fun e w' => e = .returned (.tuple #[.string ⟨#[]⟩, .int .i64 y]) ∧ ∃ W, R W ∧ KT w.heap.size W w' := by
  have hmf : ∀ (fn : Fn) (first cap : Array Value) (w : World), (Instr.makeFunc fn first cap).run Tryz.prog w = .ok (.func fn first cap) w := fun _ _ _ _ => rfl
  go_enter_defers Tryz.func169, Tryz.ntmps169
  go_wp2_with fail
  go_call hdo as e W1 ⟨rfl, h1, h2, h3⟩
  clear hdo hent
  go_wp2
  refine leaves_cons (f := 178) (args := #[.pointer (some ⟨w.heap.size + 3, 0, none⟩), .pointer (some ⟨w.heap.size, 0, none⟩), .pointer (some ⟨w.heap.size + 1, 0, none⟩)]) (by simp) (by simp [go_sem]) ?_
  refine (catch_broken w.heap.size t y [] W1 h1 h2.v h2.l h2.lf h2.e h2.ef).mono ?_
  rintro e u' w'' ⟨rfl, rfl, F1, F2, F3⟩
  have hend : Hid (∃ W, R W ∧ KT w.heap.size W w'') := ⟨W1, h3, F3⟩
  simp [Leaves, settle, results, Tryz.results169, go_sem, F1, F2]
  exact hend.out
end Go.Proofs.YtncfbocbigdhiaaGreat.O
