/- Take as a call: where what was handed in returns, its answer is what is left; where it is broken off, the error is told. -/
import Derived.Test.YtncfbocbigdhiaaGreatOT
namespace Go.Proofs.YtncfbocbigdhiaaGreat.O
set_option maxRecDepth 100000
set_option maxRecDepth 100000
set_option maxRecDepth 100000
open Go.RowKit

theorem ended_ok (I : Nat) (s : ByteArray) (w : World) (h : InIs w I s 0) :
    Calls Tryz.prog 179 #[.pointer (some ⟨I, 0, none⟩)] w fun e w' => e = .returned (.tuple #[.string s, .int .i64 0]) ∧ w' = w := by
  obtain ⟨c0, c1, f0, f1⟩ := h
  go_enter Tryz.func179, Tryz.ntmps179
  go_wp2
  go_returns
  exact ⟨rfl, rfl⟩

theorem lit22 (a b c v : Value) : (#[a, b, c] ++ (Array.replicate 19 undef).setIfInBounds 3 v : Array Value) = #[a, b, c, undef, undef, undef, v, undef, undef, undef, undef, undef, undef, undef, undef, undef, undef, undef, undef, undef, undef, undef] := by
  apply Array.ext'
  simp only [Array.toList_append, Array.toList_setIfInBounds, Array.toList_replicate]
  simp [List.replicate]
theorem catch_idle (L : Nat) (w : World) :
    CallsD Tryz.prog 178 #[.pointer (some ⟨L + 3, 0, none⟩), .pointer (some ⟨L, 0, none⟩), .pointer (some ⟨L + 1, 0, none⟩)] .returning w fun e u' w' => e = .returned (.tuple #[]) ∧ u' = .returning ∧ w' = w := by
  refine callsD_of_wpS Tryz.func178 rfl fun c₀ cs hu => ?_
  apply wpS_seq
  apply wpS_region
  generalize hrest : (Code.block 0 _) = rest
  simp [wpOpsS, go_sem, recoverD, hu, Tryz.ntmps178, Exit.thenS]
  subst hrest
  refine wpS_of_wp ?_
  rw [lit22]
  go_wp2
  cases c₀
  simp_all [bodyPostS, results, Tryz.results178]
theorem assert_brk (I : Nat) (w : World) : (Instr.typeAssert (.iface 217 (.agg #[.pointer (some ⟨I, 0, none⟩)])) 20 217 true).run Tryz.prog w = .ok (.tuple #[.agg #[.pointer (some ⟨I, 0, none⟩)], .bool true]) w := by
  kernel_rfl
theorem equalIn_self (d : Nat) (p : Addr) (w : World) : (Op.equalIn (d + 1) 192 (.pointer (some p)) (.pointer (some p))).run Tryz.prog w = .ok true w := by
  simp [Op.equalIn, run_underlying Tryz.underlying192, sameAddr]
theorem equal_self (p : Addr) (w : World) : (Op.equal 192 (.pointer (some p)) (.pointer (some p))).run Tryz.prog w = .ok true w := equalIn_self 9999 p w
theorem neq_self (I : Nat) (w : World) : (binOp .neq 192 (.pointer (some ⟨I, 0, none⟩)) (.pointer (some ⟨I, 0, none⟩))).run Tryz.prog w = .ok (.bool false) w := by
  simp only [binOp]
  simp [equal_self ⟨I, 0, none⟩ w]
/-- Nothing that was there was written, but the two answers. -/
structure KT (L : Nat) (w w' : World) : Prop where
  os : w'.os = w.os
  tape : w'.tape = w.tape
  output : w'.output = w.output
  size : w.heap.size ≤ w'.heap.size
  block : ∀ k, k < w.heap.size → k ≠ L → k ≠ L + 1 → w'.heap[k]? = w.heap[k]?
theorem KT.sets (L : Nat) (w : World) (u v : Value) : KT L w ((w.setCell ⟨L, 0, none⟩ u).setCell ⟨L + 1, 0, none⟩ v) :=
  ⟨rfl, rfl, rfl, by simp [World.setCell], fun k _ h1 h2 => by rw [Below.heap_setCell _ _ _ _ (by exact h2), Below.heap_setCell _ _ _ _ (by exact h1)]⟩
theorem KT.refl (L : Nat) (w : World) : KT L w w := ⟨rfl, rfl, rfl, Nat.le_refl _, fun _ _ _ _ => rfl⟩
theorem KT.trans {L : Nat} {a b c : World} (h : KT L a b) (k : KT L b c) : KT L a c :=
  ⟨k.os.trans h.os, k.tape.trans h.tape, k.output.trans h.output, Nat.le_trans h.size k.size, fun i hi h1 h2 => (k.block i (Nat.lt_of_lt_of_le hi h.size) h1 h2).trans (h.block i hi h1 h2)⟩
theorem KT.alloc {L : Nat} {w w' : World} (h : KT L w w') (o : Obj) : KT L w (w'.alloc o) :=
  ⟨h.os, h.tape, h.output, by have := h.size; simp; omega, fun k hk h1 h2 => by rw [Below.heap_alloc _ _ _ (Nat.lt_of_lt_of_le hk h.size)]; exact h.block k hk h1 h2⟩
theorem catch_broken (L : Nat) (s : ByteArray) (y : Int) (older : List PanicEntry) (w : World) (h : InIs w (L + 2) s y) (hv : w.cell? ⟨L + 3, 0, none⟩ = some (.pointer (some ⟨L + 2, 0, none⟩)))
    (hl : w.cell? ⟨L, 0, none⟩ = some (.string ⟨#[]⟩)) (hlf : w.frozen? ⟨L, 0, none⟩ = false) (he : w.cell? ⟨L + 1, 0, none⟩ = some (.int .i64 0)) (hef : w.frozen? ⟨L + 1, 0, none⟩ = false) :
    CallsD Tryz.prog 178 #[.pointer (some ⟨L + 3, 0, none⟩), .pointer (some ⟨L, 0, none⟩), .pointer (some ⟨L + 1, 0, none⟩)] (.panicking (brk (L + 2) :: older)) w fun e u' w' =>
      e = .returned (.tuple #[]) ∧ u' = .panicking ({ brk (L + 2) with recovered := true } :: older) ∧ w'.cell? ⟨L, 0, none⟩ = some (.string ⟨#[]⟩) ∧ w'.cell? ⟨L + 1, 0, none⟩ = some (.int .i64 y) ∧ KT L w w' := by
  obtain ⟨c0, c1, f0, f1⟩ := h
  have hlt : L + 3 < w.heap.size := World.block_lt_of_cell? w _ hv
  have k1 : ∀ o, (w.alloc o).cell? ⟨L + 3, 0, none⟩ = some (.pointer (some ⟨L + 2, 0, none⟩)) := fun o => by rw [World.cell?_alloc_past _ _ _ hlt]; exact hv
  have k2 : ∀ o, (w.alloc o).cell? ⟨L + 2, 1, none⟩ = some (.int .i64 y) := fun o => by rw [World.cell?_alloc_past _ _ _ (by show L + 2 < _; omega)]; exact c1
  have k3 : ∀ o, (w.alloc o).cell? ⟨L, 0, none⟩ = some (.string ⟨#[]⟩) := fun o => by rw [World.cell?_alloc_past _ _ _ (by show L < _; omega)]; exact hl
  have k4 : ∀ o, (w.alloc o).cell? ⟨L + 1, 0, none⟩ = some (.int .i64 0) := fun o => by rw [World.cell?_alloc_past _ _ _ (by show L + 1 < _; omega)]; exact he
  have g3 : ∀ o, (w.alloc o).frozen? ⟨L, 0, none⟩ = false := fun o => by rw [World.frozen?_alloc_past _ _ _ (by show L < _; omega)]; exact hlf
  have g4 : ∀ o, (w.alloc o).frozen? ⟨L + 1, 0, none⟩ = false := fun o => by rw [World.frozen?_alloc_past _ _ _ (by show L + 1 < _; omega)]; exact hef
  have F1 : ∀ o, (((w.alloc o).setCell ⟨L, 0, none⟩ (.string ⟨#[]⟩)).setCell ⟨L + 1, 0, none⟩ (.int .i64 y)).cell? ⟨L, 0, none⟩ = some (.string ⟨#[]⟩) := fun o => by
    rw [World.cell?_setCell_other _ _ _ _ (by intro e; have := congrArg Addr.block e; simp at this), World.cell?_setCell_same _ _ _ (k3 o)]
  have F2 : ∀ o, (((w.alloc o).setCell ⟨L, 0, none⟩ (.string ⟨#[]⟩)).setCell ⟨L + 1, 0, none⟩ (.int .i64 y)).cell? ⟨L + 1, 0, none⟩ = some (.int .i64 y) := fun o =>
    World.cell?_setCell_same _ _ _ (by rw [World.cell?_setCell_other _ _ _ _ (by intro e; have := congrArg Addr.block e; simp at this)]; exact k4 o)
  have F3 : ∀ o, KT L w (((w.alloc o).setCell ⟨L, 0, none⟩ (.string ⟨#[]⟩)).setCell ⟨L + 1, 0, none⟩ (.int .i64 y)) := fun o => ((KT.refl L w).alloc o).trans (KT.sets L _ _ _)
  have FF : Hid _ := And.intro F1 (And.intro F2 F3)
  clear F1 F2 F3
  have hta := assert_brk (L + 2)
  have hnq := neq_self (L + 2)
  unfold brk
  refine callsD_of_wpS Tryz.func178 rfl fun c₀ cs hu => ?_
  apply wpS_seq
  apply wpS_region
  generalize hrest : (Code.block 0 _) = rest
  simp [wpOpsS, go_sem, recoverD, hu, Tryz.ntmps178, Exit.thenS]
  subst hrest
  refine wpS_of_wp ?_
  rw [lit22]
  go_wp2
  obtain ⟨F1, F2, F3⟩ := FF.out
  clear k1 k2 k3 k4 g3 g4 hta hnq
  cases c₀
  simp [bodyPostS, results, Tryz.results178, F1, F2, F3]
end Go.Proofs.YtncfbocbigdhiaaGreat.O
