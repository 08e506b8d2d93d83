/- Guard, as a call: where what was handed in returns, where it is broken off by Fail, and where another panic comes. -/
import Derived.Test.YtiohkdpmgkobiaaE
namespace Go.Proofs.Ytiohkdpmgkobiaa
open Go.RowKit

structure KT (L : Nat) (w w' : World) : Prop where
  os : w'.os = w.os
  tape : w'.tape = w.tape
  output : w'.output = w.output
  size : w.heap.size ≤ w'.heap.size
  block : ∀ k, k < w.heap.size → k ≠ L → k ≠ L + 1 → w'.heap[k]? = w.heap[k]?
theorem KT.refl (L : Nat) (w : World) : KT L w w := ⟨rfl, rfl, rfl, Nat.le_refl _, fun _ _ _ _ => rfl⟩
theorem KT.trans {L : Nat} {a b c : World} (h : KT L a b) (k : KT L b c) : KT L a c :=
  ⟨k.os.trans h.os, k.tape.trans h.tape, k.output.trans h.output, Nat.le_trans h.size k.size, fun i hi h1 h2 => (k.block i (Nat.lt_of_lt_of_le hi h.size) h1 h2).trans (h.block i hi h1 h2)⟩
theorem KT.alloc {L : Nat} {w w' : World} (h : KT L w w') (o : Obj) : KT L w (w'.alloc o) :=
  ⟨h.os, h.tape, h.output, by have := h.size; simp; omega, fun k hk h1 h2 => by rw [Below.heap_alloc _ _ _ (Nat.lt_of_lt_of_le hk h.size)]; exact h.block k hk h1 h2⟩
theorem KT.set {L : Nat} {w w' : World} (h : KT L w w') (a : Addr) (ha : a.block = L ∨ a.block = L + 1) (v : Value) : KT L w (w'.setCell a v) :=
  ⟨h.os, h.tape, h.output, by have := h.size; simpa [World.setCell] using this, fun k hk h1 h2 => by rw [Below.heap_setCell _ _ _ _ (by rcases ha with e | e <;> rw [e] <;> assumption)]; exact h.block k hk h1 h2⟩
def bob : Obj := .cells #[.int .i64 0, .int .i64 0] 59
def iob : Obj := .cells #[.bool false] 4
def G0 (w : World) : World := (w.alloc bob).alloc iob
def gob (B : Nat) (oth : List (Nat × Obj)) : List (Nat × Obj) := (B + 1, iob) :: (B, bob) :: oth
section
variable {b0 : Nat} {w0 : World} {L : Loc} {st : St} {lv : Value} {oth : List (Nat × Obj)} {w : World}
theorem One.guarded (h : One b0 w0 L st lv oth w) : One b0 w0 L st lv (gob w.heap.size oth) (G0 w) := by
  have := (h.alloc bob (apart_of (by decide))).alloc iob (apart_of (by decide))
  have e : (w.alloc bob).heap.size = w.heap.size + 1 := by simp
  rw [e] at this
  exact this
theorem One.kt {B : Nat} {w' : World} (h : One b0 w0 L st lv (gob B oth) w) (hne : ∀ p ∈ oth, p.1 < B) (k : KT B w w') : One b0 w0 L st lv oth w' := by
  obtain ⟨i1, i2, i3, i4⟩ := h.oth (B + 1, iob) (by simp [gob])
  obtain ⟨j1, j2, j3, j4⟩ := h.oth (B, bob) (by simp [gob])
  have same : ∀ {j : Nat} {o : Obj}, w.heap[j]? = some o → j ≠ B → j ≠ B + 1 → w'.heap[j]? = some o := fun e h1 h2 => (k.block _ (getElem?_lt e) h1 h2).trans e
  refine ⟨?_, h.bP, h.bR, h.bD, h.bS, same h.pool j2.1.symm i2.1.symm, same h.rowb j2.2.1.symm i2.2.1.symm, h.rc0, same h.dev j2.2.2.1.symm i2.2.2.1.symm, same h.sec j2.2.2.2.symm i2.2.2.2.symm, ⟨h.own.1, ?_⟩, ?_⟩
  · refine ⟨k.os.trans h.below.os, k.tape.trans h.below.tape, k.output.trans h.below.output, Nat.le_trans h.below.size k.size, fun j hj => ?_⟩
    have j4' : b0 ≤ B := j4
    have hs : j < w.heap.size := by have := getElem?_lt h.pool; have := h.bP; omega
    rw [k.block j hs (by omega) (by omega)]
    exact h.below.block j hj
  · rcases h.own.2 with h1 | ⟨g, cap, cur, e, h2, h3, h4⟩
    · exact Or.inl h1
    · refine Or.inr ⟨g, cap, cur, e, h2, same h3 ?_ ?_, h4⟩
      · intro e2; rw [e2] at h3; rw [h3] at j1; injection j1 with j1; exact j3 _ j1.symm
      · intro e2; rw [e2] at h3; rw [h3] at i1; injection i1 with i1; exact i3 _ i1.symm
  · intro p hp
    obtain ⟨o1, o2, o3, o4⟩ := h.oth p (by simp [gob, hp])
    have := hne p hp
    exact ⟨same o1 (by omega) (by omega), o2, o3, o4⟩
end
/-- What a device's failing is, as a panic. -/
def fl (s e : Int) : PanicEntry := { v := .iface 123 (.agg #[.int .i64 s, .int .i64 e]), recovered := false }
def oth (t : ByteArray) : PanicEntry := { v := .iface 9 (.string t), recovered := false }
theorem assert_fl (s e : Int) (w : World) : (Instr.typeAssert (.iface 123 (.agg #[.int .i64 s, .int .i64 e])) 20 123 true).run Try.prog w = .ok (.tuple #[.agg #[.int .i64 s, .int .i64 e], .bool true]) w := by kernel_rfl
theorem assert_str (t : ByteArray) (w : World) : (Instr.typeAssert (.iface 9 (.string t)) 20 123 true).run Try.prog w = .ok (.tuple #[.agg #[.int .i64 0, .int .i64 0], .bool false]) w := by kernel_rfl
theorem assert_str9 (t : ByteArray) (w : World) : (Instr.typeAssert (.iface 9 (.string t)) 20 9 true).run Try.prog w = .ok (.tuple #[.string t, .bool true]) w := by kernel_rfl
theorem fail_ok (s : Int) (w : World) : Calls Try.prog 39 #[.int .i64 s, .int .i64 0] w fun e w' => e = .returned (.tuple #[]) ∧ w' = w := by
  go_enter Try.func39, Try.ntmps39
  go_wp2
  go_returns
  exact ⟨rfl, rfl⟩
theorem fail_any (s y : Int) (hy : ¬ y = 0) (w : World) : Calls Try.prog 39 #[.int .i64 s, .int .i64 y] w fun e w' => e = .panicked [fl s y] ∧ w' = w := by
  go_enter Try.func39, Try.ntmps39
  go_wp2
  exact ⟨rfl, rfl, rfl⟩
theorem lit17 (a b v : Value) : (#[a, b] ++ ((Array.replicate 15 undef).setIfInBounds 3 v).setIfInBounds 0 v : Array Value) = #[a, b, v, undef, undef, v, undef, undef, undef, undef, undef, undef, undef, undef, undef, undef, undef] := by
  apply Array.ext'
  simp only [Array.toList_append, Array.toList_setIfInBounds, Array.toList_replicate]
  simp [List.replicate]
theorem catch_idle (B : Nat) (w : World) :
    CallsD Try.prog 89 #[.pointer (some ⟨B, 0, none⟩), .pointer (some ⟨B + 1, 0, none⟩)] .returning w fun e u' w' => e = .returned (.tuple #[]) ∧ u' = .returning ∧ w' = w := by
  refine callsD_of_wpS Try.func89 rfl fun c₀ cs hu => ?_
  apply wpS_seq
  apply wpS_region
  generalize hrest : (Code.seq _ _) = rest
  simp [wpOpsS, go_sem, recoverD, hu, Try.ntmps89, Exit.thenS]
  subst hrest
  refine wpS_of_wp ?_
  rw [lit17]
  go_wp2
  cases c₀
  simp_all [bodyPostS, results, Try.results89]
theorem catch_oth (B : Nat) (t : ByteArray) (older : List PanicEntry) (w : World) :
    CallsD Try.prog 89 #[.pointer (some ⟨B, 0, none⟩), .pointer (some ⟨B + 1, 0, none⟩)] (.panicking (oth t :: older)) w fun e u' w' =>
      e = .panicked [oth t] ∧ u' = .panicking ({ oth t with recovered := true } :: older) ∧ w' = w.alloc (.cells #[.int .i64 0, .int .i64 0] 123) := by
  have hv := assert_str t
  unfold oth
  refine callsD_of_wpS Try.func89 rfl fun c₀ cs hu => ?_
  apply wpS_seq
  apply wpS_region
  generalize hrest : (Code.seq _ _) = rest
  simp [wpOpsS, go_sem, recoverD, hu, Try.ntmps89, Exit.thenS]
  subst hrest
  refine wpS_of_wp ?_
  rw [lit17]
  go_wp2
  cases c₀
  simp [bodyPostS]
theorem catch_fl (B : Nat) (s y : Int) (older : List PanicEntry) (w : World) (hb : w.heap[B]? = some bob) (hi : w.heap[B + 1]? = some iob) :
    CallsD Try.prog 89 #[.pointer (some ⟨B, 0, none⟩), .pointer (some ⟨B + 1, 0, none⟩)] (.panicking (fl s y :: older)) w fun e u' w' =>
      e = .returned (.tuple #[]) ∧ u' = .panicking ({ fl s y with recovered := true } :: older) ∧ w'.heap[B]? = some (.cells #[.int .i64 s, .int .i64 y] 59) ∧ w'.heap[B + 1]? = some (.cells #[.bool true] 4) ∧ KT B w w' := by
  have hBs := getElem?_lt hb
  have hIs := getElem?_lt hi
  have k0 : ∀ o, (w.alloc o).heap[B]? = some bob := fun o => by rw [Below.heap_alloc _ _ _ hBs]; exact hb
  have k1 : ∀ o, (w.alloc o).heap[B + 1]? = some iob := fun o => by rw [Below.heap_alloc _ _ _ hIs]; exact hi
  have c0 : ∀ o, (w.alloc o).cell? ⟨B, 0, none⟩ = some (.int .i64 0) := fun o => cell_of (k0 o) 0
  have c1 : ∀ o, (w.alloc o).cell? ⟨B, 1, none⟩ = some (.int .i64 0) := fun o => cell_of (k0 o) 1
  have c2 : ∀ o, (w.alloc o).cell? ⟨B + 1, 0, none⟩ = some (.bool false) := fun o => cell_of (k1 o) 0
  have g0 : ∀ o, (w.alloc o).frozen? ⟨B, 0, none⟩ = false := fun o => frz_of (k0 o) 0
  have g1 : ∀ o, (w.alloc o).frozen? ⟨B, 1, none⟩ = false := fun o => frz_of (k0 o) 1
  have g2 : ∀ o, (w.alloc o).frozen? ⟨B + 1, 0, none⟩ = false := fun o => frz_of (k1 o) 0
  have hta := assert_fl s y
  have q1 : (w.setCell ⟨B, 0, none⟩ (.int .i64 s)).heap[B]? = some (.cells #[.int .i64 s, .int .i64 0] 59) := by rw [block_set hb]; rfl
  have q2 : ((w.setCell ⟨B, 0, none⟩ (.int .i64 s)).setCell ⟨B, 1, none⟩ (.int .i64 y)).heap[B]? = some (.cells #[.int .i64 s, .int .i64 y] 59) := by rw [block_set q1]; rfl
  have q3 : ((w.setCell ⟨B, 0, none⟩ (.int .i64 s)).setCell ⟨B, 1, none⟩ (.int .i64 y)).heap[B + 1]? = some iob := by
    rw [Below.heap_setCell _ _ _ _ (by show B + 1 ≠ B; omega), Below.heap_setCell _ _ _ _ (by show B + 1 ≠ B; omega)]; exact hi
  have r1 : ∀ o, ((w.setCell ⟨B, 0, none⟩ (.int .i64 s)).alloc o).heap[B]? = some (.cells #[.int .i64 s, .int .i64 0] 59) := fun o => by rw [Below.heap_alloc _ _ _ (getElem?_lt q1)]; exact q1
  have r3 : ∀ o, (((w.setCell ⟨B, 0, none⟩ (.int .i64 s)).setCell ⟨B, 1, none⟩ (.int .i64 y)).alloc o).heap[B + 1]? = some iob := fun o => by rw [Below.heap_alloc _ _ _ (getElem?_lt q3)]; exact q3
  have c4 : ∀ o, ((w.setCell ⟨B, 0, none⟩ (.int .i64 s)).alloc o).cell? ⟨B, 1, none⟩ = some (.int .i64 0) := fun o => cell_of (r1 o) 1
  have g4 : ∀ o, ((w.setCell ⟨B, 0, none⟩ (.int .i64 s)).alloc o).frozen? ⟨B, 1, none⟩ = false := fun o => frz_of (r1 o) 1
  have c5 : ∀ o, (((w.setCell ⟨B, 0, none⟩ (.int .i64 s)).setCell ⟨B, 1, none⟩ (.int .i64 y)).alloc o).cell? ⟨B + 1, 0, none⟩ = some (.bool false) := fun o => cell_of (r3 o) 0
  have g5 : ∀ o, (((w.setCell ⟨B, 0, none⟩ (.int .i64 s)).setCell ⟨B, 1, none⟩ (.int .i64 y)).alloc o).frozen? ⟨B + 1, 0, none⟩ = false := fun o => frz_of (r3 o) 0
  have F : ∀ o, ((((w.setCell ⟨B, 0, none⟩ (.int .i64 s)).setCell ⟨B, 1, none⟩ (.int .i64 y)).setCell ⟨B + 1, 0, none⟩ (.bool true)).alloc o).heap[B]? = some (.cells #[.int .i64 s, .int .i64 y] 59) ∧ ((((w.setCell ⟨B, 0, none⟩ (.int .i64 s)).setCell ⟨B, 1, none⟩ (.int .i64 y)).setCell ⟨B + 1, 0, none⟩ (.bool true)).alloc o).heap[B + 1]? = some (.cells #[.bool true] 4) ∧
      KT B w ((((w.setCell ⟨B, 0, none⟩ (.int .i64 s)).setCell ⟨B, 1, none⟩ (.int .i64 y)).setCell ⟨B + 1, 0, none⟩ (.bool true)).alloc o) := by
    intro o
    have q4 : (((w.setCell ⟨B, 0, none⟩ (.int .i64 s)).setCell ⟨B, 1, none⟩ (.int .i64 y)).setCell ⟨B + 1, 0, none⟩ (.bool true)).heap[B]? = some (.cells #[.int .i64 s, .int .i64 y] 59) := by
      rw [Below.heap_setCell _ _ _ _ (by show B ≠ B + 1; omega)]; exact q2
    have q5 : (((w.setCell ⟨B, 0, none⟩ (.int .i64 s)).setCell ⟨B, 1, none⟩ (.int .i64 y)).setCell ⟨B + 1, 0, none⟩ (.bool true)).heap[B + 1]? = some (.cells #[.bool true] 4) := by rw [block_set q3]; rfl
    refine ⟨?_, ?_, ((((KT.refl B w).set ⟨B, 0, none⟩ (Or.inl rfl) _).set ⟨B, 1, none⟩ (Or.inl rfl) _).set ⟨B + 1, 0, none⟩ (Or.inr rfl) _).alloc o⟩
    · rw [Below.heap_alloc _ _ _ (getElem?_lt q4)]; exact q4
    · rw [Below.heap_alloc _ _ _ (getElem?_lt q5)]; exact q5
  clear q1 q2 q3 r1 r3
  have FF : Hid _ := F
  clear F
  unfold fl
  refine callsD_of_wpS Try.func89 rfl fun c₀ cs hu => ?_
  apply wpS_seq
  apply wpS_region
  generalize hrest : (Code.seq _ _) = rest
  simp [wpOpsS, go_sem, recoverD, hu, Try.ntmps89, Exit.thenS]
  subst hrest
  refine wpS_of_wp ?_
  rw [lit17]
  go_wp2
  have F := FF.out
  clear k0 k1 c0 c1 c2 g0 g1 g2 hta c4 g4 c5 g5
  cases c₀
  simp [bodyPostS, results, Try.results89]
  exact F _
end Go.Proofs.Ytiohkdpmgkobiaa
