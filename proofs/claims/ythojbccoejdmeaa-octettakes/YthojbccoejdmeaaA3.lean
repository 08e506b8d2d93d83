/- What OctetTakes hands to Take, as a call. -/
import Derived.Test.YthojbccoejdmeaaA2
import Derived.Test.YthojbccoejdmeaaU2
import Derived.Test.YthojbccoejdmeaaV
import Derived.Maps.AppendAt
namespace Go.Proofs.Ythojbccoejdmeaa
open Go.RowKit
theorem ent11 (args : Array Value) (W : World) : (callFunc 11 args).run Try.prog W = .ok (.enter 11 args) W := enter_of Try.func11 (by kernel_rfl) (by kernel_rfl) args W
theorem cell_of {w : World} {b : Nat} {c : Array Value} {t : TypeId} (h : w.heap[b]? = some (.cells c t)) (k : Nat) : w.cell? ⟨b, k, none⟩ = c[k]? := by
  simp only [World.cell?, h]; rfl
theorem frz_of {w : World} {b : Nat} {c : Array Value} {t : TypeId} (h : w.heap[b]? = some (.cells c t)) (k : Nat) : w.frozen? ⟨b, k, none⟩ = false := by
  simp only [World.frozen?, h]; simp
theorem lt_of_get {w : World} {j : Nat} {o : Obj} (e : w.heap[j]? = some o) : j < w.heap.size := (Array.getElem?_eq_some_iff.1 e).1
theorem heap_new (w : World) (o : Obj) : (w.alloc o).heap[w.heap.size]? = some o := by
  show (w.heap.push o)[w.heap.size]? = _
  rw [Array.getElem?_push, if_pos rfl]
theorem block_set {w : World} {g i : Nat} {cs : Array Value} {t : TypeId} (h : w.heap[g]? = some (.cells cs t)) (v : Value) : (w.setCell ⟨g, i, none⟩ v).heap[g]? = some (.cells (cs.setIfInBounds i v) t) := by
  simp [World.setCell, Array.getElem?_modify, h]
/-- A slice of strings in a variable, an In, and other blocks. -/
structure GS (b0 : Nat) (w0 : World) (G I : Nat) (gv : Value) (gs : List Value) (s : ByteArray) (y : Int) (oth : List (Nat × Obj)) (w : World) : Prop where
  below : Below b0 w0 w
  bG : b0 ≤ G
  bI : b0 ≤ I
  iG : I ≠ G
  got : w.heap[G]? = some (.cells #[gv] 27)
  own : w.ownsRow b0 9 1 gv gs.length gs
  gG : gv.ownBlock ≠ some G
  gI : gv.ownBlock ≠ some I
  inp : InIs w I s y
  oth : ∀ p ∈ oth, w.heap[p.1]? = some p.2 ∧ p.1 ≠ G ∧ p.1 ≠ I ∧ gv.ownBlock ≠ some p.1 ∧ b0 ≤ p.1
theorem slice_of_own {w : World} {base e size : Nat} {v : Value} {n : Nat} {xs : List Value} (h : w.ownsRow base e size v n xs) : ∃ ao cap, v = .slice ao n cap := by
  rcases h.2 with ⟨rfl, rfl⟩ | ⟨g, cap, cur, rfl, _⟩
  · exact ⟨_, _, rfl⟩
  · exact ⟨_, _, rfl⟩
section
variable {b0 : Nat} {w0 : World} {G I : Nat} {gv : Value} {gs : List Value} {s : ByteArray} {y : Int} {oth : List (Nat × Obj)} {w : World}
theorem GS.own_lt (h : GS b0 w0 G I gv gs s y oth w) {k : Nat} (e : gv.ownBlock = some k) : k < w.heap.size ∧ b0 ≤ k := by
  have := h.own.lt k e
  exact ⟨this.2, this.1⟩
theorem GS.ki {w' : World} {s' : ByteArray} {y' : Int} (h : GS b0 w0 G I gv gs s y oth w) (k : KI I w w') (hi : InIs w' I s' y') : GS b0 w0 G I gv gs s' y' oth w' := by
  have same : ∀ {j : Nat} {o : Obj}, w.heap[j]? = some o → j ≠ I → w'.heap[j]? = some o := fun e h1 => (k.block _ (lt_of_get e) h1).trans e
  refine ⟨?_, h.bG, h.bI, h.iG, same h.got (Ne.symm h.iG), ⟨h.own.1, ?_⟩, h.gG, h.gI, hi, fun p hp => ?_⟩
  · refine ⟨k.os.trans h.below.os, k.tape.trans h.below.tape, k.output.trans h.below.output, Nat.le_trans h.below.size k.size, fun j hj => ?_⟩
    have h1 := h.bI
    have hs : j < w.heap.size := by have := lt_of_get h.got; have := h.bG; omega
    rw [k.block j hs (by omega)]
    exact h.below.block j hj
  · rcases h.own.2 with h1 | ⟨g, cap, cur, e, h2, h3, h4⟩
    · exact Or.inl h1
    · refine Or.inr ⟨g, cap, cur, e, h2, same h3 ?_, h4⟩
      intro e2; exact h.gI (by rw [e, e2]; rfl)
  · obtain ⟨o1, o2, o3, o4, o5⟩ := h.oth p hp
    exact ⟨same o1 o3, o2, o3, o4, o5⟩
theorem GS.ofBelow {w' : World} (h : GS b0 w0 G I gv gs s y oth w) (hb : Below w.heap.size w w') : GS b0 w0 G I gv gs s y oth w' := h.ki (KI.ofBelow hb) (h.inp.below hb)
theorem GS.forget {oth' : List (Nat × Obj)} (h : GS b0 w0 G I gv gs s y oth w) (hs : ∀ p ∈ oth', p ∈ oth) : GS b0 w0 G I gv gs s y oth' w := { h with oth := fun p hp => h.oth p (hs p hp) }
theorem GS.alloc (h : GS b0 w0 G I gv gs s y oth w) (o : Obj) : GS b0 w0 G I gv gs s y ((w.heap.size, o) :: oth) (w.alloc o) := by
  have h1 := h.ofBelow (Below.alloc (Below.refl _ w) (Nat.le_refl _) o)
  refine { h1 with oth := fun p hp => ?_ }
  rcases List.mem_cons.1 hp with rfl | hp
  · refine ⟨heap_new _ _, ?_, ?_, ?_, ?_⟩
    · have := lt_of_get h.got; show w.heap.size ≠ G; omega
    · have := h.inp.lt; show w.heap.size ≠ I; omega
    · intro e; have := (h.own_lt e).1; exact absurd this (Nat.lt_irrefl _)
    · have := lt_of_get h.got; have := h.bG; show b0 ≤ w.heap.size; omega
  · exact h1.oth p hp
theorem GS.size (h : GS b0 w0 G I gv gs s y oth w) : b0 ≤ w.heap.size := by have := lt_of_get h.got; have := h.bG; omega
/-- What an append leaves, and the store behind it. -/
theorem GS.grown {w' : World} {v' : Value} {gs' : List Value} (h : GS b0 w0 G I gv gs s y oth w) (ho : w'.ownsRow b0 9 1 v' gs'.length gs') (hg : w.grownBy w' gv.ownBlock) (ha : v'.ownBlock = gv.ownBlock ∨ v'.ownBlock = some w.heap.size) :
    w'.cell? ⟨G, 0, none⟩ = some gv ∧ w'.frozen? ⟨G, 0, none⟩ = false ∧ GS b0 w0 G I v' gs' s y oth (w'.setCell ⟨G, 0, none⟩ v') := by
  have hGs := lt_of_get h.got
  have same : ∀ {j : Nat} {o : Obj}, w.heap[j]? = some o → gv.ownBlock ≠ some j → w'.heap[j]? = some o := fun e h1 => (hg.block _ (lt_of_get e) (Ne.symm h1)).trans e
  have hne : ∀ {j : Nat}, j < w.heap.size → gv.ownBlock ≠ some j → v'.ownBlock ≠ some j := fun hj h1 => by
    rcases ha with e | e
    · rw [e]; exact h1
    · rw [e]; intro e2; injection e2 with e2; omega
  have g1 := same h.got h.gG
  have other : ∀ {j : Nat}, j ≠ G → (w'.setCell ⟨G, 0, none⟩ v').heap[j]? = w'.heap[j]? := fun hj => Below.heap_setCell _ _ _ _ (by exact hj)
  have hil := h.inp.lt
  have hIcell : ∀ o, w'.cell? ⟨I, o, none⟩ = w.cell? ⟨I, o, none⟩ ∧ w'.frozen? ⟨I, o, none⟩ = w.frozen? ⟨I, o, none⟩ := fun o =>
    ⟨World.cell?_of_block (w := w) (hg.block I hil (Ne.symm h.gI)), World.frozen?_of_block (w := w) (hg.block I hil (Ne.symm h.gI))⟩
  refine ⟨cell_of g1 0, frz_of g1 0, ?_, h.bG, h.bI, h.iG, by rw [block_set g1]; rfl, ⟨ho.1, ?_⟩, hne hGs h.gG, hne hil h.gI, ?_, fun p hp => ?_⟩
  · refine ⟨hg.os.trans h.below.os, hg.tape.trans h.below.tape, hg.output.trans h.below.output, Nat.le_trans h.below.size (by simpa [World.setCell] using hg.size), fun j hj => ?_⟩
    have := h.bG
    rw [other (by omega), hg.block j (by omega) (fun e => by have := (h.own_lt e.symm).2; omega)]
    exact h.below.block j hj
  · rcases ho.2 with h1 | ⟨g, cap, cur, e, h2, h3, h4⟩
    · exact Or.inl h1
    · refine Or.inr ⟨g, cap, cur, e, h2, (other ?_).trans h3, h4⟩
      intro e2
      exact hne hGs h.gG (by rw [e, e2]; rfl)
  · have ne : ∀ o, (⟨G, 0, none⟩ : Addr) ≠ ⟨I, o, none⟩ := fun o e => h.iG (congrArg Addr.block e).symm
    refine ⟨?_, ?_, ?_, ?_⟩
    · rw [World.cell?_setCell_other _ _ _ _ (ne 0), (hIcell 0).1]; exact h.inp.c0
    · rw [World.cell?_setCell_other _ _ _ _ (ne 1), (hIcell 1).1]; exact h.inp.c1
    · rw [World.frozen?_setCell, (hIcell 0).2]; exact h.inp.f0
    · rw [World.frozen?_setCell, (hIcell 1).2]; exact h.inp.f1
  · obtain ⟨o1, o2, o3, o4, o5⟩ := h.oth p hp
    exact ⟨(other o2).trans (same o1 o4), o2, o3, hne (lt_of_get o1) o4, o5⟩
end
def CV (I : Nat) (gv : Value) (s : ByteArray) (ps : Nat → Prt) (k : Nat) : Nat → Value → Prop
  | 0, v => v = gv
  | 1, v => v = .pointer (some ⟨I, 0, none⟩)
  | 2, v => v = .agg #[.int .i64 ((ps k).kd : Nat), .int .i64 (ps k).n]
  | 3, v => v = .string (oAt s ps k)
  | _, _ => True

/-- Phases of 'got = append(got, part(in, p))'. -/
structure CPh (b0 : Nat) (w0 : World) (G I : Nat) (gv : Value) (gs : List Value) (s0 s1 : ByteArray) (x : Value) (oth : List (Nat × Obj)) (done : Nat → Bool) (f : Nat → Value) (W : World) : Prop where
  o0 : done 0 = false → done 5 = false
  o3 : done 3 = false → done 4 = false
  o4 : done 4 = false → done 5 = false
  o5 : done 5 = false → done 6 = false
  a : done 3 = false → GS b0 w0 G I gv gs s0 0 oth W
  b : done 3 = true → done 4 = false → GS b0 w0 G I gv gs s1 0 oth W
  c : done 4 = true → done 5 = false → GS b0 w0 G I gv gs s1 0 oth W ∧ ∃ k, f 4 = .slice (some ⟨k, 0, none⟩) 1 1 ∧ W.cell? ⟨k, 0, none⟩ = some x
  d : done 5 = true → done 6 = false → W.cell? ⟨G, 0, none⟩ = some gv ∧ W.frozen? ⟨G, 0, none⟩ = false ∧ GS b0 w0 G I (f 5) (gs ++ [x]) s1 0 oth (W.setCell ⟨G, 0, none⟩ (f 5))
  e : done 6 = true → ∃ v', GS b0 w0 G I v' (gs ++ [x]) s1 0 oth W
structure DPn (b0 : Nat) (w0 : World) (G I : Nat) (gv : Value) (gs : List Value) (s0 : ByteArray) (oth : List (Nat × Obj)) (done : Nat → Bool) (f : Nat → Value) (W : World) : Prop where
  no3 : done 3 = false
  no4 : done 4 = false
  no5 : done 5 = false
  st : GS b0 w0 G I gv gs s0 0 oth W
section
variable {b0 : Nat} {w0 : World} {G I : Nat} {gv x : Value} {gs : List Value} {s0 s1 : ByteArray} {oth : List (Nat × Obj)} {w W : World} {done : Nat → Bool} {f : Nat → Value}
theorem DPn.pure (h : DPn b0 w0 G I gv gs s0 oth done f W) (i : Nat) (hi : i ≠ 3 ∧ i ≠ 4 ∧ i ≠ 5) (v : Value) : DPn b0 w0 G I gv gs s0 oth (updB done i) (upd f i v) W :=
  ⟨(if_neg (Ne.symm hi.1)).trans h.no3, (if_neg (Ne.symm hi.2.1)).trans h.no4, (if_neg (Ne.symm hi.2.2)).trans h.no5, h.st⟩
theorem DPn.cellG (h : DPn b0 w0 G I gv gs s0 oth done f W) : W.cell? ⟨G, 0, none⟩ = some gv := cell_of h.st.got 0
theorem DPn.cellsP {Pl : Nat} {a b : Value} (h : DPn b0 w0 G I gv gs s0 oth done f W) (hm : (Pl, .cells #[a, b] 26) ∈ oth) : W.cell? ⟨Pl, 0, none⟩ = some a ∧ W.cell? ⟨Pl, 1, none⟩ = some b := ⟨cell_of (h.st.oth _ hm).1 0, cell_of (h.st.oth _ hm).1 1⟩
theorem CPh.pure (h : CPh b0 w0 G I gv gs s0 s1 x oth done f W) (i : Nat) (hi : i ≠ 3 ∧ i ≠ 4 ∧ i ≠ 5 ∧ i ≠ 6) (v : Value) : CPh b0 w0 G I gv gs s0 s1 x oth (updB done i) (upd f i v) W := by
  have e3 : updB done i 3 = done 3 := if_neg (Ne.symm hi.1)
  have e4 : updB done i 4 = done 4 := if_neg (Ne.symm hi.2.1)
  have e5 : updB done i 5 = done 5 := if_neg (Ne.symm hi.2.2.1)
  have e6 : updB done i 6 = done 6 := if_neg (Ne.symm hi.2.2.2)
  have f4 : upd f i v 4 = f 4 := if_neg (Ne.symm hi.2.1)
  have f5 : upd f i v 5 = f 5 := if_neg (Ne.symm hi.2.2.1)
  refine ⟨fun h0 => ?_, by rw [e3, e4]; exact h.o3, by rw [e4, e5]; exact h.o4, by rw [e5, e6]; exact h.o5, by rw [e3]; exact h.a, by rw [e3, e4]; exact h.b, by rw [e4, e5, f4]; exact h.c, by rw [e5, e6, f5]; exact h.d, by rw [e6]; exact h.e⟩
  rw [e5]
  by_cases hi0 : (0 : Nat) = i
  · rw [show updB done i 0 = true from if_pos hi0] at h0; cases h0
  · rw [show updB done i 0 = done 0 from if_neg hi0] at h0; exact h.o0 h0
theorem CPh.anyGS (h : CPh b0 w0 G I gv gs s0 s1 x oth done f W) (h5 : done 5 = false) : ∃ s', GS b0 w0 G I gv gs s' 0 oth W := by
  cases h3 : done 3 with
  | false => exact ⟨_, h.a h3⟩
  | true =>
    cases h4 : done 4 with
    | false => exact ⟨_, h.b h3 h4⟩
    | true => exact ⟨_, (h.c h4 h5).1⟩
theorem CPh.cellG (h : CPh b0 w0 G I gv gs s0 s1 x oth done f W) (h5 : done 5 = false) : W.cell? ⟨G, 0, none⟩ = some gv := by
  obtain ⟨s', hs⟩ := h.anyGS h5
  exact cell_of hs.got 0
theorem CPh.cellsP {Pl : Nat} {a b : Value} (h : CPh b0 w0 G I gv gs s0 s1 x oth done f W) (hm : (Pl, .cells #[a, b] 26) ∈ oth) : W.cell? ⟨Pl, 0, none⟩ = some a ∧ W.cell? ⟨Pl, 1, none⟩ = some b := by
  have key : ∀ {gv' gs' s' W'}, GS b0 w0 G I gv' gs' s' 0 oth W' → W'.cell? ⟨Pl, 0, none⟩ = some a ∧ W'.cell? ⟨Pl, 1, none⟩ = some b := fun h => ⟨cell_of (h.oth _ hm).1 0, cell_of (h.oth _ hm).1 1⟩
  cases h5 : done 5 with
  | false => obtain ⟨s', hs⟩ := h.anyGS h5; exact key hs
  | true =>
    cases h6 : done 6 with
    | true => obtain ⟨v', hs⟩ := h.e h6; exact key hs
    | false =>
      obtain ⟨_, _, hs⟩ := h.d h5 h6
      have hne := (hs.oth _ hm).2.1
      have k1 := key hs
      rw [World.cell?_setCell_other _ _ _ _ (fun e => hne (congrArg Addr.block e).symm), World.cell?_setCell_other _ _ _ _ (fun e => hne (congrArg Addr.block e).symm)] at k1
      exact k1
theorem CPh.called {W' : World} (h : CPh b0 w0 G I gv gs s0 s1 x oth done f W) (hx : GS b0 w0 G I gv gs s1 0 oth W') (hdn : done 3 = false) (v : Value) : CPh b0 w0 G I gv gs s0 s1 x oth (updB done 3) (upd f 3 v) W' := by
  have n4 := h.o3 hdn
  have n5 := h.o4 n4
  have n6 := h.o5 n5
  have e3 : updB done 3 3 = true := if_pos rfl
  have e4 : updB done 3 4 = done 4 := if_neg (by decide)
  have e5 : updB done 3 5 = done 5 := if_neg (by decide)
  have e6 : updB done 3 6 = done 6 := if_neg (by decide)
  have e0 : updB done 3 0 = done 0 := if_neg (by decide)
  refine ⟨by rw [e0, e5]; exact h.o0, by rw [e3]; exact (fun e => by cases e), by rw [e4, e5]; exact h.o4, by rw [e5, e6]; exact h.o5, by rw [e3]; exact (fun e => by cases e), fun _ _ => hx, by rw [e4, n4]; exact (fun e => by cases e), by rw [e5, n5]; exact (fun e => by cases e), by rw [e6, n6]; exact (fun e => by cases e)⟩
theorem CPh.built (h : CPh b0 w0 G I gv gs s0 s1 x oth done f W) (h3 : done 3 = true) (h4 : done 4 = false) : CPh b0 w0 G I gv gs s0 s1 x oth (updB done 4) (upd f 4 (.slice (some ⟨W.heap.size, 0, none⟩) 1 1)) (W.alloc (.cells #[x] 9)) := by
  have n5 := h.o4 h4
  have n6 := h.o5 n5
  have e3 : updB done 4 3 = done 3 := if_neg (by decide)
  have e4 : updB done 4 4 = true := if_pos rfl
  have e5 : updB done 4 5 = done 5 := if_neg (by decide)
  have e6 : updB done 4 6 = done 6 := if_neg (by decide)
  have e0 : updB done 4 0 = done 0 := if_neg (by decide)
  refine ⟨by rw [e0, e5]; exact h.o0, by rw [e3, h3]; exact (fun e => by cases e), by rw [e4]; exact (fun e => by cases e), by rw [e5, e6]; exact h.o5, by rw [e3, h3]; exact (fun e => by cases e), by rw [e4]; exact (fun _ e => by cases e), fun _ _ => ⟨?_, W.heap.size, rfl, cell_of (heap_new _ _) 0⟩, by rw [e5, n5]; exact (fun e => by cases e), by rw [e6, n6]; exact (fun e => by cases e)⟩
  exact (h.b h3 h4).ofBelow (Below.alloc (Below.refl _ W) (Nat.le_refl _) _)
theorem CPh.stored (h : CPh b0 w0 G I gv gs s0 s1 x oth done f W) (h5 : done 5 = true) {v' : Value} {W' : World} (hx : GS b0 w0 G I v' (gs ++ [x]) s1 0 oth W') : CPh b0 w0 G I gv gs s0 s1 x oth (updB done 6) (upd f 6 undef) W' := by
  have n4 : done 4 = true := by
    cases h4 : done 4 with
    | true => rfl
    | false => have := h.o4 h4; rw [h5] at this; cases this
  have n3 : done 3 = true := by
    cases h3 : done 3 with
    | true => rfl
    | false => have := h.o3 h3; rw [n4] at this; cases this
  have e3 : updB done 6 3 = done 3 := if_neg (by decide)
  have e4 : updB done 6 4 = done 4 := if_neg (by decide)
  have e5 : updB done 6 5 = done 5 := if_neg (by decide)
  have e6 : updB done 6 6 = true := if_pos rfl
  have e0 : updB done 6 0 = done 0 := if_neg (by decide)
  refine ⟨by rw [e0, e5]; exact h.o0, by rw [e3, e4]; exact h.o3, by rw [e4, e5]; exact h.o4, by rw [e5, h5]; exact (fun e => by cases e), by rw [e3, n3]; exact (fun e => by cases e), by rw [e4, n4]; exact (fun _ e => by cases e), by rw [e5, h5]; exact (fun _ e => by cases e), by rw [e6]; exact (fun _ e => by cases e), fun _ => ⟨v', hx⟩⟩
theorem info9 : (Try.prog.info? 9).map (fun i => (i.zero, i.size, i.bytes)) = some (some (.string ⟨#[]⟩), 1, 16) := by kernel_rfl
theorem CPh.wp_app5 {o : Oper} {a : Act} {K : Act → World → Prop} {Q : Exit → Act → World → Prop} {kk : Nat} (h : CPh b0 w0 G I gv gs s0 s1 x oth done f W) (h0 : done 0 = true) (h4 : done 4 = true) (h5 : done 5 = false)
    (ho : o.op = .call { callee := .builtin .append, args := #[.tmp 12, .tmp 16], argTypes := #[27, 27] }) (hx : a.eval (.tmp 16) = .slice (some ⟨kk, 0, none⟩) 1 1) (hs : a.eval (.tmp 12) = gv) (hck : W.cell? ⟨kk, 0, none⟩ = some x) (hg : GS b0 w0 G I gv gs s1 0 oth W) (h1 : x.oneCell' = true) (hfew : gs.length ≤ 1000)
    (hK : ∀ v' W', CPh b0 w0 G I gv gs s0 s1 x oth (updB done 5) (upd f 5 v') W' → K (a.put o.dst v') W') : Oper.wp Try.prog o a W K Q := by
  obtain ⟨i, hi, hr⟩ := Option.map_eq_some_iff.1 info9
  simp only [Prod.mk.injEq] at hr
  obtain ⟨hz, hsz, hby⟩ := hr
  obtain ⟨v', W', hr, r2, r3, r4, r5⟩ := run_append_own_at (P := Try.prog) W b0 27 o.type 9 i (.string ⟨#[]⟩) 1 16 Try.underlying27 hi hz hsz hby rfl (by decide) gv gs.length gs hg.own ⟨kk, 0, none⟩ 1 1 [x] rfl (fun j u hj => by
    rcases j with _ | j
    · simp at hj; subst hj
      have : (⟨kk, 0, none⟩ : Addr).add 0 = ⟨kk, 0, none⟩ := by simp [Addr.add]
      rw [this]; exact hck
    · simp at hj) (fun u hu => by simp at hu; rw [hu]; exact h1) (by unfold maxLen; omega) (by omega) hg.size
  have hgr := hg.grown (gs' := gs ++ [x]) (by rw [List.length_append]; exact r2) r3 r5
  unfold Oper.wp execOp
  simp only [ho, resolve, invoke, builtin, Sem.run_bind, Sem.run_pure, Result.andThen_ok, List.map_toArray, List.map_cons, List.map_nil, hs, hx, hr]
  have n6 := h.o5 h5
  have n3 : done 3 = true := by
    cases h3 : done 3 with
    | true => rfl
    | false => have := h.o3 h3; rw [h4] at this; cases this
  have e3 : updB done 5 3 = done 3 := if_neg (by decide)
  have e4 : updB done 5 4 = done 4 := if_neg (by decide)
  have e5 : updB done 5 5 = true := if_pos rfl
  have e6 : updB done 5 6 = done 6 := if_neg (by decide)
  have e0 : updB done 5 0 = done 0 := if_neg (by decide)
  refine hK v' W' ⟨by rw [e0, h0]; exact (fun e => by cases e), by rw [e3, e4]; exact h.o3, by rw [e4, h4]; exact (fun e => by cases e), by rw [e5]; exact (fun e => by cases e), by rw [e3, n3]; exact (fun e => by cases e), by rw [e4, h4]; exact (fun _ e => by cases e), by rw [e5]; exact (fun _ e => by cases e), fun _ _ => hgr, by rw [e6, n6]; exact (fun e => by cases e)⟩
end

/-- The parts that a slice has. -/
def PartsIn (ao : Option Addr) (n ob : Nat) (ps : Nat → Prt) (oth : List (Nat × Obj)) : Prop :=
  0 < n → ∃ pc, ao = some ⟨ob, 0, none⟩ ∧ (ob, Obj.cells pc 26) ∈ oth ∧ ∀ j, j < n → pc[j * 2]? = some (.int .i64 ((ps j).kd : Nat)) ∧ pc[j * 2 + 1]? = some (.int .i64 (ps j).n)
def TakesEnd (b0 : Nat) (w0 : World) (G I n m : Nat) (ps : Nat → Prt) (s : ByteArray) (oth : List (Nat × Obj)) (e : Ending) (w' : World) : Prop :=
  (m = n ∧ e = .returned (.tuple #[]) ∧ ∃ gv, GS b0 w0 G I gv (outs s ps m) (sAt s ps m) 0 oth w') ∨ (m < n ∧ e = .panicked [brk I] ∧ ∃ gv t, GS b0 w0 G I gv (outs s ps m) t (eAt s ps m) oth w')
theorem TakesEnd.ok {b0 : Nat} {w0 : World} {G I n : Nat} {ps : Nat → Prt} {s : ByteArray} {oth : List (Nat × Obj)} {w' : World} (h : ∃ gv, GS b0 w0 G I gv (outs s ps n) (sAt s ps n) 0 oth w') : TakesEnd b0 w0 G I n n ps s oth (.returned (.tuple #[])) w' := Or.inl ⟨rfl, rfl, h⟩
theorem TakesEnd.no {b0 : Nat} {w0 : World} {G I n m : Nat} {ps : Nat → Prt} {s : ByteArray} {oth : List (Nat × Obj)} {w' : World} (hm : m < n) (h : ∃ gv t, GS b0 w0 G I gv (outs s ps m) t (eAt s ps m) oth w') : TakesEnd b0 w0 G I n m ps s oth (.panicked [brk I]) w' := Or.inr ⟨hm, rfl, h⟩
set_option maxHeartbeats 1000000 in
theorem takes_do (b0 : Nat) (w0 : World) (G I O ob n cap m : Nat) (ao : Option Addr) (ps : Nat → Prt) (oth : List (Nat × Obj)) (s : ByteArray) (hs : s.size ≤ 1000) (hn12 : n ≤ 12) (hkd : ∀ j, j < n → (ps j).kd < 5) (hO : (O, Obj.cells #[.slice ao n cap] 22) ∈ oth) (hpt : PartsIn ao n ob ps oth)
    (hm : m ≤ n) (hgood : ∀ j, j < m → eAt s ps j = 0) (hend : m = n ∨ (m < n ∧ ¬ eAt s ps m = 0)) (w : World) (gv0 : Value) (h0 : GS b0 w0 G I gv0 [] s 0 oth w) :
    Calls Try.prog 11 #[.pointer (some ⟨I, 0, none⟩), .pointer (some ⟨O, 0, none⟩), .pointer (some ⟨G, 0, none⟩)] w fun e w' => TakesEnd b0 w0 G I n m ps s oth e w' := by
  have H0 : Hid (∃ gv, GS b0 w0 G I gv (outs s ps 0) (sAt s ps 0) 0 oth w) := ⟨gv0, h0⟩
  have hc : w.cell? ⟨O, 0, none⟩ = some (.slice ao n cap) := cell_of (h0.oth _ hO).1 0
  have HKD : Hid _ := hkd
  have HPT : Hid _ := hpt
  have HG : Hid _ := hgood
  have HE : Hid _ := hend
  clear h0 hkd hpt hgood hend hO
  go_enter Try.func11, Try.ntmps11
  go_wp2
  go_loopw [8] (fun i wr => ∃ k : Nat, k ≤ m ∧ i = .int .i64 (k : Nat) ∧ Hid (∃ gv, GS b0 w0 G I gv (outs s ps k) (sAt s ps k) 0 oth wr)) (fun i _ => n - (intOf i).toNat)
  case atStart => exact ⟨0, by omega, rfl, H0⟩
  case round =>
    obtain ⟨k, hk, rfl, hR⟩ := hrel
    clear H0
    rcases Nat.lt_or_ge k n with hkn | hge
    · obtain ⟨gv, hg⟩ := hR.out
      obtain ⟨pc, rfl, hmem, hpc⟩ := HPT.out (by omega)
      have hc0 : wr.cell? ⟨ob, k * 2, none⟩ = some (.int .i64 ((ps k).kd : Nat)) := (cell_of (hg.oth _ hmem).1 _).trans (hpc k hkn).1
      have hc1 : wr.cell? ⟨ob, k * 2 + 1, none⟩ = some (.int .i64 (ps k).n) := (cell_of (hg.oth _ hmem).1 _).trans (hpc k hkn).2
      have HS0 : Hid _ := hg.alloc (.cells #[.int .i64 ((ps k).kd : Nat), .int .i64 (ps k).n] 26)
      have HPl : Hid ((wr.heap.size, Obj.cells #[.int .i64 ((ps k).kd : Nat), .int .i64 (ps k).n] 26) ∈ ((wr.heap.size, Obj.cells #[.int .i64 ((ps k).kd : Nat), .int .i64 (ps k).n] 26) :: oth)) := List.mem_cons_self ..
      have hsk : (sAt s ps k).size ≤ 1000 := Nat.le_trans (sAt_le s ps k) hs
      have HFew : Hid ((Value.string (oAt s ps k)).oneCell' = true ∧ (outs s ps k).length ≤ 1000) := ⟨rfl, by rw [outs_length]; omega⟩
      have HKk : Hid ((ps k).kd < 5) := HKD.out k hkn
      clear hpc hmem hg hR
      rcases Nat.lt_or_ge k m with hkm | hkm
      · have HPt : Hid (∀ W, GS b0 w0 G I gv (outs s ps k) (sAt s ps k) 0 ((wr.heap.size, .cells #[.int .i64 ((ps k).kd : Nat), .int .i64 (ps k).n] 26) :: oth) W → Calls Try.prog 12 #[.pointer (some ⟨I, 0, none⟩), .agg #[.int .i64 ((ps k).kd : Nat), .int .i64 (ps k).n]] W fun e W' => e = .returned (.string (oAt s ps k)) ∧ GS b0 w0 G I gv (outs s ps k) (sAt s ps (k + 1)) 0 ((wr.heap.size, .cells #[.int .i64 ((ps k).kd : Nat), .int .i64 (ps k).n] 26) :: oth) W') := fun W hW =>
          (part_ok I (sAt s ps k) (by omega) (ps k).n W hW.inp (ps k).kd HKk.out (HG.out k hkm)).mono (fun e W' ⟨q1, q2, q3⟩ => ⟨q1, hW.ki q3 q2⟩)
        go_wp2_with fail
        refine wp_region_ph (fun f => ⟨#[.pointer (some ⟨I, 0, none⟩), .pointer (some ⟨O, 0, none⟩), .pointer (some ⟨G, 0, none⟩), undef, undef, .pointer (some ⟨wr.heap.size, 0, none⟩), .slice (some ⟨ob, 0, none⟩) n cap, .int .i64 (n : Nat), .int .i64 (k : Nat), .bool true, .pointer (some ⟨ob, k * 2, none⟩), .agg #[.int .i64 ((ps k).kd : Nat), .int .i64 (ps k).n], f 0, f 1, f 2, f 3, f 4, f 5, u18], []⟩) (CV I gv s ps k) (CPh b0 w0 G I gv (outs s ps k) (sAt s ps k) (sAt s ps (k + 1)) (.string (oAt s ps k)) ((wr.heap.size, .cells #[.int .i64 ((ps k).kd : Nat), .int .i64 (ps k).n] 26) :: oth)) (fun i => [u12, u13, u14, u15, u16, u17, undef].getD i undef) (by kernel_rfl) rfl rfl ?hIa ?hputa ?stepa ?fina
        case hIa => exact ⟨fun _ => rfl, fun _ => rfl, fun _ => rfl, fun _ => rfl, fun _ => HS0.out.ofBelow ⟨rfl, rfl, rfl, Nat.le_refl _, fun _ _ => rfl⟩, (fun e => by cases e), (fun e => by cases e), (fun e => by cases e), (fun e => by cases e)⟩
        case fina =>
          intro f W hP hV
          have H1 : Hid (∃ gv, GS b0 w0 G I gv (outs s ps (k + 1)) (sAt s ps (k + 1)) 0 oth W) := by
            obtain ⟨v', h⟩ := hP.e rfl
            exact ⟨v', by rw [outs_succ]; exact h.forget (fun p hp => List.mem_cons_of_mem _ hp)⟩
          clear hP hV HPt HPl HS0
          go_wp2
          go_roundw
          case rel => exact ⟨k + 1, by omega, by simp, H1⟩
          case measure => simp only [intOf]; omega
        case hputa =>
          repeat (refine ⟨fun f v => rfl, ?_⟩)
          trivial
        case stepa =>
          refine ⟨?_, ?_⟩
          · intro done f W hP hdn hd K hK
            clear hd
            have q := hP.cellG (hP.o0 hdn)
            go_simp
            exact hK _ _ rfl (hP.pure _ (by decide) _)
          refine ⟨?_, ?_⟩
          · intro done f W hP hdn hd K hK
            clear hd
            go_simp
            exact hK _ _ rfl (hP.pure _ (by decide) _)
          refine ⟨?_, ?_⟩
          · intro done f W hP hdn hd K hK
            clear hd
            have q := hP.cellsP HPl.out
            have q1 := q.1
            have q2 := q.2
            clear q
            go_simp
            exact hK _ _ rfl (hP.pure _ (by decide) _)
          refine ⟨?_, ?_⟩
          · intro done f W hP hdn hd K hK
            have d1 := (hd.1 rfl).2
            have e1 : done 1 = true := (hd.1 rfl).1
            have d2 := (hd.2.1 rfl).2
            have e2 : done 2 = true := (hd.2.1 rfl).1
            clear hd
            replace d1 : f 1 = .pointer (some ⟨I, 0, none⟩) := d1
            replace d2 : f 2 = .agg #[.int .i64 ((ps k).kd : Nat), .int .i64 (ps k).n] := d2
            generalize f 1 = x1 at *
            subst d1
            clear e1
            generalize f 2 = x2 at *
            subst d2
            clear e2
            have hx0 := hP.a hdn
            go_simp
            refine Calls.mono (HPt.out W hx0) ?_
            rintro e W' ⟨rfl, hx1⟩
            exact hK _ _ rfl (hP.called hx1 hdn _)
          refine ⟨?_, ?_⟩
          · intro done f W hP hdn hd K hK
            have d3 := (hd.1 rfl).2
            have e3 : done 3 = true := (hd.1 rfl).1
            clear hd
            replace d3 : f 3 = .string (oAt s ps k) := d3
            generalize f 3 = x3 at *
            subst d3
            have hx0 := hP.b e3 hdn
            go_simp
            exact hK _ _ trivial (hP.built e3 hdn)
          refine ⟨?_, ?_⟩
          · intro done f W hP hdn hd K hK
            have d0 := (hd.1 rfl).2
            have e0 : done 0 = true := (hd.1 rfl).1
            have d4 := (hd.2.1 rfl).2
            have e4 : done 4 = true := (hd.2.1 rfl).1
            clear hd
            replace d0 : f 0 = gv := d0
            have hx0 := hP.c e4 hdn
            obtain ⟨hg0, kk, hf4, hck⟩ := hx0
            generalize f 0 = x0 at *
            subst d0
            refine hP.wp_app5 e0 e4 hdn rfl (by exact hf4) rfl hck hg0 HFew.out.1 HFew.out.2 ?_
            intro v' W' hP'
            exact hK v' W' trivial hP'
          refine ⟨?_, ?_⟩
          · intro done f W hP hdn hd K hK
            have d5 := (hd.1 rfl).2
            have e5 : done 5 = true := (hd.1 rfl).1
            clear hd
            obtain ⟨hc1, hc2, hx⟩ := hP.d e5 hdn
            obtain ⟨ao5, cap5, hx5⟩ := slice_of_own hx.own
            have HX : Hid _ := hx
            clear d5 hx
            generalize f 5 = x5 at *
            subst hx5
            generalize (outs s ps k ++ [Value.string (oAt s ps k)]).length = l5 at *
            go_simp
            exact hK undef _ trivial (hP.stored e5 HX.out)
          trivial
      · obtain rfl : k = m := by omega
        have HNE : Hid (¬ eAt s ps k = 0) := by
          rcases HE.out with h | h
          · omega
          · exact h.2
        have HPt : Hid (∀ W, GS b0 w0 G I gv (outs s ps k) (sAt s ps k) 0 ((wr.heap.size, .cells #[.int .i64 ((ps k).kd : Nat), .int .i64 (ps k).n] 26) :: oth) W → Calls Try.prog 12 #[.pointer (some ⟨I, 0, none⟩), .agg #[.int .i64 ((ps k).kd : Nat), .int .i64 (ps k).n]] W fun e W' => e = .panicked [brk I] ∧ ∃ gv t, GS b0 w0 G I gv (outs s ps k) t (eAt s ps k) oth W') := fun W hW =>
          (part_no I (sAt s ps k) (by omega) (ps k).n W hW.inp (ps k).kd HKk.out HNE.out).mono (fun e W' ⟨q1, ⟨t, q2⟩, q3⟩ => ⟨q1, gv, t, (hW.ki q3 q2).forget (fun p hp => List.mem_cons_of_mem _ hp)⟩)
        go_wp2_with fail
        refine wp_region_ph (fun f => ⟨#[.pointer (some ⟨I, 0, none⟩), .pointer (some ⟨O, 0, none⟩), .pointer (some ⟨G, 0, none⟩), undef, undef, .pointer (some ⟨wr.heap.size, 0, none⟩), .slice (some ⟨ob, 0, none⟩) n cap, .int .i64 (n : Nat), .int .i64 (k : Nat), .bool true, .pointer (some ⟨ob, k * 2, none⟩), .agg #[.int .i64 ((ps k).kd : Nat), .int .i64 (ps k).n], f 0, f 1, f 2, f 3, f 4, f 5, u18], []⟩) (CV I gv s ps k) (DPn b0 w0 G I gv (outs s ps k) (sAt s ps k) ((wr.heap.size, .cells #[.int .i64 ((ps k).kd : Nat), .int .i64 (ps k).n] 26) :: oth)) (fun i => [u12, u13, u14, u15, u16, u17, undef].getD i undef) (by kernel_rfl) rfl rfl ?hIb ?hputb ?stepb ?finb
        case hIb => exact ⟨rfl, rfl, rfl, HS0.out.ofBelow ⟨rfl, rfl, rfl, Nat.le_refl _, fun _ _ => rfl⟩⟩
        case finb =>
          intro f W hP hV
          exact absurd hP.no3 (by decide)
        case hputb =>
          repeat (refine ⟨fun f v => rfl, ?_⟩)
          trivial
        case stepb =>
          refine ⟨?_, ?_⟩
          · intro done f W hP hdn hd K hK
            clear hd
            have q := hP.cellG
            go_simp
            exact hK _ _ rfl (hP.pure _ (by decide) _)
          refine ⟨?_, ?_⟩
          · intro done f W hP hdn hd K hK
            clear hd
            go_simp
            exact hK _ _ rfl (hP.pure _ (by decide) _)
          refine ⟨?_, ?_⟩
          · intro done f W hP hdn hd K hK
            clear hd
            have q := hP.cellsP HPl.out
            have q1 := q.1
            have q2 := q.2
            clear q
            go_simp
            exact hK _ _ rfl (hP.pure _ (by decide) _)
          refine ⟨?_, ?_⟩
          · intro done f W hP hdn hd K hK
            have d1 := (hd.1 rfl).2
            have e1 : done 1 = true := (hd.1 rfl).1
            have d2 := (hd.2.1 rfl).2
            have e2 : done 2 = true := (hd.2.1 rfl).1
            clear hd
            replace d1 : f 1 = .pointer (some ⟨I, 0, none⟩) := d1
            replace d2 : f 2 = .agg #[.int .i64 ((ps k).kd : Nat), .int .i64 (ps k).n] := d2
            generalize f 1 = x1 at *
            subst d1
            clear e1
            generalize f 2 = x2 at *
            subst d2
            clear e2
            have hx0 := hP.st
            go_simp
            refine Calls.mono (HPt.out W hx0) ?_
            rintro e W' ⟨rfl, hx1⟩
            go_simp
            exact ⟨rfl, TakesEnd.no (by omega) hx1⟩
          refine ⟨?_, ?_⟩
          · intro done f W hP hdn hd K hK
            have d3 := (hd.1 rfl).2
            have e3 : done 3 = true := (hd.1 rfl).1
            clear hd
            replace d3 : f 3 = .string (oAt s ps k) := d3
            exact absurd (hP.no3.symm.trans e3) (by decide)
          refine ⟨?_, ?_⟩
          · intro done f W hP hdn hd K hK
            have d0 := (hd.1 rfl).2
            have e0 : done 0 = true := (hd.1 rfl).1
            have d4 := (hd.2.1 rfl).2
            have e4 : done 4 = true := (hd.2.1 rfl).1
            clear hd
            replace d0 : f 0 = gv := d0
            exact absurd (hP.no4.symm.trans e4) (by decide)
          refine ⟨?_, ?_⟩
          · intro done f W hP hdn hd K hK
            have d5 := (hd.1 rfl).2
            have e5 : done 5 = true := (hd.1 rfl).1
            clear hd
            exact absurd (hP.no5.symm.trans e5) (by decide)
          trivial
    · obtain rfl : k = n := by omega
      have hmk : m = k := by omega
      subst hmk
      obtain ⟨gv, hg⟩ := hR.out
      have HF : Hid _ := hg
      clear hg hR
      go_wp2
      go_returns
      exact TakesEnd.ok ⟨gv, HF.out⟩
end Go.Proofs.Ythojbccoejdmeaa
