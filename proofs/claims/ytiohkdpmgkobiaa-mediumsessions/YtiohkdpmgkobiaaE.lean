/- Open, Size, Loose, Detach with nothing loose, an operation on a device that is gone, of a pool of one device, as calls. -/
import Derived.Test.YtiohkdpmgkobiaaD
import Derived.BigQuiet
namespace Go.Proofs.Ytiohkdpmgkobiaa
open Go.RowKit
section
variable {b0 : Nat} {w0 : World} {L : Loc} {st : St} {lv : Value} {oth : List (Nat × Obj)} {w : World}
theorem One.dc (h : One b0 w0 L st lv oth w) : w.cell? ⟨L.D, 0, none⟩ = some (.int .i64 st.serial) ∧ w.cell? ⟨L.D, 1, none⟩ = some (.int .i64 st.session) ∧ w.cell? ⟨L.D, 2, none⟩ = some (.bool st.there) ∧ w.cell? ⟨L.D, 3, none⟩ = some (.slice (some ⟨L.S, 0, none⟩) st.n st.n) ∧
    w.cell? ⟨L.D, 4, none⟩ = some lv ∧ w.cell? ⟨L.D, 5, none⟩ = some (.bool st.aw) ∧ w.cell? ⟨L.D, 6, none⟩ = some (.int .i64 st.al) ∧ w.cell? ⟨L.D, 7, none⟩ = some (.bool st.ad) :=
  ⟨cell_of h.dev 0, cell_of h.dev 1, cell_of h.dev 2, cell_of h.dev 3, cell_of h.dev 4, cell_of h.dev 5, cell_of h.dev 6, cell_of h.dev 7⟩
theorem One.pc (h : One b0 w0 L st lv oth w) : w.cell? ⟨L.P, 0, none⟩ = some (.slice (some ⟨L.R, 0, none⟩) 1 L.cap) ∧ w.cell? ⟨L.P, 1, none⟩ = some (.bool st.hw) ∧ w.cell? ⟨L.P, 2, none⟩ = some (.int .i64 st.hl) ∧ w.cell? ⟨L.P, 3, none⟩ = some (.bool st.down) ∧ w.cell? ⟨L.P, 4, none⟩ = some (.int .i64 st.count) :=
  ⟨cell_of h.pool 0, cell_of h.pool 1, cell_of h.pool 2, cell_of h.pool 3, cell_of h.pool 4⟩
theorem One.df (h : One b0 w0 L st lv oth w) (k : Nat) : w.frozen? ⟨L.D, k, none⟩ = false := frz_of h.dev k
theorem One.pf (h : One b0 w0 L st lv oth w) (k : Nat) : w.frozen? ⟨L.P, k, none⟩ = false := frz_of h.pool k
/-- A world that differs by what was laid. -/
theorem One.laid (h : One b0 w0 L st lv oth w) (o : Obj) : One b0 w0 L st lv oth (w.alloc o) := h.ofBelow (Below.alloc (Below.refl _ w) (Nat.le_refl _) o)
theorem One.laidSet (h : One b0 w0 L st lv oth w) (o : Obj) (k : Nat) (v : Value) : One b0 w0 L st lv oth ((w.alloc o).setCell ⟨w.heap.size, k, none⟩ v) := by
  refine h.ofBelow ⟨rfl, rfl, rfl, by simp [World.setCell], fun j hj => ?_⟩
  rw [Below.heap_setCell _ _ _ _ (by show j ≠ w.heap.size; omega), Below.heap_alloc _ _ _ hj]
theorem One.open_ok (h : One b0 w0 L st lv oth w) (ht : st.there = true) : Calls Try.prog 15 #[.pointer (some ⟨L.P, 0, none⟩), .int .i64 st.serial] w fun e w' => e = .returned (.tuple #[.agg #[.int .i64 st.serial, .int .i64 st.session], .int .i64 0]) ∧ One b0 w0 L st lv oth w' := by
  have hf := fun o => (h.laid o).find
  have hd := fun o => (h.laid o).dc
  have hl := fun o => h.laid o
  go_enter Try.func15, Try.ntmps15
  go_wp2_with fail
  go_call (hf _) as e w1 ⟨rfl, rfl⟩
  have d1 := fun o => (hd o).2.1
  have d2 := fun o => (hd o).2.2.1
  rw [ht] at d2
  clear hd hf
  have HL : Hid _ := hl
  clear hl
  go_wp2
  go_returns
  exact ⟨rfl, HL.out _⟩
theorem open_nil (P : Nat) (t : Int) (w : World) (h : w.cell? ⟨P, 0, none⟩ = some (.slice none 0 0)) :
    Calls Try.prog 15 #[.pointer (some ⟨P, 0, none⟩), .int .i64 t] w fun e w' => e = .returned (.tuple #[.agg #[.int .i64 0, .int .i64 0], .int .i64 10]) ∧ Below w.heap.size w w' := by
  have hlt : P < w.heap.size := World.block_lt_of_cell? w _ h
  have hf := fun o => find_nil P t (w.alloc o) (by rw [World.cell?_alloc_past _ _ _ hlt]; exact h)
  have HB : Hid (∀ o, Below w.heap.size w (w.alloc o)) := fun o => Below.alloc (Below.refl _ w) (Nat.le_refl _) o
  go_enter Try.func15, Try.ntmps15
  go_wp2_with fail
  go_call (hf _) as e w1 ⟨rfl, rfl⟩
  go_wp2
  go_returns
  exact ⟨rfl, HB.out _⟩
theorem One.open_gone (h : One b0 w0 L st lv oth w) (ht : st.there = false) : Calls Try.prog 15 #[.pointer (some ⟨L.P, 0, none⟩), .int .i64 st.serial] w fun e w' => e = .returned (.tuple #[.agg #[.int .i64 0, .int .i64 0], .int .i64 8]) ∧ One b0 w0 L st lv oth w' := by
  have hf := fun o => (h.laid o).find
  have hd := fun o => (h.laid o).dc
  have hl := fun o => h.laid o
  have d2 := fun o => (hd o).2.2.1
  rw [ht] at d2
  have HL : Hid _ := hl
  clear hl hd
  go_enter Try.func15, Try.ntmps15
  go_wp2_with fail
  go_call (hf _) as e w1 ⟨rfl, rfl⟩
  clear hf
  go_wp2
  go_returns
  exact ⟨rfl, HL.out _⟩
theorem One.size (h : One b0 w0 L st lv oth w) : Calls Try.prog 88 #[.pointer (some ⟨L.P, 0, none⟩), .int .i64 st.serial] w fun e w' => e = .returned (.int .i64 (st.n : Nat)) ∧ w' = w := by
  have hf := h.find
  have d3 := h.dc.2.2.2.1
  clear h
  go_enter Try.func88, Try.ntmps88
  go_wp2_with fail
  go_call hf as e w1 ⟨rfl, rfl⟩
  go_wp2
  go_returns
  exact ⟨rfl, rfl⟩
theorem One.lslice (h : One b0 w0 L st lv oth w) : ∃ ao cap, lv = .slice ao st.ln cap := by
  rcases h.own.2 with ⟨h1, h2⟩ | ⟨g, cap, cur, h1, _⟩
  · exact ⟨none, 0, by rw [h1, h2]⟩
  · exact ⟨_, cap, h1⟩
theorem One.loose_any (h : One b0 w0 L st lv oth w) : Calls Try.prog 21 #[.pointer (some ⟨L.P, 0, none⟩), .int .i64 st.serial] w fun e w' => e = .returned (.int .i64 (st.ln : Nat)) ∧ w' = w := by
  have hf := h.find
  have d4 := h.dc.2.2.2.2.1
  obtain ⟨ao, cap, rfl⟩ := h.lslice
  clear h
  go_enter Try.func21, Try.ntmps21
  go_wp2_with fail
  go_call hf as e w1 ⟨rfl, rfl⟩
  go_wp2
  go_returns
  exact ⟨rfl, rfl⟩
/-- What a device's fields are, once one of them was written. -/
theorem One.setD (h : One b0 w0 L st lv oth w) (k : Nat) (v : Value) : (w.setCell ⟨L.D, k, none⟩ v).heap[L.D]? = some (.cells ((#[.int .i64 st.serial, .int .i64 st.session, .bool st.there, .slice (some ⟨L.S, 0, none⟩) st.n st.n, lv, .bool st.aw, .int .i64 st.al, .bool st.ad] : Array Value).setIfInBounds k v) 102) := block_set h.dev v
theorem One.tne (h : One b0 w0 L st lv oth w) : L.D ≠ L.P ∧ L.D ≠ L.S ∧ L.P ≠ L.S := by
  refine ⟨fun e => ?_, fun e => ?_, fun e => ?_⟩
  · have := h.dev; rw [e, h.pool] at this; injection this with this; injection this with _ t _; exact absurd t (by decide)
  · have := h.dev; rw [e, h.sec] at this; injection this with this; injection this with _ t _; exact absurd t (by decide)
  · have := h.pool; rw [e, h.sec] at this; injection this with this; injection this with _ t _; exact absurd t (by decide)
theorem One.updD (h : One b0 w0 L st lv oth w) (k : Nat) (v : Value) (st' : St) (lv' : Value) (hp : st'.hw = st.hw ∧ st'.hl = st.hl ∧ st'.down = st.down ∧ st'.count = st.count ∧ st'.secs = st.secs)
    (hd : (#[.int .i64 st.serial, .int .i64 st.session, .bool st.there, .slice (some ⟨L.S, 0, none⟩) st.n st.n, lv, .bool st.aw, .int .i64 st.al, .bool st.ad] : Array Value).setIfInBounds k v = #[.int .i64 st'.serial, .int .i64 st'.session, .bool st'.there, .slice (some ⟨L.S, 0, none⟩) st'.n st'.n, lv', .bool st'.aw, .int .i64 st'.al, .bool st'.ad])
    (ho : (w.setCell ⟨L.D, k, none⟩ v).ownsRow b0 149 65 lv' st'.ln st'.loose) : One b0 w0 L st' lv' oth (w.setCell ⟨L.D, k, none⟩ v) := by
  obtain ⟨t1, t2, t3⟩ := h.tne
  obtain ⟨p1, p2, p3, p4, p5⟩ := hp
  refine h.upd (KO.set (Or.inr (Or.inl rfl)) v) ?_ ?_ ?_ ho
  · rw [Below.heap_setCell _ _ _ _ (by exact Ne.symm t1), h.pool, p1, p2, p3, p4]
  · rw [h.setD, hd]
  · rw [Below.heap_setCell _ _ _ _ (by exact Ne.symm t2), h.sec, p5]
theorem One.ownD (h : One b0 w0 L st lv oth w) (k : Nat) (v : Value) : (w.setCell ⟨L.D, k, none⟩ v).ownsRow b0 149 65 lv st.ln st.loose := by
  refine ⟨h.own.1, ?_⟩
  rcases h.own.2 with h1 | ⟨g, cap, cur, e, h2, h3, h4⟩
  · exact Or.inl h1
  · refine Or.inr ⟨g, cap, cur, e, h2, ?_, h4⟩
    rw [Below.heap_setCell _ _ _ _ (by show g ≠ L.D; intro e2; have := h.dev; rw [← e2, h3] at this; injection this with this; injection this with _ t _; exact absurd t (by decide))]
    exact h3
/-- flush: nothing is loose any more. -/
theorem One.flush (h : One b0 w0 L st lv oth w) : Calls Try.prog 73 #[.pointer (some ⟨L.D, 0, none⟩)] w fun e w' => e = .returned (.tuple #[]) ∧ One b0 w0 L { st with ln := 0, loose := [] } (.slice none 0 0) oth w' := by
  have d4 := h.dc.2.2.2.2.1
  have f4 := h.df 4
  have HF : Hid (One b0 w0 L { st with ln := 0, loose := [] } (.slice none 0 0) oth (w.setCell ⟨L.D, 4, none⟩ (.slice none 0 0))) := h.updD 4 _ _ _ ⟨rfl, rfl, rfl, rfl, rfl⟩ rfl (World.ownsRow_nil _ _ _ _)
  clear h
  go_enter Try.func73, Try.ntmps73
  go_wp2
  go_returns
  exact ⟨rfl, HF.out⟩
end
end Go.Proofs.Ytiohkdpmgkobiaa
