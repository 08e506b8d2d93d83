/- Add to a pool without devices; Open, Size, Loose, of a pool of one device, as calls. -/
import Derived.Test.YtiohkdpmgkobiaaC
namespace Go.Proofs.Ytiohkdpmgkobiaa
open Go.RowKit

theorem getElem?_lt {w : World} {j : Nat} {o : Obj} (e : w.heap[j]? = some o) : j < w.heap.size := (Array.getElem?_eq_some_iff.1 e).1
section
variable {b0 : Nat} {w0 : World} {L : Loc} {st : St} {lv : Value} {oth : List (Nat × Obj)} {w : World}
theorem heap_new (w : World) (o : Obj) : (w.alloc o).heap[w.heap.size]? = some o := by
  show (w.heap.push _)[w.heap.size]? = _
  rw [Array.getElem?_push, if_pos rfl]
theorem One.alloc (h : One b0 w0 L st lv oth w) (o : Obj) (ho : Obj.apart o) : One b0 w0 L st lv ((w.heap.size, o) :: oth) (w.alloc o) := by
  have h2 := h.ofBelow (Below.alloc (Below.refl _ w) (Nat.le_refl _) o)
  refine { h2 with oth := ?_ }
  intro p hp
  rcases List.mem_cons.1 hp with rfl | hp
  · refine ⟨heap_new w o, ⟨?_, ?_, ?_, ?_⟩, ho, ?_⟩
    · have := getElem?_lt h.pool; show w.heap.size ≠ _; omega
    · have := getElem?_lt h.rowb; show w.heap.size ≠ _; omega
    · have := getElem?_lt h.dev; show w.heap.size ≠ _; omega
    · have := getElem?_lt h.sec; show w.heap.size ≠ _; omega
    · have := getElem?_lt h.pool; have := h.bP; show b0 ≤ w.heap.size; omega
  · exact h2.oth p hp
theorem One.forget (h : One b0 w0 L st lv oth w) {oth' : List (Nat × Obj)} (hs : ∀ p ∈ oth', p ∈ oth) : One b0 w0 L st lv oth' w := { h with oth := fun p hp => h.oth p (hs p hp) }
end
theorem block_set {w : World} {g i : Nat} {cs : Array Value} {t : TypeId} (h : w.heap[g]? = some (.cells cs t)) (v : Value) : (w.setCell ⟨g, i, none⟩ v).heap[g]? = some (.cells (cs.setIfInBounds i v) t) := by
  simp [World.setCell, Array.getElem?_modify, h]
def st0 (serial : Int) (n : Nat) : St := { serial := serial, session := 1, there := true, n := n, secs := secs0 n, loose := [], ln := 0, aw := false, al := 0, ad := false, hw := false, hl := 0, down := false, count := 0 }
set_option maxHeartbeats 1000000 in
theorem add_one (b0 P : Nat) (w0 w : World) (oth : List (Nat × Obj)) (hb : Below b0 w0 w) (hbP : b0 ≤ P)
    (hP : w.heap[P]? = some (.cells #[.slice none 0 0, .bool false, .int .i64 0, .bool false, .int .i64 0] 95)) (ho : ∀ p ∈ oth, w.heap[p.1]? = some p.2 ∧ p.1 ≠ P ∧ Obj.apart p.2 ∧ b0 ≤ p.1)
    (serial : Int) (hs1 : 1 ≤ serial) (hs2 : serial ≤ 1000) (n : Nat) (hn1 : 1 ≤ n) (hn2 : n ≤ 4096) :
    Calls Try.prog 14 #[.pointer (some ⟨P, 0, none⟩), .int .i64 serial, .int .i64 (n : Nat)] w fun e w' => e = .returned (.int .i64 0) ∧ ∃ L, L.P = P ∧ One b0 w0 L (st0 serial n) (.slice none 0 0) oth w' := by
  have hPs := getElem?_lt hP
  have c0 : w.cell? ⟨P, 0, none⟩ = some (.slice none 0 0) := cell_of hP 0
  have hpl := place_nil P serial w c0
  have hmk := mk_secs n hn2
  have hbs : b0 ≤ w.heap.size := Nat.le_trans hbP (Nat.le_of_lt hPs)
  obtain ⟨w1, hw1⟩ : ∃ w1, w1 = w.alloc (.cells (secs0 n) 147) := ⟨_, rfl⟩
  obtain ⟨w2, hw2⟩ : ∃ w2, w2 = w1.alloc (.cells #[.int .i64 serial, .int .i64 1, .bool true, .slice (some ⟨w.heap.size, 0, none⟩) n n, .slice none 0 0, .bool false, .int .i64 0, .bool false] 102) := ⟨_, rfl⟩
  obtain ⟨w3, hw3⟩ : ∃ w3, w3 = w2.alloc (.cells #[.pointer (some ⟨w.heap.size + 1, 0, none⟩)] 98) := ⟨_, rfl⟩
  have s1 : w1.heap.size = w.heap.size + 1 := by rw [hw1]; simp
  have s2 : w2.heap.size = w.heap.size + 2 := by rw [hw2]; simp [s1]
  have s3 : w3.heap.size = w.heap.size + 3 := by rw [hw3]; simp [s2]
  have hvb : w3.cell? ⟨w.heap.size + 2, 0, none⟩ = some (.pointer (some ⟨w.heap.size + 1, 0, none⟩)) := by
    have := heap_new w2 (.cells #[.pointer (some ⟨w.heap.size + 1, 0, none⟩)] 98)
    rw [s2, ← hw3] at this
    rw [cell_of this 0]; rfl
  have b3 : Below w.heap.size w w3 := by
    rw [hw3, hw2, hw1]
    exact ((Below.alloc (Below.refl _ _) (Nat.le_refl _) _).alloc (by simp) _).alloc (by simp; omega) _
  have hS : w3.heap[w.heap.size]? = some (.cells (secs0 n) 147) := by
    rw [hw3, Below.heap_alloc _ _ _ (by omega), hw2, Below.heap_alloc _ _ _ (by omega), hw1]; exact heap_new _ _
  have hD : w3.heap[w.heap.size + 1]? = some (.cells #[.int .i64 serial, .int .i64 1, .bool true, .slice (some ⟨w.heap.size, 0, none⟩) n n, .slice none 0 0, .bool false, .int .i64 0, .bool false] 102) := by
    rw [hw3, Below.heap_alloc _ _ _ (by omega), hw2, ← s1]; exact heap_new _ _
  have hins := insert_end w3.heap.size w3 (.slice none 0 0) 0 [] (World.ownsRow_nil _ _ _ _) (by omega) (w.heap.size + 2) (some ⟨w.heap.size + 1, 0, none⟩) hvb (Nat.le_refl _)
  have HX : Hid (w.heap.size < w3.heap.size ∧ Below w.heap.size w w3 ∧ w3.heap[w.heap.size]? = some (.cells (secs0 n) 147) ∧ w3.heap[w.heap.size + 1]? = some (.cells #[.int .i64 serial, .int .i64 1, .bool true, .slice (some ⟨w.heap.size, 0, none⟩) n n, .slice none 0 0, .bool false, .int .i64 0, .bool false] 102) ∧ w3.heap.size = w.heap.size + 3) := ⟨by omega, b3, hS, hD, s3⟩
  have c3 : w3.cell? ⟨P, 0, none⟩ = some (.slice none 0 0) := by rw [b3.cell (by exact hPs)]; exact c0
  have c2 : w2.cell? ⟨P, 0, none⟩ = some (.slice none 0 0) := by
    rw [hw2, World.cell?_alloc_past _ _ _ (by show P < _; omega), hw1, World.cell?_alloc_past _ _ _ (by show P < _; omega)]; exact c0
  clear hS hD b3 hvb
  go_enter Try.func14, Try.ntmps14
  go_wp2_with fail
  go_call hpl as e w' ⟨rfl, rfl⟩
  go_wp2_with fail
  subst hw3 hw2 hw1
  go_call hins as e w4 ⟨v', rfl, hown, hgr⟩
  clear hins hmk hpl c2
  obtain ⟨g, cp, cur, rfl, hg1, hg2, hg3⟩ : ∃ g cp cur, v' = .slice (some ⟨g, 0, none⟩) 1 cp ∧ w'.heap.size + 3 ≤ g ∧ w4.heap[g]? = some (.cells cur 98) ∧ cur[0]? = some (.pointer (some ⟨w'.heap.size + 1, 0, none⟩)) := by
    rcases hown.2 with ⟨_, h⟩ | ⟨g, cp, cur, h1, h2, h3, h4, h5, h6, h7⟩
    · omega
    · refine ⟨g, cp, cur, h1, by rw [← HX.out.2.2.2.2]; exact h2, h3, ?_⟩
      have h8 : (cur.toList.take ((0 + 1) * 1))[0]? = some (.pointer (some ⟨w'.heap.size + 1, 0, none⟩)) := by rw [h7]; rfl
      rw [List.getElem?_take, if_pos (by omega), Array.getElem?_toList] at h8
      exact h8
  have hbl : ∀ k, k < w'.heap.size + 3 → w4.heap[k]? = (((w'.alloc (.cells (secs0 n) 147)).alloc (.cells #[.int .i64 serial, .int .i64 1, .bool true, .slice (some ⟨w'.heap.size, 0, none⟩) n n, .slice none 0 0, .bool false, .int .i64 0, .bool false] 102)).alloc (.cells #[.pointer (some ⟨w'.heap.size + 1, 0, none⟩)] 98)).heap[k]? :=
    fun k hk => hgr.block k (by rw [HX.out.2.2.2.2]; exact hk) (by intro e; cases e)
  obtain ⟨x1, x2, x3, x4, x5⟩ := HX.out
  have hP4 : w4.heap[P]? = some (.cells #[.slice none 0 0, .bool false, .int .i64 0, .bool false, .int .i64 0] 95) := by
    rw [hbl P (by omega), x2.block P hPs]; exact hP
  have cP : w4.cell? ⟨P, 0, none⟩ = some (.slice none 0 0) := cell_of hP4 0
  have fP : w4.frozen? ⟨P, 0, none⟩ = false := frz_of hP4 0
  have hfin : One b0 w0 ⟨P, g, w'.heap.size + 1, w'.heap.size, cp, cur⟩ (st0 serial n) (.slice none 0 0) oth (w4.setCell ⟨P, 0, none⟩ (.slice (some ⟨g, 0, none⟩) 1 cp)) := by
    have hoth : ∀ k, k ≠ P → (w4.setCell ⟨P, 0, none⟩ (.slice (some ⟨g, 0, none⟩) 1 cp)).heap[k]? = w4.heap[k]? := fun k hk => Below.heap_setCell _ _ _ _ (by exact hk)
    refine ⟨?_, hbP, by show b0 ≤ g; omega, by show b0 ≤ w'.heap.size + 1; omega, hbs, ?_, ?_, hg3, ?_, ?_, World.ownsRow_nil _ _ _ _, ?_⟩
    · have bw : Below w'.heap.size w' w4 := ⟨hgr.os.trans x2.os, hgr.tape.trans x2.tape, hgr.output.trans x2.output, by have := hgr.size; omega, fun k hk => (hbl k (by omega)).trans (x2.block k hk)⟩
      have b4 : Below b0 w0 w4 := hb.trans (bw.mono hbs)
      refine ⟨b4.os, b4.tape, b4.output, by have := b4.size; simpa [World.setCell] using this, fun k hk => ?_⟩
      rw [hoth k (by omega)]; exact b4.block k hk
    · show (w4.setCell ⟨P, 0, none⟩ _).heap[P]? = _
      rw [block_set hP4]
      rfl
    · rw [hoth g (by omega)]; exact hg2
    · show (w4.setCell ⟨P, 0, none⟩ _).heap[w'.heap.size + 1]? = _
      rw [hoth _ (by omega), hbl _ (by omega)]; exact x4
    · show (w4.setCell ⟨P, 0, none⟩ _).heap[w'.heap.size]? = _
      rw [hoth _ (by omega), hbl _ (by omega)]; exact x3
    · intro p hp
      obtain ⟨o1, o2, o3, o4⟩ := ho p hp
      have hps := getElem?_lt o1
      refine ⟨?_, ⟨o2, ?_, ?_, ?_⟩, o3, o4⟩
      · rw [hoth _ o2, hbl _ (by omega), x2.block _ hps]; exact o1
      · show p.1 ≠ g; omega
      · show p.1 ≠ w'.heap.size + 1; omega
      · show p.1 ≠ w'.heap.size; omega
  have HF : Hid _ := hfin
  clear hfin hbl hg2 hg3 hown hgr x1 x2 x3 x4 x5 HX ho
  go_wp2
  go_returns
  exact ⟨rfl, _, rfl, HF.out⟩
end Go.Proofs.Ytiohkdpmgkobiaa
