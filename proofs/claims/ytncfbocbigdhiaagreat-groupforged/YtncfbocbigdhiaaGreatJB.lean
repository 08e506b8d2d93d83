/- A segment of a device as the statements make it; their fixed fact, as calls. -/
import Derived.Test.YtncfbocbigdhiaaGreatJA
import Derived.Lib.MinMax
namespace Go.Proofs.YtncfbocbigdhiaaGreat.F
open Go.RowKit
section
variable {b0 : Nat} {w0 : World} {L : Loc} {st : St} {lv : Value} {oth : List (Nat × Obj)} {w : World}
theorem One.kt2 {B : Nat} {w' : World} (h : One b0 w0 L st lv (gob B oth) w) (hne : ∀ p ∈ oth, p.1 ≠ B ∧ p.1 ≠ B + 1) (k : KT B w w') : One b0 w0 L st lv oth w' := by
  obtain ⟨i1, i2, i3, i4⟩ := h.oth (B + 1, iob) (by simp [gob])
  obtain ⟨j1, j2, j3, j4⟩ := h.oth (B, bob) (by simp [gob])
  have same : ∀ {j : Nat} {o : Obj}, w.heap[j]? = some o → j ≠ B → j ≠ B + 1 → w'.heap[j]? = some o := fun e h1 h2 => (k.block _ (getElem?_lt e) h1 h2).trans e
  refine ⟨?_, h.bP, h.bR, h.bD, h.bS, same h.pool j2.1.symm i2.1.symm, same h.rowb j2.2.1.symm i2.2.1.symm, h.rc0, same h.dev j2.2.2.1.symm i2.2.2.1.symm, same h.sec j2.2.2.2.symm i2.2.2.2.symm, ⟨h.own.1, ?_⟩, ?_⟩
  · refine ⟨k.os.trans h.below.os, k.tape.trans h.below.tape, k.output.trans h.below.output, Nat.le_trans h.below.size k.size, fun j hj => ?_⟩
    have j4' : b0 ≤ B := j4
    have hs : j < w.heap.size := by have := getElem?_lt h.pool; have := h.bP; omega
    rw [k.block j hs (by omega) (by omega)]
    exact h.below.block j hj
  · rcases h.own.2 with h1 | ⟨g, cap, cur, e, h2, h3, h4⟩
    · exact Or.inl h1
    · refine Or.inr ⟨g, cap, cur, e, h2, same h3 ?_ ?_, h4⟩
      · intro e2; rw [e2] at h3; rw [h3] at j1; injection j1 with j1; exact j3 _ j1.symm
      · intro e2; rw [e2] at h3; rw [h3] at i1; injection i1 with i1; exact i3 _ i1.symm
  · intro p hp
    obtain ⟨o1, o2, o3, o4⟩ := h.oth p (by simp [gob, hp])
    have := hne p hp
    exact ⟨same o1 this.1 this.2, o2, o3, o4⟩
end
end Go.Proofs.YtncfbocbigdhiaaGreat.F
namespace Go.Proofs.YtncfbocbigdhiaaGreat
open Go.RowKit
def sg0 (M p : Nat) : Sg := ⟨M, 3, 2, 5, 4, p, 1⟩
theorem sg0_ok (M p : Nat) (h1 : 8 ≤ p) (h2 : p ≤ 64) : (sg0 M p).Ok := ⟨(by decide : (3 : Nat) < _), (by decide : (2 : Nat) < _), (by decide : (5 : Nat) < _), (by decide : (4 : Nat) ≤ _), h1, h2, Nat.le_refl _, (by show 1 ≤ p; omega)⟩
set_option maxHeartbeats 1000000 in
theorem of13 {b0 : Nat} {w0 : World} {L : F.Loc} {st : F.St} {lv : Value} {oth : List (Nat × Obj)} {w : World} (h : F.One b0 w0 L st lv oth w) (ht : st.there = true) (hs : st.serial = 1) (p : Nat) :
    Calls Tryz.prog 13 #[.pointer (some ⟨L.P, 0, none⟩), .int .i64 (p : Nat)] w fun e w' => ∃ S M, e = .returned (.pointer (some ⟨S, 0, none⟩)) ∧ F.One b0 w0 L st lv ((S, .cells (sg0 M p).cs 44) :: (M, F.med L.P 1 st.session) :: oth) w' ∧ S ≠ M ∧ (∀ q ∈ oth, q.1 ≠ S) := by
  have ho := h.of_any ht
  rw [hs] at ho
  have hl := h.lts
  have HL : Hid _ := hl
  clear h hl
  go_enter Tryz.func13, Tryz.ntmps13
  go_wp2_with fail
  go_call ho as e w1 ⟨M, rfl, o1⟩
  have o2 := o1.alloc (.cells (sg0 M p).cs 44) (F.apart_of (by decide))
  have O1 : Hid _ := o1
  have O2 : Hid _ := o2
  clear ho o1 o2
  go_wp2
  go_returns
  exact ⟨w1.heap.size, M, rfl, O2.out, (fun e => by have := O1.out.lts (M, F.med L.P 1 st.session) (List.mem_cons_self ..); have e2 : w1.heap.size = M := e; omega), fun q hq e => by have := O1.out.lts q (List.mem_cons_of_mem _ hq); omega⟩
end Go.Proofs.YtncfbocbigdhiaaGreat
