/- Drain, as a call. -/
import Derived.Test.YtknmipbjkkeebaaRG
namespace Go.Proofs.Ytknmipbjkkeebaa
open Go.RowKit
def drainL (l : List Mb) (p : Nat) : List Mb := l.set p { mbAt l p with t := 2 }
theorem drainL_len (l : List Mb) (p : Nat) : (drainL l p).length = l.length := by simp [drainL]
theorem mcs_set : ∀ (l : List Mb) (p : Nat), p < l.length → mcs (drainL l p) = (mcs l).set (p * 3 + 2) (.int .i64 2)
  | [], p, h => by simp at h
  | m :: l, 0, _ => by simp [drainL, mcs, Mb.cs, mbAt]
  | m :: l, p + 1, h => by
    have ih := mcs_set l p (by simpa using h)
    have e : drainL (m :: l) (p + 1) = m :: drainL l p := by simp [drainL, mbAt]
    rw [e, mcs, mcs, ih]
    simp only [Mb.cs, List.cons_append, List.nil_append]
    rw [show (p + 1) * 3 + 2 = p * 3 + 2 + 1 + 1 + 1 by omega, List.set_cons_succ, List.set_cons_succ, List.set_cons_succ]
theorem MIs.setT {w : World} {b g cap : Nat} {l : List Mb} (h : MIs w b (.slice (some ⟨g, 0, none⟩) l.length cap) l) (p : Nat) (hp : p < l.length) : MIs (w.setCell ⟨g, p * 3 + 2, none⟩ (.int .i64 2)) b (.slice (some ⟨g, 0, none⟩) l.length cap) (drainL l p) := by
  unfold MIs
  rw [drainL_len]
  refine ⟨by rw [mcs_length, drainL_len], Or.inr ?_⟩
  rcases h.2 with ⟨h0, _⟩ | ⟨g', cap', cur, e, h2, h3, h4, h5, h6, h7⟩
  · cases h0
  · injection e with e1 _ e2
    injection e1 with e1
    injection e1 with e1 _ _
    subst e1 e2
    refine ⟨g, cap, _, rfl, h2, block_set h3 _, h4, h5, by simp [h6], ?_⟩
    rw [mcs_set l p hp, ← h7, Array.toList_setIfInBounds, List.take_set]
def Ro.drain (r : Ro) (p : Nat) : Ro := { r with e := r.e + 1, ms := drainL r.ms p }
set_option maxHeartbeats 2000000 in
set_option maxRecDepth 100000 in
theorem rdrain_ok (r : Ro) (v : Value) (p : Nat) (w : World) (h : MIs w 0 v r.ms) (hn : r.ms.length ≤ 1000) (he : r.e < 9223372036854775807) (hp : p < r.ms.length) (hst : ¬ (mbAt r.ms p).t = 2) (h1 : ∀ j, j < p → (mbAt r.ms j).s < (mbAt r.ms p).s) (h2 : ∀ j, p ≤ j → j < r.ms.length → (mbAt r.ms p).s ≤ (mbAt r.ms j).s) :
    Calls Try.prog 31 #[r.val v, .int .i64 (mbAt r.ms p).s] w fun e w' => ∃ v', e = .returned (.tuple #[(r.drain p).val v', .int .i64 0]) ∧ MIs w' w.heap.size v' (r.drain p).ms ∧ Below w.heap.size w w' := by
  have hpl := fun W (hW : Below w.heap.size w W) => rplace_any r v (mbAt r.ms p).s p W (h.below hW) (by omega) (by omega) h1 h2
  rw [decide_eq_true ⟨hp, rfl⟩] at hpl
  have hnx := fun W (hW : Below w.heap.size w W) => next_any r v W (h.below hW) (by omega) he
  obtain ⟨ao, cp, hv⟩ := own_slice h
  obtain ⟨g, rfl⟩ : ∃ g, ao = some ⟨g, 0, none⟩ := by
    rcases h.2 with ⟨_, h0⟩ | ⟨g, cap, cur, e0, _⟩
    · omega
    · rw [hv] at e0; injection e0 with e0 _ _; exact ⟨g, e0⟩
  subst hv
  have hgT : g < w.heap.size := (h.lt g rfl).2
  have hc3 := (MIs.at3 h p hp).2.2
  have HC3 : Hid _ := hc3
  have HPL : Hid _ := hpl
  have HNX : Hid _ := hnx
  have HP : Hid (p < r.ms.length) := hp
  clear hpl hnx h1 h2 h hc3
  unfold Ro.val Ro.arr at *
  obtain ⟨n, hnn⟩ : ∃ n, n = r.ms.length := ⟨_, rfl⟩
  rw [← hnn] at hn hp HPL HNX ⊢
  have HN : Hid _ := hnn
  clear hnn
  obtain ⟨m, hm⟩ : ∃ m, m = mbAt r.ms p := ⟨_, rfl⟩
  rw [← hm] at hst HC3 HPL ⊢
  have HMM : Hid _ := hm
  clear hm
  have HB2 : Hid (∀ o1 o2, Below w.heap.size w ((w.alloc o1).alloc o2)) := fun o1 o2 => ((Below.refl _ w).alloc (Nat.le_refl _) _).alloc (by simp) _
  go_enter Try.func31, Try.ntmps31
  go_wp2_with fail
  go_call (HPL.out _ (HB2.out _ _)) as e w1 ⟨rfl, hb1⟩
  clear HPL
  obtain ⟨k1, k2, k3⟩ := below_two hb1
  have a0 := cell_of k1 0
  have a1 := cell_of k1 1
  have a2 := cell_of k1 2
  have a3 := cell_of k1 3
  have a4 := cell_of k1 4
  simp at a0 a1 a2 a3 a4
  have c2 := (k3.cell (by exact hgT)).trans HC3.out
  have hw1 : w.heap.size + 2 ≤ w1.heap.size := by have := hb1.size; simp at this; omega
  have hnx := HNX.out w1 k3
  have K2 : Hid _ := k2
  have K3 : Hid _ := k3
  clear hb1 k1 k2 k3 HNX
  go_wp2_with fail
  go_call hnx as e w2 ⟨v2, rfl, hm2, hb2⟩
  clear hnx a0 a1 a2 a3 a4 c2
  obtain ⟨ao2, cp2, rfl⟩ := own_slice hm2
  obtain ⟨g2, rfl⟩ : ∃ g2, ao2 = some ⟨g2, 0, none⟩ := by
    rcases hm2.2 with ⟨_, h0⟩ | ⟨g, cap, cur, e0, _⟩
    · have := HP.out; omega
    · injection e0 with e0 _ _; exact ⟨g, e0⟩
  have hg2 := hm2.lt g2 rfl
  have q2 := (hb2.block _ (by omega)).trans K2.out
  have hw2 := hb2.size
  have hA := fun o => hm2.below ((Below.refl _ w2).alloc (Nat.le_refl _) o)
  have cg : ∀ o, (w2.alloc o).cell? ⟨g2, p * 3 + 2, none⟩ = some (.int .i64 (mbAt r.ms p).t) := fun o => (MIs.at3 (hA o) p HP.out).2.2
  have fg : ∀ o, (w2.alloc o).frozen? ⟨g2, p * 3 + 2, none⟩ = false := fun o => by
    rcases (hA o).2 with ⟨h0, _⟩ | ⟨g', cap', cur, e0, _, h3, _⟩
    · cases h0
    · injection e0 with e0 _ _; injection e0 with e0; injection e0 with e0 _ _; subst e0; exact frz_of h3 _
  have HSet : Hid (∀ o, MIs ((w2.alloc o).setCell ⟨g2, p * 3 + 2, none⟩ (.int .i64 2)) w.heap.size (.slice (some ⟨g2, 0, none⟩) r.ms.length cp2) (drainL r.ms p)) := fun o => MIs.setT (MIs.least (hA o) (by omega)) p HP.out
  have hne2 : ¬ g2 = w.heap.size + 1 := by have := hg2.1; omega
  have kT : ∀ o, ((w2.alloc o).setCell ⟨g2, p * 3 + 2, none⟩ (.int .i64 2)).heap[w.heap.size + 1]? = some (.cells #[.int .u64 0, .int .u64 0, .int .u64 0, .int .u64 0, .slice none 0 0] 72) := fun o => by
    rw [Below.heap_setCell _ _ _ _ (by exact fun e => hne2 e.symm), Below.heap_alloc _ _ _ (by omega)]; exact q2
  have k8 : ∀ o, ((w2.alloc o).setCell ⟨g2, p * 3 + 2, none⟩ (.int .i64 2)).heap[w2.heap.size]? = some o := fun o => by
    rw [Below.heap_setCell _ _ _ _ (by show w2.heap.size ≠ g2; have := hg2.2; omega)]; exact heap_new _ _
  have hBL : ∀ o, Below w.heap.size w ((w2.alloc o).setCell ⟨g2, p * 3 + 2, none⟩ (.int .i64 2)) := fun o => ((K3.out.trans (hb2.mono (by omega))).alloc (by omega) o).setCell (by show w.heap.size ≤ g2; have := hg2.1; omega) _
  have HBL : Hid _ := hBL
  have HKT : Hid _ := kT
  have d0 := fun o => cell_of (kT o) 0
  have d1 := fun o => cell_of (kT o) 1
  have d2 := fun o => cell_of (kT o) 2
  have d3 := fun o => cell_of (kT o) 3
  have d4 := fun o => cell_of (kT o) 4
  have f0 := fun o => frz_of (kT o) 0
  have f1 := fun o => frz_of (kT o) 1
  have f2 := fun o => frz_of (kT o) 2
  have f3 := fun o => frz_of (kT o) 3
  have f4 := fun o => frz_of (kT o) 4
  have b0 : ∀ c t k, ((w2.alloc (.cells c t)).setCell ⟨g2, p * 3 + 2, none⟩ (.int .i64 2)).cell? ⟨w2.heap.size, k, none⟩ = c[k]? := fun c t k => cell_of (k8 _) k
  simp at d0 d1 d2 d3 d4
  have hpl2 : p < r.ms.length := HP.out
  clear hm2 hb2 q2 hg2 hA kT k8 hBL K2 K3
  go_wp2
  obtain ⟨W3, hW3⟩ : ∃ W3, W3 = (w2.alloc (.cells #[.int .u64 (r.c : Nat), .int .u64 ((r.e : Int) + 1), .int .u64 (r.l : Nat), .int .u64 (r.j : Nat), .slice (some ⟨g2, 0, none⟩) r.ms.length cp2] 72)).setCell ⟨g2, p * 3 + 2, none⟩ (.int .i64 2) := ⟨_, rfl⟩
  have hkt := HKT.out (.cells #[.int .u64 (r.c : Nat), .int .u64 ((r.e : Int) + 1), .int .u64 (r.l : Nat), .int .u64 (r.j : Nat), .slice (some ⟨g2, 0, none⟩) r.ms.length cp2] 72)
  have hbl := HBL.out (.cells #[.int .u64 (r.c : Nat), .int .u64 ((r.e : Int) + 1), .int .u64 (r.l : Nat), .int .u64 (r.j : Nat), .slice (some ⟨g2, 0, none⟩) r.ms.length cp2] 72)
  have hse := HSet.out (.cells #[.int .u64 (r.c : Nat), .int .u64 ((r.e : Int) + 1), .int .u64 (r.l : Nat), .int .u64 (r.j : Nat), .slice (some ⟨g2, 0, none⟩) r.ms.length cp2] 72)
  rw [← hW3] at hkt hbl hse ⊢
  have hO := (((((Off.refl (w.heap.size + 1) (w.heap.size + 1) W3).set (a := ⟨w.heap.size + 1, 0, none⟩) (by simp) (.int .u64 (r.c : Nat))).set (a := ⟨w.heap.size + 1, 1, none⟩) (by simp) (.int .u64 ((r.e : Int) + 1))).set (a := ⟨w.heap.size + 1, 2, none⟩) (by simp) (.int .u64 (r.l : Nat))).set (a := ⟨w.heap.size + 1, 3, none⟩) (by simp) (.int .u64 (r.j : Nat))).set (a := ⟨w.heap.size + 1, 4, none⟩) (by simp) (.slice (some ⟨g2, 0, none⟩) r.ms.length cp2)
  refine bodyPost_ret (ret2 Try.results31 _ _ (w.heap.size + 1) _ _ ?_ rfl (store5 hkt _ _ _ _ _) rfl) rfl ⟨.slice (some ⟨g2, 0, none⟩) r.ms.length cp2, rfl, MIs.off hse hO hkt hkt (by decide) (by decide), hO.below hbl (by omega) (by omega)⟩
  rfl
theorem rdrain_none (r : Ro) (v : Value) (t : Int) (p : Nat) (w : World) (h : MIs w 0 v r.ms) (hn : r.ms.length ≤ 1000) (hp : p ≤ r.ms.length) (hno : ¬ (p < r.ms.length ∧ (mbAt r.ms p).s = t)) (h1 : ∀ j, j < p → (mbAt r.ms j).s < t) (h2 : ∀ j, p ≤ j → j < r.ms.length → t ≤ (mbAt r.ms j).s) :
    Calls Try.prog 31 #[r.val v, .int .i64 t] w fun e w' => e = .returned (.tuple #[(Ro.mk 0 0 0 0 []).val (.slice none 0 0), .int .i64 10]) ∧ Below w.heap.size w w' := by
  have hpl := fun W (hW : Below w.heap.size w W) => rplace_any r v t p W (h.below hW) (by omega) hp h1 h2
  rw [decide_eq_false hno] at hpl
  obtain ⟨ao, cp, hv⟩ := own_slice h
  subst hv
  have HPL : Hid _ := hpl
  clear hpl h1 h2 h hno
  unfold Ro.val Ro.arr at *
  generalize r.ms.length = n at *
  have HB2 : Hid (∀ o1 o2, Below w.heap.size w ((w.alloc o1).alloc o2)) := fun o1 o2 => ((Below.refl _ w).alloc (Nat.le_refl _) _).alloc (by simp) _
  go_enter Try.func31, Try.ntmps31
  go_wp2_with fail
  go_call (HPL.out _ (HB2.out _ _)) as e w1 ⟨rfl, hb1⟩
  clear HPL
  obtain ⟨k1, k2, k3⟩ := below_two hb1
  have a4 := cell_of k1 4
  simp at a4
  have d0 := cell_of k2 0
  have d1 := cell_of k2 1
  have d2 := cell_of k2 2
  have d3 := cell_of k2 3
  have d4 := cell_of k2 4
  have g0 := frz_of k2 0
  have g1 := frz_of k2 1
  have g2 := frz_of k2 2
  have g3 := frz_of k2 3
  have g4 := frz_of k2 4
  simp at d0 d1 d2 d3 d4
  have K2 : Hid _ := k2
  have K3 : Hid _ := k3
  clear hb1 k1 k2 k3
  go_wp2
  have hO := (((((Off.refl (w.heap.size + 1) (w.heap.size + 1) w1).set (a := ⟨w.heap.size + 1, 0, none⟩) (by simp) (.int .u64 0)).set (a := ⟨w.heap.size + 1, 1, none⟩) (by simp) (.int .u64 0)).set (a := ⟨w.heap.size + 1, 2, none⟩) (by simp) (.int .u64 0)).set (a := ⟨w.heap.size + 1, 3, none⟩) (by simp) (.int .u64 0)).set (a := ⟨w.heap.size + 1, 4, none⟩) (by simp) (.slice none 0 0)
  refine bodyPost_ret (ret2 Try.results31 _ _ (w.heap.size + 1) _ _ ?_ rfl (store5 K2.out _ _ _ _ _) rfl) rfl ⟨rfl, hO.below K3.out (by omega) (by omega)⟩
  rfl
theorem rdrain_there (r : Ro) (v : Value) (p : Nat) (w : World) (h : MIs w 0 v r.ms) (hn : r.ms.length ≤ 1000) (hp : p < r.ms.length) (hst : (mbAt r.ms p).t = 2) (h1 : ∀ j, j < p → (mbAt r.ms j).s < (mbAt r.ms p).s) (h2 : ∀ j, p ≤ j → j < r.ms.length → (mbAt r.ms p).s ≤ (mbAt r.ms j).s) :
    Calls Try.prog 31 #[r.val v, .int .i64 (mbAt r.ms p).s] w fun e w' => e = .returned (.tuple #[(Ro.mk 0 0 0 0 []).val (.slice none 0 0), .int .i64 11]) ∧ Below w.heap.size w w' := by
  have hpl := fun W (hW : Below w.heap.size w W) => rplace_any r v (mbAt r.ms p).s p W (h.below hW) (by omega) (by omega) h1 h2
  rw [decide_eq_true ⟨hp, rfl⟩] at hpl
  obtain ⟨ao, cp, hv⟩ := own_slice h
  obtain ⟨g, rfl⟩ : ∃ g, ao = some ⟨g, 0, none⟩ := by
    rcases h.2 with ⟨_, h0⟩ | ⟨g, cap, cur, e0, _⟩
    · omega
    · rw [hv] at e0; injection e0 with e0 _ _; exact ⟨g, e0⟩
  subst hv
  have hgT : g < w.heap.size := (h.lt g rfl).2
  have hc3 := (MIs.at3 h p hp).2.2
  rw [hst] at hc3
  have HC3 : Hid _ := hc3
  have HPL : Hid _ := hpl
  clear hpl h1 h2 h hc3 hst
  unfold Ro.val Ro.arr at *
  generalize mbAt r.ms p = m at *
  generalize r.ms.length = n at *
  have HB2 : Hid (∀ o1 o2, Below w.heap.size w ((w.alloc o1).alloc o2)) := fun o1 o2 => ((Below.refl _ w).alloc (Nat.le_refl _) _).alloc (by simp) _
  go_enter Try.func31, Try.ntmps31
  go_wp2_with fail
  go_call (HPL.out _ (HB2.out _ _)) as e w1 ⟨rfl, hb1⟩
  clear HPL
  obtain ⟨k1, k2, k3⟩ := below_two hb1
  have a4 := cell_of k1 4
  simp at a4
  have d0 := cell_of k2 0
  have d1 := cell_of k2 1
  have d2 := cell_of k2 2
  have d3 := cell_of k2 3
  have d4 := cell_of k2 4
  have g0 := frz_of k2 0
  have g1 := frz_of k2 1
  have g2 := frz_of k2 2
  have g3 := frz_of k2 3
  have g4 := frz_of k2 4
  simp at d0 d1 d2 d3 d4
  have K2 : Hid _ := k2
  have K3 : Hid _ := k3
  have c2 := (k3.cell (by exact hgT)).trans HC3.out
  clear hb1 k1 k2 k3
  go_wp2
  have hO := (((((Off.refl (w.heap.size + 1) (w.heap.size + 1) w1).set (a := ⟨w.heap.size + 1, 0, none⟩) (by simp) (.int .u64 0)).set (a := ⟨w.heap.size + 1, 1, none⟩) (by simp) (.int .u64 0)).set (a := ⟨w.heap.size + 1, 2, none⟩) (by simp) (.int .u64 0)).set (a := ⟨w.heap.size + 1, 3, none⟩) (by simp) (.int .u64 0)).set (a := ⟨w.heap.size + 1, 4, none⟩) (by simp) (.slice none 0 0)
  refine bodyPost_ret (ret2 Try.results31 _ _ (w.heap.size + 1) _ _ ?_ rfl (store5 K2.out _ _ _ _ _) rfl) rfl ⟨rfl, hO.below K3.out (by omega) (by omega)⟩
  rfl
theorem rremove_none (r : Ro) (v : Value) (t : Int) (p : Nat) (w : World) (h : MIs w 0 v r.ms) (hn : r.ms.length ≤ 1000) (hp : p ≤ r.ms.length) (hno : ¬ (p < r.ms.length ∧ (mbAt r.ms p).s = t)) (h1 : ∀ j, j < p → (mbAt r.ms j).s < t) (h2 : ∀ j, p ≤ j → j < r.ms.length → t ≤ (mbAt r.ms j).s) :
    Calls Try.prog 33 #[r.val v, .int .i64 t] w fun e w' => e = .returned (.tuple #[(Ro.mk 0 0 0 0 []).val (.slice none 0 0), .int .i64 10]) ∧ Below w.heap.size w w' := by
  have hpl := fun W (hW : Below w.heap.size w W) => rplace_any r v t p W (h.below hW) (by omega) hp h1 h2
  rw [decide_eq_false hno] at hpl
  obtain ⟨ao, cp, hv⟩ := own_slice h
  subst hv
  have HPL : Hid _ := hpl
  clear hpl h1 h2 h hno
  unfold Ro.val Ro.arr at *
  generalize r.ms.length = n at *
  have HB2 : Hid (∀ o1 o2, Below w.heap.size w ((w.alloc o1).alloc o2)) := fun o1 o2 => ((Below.refl _ w).alloc (Nat.le_refl _) _).alloc (by simp) _
  go_enter Try.func33, Try.ntmps33
  go_wp2_with fail
  go_call (HPL.out _ (HB2.out _ _)) as e w1 ⟨rfl, hb1⟩
  clear HPL
  obtain ⟨k1, k2, k3⟩ := below_two hb1
  have a4 := cell_of k1 4
  simp at a4
  have d0 := cell_of k2 0
  have d1 := cell_of k2 1
  have d2 := cell_of k2 2
  have d3 := cell_of k2 3
  have d4 := cell_of k2 4
  have g0 := frz_of k2 0
  have g1 := frz_of k2 1
  have g2 := frz_of k2 2
  have g3 := frz_of k2 3
  have g4 := frz_of k2 4
  simp at d0 d1 d2 d3 d4
  have K2 : Hid _ := k2
  have K3 : Hid _ := k3
  clear hb1 k1 k2 k3
  go_wp2
  have hO := (((((Off.refl (w.heap.size + 1) (w.heap.size + 1) w1).set (a := ⟨w.heap.size + 1, 0, none⟩) (by simp) (.int .u64 0)).set (a := ⟨w.heap.size + 1, 1, none⟩) (by simp) (.int .u64 0)).set (a := ⟨w.heap.size + 1, 2, none⟩) (by simp) (.int .u64 0)).set (a := ⟨w.heap.size + 1, 3, none⟩) (by simp) (.int .u64 0)).set (a := ⟨w.heap.size + 1, 4, none⟩) (by simp) (.slice none 0 0)
  refine bodyPost_ret (ret2 Try.results33 _ _ (w.heap.size + 1) _ _ ?_ rfl (store5 K2.out _ _ _ _ _) rfl) rfl ⟨rfl, hO.below K3.out (by omega) (by omega)⟩
  rfl
end Go.Proofs.Ytknmipbjkkeebaa
