/- The document's rosters: Drain, as a call. -/
import Derived.Test.YtknmipbjkkeebaaSB
import Derived.Test.YtknmipbjkkeebaaRH
namespace Go.Proofs.Ytknmipbjkkeebaa
open Go.RowKit
theorem XIs.setT {w : World} {b g cap : Nat} {l : List Mb} (h : XIs w b (.slice (some ⟨g, 0, none⟩) l.length cap) l) (p : Nat) (hp : p < l.length) : XIs (w.setCell ⟨g, p * 3 + 2, none⟩ (.int .i64 2)) b (.slice (some ⟨g, 0, none⟩) l.length cap) (drainL l p) := by
  unfold XIs
  rw [drainL_len]
  refine ⟨by rw [mcs_length, drainL_len], Or.inr ?_⟩
  rcases h.2 with ⟨h0, _⟩ | ⟨g', cap', cur, e, h2, h3, h4, h5, h6, h7⟩
  · cases h0
  · injection e with e1 _ e2
    injection e1 with e1
    injection e1 with e1 _ _
    subst e1 e2
    refine ⟨g, cap, _, rfl, h2, block_set h3 _, h4, h5, by simp [h6], ?_⟩
    rw [mcs_set l p hp, ← h7, Array.toList_setIfInBounds, List.take_set]
theorem xdrain_none (r : Ro) (v : Value) (t : Int) (p : Nat) (w : World) (h : XIs w 0 v r.ms) (hn : r.ms.length ≤ 1000) (hp : p ≤ r.ms.length) (hno : ¬ (p < r.ms.length ∧ (mbAt r.ms p).s = t)) (h1 : ∀ j, j < p → (mbAt r.ms j).s < t) (h2 : ∀ j, p < j → j < r.ms.length → t < (mbAt r.ms j).s) (h3 : p < r.ms.length → t ≤ (mbAt r.ms p).s) :
    Calls Try.prog 30 #[r.val v, .int .i64 t] w fun e w' => e = .returned (.tuple #[(Ro.mk 0 0 0 0 []).val (.slice none 0 0), .int .i64 10]) ∧ Below w.heap.size w w' := by
  have hpl := fun W (hW : Below w.heap.size w W) => xfind_any r v t p W (h.below hW) (by omega) hp h1 h2 h3
  simp only [if_neg hno] at hpl
  obtain ⟨ao, cp, hv⟩ := own_slice h
  subst hv
  have HPL : Hid _ := hpl
  clear hpl h1 h2 h3 h hno
  unfold Ro.val Ro.arr at *
  generalize r.ms.length = n at *
  have HB2 : Hid (∀ o1 o2, Below w.heap.size w ((w.alloc o1).alloc o2)) := fun o1 o2 => ((Below.refl _ w).alloc (Nat.le_refl _) _).alloc (by simp) _
  go_enter Try.func30, Try.ntmps30
  go_wp2_with fail
  go_call (HPL.out _ (HB2.out _ _)) as e w1 ⟨rfl, hb1⟩
  clear HPL
  obtain ⟨k1, k2, k3⟩ := below_two hb1
  have a4 := cell_of k1 4
  simp at a4
  have d0 := cell_of k2 0
  have d1 := cell_of k2 1
  have d2 := cell_of k2 2
  have d3 := cell_of k2 3
  have d4 := cell_of k2 4
  have g0 := frz_of k2 0
  have g1 := frz_of k2 1
  have g2 := frz_of k2 2
  have g3 := frz_of k2 3
  have g4 := frz_of k2 4
  simp at d0 d1 d2 d3 d4
  have K2 : Hid _ := k2
  have K3 : Hid _ := k3
  clear hb1 k1 k2 k3
  go_wp2
  have hO := (((((Off.refl (w.heap.size + 1) (w.heap.size + 1) w1).set (a := ⟨w.heap.size + 1, 0, none⟩) (by simp) (.int .u64 0)).set (a := ⟨w.heap.size + 1, 1, none⟩) (by simp) (.int .u64 0)).set (a := ⟨w.heap.size + 1, 2, none⟩) (by simp) (.int .u64 0)).set (a := ⟨w.heap.size + 1, 3, none⟩) (by simp) (.int .u64 0)).set (a := ⟨w.heap.size + 1, 4, none⟩) (by simp) (.slice none 0 0)
  refine bodyPost_ret (xret2 Try.results30 _ _ (w.heap.size + 1) _ _ ?_ rfl (store5 K2.out _ _ _ _ _) rfl) rfl ⟨rfl, hO.below K3.out (by omega) (by omega)⟩
  rfl
theorem xdrain_there (r : Ro) (v : Value) (p : Nat) (w : World) (h : XIs w 0 v r.ms) (hn : r.ms.length ≤ 1000) (hp : p < r.ms.length) (hst : (mbAt r.ms p).t = 2) (h1 : ∀ j, j < p → (mbAt r.ms j).s < (mbAt r.ms p).s) (h2 : ∀ j, p < j → j < r.ms.length → (mbAt r.ms p).s < (mbAt r.ms j).s) :
    Calls Try.prog 30 #[r.val v, .int .i64 (mbAt r.ms p).s] w fun e w' => e = .returned (.tuple #[(Ro.mk 0 0 0 0 []).val (.slice none 0 0), .int .i64 11]) ∧ Below w.heap.size w w' := by
  have hpl := fun W (hW : Below w.heap.size w W) => xfind_any r v (mbAt r.ms p).s p W (h.below hW) (by omega) (by omega) h1 h2 (fun _ => Int.le_refl _)
  simp only [hp, true_and, if_true] at hpl
  obtain ⟨ao, cp, hv⟩ := own_slice h
  obtain ⟨g, rfl⟩ : ∃ g, ao = some ⟨g, 0, none⟩ := by
    rcases h.2 with ⟨_, h0⟩ | ⟨g, cap, cur, e0, _⟩
    · omega
    · rw [hv] at e0; injection e0 with e0 _ _; exact ⟨g, e0⟩
  subst hv
  have hgT : g < w.heap.size := (h.lt g rfl).2
  have hc3 := (XIs.at3 h p hp).2.2
  rw [hst] at hc3
  have HC3 : Hid _ := hc3
  have HPL : Hid _ := hpl
  clear hpl h1 h2 h hc3 hst
  unfold Ro.val Ro.arr at *
  generalize mbAt r.ms p = m at *
  generalize r.ms.length = n at *
  have HB2 : Hid (∀ o1 o2, Below w.heap.size w ((w.alloc o1).alloc o2)) := fun o1 o2 => ((Below.refl _ w).alloc (Nat.le_refl _) _).alloc (by simp) _
  go_enter Try.func30, Try.ntmps30
  go_wp2_with fail
  go_call (HPL.out _ (HB2.out _ _)) as e w1 ⟨rfl, hb1⟩
  clear HPL
  obtain ⟨k1, k2, k3⟩ := below_two hb1
  have a4 := cell_of k1 4
  simp at a4
  have d0 := cell_of k2 0
  have d1 := cell_of k2 1
  have d2 := cell_of k2 2
  have d3 := cell_of k2 3
  have d4 := cell_of k2 4
  have g0 := frz_of k2 0
  have g1 := frz_of k2 1
  have g2 := frz_of k2 2
  have g3 := frz_of k2 3
  have g4 := frz_of k2 4
  simp at d0 d1 d2 d3 d4
  have K2 : Hid _ := k2
  have K3 : Hid _ := k3
  have c2 := (k3.cell (by exact hgT)).trans HC3.out
  clear hb1 k1 k2 k3
  go_wp2
  have hO := (((((Off.refl (w.heap.size + 1) (w.heap.size + 1) w1).set (a := ⟨w.heap.size + 1, 0, none⟩) (by simp) (.int .u64 0)).set (a := ⟨w.heap.size + 1, 1, none⟩) (by simp) (.int .u64 0)).set (a := ⟨w.heap.size + 1, 2, none⟩) (by simp) (.int .u64 0)).set (a := ⟨w.heap.size + 1, 3, none⟩) (by simp) (.int .u64 0)).set (a := ⟨w.heap.size + 1, 4, none⟩) (by simp) (.slice none 0 0)
  refine bodyPost_ret (xret2 Try.results30 _ _ (w.heap.size + 1) _ _ ?_ rfl (store5 K2.out _ _ _ _ _) rfl) rfl ⟨rfl, hO.below K3.out (by omega) (by omega)⟩
  rfl
theorem xremove_none (r : Ro) (v : Value) (t : Int) (p : Nat) (w : World) (h : XIs w 0 v r.ms) (hn : r.ms.length ≤ 1000) (hp : p ≤ r.ms.length) (hno : ¬ (p < r.ms.length ∧ (mbAt r.ms p).s = t)) (h1 : ∀ j, j < p → (mbAt r.ms j).s < t) (h2 : ∀ j, p < j → j < r.ms.length → t < (mbAt r.ms j).s) (h3 : p < r.ms.length → t ≤ (mbAt r.ms p).s) :
    Calls Try.prog 32 #[r.val v, .int .i64 t] w fun e w' => e = .returned (.tuple #[(Ro.mk 0 0 0 0 []).val (.slice none 0 0), .int .i64 10]) ∧ Below w.heap.size w w' := by
  have hpl := fun W (hW : Below w.heap.size w W) => xfind_any r v t p W (h.below hW) (by omega) hp h1 h2 h3
  simp only [if_neg hno] at hpl
  obtain ⟨ao, cp, hv⟩ := own_slice h
  subst hv
  have HPL : Hid _ := hpl
  clear hpl h1 h2 h3 h hno
  unfold Ro.val Ro.arr at *
  generalize r.ms.length = n at *
  have HB2 : Hid (∀ o1 o2, Below w.heap.size w ((w.alloc o1).alloc o2)) := fun o1 o2 => ((Below.refl _ w).alloc (Nat.le_refl _) _).alloc (by simp) _
  go_enter Try.func32, Try.ntmps32
  go_wp2_with fail
  go_call (HPL.out _ (HB2.out _ _)) as e w1 ⟨rfl, hb1⟩
  clear HPL
  obtain ⟨k1, k2, k3⟩ := below_two hb1
  have a4 := cell_of k1 4
  simp at a4
  have d0 := cell_of k2 0
  have d1 := cell_of k2 1
  have d2 := cell_of k2 2
  have d3 := cell_of k2 3
  have d4 := cell_of k2 4
  have g0 := frz_of k2 0
  have g1 := frz_of k2 1
  have g2 := frz_of k2 2
  have g3 := frz_of k2 3
  have g4 := frz_of k2 4
  simp at d0 d1 d2 d3 d4
  have K2 : Hid _ := k2
  have K3 : Hid _ := k3
  clear hb1 k1 k2 k3
  go_wp2
  have hO := (((((Off.refl (w.heap.size + 1) (w.heap.size + 1) w1).set (a := ⟨w.heap.size + 1, 0, none⟩) (by simp) (.int .u64 0)).set (a := ⟨w.heap.size + 1, 1, none⟩) (by simp) (.int .u64 0)).set (a := ⟨w.heap.size + 1, 2, none⟩) (by simp) (.int .u64 0)).set (a := ⟨w.heap.size + 1, 3, none⟩) (by simp) (.int .u64 0)).set (a := ⟨w.heap.size + 1, 4, none⟩) (by simp) (.slice none 0 0)
  refine bodyPost_ret (xret2 Try.results32 _ _ (w.heap.size + 1) _ _ ?_ rfl (store5 K2.out _ _ _ _ _) rfl) rfl ⟨rfl, hO.below K3.out (by omega) (by omega)⟩
  rfl
end Go.Proofs.Ytknmipbjkkeebaa
