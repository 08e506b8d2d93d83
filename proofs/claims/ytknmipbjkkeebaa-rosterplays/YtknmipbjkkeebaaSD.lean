/- The document's rosters: Drain of a member, as a call. -/
import Derived.Test.YtknmipbjkkeebaaSC
namespace Go.Proofs.Ytknmipbjkkeebaa
open Go.RowKit
set_option maxHeartbeats 2000000 in
set_option maxRecDepth 100000 in
theorem xdrain_ok (r : Ro) (v : Value) (p : Nat) (w : World) (h : XIs w 0 v r.ms) (hn : r.ms.length ≤ 1000) (he : r.e < 9223372036854775807) (hp : p < r.ms.length) (hst : ¬ (mbAt r.ms p).t = 2) (h1 : ∀ j, j < p → (mbAt r.ms j).s < (mbAt r.ms p).s) (h2 : ∀ j, p < j → j < r.ms.length → (mbAt r.ms p).s < (mbAt r.ms j).s) :
    Calls Try.prog 30 #[r.val v, .int .i64 (mbAt r.ms p).s] w fun e w' => ∃ v', e = .returned (.tuple #[(r.drain p).val v', .int .i64 0]) ∧ XIs w' w.heap.size v' (r.drain p).ms ∧ Below w.heap.size w w' := by
  have hpl := fun W (hW : Below w.heap.size w W) => xfind_any r v (mbAt r.ms p).s p W (h.below hW) (by omega) (by omega) h1 h2 (fun _ => Int.le_refl _)
  simp only [hp, true_and, if_true] at hpl
  have hnx := fun W (hW : Below w.heap.size w W) => xcopied_any r v W (h.below hW) (by omega) he
  obtain ⟨ao, cp, hv⟩ := own_slice h
  obtain ⟨g, rfl⟩ : ∃ g, ao = some ⟨g, 0, none⟩ := by
    rcases h.2 with ⟨_, h0⟩ | ⟨g, cap, cur, e0, _⟩
    · omega
    · rw [hv] at e0; injection e0 with e0 _ _; exact ⟨g, e0⟩
  subst hv
  have hgT : g < w.heap.size := (h.lt g rfl).2
  have hc3 := (XIs.at3 h p hp).2.2
  have HC3 : Hid _ := hc3
  have HPL : Hid _ := hpl
  have HNX : Hid _ := hnx
  have HP : Hid (p < r.ms.length) := hp
  clear hpl hnx h1 h2 h hc3
  unfold Ro.val Ro.arr at *
  obtain ⟨n, hnn⟩ : ∃ n, n = r.ms.length := ⟨_, rfl⟩
  rw [← hnn] at hn hp HPL HNX ⊢
  have HN : Hid _ := hnn
  clear hnn
  obtain ⟨m, hm⟩ : ∃ m, m = mbAt r.ms p := ⟨_, rfl⟩
  rw [← hm] at hst HC3 HPL ⊢
  have HMM : Hid _ := hm
  clear hm
  have HB2 : Hid (∀ o1 o2, Below w.heap.size w ((w.alloc o1).alloc o2)) := fun o1 o2 => ((Below.refl _ w).alloc (Nat.le_refl _) _).alloc (by simp) _
  go_enter Try.func30, Try.ntmps30
  go_wp2_with fail
  go_call (HPL.out _ (HB2.out _ _)) as e w1 ⟨rfl, hb1⟩
  clear HPL
  obtain ⟨k1, k2, k3⟩ := below_two hb1
  have a0 := cell_of k1 0
  have a1 := cell_of k1 1
  have a2 := cell_of k1 2
  have a3 := cell_of k1 3
  have a4 := cell_of k1 4
  simp at a0 a1 a2 a3 a4
  have c2 := (k3.cell (by exact hgT)).trans HC3.out
  have hw1 : w.heap.size + 2 ≤ w1.heap.size := by have := hb1.size; simp at this; omega
  have hnx := HNX.out w1 k3
  have K1 : Hid _ := k1
  have K2 : Hid _ := k2
  have K3 : Hid _ := k3
  clear hb1 k1 k2 k3 HNX
  go_wp2_with fail
  go_call hnx as e w2 ⟨v2, rfl, hm2, hb2⟩
  clear hnx a0 a1 a2 a3 a4 c2
  obtain ⟨ao2, cp2, rfl⟩ := own_slice hm2
  obtain ⟨g2, rfl⟩ : ∃ g2, ao2 = some ⟨g2, 0, none⟩ := by
    rcases hm2.2 with ⟨_, h0⟩ | ⟨g, cap, cur, e0, _⟩
    · have := HP.out; omega
    · injection e0 with e0 _ _; exact ⟨g, e0⟩
  have hg2 := hm2.lt g2 rfl
  have q1 := (hb2.block _ (by omega)).trans K1.out
  have q2 := (hb2.block _ (by omega)).trans K2.out
  have hw2 := hb2.size
  have Q1 : Hid _ := q1
  have Q2 : Hid _ := q2
  have Q3 : Hid _ := K3.out.trans (hb2.mono (by omega))
  have HM2 : Hid (XIs w2 (w.heap.size + 2) (.slice (some ⟨g2, 0, none⟩) r.ms.length cp2) r.ms) := XIs.least hm2 hw1
  have HG2 : Hid (w.heap.size + 2 ≤ g2) := Nat.le_trans hw1 hg2.1
  clear K1 K2 K3 hm2 hb2 q1 q2 hg2 hw1 hw2 HC3 hgT HB2
  go_wp2_with (first | (refine xst5 rfl _ _ rfl _ _ _ _ _ _ rfl rfl Q1.out (by simp [Value.oneCell']) ?c3) | (refine xst5p _ _ rfl _ _ _ _ _ _ rfl rfl Q1.out (by simp [Value.oneCell']) ?c3))
  intro W hO1 hk1
  have hk2 := (hO1.block (w.heap.size + 1) (by omega) (by omega)).trans Q2.out
  have hxm := XIs.off HM2.out hO1 Q1.out Q1.out (by decide) (by decide)
  have hbl := hO1.below Q3.out (by omega) (by omega)
  have hg2 : w.heap.size + 2 ≤ g2 := HG2.out
  have hne : ¬ g2 = w.heap.size := by omega
  have hne2 : ¬ g2 = w.heap.size + 1 := by omega
  have cg := (XIs.at3 hxm p HP.out).2.2
  have fg : W.frozen? ⟨g2, p * 3 + 2, none⟩ = false := by
    rcases hxm.2 with ⟨h0, _⟩ | ⟨g', cap', cur, e0, _, h3, _⟩
    · cases h0
    · injection e0 with e0 _ _; injection e0 with e0; injection e0 with e0 _ _; subst e0; exact frz_of h3 _
  have hse : XIs (W.setCell ⟨g2, p * 3 + 2, none⟩ (.int .i64 2)) w.heap.size _ (drainL r.ms p) := XIs.setT (XIs.least hxm (by omega)) p HP.out
  have kB : (W.setCell ⟨g2, p * 3 + 2, none⟩ (.int .i64 2)).heap[w.heap.size]? = _ := (Below.heap_setCell _ _ _ _ (by exact fun e => hne e.symm)).trans hk1
  have kT : (W.setCell ⟨g2, p * 3 + 2, none⟩ (.int .i64 2)).heap[w.heap.size + 1]? = _ := (Below.heap_setCell _ _ _ _ (by exact fun e => hne2 e.symm)).trans hk2
  have hbl2 : Below w.heap.size w (W.setCell ⟨g2, p * 3 + 2, none⟩ (.int .i64 2)) := hbl.setCell (by show w.heap.size ≤ g2; omega) _
  have a4 := cell_of hk1 4
  have b0 := cell_of kB 0
  have b1 := cell_of kB 1
  have b2 := cell_of kB 2
  have b3 := cell_of kB 3
  have b4 := cell_of kB 4
  have d0 := cell_of kT 0
  have g0 := frz_of kT 0
  have d1 := cell_of kT 1
  have g1 := frz_of kT 1
  have d2 := cell_of kT 2
  have g2' := frz_of kT 2
  have d3 := cell_of kT 3
  have g3 := frz_of kT 3
  have d4 := cell_of kT 4
  have g4 := frz_of kT 4
  simp at a4 b0 b1 b2 b3 b4 d0 d1 d2 d3 d4
  have hpl2 : p < r.ms.length := HP.out
  have L1 : Hid _ := kB
  have L2 : Hid _ := kT
  have L3 : Hid _ := hse
  have L4 : Hid _ := hbl2
  clear Q1 Q2 Q3 HM2 HG2 hk1 hk2 hxm hbl hO1 kB kT hse hbl2 hg2
  go_wp2
  have hO := fun a b c d e => (Off.refl w.heap.size (w.heap.size + 1) (W.setCell ⟨g2, p * 3 + 2, none⟩ (.int .i64 2))).five a b c d e
  refine bodyPost_ret (xret2 Try.results30 _ _ (w.heap.size + 1) _ _ ?_ rfl (store5 L2.out _ _ _ _ _) rfl) rfl ⟨.slice (some ⟨g2, 0, none⟩) r.ms.length cp2, rfl, XIs.off L3.out (hO _ _ _ _ _) L1.out L2.out (by decide) (by decide), (hO _ _ _ _ _).below L4.out (by omega) (by omega)⟩
  rfl
end Go.Proofs.Ytknmipbjkkeebaa
