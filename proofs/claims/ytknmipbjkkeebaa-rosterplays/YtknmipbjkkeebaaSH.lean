/- Same of one roster, the program's and the document's, as a call. -/
import Derived.Test.YtknmipbjkkeebaaSG
import Derived.Test.YtknmipbjkkeebaaRE
namespace Go.Proofs.Ytknmipbjkkeebaa
open Go.RowKit
set_option maxHeartbeats 2000000 in
set_option maxRecDepth 100000 in
theorem same_any (r : Ro) (v v2 : Value) (w : World) (h : MIs w 0 v r.ms) (hx : XIs w 0 v2 r.ms) (hn : r.ms.length ≤ 1000) :
    Calls Try.prog 40 #[r.val v, r.val v2] w fun e w' => e = .returned (.bool true) ∧ Below w.heap.size w w' := by
  obtain ⟨ao, cp, hv⟩ := own_slice h
  obtain ⟨ao2, cp2, hv2⟩ := own_slice hx
  subst hv hv2
  have HM : Hid _ := h
  have HX : Hid _ := hx
  clear h hx
  unfold Ro.val Ro.arr
  obtain ⟨n, hnn⟩ : ∃ n, n = r.ms.length := ⟨_, rfl⟩
  rw [← hnn] at hn ⊢
  have HN : Hid _ := hnn
  clear hnn
  obtain ⟨W, hW⟩ : ∃ W : World, W = (w.alloc (.cells #[.int .u64 (r.c : Nat), .int .u64 (r.e : Nat), .int .u64 (r.l : Nat), .int .u64 (r.j : Nat), .slice ao n cp] 72)).alloc (.cells #[.int .u64 (r.c : Nat), .int .u64 (r.e : Nat), .int .u64 (r.l : Nat), .int .u64 (r.j : Nat), .slice ao2 n cp2] 69) := ⟨_, rfl⟩
  have HW : Hid _ := hW
  have H0 : Hid (Below w.heap.size w W ∧ W.cell? ⟨w.heap.size, 4, none⟩ = some (.slice ao n cp) ∧ w.heap.size + 2 ≤ W.heap.size) := by
    rw [hW]
    refine ⟨((Below.refl _ w).alloc (Nat.le_refl _) _).alloc (by simp) _, ?_, by simp⟩
    rw [World.cell?_alloc_past _ _ _ (by simp), cell_of (heap_new _ _)]; rfl
  clear hW
  go_enter Try.func40, Try.ntmps40
  go_wp2
  go_loopw [45] (fun i wr => ∃ k : Nat, k ≤ n ∧ i = .int .i64 (k : Nat) ∧ Hid (Below W.heap.size W wr)) (fun i _ => n - (intOf i).toNat)
  case atStart =>
    rw [← HW.out]
    exact ⟨0, by omega, rfl, Below.refl _ _⟩
  case round =>
    obtain ⟨k, hk, rfl, HI⟩ := hrel
    rcases Nat.lt_or_ge k n with hkn | hkn
    · obtain ⟨g, hg⟩ : ∃ g, ao = some ⟨g, 0, none⟩ := by
        rcases HM.out.2 with ⟨_, h0⟩ | ⟨g, cap, cur, e0, _⟩
        · have := HN.out; omega
        · injection e0 with e0 _ _; exact ⟨g, e0⟩
      obtain ⟨g2, hg2⟩ : ∃ g, ao2 = some ⟨g, 0, none⟩ := by
        rcases HX.out.2 with ⟨_, h0⟩ | ⟨g, cap, cur, e0, _⟩
        · have := HN.out; omega
        · injection e0 with e0 _ _; exact ⟨g, e0⟩
      subst hg hg2
      have hmem : k < r.ms.length := by rw [← HN.out]; exact hkn
      have hgT : g < w.heap.size := (HM.out.lt g rfl).2
      have hgT2 : g2 < w.heap.size := (HX.out.lt g2 rfl).2
      have hbw : Below w.heap.size w wr := H0.out.1.trans (HI.out.mono (by have := H0.out.2.2; omega))
      obtain ⟨c0, c1, c2⟩ := XIs.at3 HX.out k hmem
      replace c0 := (hbw.cell (by exact hgT2)).trans c0
      replace c1 := (hbw.cell (by exact hgT2)).trans c1
      replace c2 := (hbw.cell (by exact hgT2)).trans c2
      obtain ⟨d0, d1, d2⟩ := MIs.at3 HM.out k hmem
      have e0 : ∀ o, (wr.alloc o).cell? ⟨g, k * 3, none⟩ = some (.int .i64 (mbAt r.ms k).s) := fun o => (World.cell?_alloc_past _ _ _ (by show g < _; have := hbw.size; omega)).trans ((hbw.cell (by exact hgT)).trans d0)
      have e1 : ∀ o, (wr.alloc o).cell? ⟨g, k * 3 + 1, none⟩ = some (.int .u64 ((mbAt r.ms k).j : Nat)) := fun o => (World.cell?_alloc_past _ _ _ (by show g < _; have := hbw.size; omega)).trans ((hbw.cell (by exact hgT)).trans d1)
      have e2 : ∀ o, (wr.alloc o).cell? ⟨g, k * 3 + 2, none⟩ = some (.int .i64 (mbAt r.ms k).t) := fun o => (World.cell?_alloc_past _ _ _ (by show g < _; have := hbw.size; omega)).trans ((hbw.cell (by exact hgT)).trans d2)
      have bs : ∀ o, (wr.alloc o).cell? ⟨w.heap.size, 4, none⟩ = some (.slice (some ⟨g, 0, none⟩) n cp) := fun o => (World.cell?_alloc_past _ _ _ (by show w.heap.size < _; have := HI.out.size; have := H0.out.2.2; omega)).trans ((HI.out.cell (by show w.heap.size < _; have := H0.out.2.2; omega)).trans H0.out.2.1)
      have HB : Hid (∀ o, Below W.heap.size W (wr.alloc o)) := fun o => HI.out.alloc HI.out.size o
      have hne := fun W => mb_ne (mbAt r.ms k).s (mbAt r.ms k).s (mbAt r.ms k).t (mbAt r.ms k).t (mbAt r.ms k).j (mbAt r.ms k).j W
      generalize mbAt r.ms k = m at *
      clear HI hbw d0 d1 d2 hgT hgT2
      simp only [and_self, decide_true, Bool.not_true] at hne
      go_wp2
      go_region
      go_wp2
      go_roundw
      case rel => exact ⟨k + 1, by omega, rfl, (HB.out _).drew⟩
      case measure => simp only [intOf]; omega
    · obtain rfl : k = n := by omega
      have HB : Hid (Below w.heap.size w wr) := H0.out.1.trans (HI.out.mono (by have := H0.out.2.2; omega))
      clear HI
      go_wp2
      go_returns
      exact ⟨rfl, HB.out⟩
end Go.Proofs.Ytknmipbjkkeebaa
