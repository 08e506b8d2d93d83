/- Add's errors; a member that isn't there; Extend; as calls. -/
import Derived.Test.YtknmipbjkkeebaaRE
namespace Go.Proofs.Ytknmipbjkkeebaa
open Go.RowKit
theorem radd_there (r : Ro) (v : Value) (t : Int) (p : Nat) (w : World) (h : MIs w 0 v r.ms) (hn2 : r.ms.length ≤ 1000) (ht : 1 ≤ t ∧ t ≤ 1000) (hp : p < r.ms.length) (hpt : (mbAt r.ms p).s = t) (h1 : ∀ j, j < p → (mbAt r.ms j).s < t) (h2 : ∀ j, p ≤ j → j < r.ms.length → t ≤ (mbAt r.ms j).s) :
    Calls Try.prog 39 #[r.val v, .int .i64 t] w fun e w' => e = .returned (.tuple #[(Ro.mk 0 0 0 0 []).val (.slice none 0 0), .int .i64 11]) ∧ Below w.heap.size w w' := by
  have hpl := fun W (hW : Below w.heap.size w W) => rplace_any r v t p W (h.below hW) (by omega) (by omega) h1 h2
  rw [decide_eq_true ⟨hp, hpt⟩] at hpl
  have hms := mayserial_any t
  rw [decide_eq_true ht] at hms
  obtain ⟨ao, cp, hv⟩ := own_slice h
  have HPL : Hid _ := hpl
  clear hpl h1 h2 h hpt hp
  unfold Ro.val Ro.arr at *
  subst hv
  generalize r.ms.length = n at *
  have HB2 : Hid (∀ o1 o2, Below w.heap.size w ((w.alloc o1).alloc o2)) := fun o1 o2 => ((Below.refl _ w).alloc (Nat.le_refl _) _).alloc (by simp) _
  go_enter Try.func39, Try.ntmps39
  go_wp2_with fail
  go_call (hms _) as e w0 ⟨rfl, rfl⟩
  go_wp2_with fail
  go_call (HPL.out _ (HB2.out _ _)) as e w1 ⟨rfl, hb1⟩
  clear HPL hms
  obtain ⟨k1, k2, k3⟩ := below_two hb1
  have a4 := cell_of k1 4
  simp at a4
  have d0 := cell_of k2 0
  have d1 := cell_of k2 1
  have d2 := cell_of k2 2
  have d3 := cell_of k2 3
  have d4 := cell_of k2 4
  have g0 := frz_of k2 0
  have g1 := frz_of k2 1
  have g2 := frz_of k2 2
  have g3 := frz_of k2 3
  have g4 := frz_of k2 4
  simp at d0 d1 d2 d3 d4
  have K2 : Hid _ := k2
  have K3 : Hid _ := k3
  clear hb1 k1 k2 k3
  go_wp2
  have hO := (((((Off.refl (w.heap.size + 1) (w.heap.size + 1) w1).set (a := ⟨w.heap.size + 1, 0, none⟩) (by simp) (.int .u64 0)).set (a := ⟨w.heap.size + 1, 1, none⟩) (by simp) (.int .u64 0)).set (a := ⟨w.heap.size + 1, 2, none⟩) (by simp) (.int .u64 0)).set (a := ⟨w.heap.size + 1, 3, none⟩) (by simp) (.int .u64 0)).set (a := ⟨w.heap.size + 1, 4, none⟩) (by simp) (.slice none 0 0)
  refine bodyPost_ret (ret2 Try.results39 _ _ (w.heap.size + 1) _ _ ?_ rfl (store5 K2.out _ _ _ _ _) rfl) rfl ⟨rfl, hO.below K3.out (by omega) (by omega)⟩
  rfl
theorem radd_arg (r : Ro) (v : Value) (t : Int) (w : World) (h : MIs w 0 v r.ms) (ht : ¬ (1 ≤ t ∧ t ≤ 1000)) :
    Calls Try.prog 39 #[r.val v, .int .i64 t] w fun e w' => e = .returned (.tuple #[(Ro.mk 0 0 0 0 []).val (.slice none 0 0), .int .i64 1]) ∧ Below w.heap.size w w' := by
  have hms := mayserial_any t
  rw [decide_eq_false ht] at hms
  obtain ⟨ao, cp, hv⟩ := own_slice h
  clear h ht
  unfold Ro.val Ro.arr at *
  subst hv
  generalize r.ms.length = n at *
  have HB2 : Hid (∀ o1 o2, Below w.heap.size w ((w.alloc o1).alloc o2)) := fun o1 o2 => ((Below.refl _ w).alloc (Nat.le_refl _) _).alloc (by simp) _
  go_enter Try.func39, Try.ntmps39
  go_wp2_with fail
  go_call (hms _) as e w0 ⟨rfl, rfl⟩
  go_wp2
  refine bodyPost_ret (ret2 Try.results39 _ _ (w.heap.size + 1) _ _ ?_ rfl (heap_alloc2_new w _ _) rfl) rfl ⟨rfl, HB2.out _ _⟩
  rfl
theorem rfind_no (r : Ro) (v : Value) (t : Int) (p : Nat) (w : World) (h : MIs w 0 v r.ms) (hn : r.ms.length ≤ 1000) (hp : p ≤ r.ms.length) (hno : ¬ (p < r.ms.length ∧ (mbAt r.ms p).s = t)) (h1 : ∀ j, j < p → (mbAt r.ms j).s < t) (h2 : ∀ j, p ≤ j → j < r.ms.length → t ≤ (mbAt r.ms j).s) :
    Calls Try.prog 43 #[r.val v, .int .i64 t] w fun e w' => e = .returned (.tuple #[(Mb.mk 0 0 0).val, .bool false]) ∧ Below w.heap.size w w' := by
  have hpl := fun W (hW : Below w.heap.size w W) => rplace_any r v t p W (h.below hW) (by omega) hp h1 h2
  rw [decide_eq_false hno] at hpl
  obtain ⟨ao, cp, hv⟩ := own_slice h
  subst hv
  have HPL : Hid _ := hpl
  clear hpl h1 h2 h hno
  unfold Ro.val Ro.arr Mb.val at *
  generalize r.ms.length = n at *
  have HB2 : Hid (∀ o1 o2, Below w.heap.size w ((w.alloc o1).alloc o2)) := fun o1 o2 => ((Below.refl _ w).alloc (Nat.le_refl _) _).alloc (by simp) _
  go_enter Try.func43, Try.ntmps43
  go_wp2_with fail
  go_call (HPL.out _ (HB2.out _ _)) as e w1 ⟨rfl, hb1⟩
  clear HPL
  obtain ⟨k1, k2, k3⟩ := below_two hb1
  have d0 := cell_of k2 0
  have d1 := cell_of k2 1
  have d2 := cell_of k2 2
  have g0 := frz_of k2 0
  have g1 := frz_of k2 1
  have g2 := frz_of k2 2
  simp at d0 d1 d2
  have K2 : Hid _ := k2
  have K3 : Hid _ := k3
  clear hb1 k1 k2 k3
  go_wp2
  have hO := (((Off.refl (w.heap.size + 1) (w.heap.size + 1) w1).set (a := ⟨w.heap.size + 1, 0, none⟩) (by simp) (.int .i64 0)).set (a := ⟨w.heap.size + 1, 1, none⟩) (by simp) (.int .u64 0)).set (a := ⟨w.heap.size + 1, 2, none⟩) (by simp) (.int .i64 0)
  refine bodyPost_ret (ret2m Try.results43 _ _ (w.heap.size + 1) _ _ ?_ rfl (store3 K2.out _ _ _) rfl) rfl ⟨rfl, hO.below K3.out (by omega) (by omega)⟩
  rfl
def Ro.extend (r : Ro) : Ro := { r with e := r.e + 1, l := r.l + 64 }
set_option maxRecDepth 100000 in
theorem extend_any (r : Ro) (v : Value) (w : World) (h : MIs w 0 v r.ms) (hn : r.ms.length ≤ 1000) (he : r.e < 9223372036854775807) (hc : r.l < 9223372036854775807) :
    Calls Try.prog 35 #[r.val v] w fun e w' => ∃ v', e = .returned (r.extend.val v') ∧ MIs w' w.heap.size v' r.ms ∧ Below w.heap.size w w' := by
  have hnx := fun W (hW : Below w.heap.size w W) => next_any r v W (h.below hW) hn he
  have HNX : Hid _ := hnx
  obtain ⟨ao, cp, hv⟩ := own_slice h
  subst hv
  have HB2 : Hid (∀ o1 o2, Below w.heap.size w ((w.alloc o1).alloc o2)) := fun o1 o2 => ((Below.refl _ w).alloc (Nat.le_refl _) _).alloc (by simp) _
  clear h hnx
  unfold Ro.val Ro.arr Ro.extend at *
  generalize r.ms.length = n at *
  go_enter Try.func35, Try.ntmps35
  go_wp2_with fail
  go_call (HNX.out _ (HB2.out _ _)) as e w2 ⟨v2, rfl, hm2, hb2⟩
  clear HNX
  obtain ⟨ao2, cp2, rfl⟩ := own_slice hm2
  obtain ⟨k1, k2, k3⟩ := below_two hb2
  have hw2 : w.heap.size + 2 ≤ w2.heap.size := by have := hb2.size; simp at this; omega
  have kA : ∀ o, (w2.alloc o).heap[w.heap.size + 1]? = some (.cells #[.int .u64 0, .int .u64 0, .int .u64 0, .int .u64 0, .slice none 0 0] 72) := fun o => (Below.heap_alloc _ _ _ (by omega)).trans k2
  have d0 : ∀ o, (w2.alloc o).cell? ⟨w.heap.size + 1, 0, none⟩ = some (.int .u64 0) := fun o => cell_of (kA o) 0
  have d1 : ∀ o, (w2.alloc o).cell? ⟨w.heap.size + 1, 1, none⟩ = some (.int .u64 0) := fun o => cell_of (kA o) 1
  have d2 : ∀ o, (w2.alloc o).cell? ⟨w.heap.size + 1, 2, none⟩ = some (.int .u64 0) := fun o => cell_of (kA o) 2
  have d3 : ∀ o, (w2.alloc o).cell? ⟨w.heap.size + 1, 3, none⟩ = some (.int .u64 0) := fun o => cell_of (kA o) 3
  have d4 : ∀ o, (w2.alloc o).cell? ⟨w.heap.size + 1, 4, none⟩ = some (.slice none 0 0) := fun o => cell_of (kA o) 4
  have g0 := fun o => frz_of (kA o) 0
  have g1 := fun o => frz_of (kA o) 1
  have g2 := fun o => frz_of (kA o) 2
  have g3 := fun o => frz_of (kA o) 3
  have g4 := fun o => frz_of (kA o) 4
  have KA : Hid _ := kA
  have K2 : Hid _ := k2
  have K3 : Hid _ := k3
  have HM2 : Hid (MIs w2 w.heap.size (.slice ao2 r.ms.length cp2) r.ms) := MIs.least hm2 (by simp; omega)
  clear hb2 k1 k2 k3 hm2 kA
  go_wp2
  have hO := (((((Off.refl (w.heap.size + 1) (w.heap.size + 1) (w2.alloc (.cells #[.int .u64 (r.c : Nat), .int .u64 ((r.e : Int) + 1), .int .u64 ((r.l : Int) + 64), .int .u64 (r.j : Nat), .slice ao2 r.ms.length cp2] 72))).set (a := ⟨w.heap.size + 1, 0, none⟩) (by simp) (.int .u64 (r.c : Nat))).set (a := ⟨w.heap.size + 1, 1, none⟩) (by simp) (.int .u64 ((r.e : Int) + 1))).set (a := ⟨w.heap.size + 1, 2, none⟩) (by simp) (.int .u64 ((r.l : Int) + 64))).set (a := ⟨w.heap.size + 1, 3, none⟩) (by simp) (.int .u64 (r.j : Nat))).set (a := ⟨w.heap.size + 1, 4, none⟩) (by simp) (.slice ao2 r.ms.length cp2)
  refine bodyPost_ret (ret1 Try.results35 _ _ (w.heap.size + 1) _ ?_ rfl (store5 (KA.out _) _ _ _ _ _)) rfl ⟨.slice ao2 r.ms.length cp2, rfl, MIs.off (MIs.below HM2.out ((Below.refl _ w2).alloc (Nat.le_refl _) _)) hO (KA.out _) (KA.out _) (by decide) (by decide), hO.below (K3.out.alloc (by omega) _) (by omega) (by omega)⟩
  rfl
end Go.Proofs.Ytknmipbjkkeebaa
