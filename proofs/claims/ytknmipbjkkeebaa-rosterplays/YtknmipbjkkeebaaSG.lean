/- The document's rosters: Add refused, as calls. -/
import Derived.Test.YtknmipbjkkeebaaSF
namespace Go.Proofs.Ytknmipbjkkeebaa
open Go.RowKit
theorem xadd_arg (r : Ro) (v : Value) (t : Int) (w : World) (h : XIs w 0 v r.ms) (ht : ¬ (1 ≤ t ∧ t ≤ 1000)) :
    Calls Try.prog 38 #[r.val v, .int .i64 t] w fun e w' => e = .returned (.tuple #[(Ro.mk 0 0 0 0 []).val (.slice none 0 0), .int .i64 1]) ∧ Below w.heap.size w w' := by
  obtain ⟨ao, cp, hv⟩ := own_slice h
  clear h
  unfold Ro.val Ro.arr at *
  subst hv
  generalize r.ms.length = n at *
  have HB2 : Hid (∀ o1 o2, Below w.heap.size w ((w.alloc o1).alloc o2)) := fun o1 o2 => ((Below.refl _ w).alloc (Nat.le_refl _) _).alloc (by simp) _
  by_cases h0 : t < 1
  · clear ht
    go_enter Try.func38, Try.ntmps38
    go_wp2
    refine bodyPost_ret (xret2 Try.results38 _ _ (w.heap.size + 1) _ _ ?_ rfl (heap_alloc2_new w _ _) rfl) rfl ⟨rfl, HB2.out _ _⟩
    rfl
  · have h3 : 1000 < t := by omega
    clear ht
    go_enter Try.func38, Try.ntmps38
    go_wp2
    refine bodyPost_ret (xret2 Try.results38 _ _ (w.heap.size + 1) _ _ ?_ rfl (heap_alloc2_new w _ _) rfl) rfl ⟨rfl, HB2.out _ _⟩
    rfl
theorem xadd_there (r : Ro) (v : Value) (t : Int) (p : Nat) (w : World) (h : XIs w 0 v r.ms) (hn2 : r.ms.length ≤ 1000) (ht : 1 ≤ t ∧ t ≤ 1000) (hp : p < r.ms.length) (hpt : (mbAt r.ms p).s = t) (h1 : ∀ j, j < p → (mbAt r.ms j).s < t) (h2 : ∀ j, p < j → j < r.ms.length → t < (mbAt r.ms j).s) :
    Calls Try.prog 38 #[r.val v, .int .i64 t] w fun e w' => e = .returned (.tuple #[(Ro.mk 0 0 0 0 []).val (.slice none 0 0), .int .i64 11]) ∧ Below w.heap.size w w' := by
  have hpl := fun W (hW : Below w.heap.size w W) => xfind_any r v t p W (h.below hW) (by omega) (by omega) h1 h2 (fun _ => by omega)
  simp only [if_pos (And.intro hp hpt)] at hpl
  obtain ⟨ao, cp, hv⟩ := own_slice h
  have HPL : Hid _ := hpl
  clear hpl h1 h2 h hpt hp
  unfold Ro.val Ro.arr at *
  subst hv
  generalize r.ms.length = n at *
  have HB2 : Hid (∀ o1 o2, Below w.heap.size w ((w.alloc o1).alloc o2)) := fun o1 o2 => ((Below.refl _ w).alloc (Nat.le_refl _) _).alloc (by simp) _
  go_enter Try.func38, Try.ntmps38
  go_wp2_with fail
  go_call (HPL.out _ (HB2.out _ _)) as e w1 ⟨rfl, hb1⟩
  clear HPL
  obtain ⟨k1, k2, k3⟩ := below_two hb1
  have a4 := cell_of k1 4
  simp at a4
  have d0 := cell_of k2 0
  have d1 := cell_of k2 1
  have d2 := cell_of k2 2
  have d3 := cell_of k2 3
  have d4 := cell_of k2 4
  have g0 := frz_of k2 0
  have g1 := frz_of k2 1
  have g2 := frz_of k2 2
  have g3 := frz_of k2 3
  have g4 := frz_of k2 4
  simp at d0 d1 d2 d3 d4
  have K2 : Hid _ := k2
  have K3 : Hid _ := k3
  clear hb1 k1 k2 k3
  go_wp2
  have hO := (((((Off.refl (w.heap.size + 1) (w.heap.size + 1) w1).set (a := ⟨w.heap.size + 1, 0, none⟩) (by simp) (.int .u64 0)).set (a := ⟨w.heap.size + 1, 1, none⟩) (by simp) (.int .u64 0)).set (a := ⟨w.heap.size + 1, 2, none⟩) (by simp) (.int .u64 0)).set (a := ⟨w.heap.size + 1, 3, none⟩) (by simp) (.int .u64 0)).set (a := ⟨w.heap.size + 1, 4, none⟩) (by simp) (.slice none 0 0)
  refine bodyPost_ret (xret2 Try.results38 _ _ (w.heap.size + 1) _ _ ?_ rfl (store5 K2.out _ _ _ _ _) rfl) rfl ⟨rfl, hO.below K3.out (by omega) (by omega)⟩
  rfl
theorem xadd_full (r : Ro) (v : Value) (t : Int) (p : Nat) (w : World) (h : XIs w 0 v r.ms) (hn : 16 ≤ r.ms.length) (hn2 : r.ms.length ≤ 1000) (ht : 1 ≤ t ∧ t ≤ 1000) (hp : p ≤ r.ms.length) (h1 : ∀ j, j < p → (mbAt r.ms j).s < t) (h2 : ∀ j, p ≤ j → j < r.ms.length → t < (mbAt r.ms j).s) :
    Calls Try.prog 38 #[r.val v, .int .i64 t] w fun e w' => e = .returned (.tuple #[(Ro.mk 0 0 0 0 []).val (.slice none 0 0), .int .i64 12]) ∧ Below w.heap.size w w' := by
  have hpl := fun W (hW : Below w.heap.size w W) => xfind_any r v t p W (h.below hW) (by omega) hp h1 (fun j a b => h2 j (by omega) b) (fun a => Int.le_of_lt (h2 p (Nat.le_refl _) a))
  simp only [if_neg (show ¬ (p < r.ms.length ∧ (mbAt r.ms p).s = t) from fun hh => by have := h2 p (Nat.le_refl _) hh.1; omega)] at hpl
  obtain ⟨ao, cp, hv⟩ := own_slice h
  have hlen : (16 : Int) ≤ ((r.ms.length : Nat) : Int) := by omega
  have HPL : Hid _ := hpl
  clear hpl h1 h2 h
  unfold Ro.val Ro.arr at *
  subst hv
  generalize r.ms.length = n at *
  have HB2 : Hid (∀ o1 o2, Below w.heap.size w ((w.alloc o1).alloc o2)) := fun o1 o2 => ((Below.refl _ w).alloc (Nat.le_refl _) _).alloc (by simp) _
  go_enter Try.func38, Try.ntmps38
  go_wp2_with fail
  go_call (HPL.out _ (HB2.out _ _)) as e w1 ⟨rfl, hb1⟩
  clear HPL
  obtain ⟨k1, k2, k3⟩ := below_two hb1
  have a4 := cell_of k1 4
  simp at a4
  have d0 := cell_of k2 0
  have d1 := cell_of k2 1
  have d2 := cell_of k2 2
  have d3 := cell_of k2 3
  have d4 := cell_of k2 4
  have g0 := frz_of k2 0
  have g1 := frz_of k2 1
  have g2 := frz_of k2 2
  have g3 := frz_of k2 3
  have g4 := frz_of k2 4
  simp at d0 d1 d2 d3 d4
  have K2 : Hid _ := k2
  have K3 : Hid _ := k3
  clear hb1 k1 k2 k3
  go_wp2
  have hO := (((((Off.refl (w.heap.size + 1) (w.heap.size + 1) w1).set (a := ⟨w.heap.size + 1, 0, none⟩) (by simp) (.int .u64 0)).set (a := ⟨w.heap.size + 1, 1, none⟩) (by simp) (.int .u64 0)).set (a := ⟨w.heap.size + 1, 2, none⟩) (by simp) (.int .u64 0)).set (a := ⟨w.heap.size + 1, 3, none⟩) (by simp) (.int .u64 0)).set (a := ⟨w.heap.size + 1, 4, none⟩) (by simp) (.slice none 0 0)
  refine bodyPost_ret (xret2 Try.results38 _ _ (w.heap.size + 1) _ _ ?_ rfl (store5 K2.out _ _ _ _ _) rfl) rfl ⟨rfl, hO.below K3.out (by omega) (by omega)⟩
  rfl
end Go.Proofs.Ytknmipbjkkeebaa
