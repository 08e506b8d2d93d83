/- The law MediumPanics as a call. -/
import Derived.Test.YtiohkdpmgkobiaaM
namespace Go.Proofs.Ytiohkdpmgkobiaa
open Go.RowKit
theorem ent40 (args : Array Value) (W : World) : (callFunc 40 args).run Try.prog W = .ok (.enter 40 args) W := enter_of Try.func40 (by kernel_rfl) (by kernel_rfl) args W
theorem ent42 (args : Array Value) (W : World) : (callFunc 42 args).run Try.prog W = .ok (.enter 42 args) W := enter_of Try.func42 (by kernel_rfl) (by kernel_rfl) args W
theorem do42 (C : Nat) (s : ByteArray) (hs : s.size ≤ 140737488351232) (w : World) (h : w.cell? ⟨C, 0, none⟩ = some (.string s)) :
    Calls Try.prog 42 #[.pointer (some ⟨C, 0, none⟩)] w fun e w' => e = .panicked [oth (⟨#[97]⟩ ++ s)] ∧ w' = w := by
  go_enter Try.func42, Try.ntmps42
  go_wp2
  exact ⟨rfl, rfl, rfl⟩
theorem catch41 (G : Nat) (t : ByteArray) (older : List PanicEntry) (w : World) (g0 : ByteArray) (hg : w.cell? ⟨G, 0, none⟩ = some (.string g0)) (hf : w.frozen? ⟨G, 0, none⟩ = false) :
    CallsD Try.prog 41 #[.pointer (some ⟨G, 0, none⟩)] (.panicking (oth t :: older)) w fun e u' w' =>
      e = .returned (.tuple #[]) ∧ u' = .panicking ({ oth t with recovered := true } :: older) ∧ w' = w.setCell ⟨G, 0, none⟩ (.string t) := by
  have hv := assert_str9 t
  unfold oth
  refine callsD_of_wpS Try.func41 rfl fun c₀ cs hu => ?_
  apply wpS_seq
  apply wpS_region
  generalize hrest : (Code.seq _ _) = rest
  simp [wpOpsS, go_sem, recoverD, hu, Try.ntmps41, Exit.thenS, hv]
  subst hrest
  refine wpS_of_wp ?_
  rw [show ∀ (a t b c d : Value), (#[a] ++ (((((((Array.replicate 9 undef).setIfInBounds 3 c).setIfInBounds 4 d).setIfInBounds 2 d).setIfInBounds 5 t).setIfInBounds 6 b).setIfInBounds 0 t).setIfInBounds 1 b : Array Value) = #[a, t, b, d, c, d, t, b, undef, undef] from fun a t b c d => by
    apply Array.ext'
    simp only [Array.toList_append, Array.toList_setIfInBounds, Array.toList_replicate]
    simp [List.replicate]]
  go_wp2
  cases c₀
  simp [bodyPostS, results, Try.results41]
set_option maxHeartbeats 1000000 in
theorem do40 (G C : Nat) (c : ByteArray) (hc : c.size ≤ 140737488351232) (w : World) (hC : w.cell? ⟨C, 0, none⟩ = some (.string c)) (g0 : ByteArray) (hG : w.cell? ⟨G, 0, none⟩ = some (.string g0)) (hGf : w.frozen? ⟨G, 0, none⟩ = false) :
    Calls Try.prog 40 #[.pointer (some ⟨G, 0, none⟩), .pointer (some ⟨C, 0, none⟩)] w fun e w' => e = .returned (.tuple #[]) ∧ w' = ((G0 w).alloc (.cells #[.int .i64 0, .int .i64 0] 123)).setCell ⟨G, 0, none⟩ (.string (⟨#[97]⟩ ++ c)) := by
  have hmf : ∀ (fn : Fn) (first cap : Array Value) (w : World), (Instr.makeFunc fn first cap).run Try.prog w = .ok (.func fn first cap) w := fun _ _ _ _ => rfl
  have hCl : C < w.heap.size := World.block_lt_of_cell? w _ hC
  have hGl : G < w.heap.size := World.block_lt_of_cell? w _ hG
  have hb : Below w.heap.size w (G0 w) := (Below.alloc (Below.refl _ _) (Nat.le_refl _) _).alloc (by simp) _
  have hb2 : Below w.heap.size w ((G0 w).alloc (.cells #[.int .i64 0, .int .i64 0] 123)) := hb.alloc hb.size _
  have h42 := do42 C c hc (G0 w) ((hb.cell (by exact hCl)).trans hC)
  have ht := guard_oth 42 #[.pointer (some ⟨C, 0, none⟩)] (⟨#[97]⟩ ++ c) (fun W => W = (G0 w).alloc (.cells #[.int .i64 0, .int .i64 0] 123)) w ent42 (h42.mono (by rintro e W ⟨rfl, rfl⟩; exact ⟨rfl, rfl⟩))
  clear h42
  have hG2 := (hb2.cell (p := ⟨G, 0, none⟩) hGl).trans hG
  have hGf2 := (hb2.frozen (p := ⟨G, 0, none⟩) hGl).trans hGf
  clear hb hb2
  go_enter_defers Try.func40, Try.ntmps40
  go_wp2_with fail
  go_call ht as e W1 ⟨rfl, rfl⟩
  clear ht
  go_wp2
  refine leaves_cons (f := 41) (args := #[.pointer (some ⟨G, 0, none⟩)]) (by simp) (by simp [go_sem]) ?_
  refine (catch41 G (⟨#[97]⟩ ++ c) _ _ g0 hG2 hGf2).mono ?_
  rintro e u' w'' ⟨rfl, rfl, rfl⟩
  simp [Leaves, settle, results, Try.results40, oth]
set_option maxHeartbeats 1000000 in
theorem panics_walk (s : ByteArray) (hs : s.size ≤ 140737488351232) (w : World) :
    Calls Try.prog 8 #[.string s] w fun e w' => e = .returned (.bool true) ∧ Below w.heap.size w w' := by
  have hmf : ∀ (fn : Fn) (first cap : Array Value) (w : World), (Instr.makeFunc fn first cap).run Try.prog w = .ok (.func fn first cap) w := fun _ _ _ _ => rfl
  go_enter Try.func8, Try.ntmps8
  go_wp2_with fail
  go_call (awake6 _) as e w1 ⟨rfl, hb1⟩
  have c1 : w1.cell? ⟨w.heap.size, 0, none⟩ = some (.string s) := by
    rw [hb1.cell (by show w.heap.size < _; simp)]; simp
  have b1 : Below w.heap.size w w1 := (Below.alloc (Below.refl _ _) (Nat.le_refl _) _).trans (hb1.mono (by simp))
  clear hb1
  have hs1 : w.heap.size < w1.heap.size := World.block_lt_of_cell? w1 _ c1
  have b2 : Below w1.heap.size w1 (w1.alloc (.cells #[.string ⟨#[]⟩] 9)) := Below.alloc (Below.refl _ _) (Nat.le_refl _) _
  have g2 : (w1.alloc (.cells #[.string ⟨#[]⟩] 9)).heap[w1.heap.size]? = some (.cells #[.string ⟨#[]⟩] 9) := heap_new _ _
  have hd := do40 w1.heap.size w.heap.size s hs (w1.alloc (.cells #[.string ⟨#[]⟩] 9)) ((b2.cell (by exact hs1)).trans c1) ⟨#[]⟩ (cell_of g2 0) (frz_of g2 0)
  have hent := ent40
  go_wp2_with fail
  go_call hd as e w3 ⟨rfl, h3⟩
  have F : w3.cell? ⟨w1.heap.size, 0, none⟩ = some (.string (⟨#[97]⟩ ++ s)) ∧ w3.cell? ⟨w.heap.size, 0, none⟩ = some (.string s) ∧ Below w.heap.size w w3 ∧ w1.heap.size < w3.heap.size := by
    have bG : Below (w1.heap.size + 1) (w1.alloc (.cells #[.string ⟨#[]⟩] 9)) ((G0 (w1.alloc (.cells #[.string ⟨#[]⟩] 9))).alloc (.cells #[.int .i64 0, .int .i64 0] 123)) := by
      unfold G0
      exact ((Below.alloc (Below.refl _ _) (by simp) _).alloc (by simp) _).alloc (by simp) _
    have hx : ((G0 (w1.alloc (.cells #[.string ⟨#[]⟩] 9))).alloc (.cells #[.int .i64 0, .int .i64 0] 123)).heap[w1.heap.size]? = some (.cells #[.string ⟨#[]⟩] 9) := (bG.block _ (by omega)).trans g2
    have hw3 : w3.heap[w1.heap.size]? = some (.cells #[.string (⟨#[97]⟩ ++ s)] 9) := by rw [h3, block_set hx]; rfl
    have oth3 : ∀ k, k < w1.heap.size → w3.heap[k]? = w1.heap[k]? := fun k hk => by
      rw [h3, Below.heap_setCell _ _ _ _ (by show k ≠ w1.heap.size; omega), bG.block k (by omega), b2.block k hk]
    refine ⟨cell_of hw3 0, (World.cell?_of_block (oth3 _ hs1)).trans c1, b1.trans ⟨?_, ?_, ?_, ?_, fun k hk => oth3 k (by omega)⟩, getElem?_lt hw3⟩
    · rw [h3]; rfl
    · rw [h3]; rfl
    · rw [h3]; rfl
    · have := getElem?_lt hw3; omega
  obtain ⟨f1, f2, f3, f4⟩ := F
  have HF : Hid (Below w.heap.size w w3) := f3
  clear hd h3 g2 b2 b1 c1 f3
  go_wp2_with fail
  go_call (new_any w3) as e w4 ⟨rfl, h4⟩
  have b4 : Below w3.heap.size w3 w4 := by rw [h4]; exact Below.alloc (Below.refl _ _) (Nat.le_refl _) _
  have p4 : w4.heap[w3.heap.size]? = some (.cells #[.slice none 0 0, .bool false, .int .i64 0, .bool false, .int .i64 0] 95) := by rw [h4]; exact heap_new _ _
  have ho := of_nil w3.heap.size 5 w4 (cell_of p4 0)
  have k1 : w4.cell? ⟨w1.heap.size, 0, none⟩ = some (.string (⟨#[97]⟩ ++ s)) := (b4.cell (by exact f4)).trans f1
  have k2 : w4.cell? ⟨w.heap.size, 0, none⟩ = some (.string s) := (b4.cell (by show w.heap.size < _; omega)).trans f2
  have hs4 : w3.heap.size < w4.heap.size := getElem?_lt p4
  have HF4 : Hid (Below w.heap.size w w4) := HF.out.trans (b4.mono (by omega))
  clear h4 f1 f2 b4 p4
  go_wp2_with fail
  go_call ho as e w5 ⟨rfl, hb5⟩
  have m1 : w5.cell? ⟨w1.heap.size, 0, none⟩ = some (.string (⟨#[97]⟩ ++ s)) := (hb5.cell (by show w1.heap.size < _; omega)).trans k1
  have m2 : w5.cell? ⟨w.heap.size, 0, none⟩ = some (.string s) := (hb5.cell (by show w.heap.size < _; omega)).trans k2
  have HF5 : Hid (Below w.heap.size w w5) := HF4.out.trans (hb5.mono (by omega))
  clear ho hb5 k1 k2
  go_wp2
  go_returns
  exact ⟨by simp, HF5.out⟩
end Go.Proofs.Ytiohkdpmgkobiaa
