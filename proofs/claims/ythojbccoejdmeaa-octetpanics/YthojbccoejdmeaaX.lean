/- The law OctetPanics as a call. -/
import Derived.Test.YthojbccoejdmeaaV
namespace Go.Proofs.Ythojbccoejdmeaa
open Go.RowKit

def oth (t : ByteArray) : PanicEntry := { v := .iface 9 (.string t), recovered := false }
theorem assert_str (t : ByteArray) (w : World) : (Instr.typeAssert (.iface 9 (.string t)) 20 62 true).run Try.prog w = .ok (.tuple #[.agg #[.pointer none], .bool false]) w := by kernel_rfl
theorem assert_str9 (t : ByteArray) (w : World) : (Instr.typeAssert (.iface 9 (.string t)) 20 9 true).run Try.prog w = .ok (.tuple #[.string t, .bool true]) w := by kernel_rfl
theorem catch_other (L : Nat) (t : ByteArray) (older : List PanicEntry) (w : World) :
    CallsD Try.prog 34 #[.pointer (some ⟨L + 3, 0, none⟩), .pointer (some ⟨L, 0, none⟩), .pointer (some ⟨L + 1, 0, none⟩)] (.panicking (oth t :: older)) w fun e u' w' =>
      e = .panicked [oth t] ∧ u' = .panicking ({ oth t with recovered := true } :: older) ∧ w' = w := by
  have hv := assert_str t
  unfold oth
  refine callsD_of_wpS Try.func34 rfl fun c₀ cs hu => ?_
  apply wpS_seq
  apply wpS_region
  generalize hrest : (Code.block 0 _) = rest
  simp [wpOpsS, go_sem, recoverD, hu, Try.ntmps34, Exit.thenS]
  subst hrest
  refine wpS_of_wp ?_
  rw [lit22]
  go_wp2
  cases c₀
  simp [bodyPostS]
set_option maxHeartbeats 1000000 in
theorem take_oth (f : Nat) (cap : Array Value) (s t : ByteArray) (R : World → Prop) (w : World) (hent : ∀ args W, (callFunc f args).run Try.prog W = .ok (.enter f args) W)
    (hdo : Calls Try.prog f (#[.pointer (some ⟨w.heap.size + 1 + 1, 0, none⟩)] ++ cap) (W0 w s) fun e W => e = .panicked [oth t] ∧ R W) :
    Calls Try.prog 10 #[.string s, .func (.func f) #[] cap] w fun e w' => e = .panicked [oth t, { oth t with recovered := true }] ∧ R w' := by
  have hmf : ∀ (fn : Fn) (first cap : Array Value) (w : World), (Instr.makeFunc fn first cap).run Try.prog w = .ok (.func fn first cap) w := fun _ _ _ _ => rfl
  go_enter_defers Try.func10, Try.ntmps10
  go_wp2_with fail
  go_call hdo as e W1 ⟨rfl, h3⟩
  clear hdo hent
  go_wp2
  refine leaves_cons (f := 34) (args := #[.pointer (some ⟨w.heap.size + 3, 0, none⟩), .pointer (some ⟨w.heap.size, 0, none⟩), .pointer (some ⟨w.heap.size + 1, 0, none⟩)]) (by simp) (by simp [go_sem]) ?_
  refine (catch_other w.heap.size t [] W1).mono ?_
  rintro e u' w'' ⟨rfl, rfl, rfl⟩
  exact ⟨rfl, h3⟩
theorem ent27 (args : Array Value) (W : World) : (callFunc 27 args).run Try.prog W = .ok (.enter 27 args) W := enter_of Try.func27 (by kernel_rfl) (by kernel_rfl) args W
theorem ent28 (args : Array Value) (W : World) : (callFunc 28 args).run Try.prog W = .ok (.enter 28 args) W := enter_of Try.func28 (by kernel_rfl) (by kernel_rfl) args W
theorem ent30 (args : Array Value) (W : World) : (callFunc 30 args).run Try.prog W = .ok (.enter 30 args) W := enter_of Try.func30 (by kernel_rfl) (by kernel_rfl) args W
theorem do27 (I C : Nat) (c : ByteArray) (hc : c.size ≤ 1000) (w : World) (h : w.cell? ⟨C, 0, none⟩ = some (.string c)) :
    Calls Try.prog 27 #[.pointer (some ⟨I, 0, none⟩), .pointer (some ⟨C, 0, none⟩)] w fun e w' => e = .panicked [oth (c ++ ⟨#[33]⟩)] ∧ w' = w := by
  go_enter Try.func27, Try.ntmps27
  go_wp2
  exact ⟨rfl, rfl, rfl⟩
theorem lit10 (a t b c d : Value) : (#[a] ++ (((((((Array.replicate 9 undef).setIfInBounds 3 c).setIfInBounds 4 d).setIfInBounds 2 d).setIfInBounds 5 t).setIfInBounds 6 b).setIfInBounds 0 t).setIfInBounds 1 b : Array Value) = #[a, t, b, d, c, d, t, b, undef, undef] := by
  apply Array.ext'
  simp only [Array.toList_append, Array.toList_setIfInBounds, Array.toList_replicate]
  simp [List.replicate]
theorem catch1 (G : Nat) (t : ByteArray) (older : List PanicEntry) (w : World) (g0 : ByteArray) (hg : w.cell? ⟨G, 0, none⟩ = some (.string g0)) (hf : w.frozen? ⟨G, 0, none⟩ = false) :
    CallsD Try.prog 26 #[.pointer (some ⟨G, 0, none⟩)] (.panicking (oth t :: older)) w fun e u' w' =>
      e = .returned (.tuple #[]) ∧ u' = .panicking ({ oth t with recovered := true } :: older) ∧ w' = w.setCell ⟨G, 0, none⟩ (.string t) := by
  have hv := assert_str9 t
  unfold oth
  refine callsD_of_wpS Try.func26 rfl fun c₀ cs hu => ?_
  apply wpS_seq
  apply wpS_region
  generalize hrest : (Code.seq _ _) = rest
  simp [wpOpsS, go_sem, recoverD, hu, Try.ntmps26, Exit.thenS, hv]
  subst hrest
  refine wpS_of_wp ?_
  rw [lit10]
  go_wp2
  cases c₀
  simp [bodyPostS, results, Try.results26]

set_option maxHeartbeats 1000000 in
theorem do25 (G C : Nat) (c : ByteArray) (hc : c.size ≤ 1000) (w : World) (hC : w.cell? ⟨C, 0, none⟩ = some (.string c)) (g0 : ByteArray) (hG : w.cell? ⟨G, 0, none⟩ = some (.string g0)) (hGf : w.frozen? ⟨G, 0, none⟩ = false) :
    Calls Try.prog 25 #[.pointer (some ⟨G, 0, none⟩), .pointer (some ⟨C, 0, none⟩)] w fun e w' => e = .returned (.tuple #[]) ∧ w' = (W0 w ⟨#[97, 98, 99]⟩).setCell ⟨G, 0, none⟩ (.string (c ++ ⟨#[33]⟩)) := by
  have hmf : ∀ (fn : Fn) (first cap : Array Value) (w : World), (Instr.makeFunc fn first cap).run Try.prog w = .ok (.func fn first cap) w := fun _ _ _ _ => rfl
  have hb := W0_below w ⟨#[97, 98, 99]⟩
  have hCl : C < w.heap.size := World.block_lt_of_cell? w _ hC
  have hGl : G < w.heap.size := World.block_lt_of_cell? w _ hG
  have h27 := do27 (w.heap.size + 1 + 1) C c hc (W0 w ⟨#[97, 98, 99]⟩) ((hb.cell (by exact hCl)).trans hC)
  have ht := take_oth 27 #[.pointer (some ⟨C, 0, none⟩)] ⟨#[97, 98, 99]⟩ (c ++ (⟨#[33]⟩ : ByteArray)) (fun W => W = W0 w ⟨#[97, 98, 99]⟩) w ent27 h27
  clear h27
  have hG2 := (hb.cell (p := ⟨G, 0, none⟩) hGl).trans hG
  have hGf2 := (hb.frozen (p := ⟨G, 0, none⟩) hGl).trans hGf
  clear hb
  go_enter_defers Try.func25, Try.ntmps25
  go_wp2_with fail
  go_call ht as e W1 ⟨rfl, rfl⟩
  clear ht
  go_wp2
  refine leaves_cons (f := 26) (args := #[.pointer (some ⟨G, 0, none⟩)]) (by simp) (by simp [go_sem]) ?_
  refine (catch1 G (c ++ (⟨#[33]⟩ : ByteArray)) _ _ g0 hG2 hGf2).mono ?_
  rintro e u' w'' ⟨rfl, rfl, rfl⟩
  simp [Leaves, settle, results, Try.results25, oth]

theorem do28 (I : Nat) (w : World) (h : InIs w I ⟨#[97, 98, 99]⟩ 0) :
    Calls Try.prog 28 #[.pointer (some ⟨I, 0, none⟩)] w fun e w' => e = .panicked [brk I] ∧ InIs w' I ⟨#[97, 98, 99]⟩ 3 ∧ KI I w w' := by
  have hr := raw_no I ⟨#[97, 98, 99]⟩ 4 (by decide) w h
  clear h
  go_enter Try.func28, Try.ntmps28
  go_wp2_with fail
  go_call hr as e w1 ⟨rfl, h1, k1⟩
  have H : Hid (InIs w1 I ⟨#[97, 98, 99]⟩ 3 ∧ KI I w w1) := ⟨h1, k1⟩
  clear hr h1 k1
  go_wp2
  exact ⟨rfl, rfl, H.out⟩
theorem do30 (I : Nat) (w : World) (h : InIs w I ⟨#[97, 98, 99]⟩ 0) :
    Calls Try.prog 30 #[.pointer (some ⟨I, 0, none⟩)] w fun e w' => e = .returned (.tuple #[]) ∧ InIs w' I ⟨#[97, 98, 99]⟩ 0 ∧ KI I w w' := by
  have hr := raw_in I ⟨#[97, 98, 99]⟩ (-4) 0 (by decide) (by decide) (by decide) w h
  rw [extract_all] at hr
  clear h
  go_enter Try.func30, Try.ntmps30
  go_wp2_with fail
  go_call hr as e w1 ⟨rfl, h1, k1⟩
  have H : Hid (InIs w1 I ⟨#[97, 98, 99]⟩ 0 ∧ KI I w w1) := ⟨h1, k1⟩
  clear hr h1 k1
  go_wp2
  go_returns
  exact ⟨rfl, H.out⟩
/-- Below the In that Take makes nothing is written. -/
theorem ki_take {w : World} {s : ByteArray} {W : World} (k : KI (w.heap.size + 2) (W0 w s) W) : Below w.heap.size w W ∧ TK w.heap.size W := by
  have hb := W0_below w s
  have hs := W0_size w s
  refine ⟨hb.trans ⟨k.os, k.tape, k.output, k.size, fun q hq => k.block q (by omega) (by omega)⟩, (W0_tk w s).keep (fun q hq => k.block q (by omega) (by omega))⟩
theorem KT.below {L : Nat} {w w' : World} (h : KT L w w') (hL : L ≤ w.heap.size) : Below L w w' := ⟨h.os, h.tape, h.output, h.size, fun k hk => h.block k (by omega) (by omega) (by omega)⟩
theorem take28 (w : World) : Calls Try.prog 10 #[.string ⟨#[97, 98, 99]⟩, .func (.func 28) #[] #[]] w fun e w' => e = .returned (.tuple #[.string ⟨#[]⟩, .int .i64 3]) ∧ Below w.heap.size w w' := by
  have := take_no 28 #[] ⟨#[97, 98, 99]⟩ ⟨#[97, 98, 99]⟩ 3 (fun W => Below w.heap.size w W) w ent28 ((do28 (w.heap.size + 1 + 1) _ (W0_in w _)).mono fun e W ⟨h1, h2, h3⟩ => ⟨h1, h2, (ki_take h3).2, (ki_take h3).1⟩)
  exact this.mono fun e w' ⟨h1, W, h2, h3⟩ => ⟨h1, h2.trans (h3.below h2.size)⟩
theorem take30 (w : World) : Calls Try.prog 10 #[.string ⟨#[97, 98, 99]⟩, .func (.func 30) #[] #[]] w fun e w' => e = .returned (.tuple #[.string ⟨#[97, 98, 99]⟩, .int .i64 0]) ∧ Below w.heap.size w w' := by
  have := take_ok 30 #[] ⟨#[97, 98, 99]⟩ ⟨#[97, 98, 99]⟩ (fun W => Below w.heap.size w W) w ent30 ((do30 (w.heap.size + 1 + 1) _ (W0_in w _)).mono fun e W ⟨h1, h2, h3⟩ => ⟨h1, h2, (ki_take h3).2, (ki_take h3).1⟩)
  exact this.mono fun e w' ⟨h1, W, h2, h3⟩ => ⟨h1, h2.trans (h3.below h2.size)⟩

set_option maxHeartbeats 1000000 in
theorem panics_walk (s : ByteArray) (w : World) :
    Calls Try.prog 5 #[.string s] w fun e w' => e = .returned (.bool true) ∧ Below w.heap.size w w' := by
  have hmf : ∀ (fn : Fn) (first cap : Array Value) (w : World), (Instr.makeFunc fn first cap).run Try.prog w = .ok (.func fn first cap) w := fun _ _ _ _ => rfl
  have c1 := cut_any s 20 (by decide)
  have z1 := cut_size s 20
  generalize s.extract 0 20 = c at *
  go_enter Try.func5, Try.ntmps5
  go_wp2_with fail
  go_call (awake_any _) as e w1 ⟨rfl, g1⟩
  have hlt : w.heap.size < (w.alloc (.cells #[.string s] 9)).heap.size := by simp
  have k0 : w1.cell? ⟨w.heap.size, 0, none⟩ = some (.string s) := (g1.cell (by exact hlt)).trans (by simp [go_sem])
  have f0 : w1.frozen? ⟨w.heap.size, 0, none⟩ = false := (g1.frozen (by exact hlt)).trans (by
    have h0 : (w.alloc (.cells #[.string s] 9)).heap[w.heap.size]? = some (.cells #[.string s] 9) := by
      show (w.heap.push _)[w.heap.size]? = _
      rw [Array.getElem?_push, if_pos rfl]
    simp only [World.frozen?, h0]
    simp)
  have hb1 : Below w.heap.size w w1 := (Below.alloc (Below.refl _ _) (Nat.le_refl _) _).trans (g1.mono (by omega))
  have hs1 : w.heap.size < w1.heap.size := by have := g1.size; omega
  have HB1 : Hid (Below w.heap.size w w1 ∧ w.heap.size < w1.heap.size ∧ w1.cell? ⟨w.heap.size, 0, none⟩ = some (.string s)) := ⟨hb1, hs1, k0⟩
  clear g1 hlt hb1 hs1
  go_wp2_with fail
  go_call (c1 w1) as e w1 ⟨rfl, rfl⟩
  clear c1
  go_wp2_with fail
  obtain ⟨hb1, hs1, k0'⟩ := HB1.out
  have n1 : ((w1.setCell ⟨w.heap.size, 0, none⟩ (.string c)).alloc (.cells #[.string ⟨#[]⟩] 9)).cell? ⟨w.heap.size, 0, none⟩ = some (.string c) := by
    rw [World.cell?_alloc_past _ _ _ (by simp [World.setCell]; exact hs1)]
    exact World.cell?_setCell_same _ _ _ k0'
  have hsz : (w1.setCell ⟨w.heap.size, 0, none⟩ (.string c)).heap.size = w1.heap.size := by simp [World.setCell]
  have h0 : ((w1.setCell ⟨w.heap.size, 0, none⟩ (.string c)).alloc (.cells #[.string ⟨#[]⟩] 9)).heap[w1.heap.size]? = some (.cells #[.string ⟨#[]⟩] 9) := by
    show ((w1.setCell ⟨w.heap.size, 0, none⟩ (.string c)).heap.push _)[w1.heap.size]? = _
    rw [Array.getElem?_push, if_pos hsz.symm]
  have n2 : ((w1.setCell ⟨w.heap.size, 0, none⟩ (.string c)).alloc (.cells #[.string ⟨#[]⟩] 9)).cell? ⟨w1.heap.size, 0, none⟩ = some (.string ⟨#[]⟩) := by
    simp only [World.cell?, h0]; rfl
  have n3 : ((w1.setCell ⟨w.heap.size, 0, none⟩ (.string c)).alloc (.cells #[.string ⟨#[]⟩] 9)).frozen? ⟨w1.heap.size, 0, none⟩ = false := by
    simp only [World.frozen?, h0]; simp
  have n4 : Below w.heap.size w ((w1.setCell ⟨w.heap.size, 0, none⟩ (.string c)).alloc (.cells #[.string ⟨#[]⟩] 9)) :=
    (hb1.setCell (by show w.heap.size ≤ w.heap.size; omega) _).alloc (by rw [hsz]; omega) _
  have n5 : ((w1.setCell ⟨w.heap.size, 0, none⟩ (.string c)).alloc (.cells #[.string ⟨#[]⟩] 9)).heap.size = w1.heap.size + 1 := by
    show ((w1.setCell ⟨w.heap.size, 0, none⟩ (.string c)).heap.push _).size = _
    rw [Array.size_push, hsz]
  clear h0 hsz k0 f0 k0' HB1
  generalize (w1.setCell ⟨w.heap.size, 0, none⟩ (.string c)).alloc (.cells #[.string ⟨#[]⟩] 9) = A at *
  go_call (do25 w1.heap.size w.heap.size c (by omega) A n1 ⟨#[]⟩ n2 n3) as e w3 ⟨rfl, e3⟩
  have hbA := W0_below A ⟨#[97, 98, 99]⟩
  have hcg : w3.cell? ⟨w1.heap.size, 0, none⟩ = some (.string (c ++ (⟨#[33]⟩ : ByteArray))) := by
    rw [e3]; exact World.cell?_setCell_same _ _ _ ((hbA.cell (by show w1.heap.size < _; omega)).trans n2)
  have hcc : w3.cell? ⟨w.heap.size, 0, none⟩ = some (.string c) := by
    rw [e3, World.cell?_setCell_other _ _ _ _ (by intro e; have := congrArg Addr.block e; simp at this; omega)]
    exact (hbA.cell (by show w.heap.size < _; omega)).trans n1
  have hb3 : Below w.heap.size w w3 := by
    rw [e3]
    exact (n4.trans (hbA.mono (by omega))).setCell (by show w.heap.size ≤ w1.heap.size; omega) _
  have hs3 : w1.heap.size < w3.heap.size := World.block_lt_of_cell? w3 _ hcg
  have H3 : Hid (Below w.heap.size w w3 ∧ w1.heap.size < w3.heap.size ∧ w.heap.size < w1.heap.size ∧ w3.cell? ⟨w1.heap.size, 0, none⟩ = some (.string (c ++ (⟨#[33]⟩ : ByteArray))) ∧ w3.cell? ⟨w.heap.size, 0, none⟩ = some (.string c)) := ⟨hb3, hs3, hs1, hcg, hcc⟩
  clear e3 hbA hb3 hs3 hb1 hs1 n1 n2 n3 n4 n5 hcg hcc
  go_wp2_with fail
  go_call (take28 w3) as e w4 ⟨rfl, g4⟩
  go_wp2_with fail
  go_call (take30 w4) as e w5 ⟨rfl, g5⟩
  obtain ⟨hb3, hs3, hs1, hcg, hcc⟩ := H3.out
  have b35 : Below w3.heap.size w3 w5 := g4.trans (g5.mono g4.size)
  have kg : w5.cell? ⟨w1.heap.size, 0, none⟩ = some (.string (c ++ (⟨#[33]⟩ : ByteArray))) := (b35.cell (by exact hs3)).trans hcg
  have kc : w5.cell? ⟨w.heap.size, 0, none⟩ = some (.string c) := (b35.cell (by show w.heap.size < _; omega)).trans hcc
  have H5 : Hid (Below w.heap.size w w5) := hb3.trans (b35.mono hb3.size)
  clear hb3 hs3 hcg hcc b35 g4 g5 H3
  go_wp2
  go_ret
  exact ⟨rfl, H5.out⟩
end Go.Proofs.Ythojbccoejdmeaa
