/- The law OctetLow as a call: for any number and any two counts it returns true, and nothing that was in memory is changed. -/
import Derived.Test.YthojbccoejdmeaaU2
namespace Go.Proofs.Ythojbccoejdmeaa
open Go.RowKit

theorem OutIs.of_blocks {w w' : World} {B : Nat} {v : Value} {l : List UInt8} (h : OutIs w B v l) (hB : w'.heap[B]? = w.heap[B]?) (hv : ∀ k, v.ownBlock = some k → w'.heap[k]? = w.heap[k]?) : OutIs w' B v l := by
  refine ⟨(World.cell?_of_block hB).trans h.cell, (World.frozen?_of_block hB).trans h.frz, h.own.1, ?_⟩
  rcases h.own.2 with h2 | ⟨g, cap, cur, e, hbg, hg, r⟩
  · exact Or.inl h2
  · exact Or.inr ⟨g, cap, cur, e, hbg, (hv g (by rw [e]; rfl)).trans hg, r⟩
theorem OutIs.below {w w' : World} {B : Nat} {v : Value} {l : List UInt8} (h : OutIs w B v l) (hb : Below w.heap.size w w') : OutIs w' B v l :=
  h.of_blocks (hb.block B h.lt) (fun k hk => hb.block k (h.own.lt k hk).2)
theorem TK.keep {L : Nat} {w w' : World} (h : TK L w) (hb : ∀ k, k = L ∨ k = L + 1 ∨ k = L + 3 → w'.heap[k]? = w.heap[k]?) : TK L w' :=
  ⟨(World.cell?_of_block (hb L (Or.inl rfl))).trans h.l, (World.frozen?_of_block (hb L (Or.inl rfl))).trans h.lf, (World.cell?_of_block (hb (L + 1) (Or.inr (Or.inl rfl)))).trans h.e,
    (World.frozen?_of_block (hb (L + 1) (Or.inr (Or.inl rfl)))).trans h.ef, (World.cell?_of_block (hb (L + 3) (Or.inr (Or.inr rfl)))).trans h.v⟩
theorem TK.lt {L : Nat} {w : World} (h : TK L w) : L + 3 < w.heap.size := World.block_lt_of_cell? w _ h.v

theorem W0_size (w : World) (s : ByteArray) : (W0 w s).heap.size = w.heap.size + 4 := by simp [W0]
theorem W0_get (w : World) (s : ByteArray) : (W0 w s).heap[w.heap.size]? = some (.cells #[.string ⟨#[]⟩] 9) ∧ (W0 w s).heap[w.heap.size + 1]? = some (.cells #[.int .i64 0] 28) ∧ (W0 w s).heap[w.heap.size + 2]? = some (.cells #[.string s, .int .i64 0] 60) ∧
    (W0 w s).heap[w.heap.size + 3]? = some (.cells #[.pointer (some ⟨w.heap.size + 1 + 1, 0, none⟩)] 31) := by
  have e : (W0 w s).heap = (((w.heap.push (.cells #[.string ⟨#[]⟩] 9)).push (.cells #[.int .i64 0] 28)).push (.cells #[.string s, .int .i64 0] 60)).push (.cells #[.pointer (some ⟨w.heap.size + 1 + 1, 0, none⟩)] 31) := rfl
  rw [e]
  refine ⟨?_, ?_, ?_, ?_⟩
  · rw [Array.getElem?_push, if_neg (by simp; omega), Array.getElem?_push, if_neg (by simp; omega), Array.getElem?_push, if_neg (by simp), Array.getElem?_push, if_pos rfl]
  · rw [Array.getElem?_push, if_neg (by simp), Array.getElem?_push, if_neg (by simp), Array.getElem?_push, if_pos (by simp)]
  · rw [Array.getElem?_push, if_neg (by simp), Array.getElem?_push, if_pos (by simp)]
  · rw [Array.getElem?_push, if_pos (by simp)]
theorem W0_in (w : World) (s : ByteArray) : InIs (W0 w s) (w.heap.size + 2) s 0 := by
  obtain ⟨_, _, h, _⟩ := W0_get w s
  refine ⟨?_, ?_, ?_, ?_⟩
  · simp only [World.cell?, h]; rfl
  · simp only [World.cell?, h]; rfl
  · simp only [World.frozen?, h]; simp
  · simp only [World.frozen?, h]; simp
theorem W0_tk (w : World) (s : ByteArray) : TK w.heap.size (W0 w s) := by
  obtain ⟨h1, h2, _, h3⟩ := W0_get w s
  refine ⟨?_, ?_, ?_, ?_, ?_⟩
  · simp only [World.cell?, h1]; rfl
  · simp only [World.frozen?, h1]; simp
  · simp only [World.cell?, h2]; rfl
  · simp only [World.frozen?, h2]; simp
  · simp only [World.cell?, h3]; rfl
theorem W0_below (w : World) (s : ByteArray) : Below w.heap.size w (W0 w s) :=
  (((Below.alloc (Below.refl _ _) (Nat.le_refl _) _).alloc (by simp) _).alloc (by simp; omega) _).alloc (by simp; omega) _

theorem enter_of {f : FuncId} {fn : Func} (hf : Try.prog.funcs[f]? = some fn) (hname : (fn.name == "runtime.NumGoroutine") = false) (hb : fn.body.isNone = false) (args : Array Value) (W : World) : (callFunc f args).run Try.prog W = .ok (.enter f args) W := by
  have h1 : fn.name ≠ "runtime.NumGoroutine" := by simpa using hname
  simp [callFunc, hf, h1]
  intro h; rw [h] at hb; cases hb
theorem ent31 (args : Array Value) (W : World) : (callFunc 31 args).run Try.prog W = .ok (.enter 31 args) W := enter_of Try.func31 (by kernel_rfl) (by kernel_rfl) args W

/-- What OctetLow hands in: a number is taken into 'got', then noughts to the end. -/
theorem low_do (I K G : Nat) (s : ByteArray) (k : Nat) (hk : k ≤ 8) (hks : k ≤ s.size) (hs : s.size ≤ 1000000) (hz : zeros (s.extract k s.size)) (g0 : Int) (w : World) (h : InIs w I s 0) (hK : w.cell? ⟨K, 0, none⟩ = some (.int .i64 (k : Nat))) (hG : w.cell? ⟨G, 0, none⟩ = some (.int .u64 g0)) (hGf : w.frozen? ⟨G, 0, none⟩ = false)
    (hGI : G ≠ I) :
    Calls Try.prog 31 #[.pointer (some ⟨I, 0, none⟩), .pointer (some ⟨K, 0, none⟩), .pointer (some ⟨G, 0, none⟩)] w fun e w' => e = .returned (.tuple #[]) ∧ InIs w' I ⟨#[]⟩ 0 ∧ w'.cell? ⟨G, 0, none⟩ = some (.int .u64 (nv s k : Nat)) ∧ w.heap.size ≤ w'.heap.size ∧ w'.os = w.os ∧ w'.tape = w.tape ∧ w'.output = w.output ∧ ∀ q, q < w.heap.size → q ≠ I → q ≠ G → w'.heap[q]? = w.heap[q]? := by
  have hwd : wd (k : Int) = k := by unfold wd; omega
  have hr := num_in I s (k : Int) (by rw [hwd]; exact hks) hs w h
  rw [hwd] at hr
  have hds : (s.extract k s.size).size ≤ 1000000 := by simp [ByteArray.size_extract]; omega
  generalize s.extract k s.size = d at *
  have hGl : G < w.heap.size := World.block_lt_of_cell? w _ hG
  clear hwd
  go_enter Try.func31, Try.ntmps31
  go_wp2_with fail
  go_call hr as e w1 ⟨rfl, h1, k1⟩
  have hG1 : w1.cell? ⟨G, 0, none⟩ = some (.int .u64 g0) := (k1.cell (by exact hGl) (by exact hGI)).trans hG
  have hGf1 : w1.frozen? ⟨G, 0, none⟩ = false := (k1.frozen (by exact hGl) (by exact hGI)).trans hGf
  have hb : ∀ q, q ≠ G → (w1.setCell ⟨G, 0, none⟩ (.int .u64 (nv s k : Nat))).heap[q]? = w1.heap[q]? := fun q hq => Below.heap_setCell _ _ _ _ (by exact hq)
  have h2 : InIs (w1.setCell ⟨G, 0, none⟩ (.int .u64 (nv s k : Nat))) I d 0 :=
    ⟨(World.cell?_of_block (hb I (Ne.symm hGI))).trans h1.c0, (World.cell?_of_block (hb I (Ne.symm hGI))).trans h1.c1, (World.frozen?_of_block (hb I (Ne.symm hGI))).trans h1.f0, (World.frozen?_of_block (hb I (Ne.symm hGI))).trans h1.f1⟩
  have hgc : (w1.setCell ⟨G, 0, none⟩ (.int .u64 (nv s k : Nat))).cell? ⟨G, 0, none⟩ = some (.int .u64 (nv s k : Nat)) := World.cell?_setCell_same _ _ _ hG1
  have hsz : (w1.setCell ⟨G, 0, none⟩ (.int .u64 (nv s k : Nat))).heap.size = w1.heap.size := by simp [World.setCell]
  have hzz := zero_any I d hds _ h2
  have HX : Hid _ := And.intro h2 (And.intro hgc (And.intro hsz (And.intro hb k1)))
  clear h2 hgc hsz hb h1 hr k1
  go_wp2_with fail
  go_call hzz as e w3 ⟨z1, _, z3⟩
  obtain ⟨rfl, z4⟩ := z1 hz
  obtain ⟨h2, hgc, hsz, hb, k1⟩ := HX.out
  have HE : Hid (InIs w3 I ⟨#[]⟩ 0 ∧ w3.cell? ⟨G, 0, none⟩ = some (.int .u64 (nv s k : Nat)) ∧ w.heap.size ≤ w3.heap.size ∧ w3.os = w.os ∧ w3.tape = w.tape ∧ w3.output = w.output ∧ ∀ q, q < w.heap.size → q ≠ I → q ≠ G → w3.heap[q]? = w.heap[q]?) := by
    refine ⟨z4, ?_, ?_, z3.os.trans k1.os, z3.tape.trans k1.tape, z3.output.trans k1.output, fun q hq q1 q2 => ?_⟩
    · rw [z3.cell (by show G < _; rw [hsz]; have := k1.size; omega) (by exact hGI)]; exact hgc
    · have := z3.size; rw [hsz] at this; have := k1.size; omega
    · rw [z3.block q (by rw [hsz]; have := k1.size; omega) q1, hb q q2, k1.block q hq q1]
  clear z1 z3 z4 h2 hgc hsz hb k1 HX hzz
  go_wp2
  go_returns
  exact ⟨rfl, HE.out⟩
end Go.Proofs.Ythojbccoejdmeaa
