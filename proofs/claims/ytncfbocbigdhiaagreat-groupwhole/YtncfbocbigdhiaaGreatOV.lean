/- The law OctetLow as a call: for any number and any two counts it returns true, and nothing that was in memory is changed. -/
import Derived.Test.YtncfbocbigdhiaaGreatOU2
namespace Go.Proofs.YtncfbocbigdhiaaGreat.O
set_option maxRecDepth 100000
set_option maxRecDepth 100000
set_option maxRecDepth 100000
open Go.RowKit

theorem OutIs.of_blocks {w w' : World} {B : Nat} {v : Value} {l : List UInt8} (h : OutIs w B v l) (hB : w'.heap[B]? = w.heap[B]?) (hv : ∀ k, v.ownBlock = some k → w'.heap[k]? = w.heap[k]?) : OutIs w' B v l := by
  refine ⟨(World.cell?_of_block hB).trans h.cell, (World.frozen?_of_block hB).trans h.frz, h.own.1, ?_⟩
  rcases h.own.2 with h2 | ⟨g, cap, cur, e, hbg, hg, r⟩
  · exact Or.inl h2
  · exact Or.inr ⟨g, cap, cur, e, hbg, (hv g (by rw [e]; rfl)).trans hg, r⟩
theorem OutIs.below {w w' : World} {B : Nat} {v : Value} {l : List UInt8} (h : OutIs w B v l) (hb : Below w.heap.size w w') : OutIs w' B v l :=
  h.of_blocks (hb.block B h.lt) (fun k hk => hb.block k (h.own.lt k hk).2)
theorem TK.keep {L : Nat} {w w' : World} (h : TK L w) (hb : ∀ k, k = L ∨ k = L + 1 ∨ k = L + 3 → w'.heap[k]? = w.heap[k]?) : TK L w' :=
  ⟨(World.cell?_of_block (hb L (Or.inl rfl))).trans h.l, (World.frozen?_of_block (hb L (Or.inl rfl))).trans h.lf, (World.cell?_of_block (hb (L + 1) (Or.inr (Or.inl rfl)))).trans h.e,
    (World.frozen?_of_block (hb (L + 1) (Or.inr (Or.inl rfl)))).trans h.ef, (World.cell?_of_block (hb (L + 3) (Or.inr (Or.inr rfl)))).trans h.v⟩
theorem TK.lt {L : Nat} {w : World} (h : TK L w) : L + 3 < w.heap.size := World.block_lt_of_cell? w _ h.v

theorem W0_size (w : World) (s : ByteArray) : (W0 w s).heap.size = w.heap.size + 4 := by simp [W0]
theorem W0_get (w : World) (s : ByteArray) : (W0 w s).heap[w.heap.size]? = some (.cells #[.string ⟨#[]⟩] 9) ∧ (W0 w s).heap[w.heap.size + 1]? = some (.cells #[.int .i64 0] 35) ∧ (W0 w s).heap[w.heap.size + 2]? = some (.cells #[.string s, .int .i64 0] 215) ∧
    (W0 w s).heap[w.heap.size + 3]? = some (.cells #[.pointer (some ⟨w.heap.size + 1 + 1, 0, none⟩)] 192) := by
  have e : (W0 w s).heap = (((w.heap.push (.cells #[.string ⟨#[]⟩] 9)).push (.cells #[.int .i64 0] 35)).push (.cells #[.string s, .int .i64 0] 215)).push (.cells #[.pointer (some ⟨w.heap.size + 1 + 1, 0, none⟩)] 192) := rfl
  rw [e]
  refine ⟨?_, ?_, ?_, ?_⟩
  · rw [Array.getElem?_push, if_neg (by simp; omega), Array.getElem?_push, if_neg (by simp; omega), Array.getElem?_push, if_neg (by simp), Array.getElem?_push, if_pos rfl]
  · rw [Array.getElem?_push, if_neg (by simp), Array.getElem?_push, if_neg (by simp), Array.getElem?_push, if_pos (by simp)]
  · rw [Array.getElem?_push, if_neg (by simp), Array.getElem?_push, if_pos (by simp)]
  · rw [Array.getElem?_push, if_pos (by simp)]
theorem W0_in (w : World) (s : ByteArray) : InIs (W0 w s) (w.heap.size + 2) s 0 := by
  obtain ⟨_, _, h, _⟩ := W0_get w s
  refine ⟨?_, ?_, ?_, ?_⟩
  · simp only [World.cell?, h]; rfl
  · simp only [World.cell?, h]; rfl
  · simp only [World.frozen?, h]; simp
  · simp only [World.frozen?, h]; simp
theorem W0_tk (w : World) (s : ByteArray) : TK w.heap.size (W0 w s) := by
  obtain ⟨h1, h2, _, h3⟩ := W0_get w s
  refine ⟨?_, ?_, ?_, ?_, ?_⟩
  · simp only [World.cell?, h1]; rfl
  · simp only [World.frozen?, h1]; simp
  · simp only [World.cell?, h2]; rfl
  · simp only [World.frozen?, h2]; simp
  · simp only [World.cell?, h3]; rfl
theorem W0_below (w : World) (s : ByteArray) : Below w.heap.size w (W0 w s) :=
  (((Below.alloc (Below.refl _ _) (Nat.le_refl _) _).alloc (by simp) _).alloc (by simp; omega) _).alloc (by simp; omega) _

theorem enter_of {f : FuncId} {fn : Func} (hf : Tryz.prog.funcs[f]? = some fn) (hname : (fn.name == "runtime.NumGoroutine") = false) (hb : fn.body.isNone = false) (args : Array Value) (W : World) : (callFunc f args).run Tryz.prog W = .ok (.enter f args) W := by
  have h1 : fn.name ≠ "runtime.NumGoroutine" := by simpa using hname
  simp [callFunc, hf, h1]
  intro h; rw [h] at hb; cases hb
end Go.Proofs.YtncfbocbigdhiaaGreat.O
