/- The law OctetTakes as a call. -/
import Derived.Test.YthojbccoejdmeaaA6
namespace Go.Proofs.Ythojbccoejdmeaa
open Go.RowKit
theorem tm5 (z : Int) : -4 ≤ z.tmod 5 ∧ z.tmod 5 ≤ 4 := by
  rcases Int.le_total 0 z with h | h
  · rw [Int.tmod_eq_emod_of_nonneg h]; omega
  · have : z.tmod 5 = -((-z).tmod 5) := by rw [Int.neg_tmod, Int.neg_neg]
    rw [this, Int.tmod_eq_emod_of_nonneg (by omega)]; omega
def kdOf (z : Int) : Nat := ((z.tmod 5 + 5).tmod 5).toNat
theorem kdOf_eq (z : Int) : (z.tmod 5 + 5).tmod 5 = (kdOf z : Int) := by
  have := tm5 z
  unfold kdOf
  rw [Int.tmod_eq_emod_of_nonneg (by omega)]; omega
theorem kdOf_lt (z : Int) : kdOf z < 5 := by
  have := tm5 z
  have h := kdOf_eq z
  rw [Int.tmod_eq_emod_of_nonneg (by omega)] at h; omega
/-- The cells of n parts. -/
def rowL (k0 nn : Nat → Int) : Nat → List Value
  | 0 => []
  | n + 1 => rowL k0 nn n ++ [.int .i64 (k0 n), .int .i64 (nn n)]
theorem rowL_length (k0 nn : Nat → Int) : ∀ n, (rowL k0 nn n).length = n * 2
  | 0 => rfl
  | n + 1 => by
    show (rowL k0 nn n ++ [_, _]).length = _
    rw [List.length_append, rowL_length k0 nn n]; simp; omega
theorem rowL_get (k0 nn : Nat → Int) : ∀ n j, j < n → (rowL k0 nn n)[j * 2]? = some (.int .i64 (k0 j)) ∧ (rowL k0 nn n)[j * 2 + 1]? = some (.int .i64 (nn j))
  | 0, j, h => absurd h (Nat.not_lt_zero _)
  | n + 1, j, h => by
    have hl := rowL_length k0 nn n
    show (rowL k0 nn n ++ [_, _])[j * 2]? = _ ∧ (rowL k0 nn n ++ [_, _])[j * 2 + 1]? = _
    rcases Nat.lt_or_ge j n with hj | hj
    · rw [List.getElem?_append_left (by omega), List.getElem?_append_left (by omega)]
      exact rowL_get k0 nn n j hj
    · obtain rfl : j = n := by omega
      rw [List.getElem?_append_right (by omega), List.getElem?_append_right (by omega), hl]
      simp [show j * 2 + 1 - j * 2 = 1 by omega]
theorem rowL_cell (k0 nn : Nat → Int) (w : World) (b o : Nat) : ∀ n, (∀ j, j < n → w.cell? ⟨b, o + j * 2, none⟩ = some (.int .i64 (k0 j)) ∧ w.cell? ⟨b, o + j * 2 + 1, none⟩ = some (.int .i64 (nn j))) → ∀ i u, (rowL k0 nn n)[i]? = some u → w.cell? ⟨b, o + i, none⟩ = some u := by
  intro n h i u hu
  have hl := rowL_length k0 nn n
  have hi : i < n * 2 := by
    rcases Nat.lt_or_ge i (n * 2) with h1 | h1
    · exact h1
    · rw [List.getElem?_eq_none (by omega)] at hu; cases hu
  rcases Nat.mod_two_eq_zero_or_one i with h0 | h0
  · obtain ⟨j, rfl⟩ : ∃ j, i = j * 2 := ⟨i / 2, by omega⟩
    rw [(rowL_get k0 nn n j (by omega)).1] at hu
    rw [← hu]; exact (h j (by omega)).1
  · obtain ⟨j, rfl⟩ : ∃ j, i = j * 2 + 1 := ⟨i / 2, by omega⟩
    rw [(rowL_get k0 nn n j (by omega)).2] at hu
    rw [← hu]; exact (h j (by omega)).2
theorem rowL_one (k0 nn : Nat → Int) : ∀ n, ∀ u ∈ rowL k0 nn n, u.oneCell' = true
  | 0, u, h => by cases h
  | n + 1, u, h => by
    rcases List.mem_append.1 h with h | h
    · exact rowL_one k0 nn n u h
    · simp at h
      rcases h with rfl | rfl <;> rfl
/-- The variable and its row. -/
structure OwnP (b0 : Nat) (w0 : World) (O ob n cap : Nat) (cur : Array Value) (W : World) : Prop where
  below : Below b0 w0 W
  bO : b0 ≤ O
  bo : b0 ≤ ob
  ne : ob ≠ O
  var : W.heap[O]? = some (.cells #[.slice (some ⟨ob, 0, none⟩) n cap] 22)
  row : W.heap[ob]? = some (.cells cur 26)
def KindsAt (cur : Array Value) (k0 nn : Nat → Int) (n k : Nat) : Prop := ∀ j, j < n → cur[j * 2]? = some (.int .i64 (if j < k then (kdOf (k0 j) : Int) else k0 j)) ∧ cur[j * 2 + 1]? = some (.int .i64 (nn j))
theorem OwnP.ofBelow {b0 : Nat} {w0 : World} {O ob n cap : Nat} {cur : Array Value} {W W' : World} (h : OwnP b0 w0 O ob n cap cur W) (hb : Below W.heap.size W W') : OwnP b0 w0 O ob n cap cur W' := by
  have hO := lt_of_get h.var
  have := h.bO
  exact ⟨h.below.trans (hb.mono (by omega)), h.bO, h.bo, h.ne, (hb.block _ hO).trans h.var, (hb.block _ (lt_of_get h.row)).trans h.row⟩
theorem OwnP.store {b0 : Nat} {w0 : World} {O ob n cap : Nat} {cur : Array Value} {W : World} {k0 nn : Nat → Int} {k : Nat} (h : OwnP b0 w0 O ob n cap cur W) (hK : KindsAt cur k0 nn n k) (hk : k < n) :
    ∃ cur', OwnP b0 w0 O ob n cap cur' (W.setCell ⟨ob, k * 2, none⟩ (.int .i64 (kdOf (k0 k) : Nat))) ∧ KindsAt cur' k0 nn n (k + 1) := by
  have hsz : k * 2 < cur.size := by
    rcases Nat.lt_or_ge (k * 2) cur.size with h1 | h1
    · exact h1
    · have := (hK k hk).1; rw [Array.getElem?_eq_none h1] at this; cases this
  refine ⟨cur.setIfInBounds (k * 2) (.int .i64 (kdOf (k0 k) : Nat)), ⟨?_, h.bO, h.bo, h.ne, ?_, block_set h.row _⟩, fun j hj => ⟨?_, ?_⟩⟩
  · have := h.bo
    refine h.below.trans ⟨rfl, rfl, rfl, by simp [World.setCell], fun j hj => Below.heap_setCell _ _ _ _ (by show j ≠ ob; omega)⟩
  · rw [Below.heap_setCell _ _ _ _ (by exact Ne.symm h.ne)]; exact h.var
  · rw [Array.getElem?_setIfInBounds]
    by_cases hjk : j = k
    · subst hjk
      rw [if_pos rfl, if_pos hsz, if_pos (by omega)]
    · rw [if_neg (by omega), (hK j hj).1]
      by_cases h1 : j < k
      · rw [if_pos h1, if_pos (by omega)]
      · rw [if_neg h1, if_neg (by omega)]
  · rw [Array.getElem?_setIfInBounds, if_neg (by omega)]; exact (hK j hj).2
def KV (ob n cap k : Nat) (k0 : Nat → Int) : Nat → Value → Prop
  | 0, v => v = .slice (some ⟨ob, 0, none⟩) n cap
  | 1, v => v = .int .i64 (k : Nat)
  | 2, v => v = .slice (some ⟨ob, 0, none⟩) n cap
  | 3, v => v = .int .i64 (k : Nat)
  | 4, v => v = .pointer (some ⟨ob, k * 2, none⟩)
  | 5, v => v = .pointer (some ⟨ob, k * 2, none⟩)
  | 6, v => v = .int .i64 (k0 k)
  | 7, v => v = .int .i64 ((k0 k).tmod 5)
  | 8, v => v = .int .i64 ((k0 k).tmod 5 + 5)
  | 9, v => v = .int .i64 (kdOf (k0 k) : Nat)
  | 10, v => v = .pointer (some ⟨ob, k * 2, none⟩)
  | 11, v => v = .pointer (some ⟨ob, k * 2, none⟩)
  | _, _ => True
structure KPh (b0 : Nat) (w0 : World) (O ob n cap k : Nat) (k0 nn : Nat → Int) (done : Nat → Bool) (f : Nat → Value) (W : World) : Prop where
  o6 : done 6 = false → done 12 = false
  a : done 12 = false → ∃ cur, OwnP b0 w0 O ob n cap cur W ∧ KindsAt cur k0 nn n k
  b : done 12 = true → ∃ cur, OwnP b0 w0 O ob n cap cur W ∧ KindsAt cur k0 nn n (k + 1)
section
variable {b0 : Nat} {w0 : World} {O ob n cap k : Nat} {k0 nn : Nat → Int} {done : Nat → Bool} {f : Nat → Value} {W : World}
theorem KPh.pure (h : KPh b0 w0 O ob n cap k k0 nn done f W) (i : Nat) (hi : i ≠ 12) (v : Value) : KPh b0 w0 O ob n cap k k0 nn (updB done i) (upd f i v) W := by
  have e12 : updB done i 12 = done 12 := if_neg (Ne.symm hi)
  refine ⟨fun h0 => ?_, by rw [e12]; exact h.a, by rw [e12]; exact h.b⟩
  rw [e12]
  by_cases hi0 : (6 : Nat) = i
  · rw [show updB done i 6 = true from if_pos hi0] at h0; cases h0
  · rw [show updB done i 6 = done 6 from if_neg hi0] at h0; exact h.o6 h0
theorem KPh.any (h : KPh b0 w0 O ob n cap k k0 nn done f W) : ∃ cur, OwnP b0 w0 O ob n cap cur W := by
  cases hd : done 12 with
  | false => obtain ⟨cur, h1, _⟩ := h.a hd; exact ⟨cur, h1⟩
  | true => obtain ⟨cur, h1, _⟩ := h.b hd; exact ⟨cur, h1⟩
theorem KPh.var (h : KPh b0 w0 O ob n cap k k0 nn done f W) : W.cell? ⟨O, 0, none⟩ = some (.slice (some ⟨ob, 0, none⟩) n cap) := by
  obtain ⟨cur, h1⟩ := h.any
  exact cell_of h1.var 0
theorem KPh.kind (h : KPh b0 w0 O ob n cap k k0 nn done f W) (hk : k < n) (h12 : done 12 = false) : W.cell? ⟨ob, k * 2, none⟩ = some (.int .i64 (k0 k)) := by
  obtain ⟨cur, h1, h2⟩ := h.a h12
  rw [cell_of h1.row, (h2 k hk).1, if_neg (Nat.lt_irrefl _)]
theorem KPh.store_cells (h : KPh b0 w0 O ob n cap k k0 nn done f W) (hk : k < n) : (∃ z, W.cell? ⟨ob, k * 2, none⟩ = some (.int .i64 z)) ∧ W.frozen? ⟨ob, k * 2, none⟩ = false := by
  cases hd : done 12 with
  | false => obtain ⟨cur, h1, h2⟩ := h.a hd; exact ⟨⟨_, (cell_of h1.row _).trans (h2 k hk).1⟩, frz_of h1.row _⟩
  | true => obtain ⟨cur, h1, h2⟩ := h.b hd; exact ⟨⟨_, (cell_of h1.row _).trans (h2 k hk).1⟩, frz_of h1.row _⟩
theorem KPh.stored (h : KPh b0 w0 O ob n cap k k0 nn done f W) (hk : k < n) (h12 : done 12 = false) (h6 : done 6 = true) : KPh b0 w0 O ob n cap k k0 nn (updB done 12) (upd f 12 undef) (W.setCell ⟨ob, k * 2, none⟩ (.int .i64 (kdOf (k0 k) : Nat))) := by
  have e12 : updB done 12 12 = true := if_pos rfl
  have e6 : updB done 12 6 = done 6 := if_neg (by decide)
  refine ⟨by rw [e6, h6]; exact (fun e => by cases e), by rw [e12]; exact (fun e => by cases e), fun _ => ?_⟩
  obtain ⟨cur, h1, h2⟩ := h.a h12
  exact h1.store h2 hk
end
theorem info26 : (Try.prog.info? 26).map (fun i => (i.zero, i.size, i.bytes)) = some (some (.agg #[.int .i64 0, .int .i64 0]), 2, 16) := by kernel_rfl
theorem parts_append {ops : Array Oper} {rest : List Oper} {o : Oper} {a : Act} {Q : Exit → Act → World → Prop} (b0 : Nat) (W : World) (al : Option Addr) (n c b off : Nat) (k0 nn : Nat → Int) (hgd : o.guard = none) (ho : o.op = .call { callee := .builtin .append, args := #[.tmp 23, .tmp 24], argTypes := #[22, 22] })
    (hs : a.eval (.tmp 23) = .slice (some ⟨W.heap.size, 0, none⟩) 0 0) (hx : a.eval (.tmp 24) = .slice al n c) (hn : n ≤ 12) (hal : 0 < n → al = some ⟨b, off, none⟩) (hrow : ∀ j, j < n → W.cell? ⟨b, off + j * 2, none⟩ = some (.int .i64 (k0 j)) ∧ W.cell? ⟨b, off + j * 2 + 1, none⟩ = some (.int .i64 (nn j))) (hb : 0 < n → b < W.heap.size)
    (hB : b0 ≤ W.heap.size)
    (h : ∀ ob cap cur W', Below W.heap.size W W' → W.heap.size ≤ ob → W'.heap[ob]? = some (.cells cur 26) → KindsAt cur k0 nn n 0 → wpList Try.prog ops Q rest (a.put o.dst (.slice (some ⟨ob, 0, none⟩) n cap)) W') : wpList Try.prog ops Q (o :: rest) a (W.alloc (.cells #[] 26)) := by
  have hbl : Below W.heap.size W (W.alloc (.cells #[] 26)) := Below.alloc (Below.refl _ _) (Nat.le_refl _) _
  obtain ⟨i, hi, hr⟩ := Option.map_eq_some_iff.1 info26
  simp only [Prod.mk.injEq] at hr
  obtain ⟨hz, hsz, hby⟩ := hr
  rcases Nat.eq_zero_or_pos n with rfl | hpos
  · refine wpList_plain hgd fun K hK => ?_
    have hsrc : Src Try.prog i.size 22 (.slice al 0 c) 0 [] (W.alloc (.cells #[] 26)) := by
      cases al with
      | none => exact Src.ofNil _ Try.underlying22 c
      | some ad => exact Src.ofSlice _ Try.underlying22 ad 0 c [] (by simp) (fun j u hj => by simp at hj) (fun u hu => by cases hu)
    have hr := run_append_room_src (P := Try.prog) (W.alloc (.cells #[] 26)) 22 22 o.type 26 i Try.underlying22 hi W.heap.size 0 0 0 (.slice al 0 c) 0 [] hsrc (by omega) (fun j hj => absurd hj (Nat.not_lt_zero _)) (fun j hj => absurd hj (Nat.not_lt_zero _))
    unfold Oper.wp execOp
    simp only [ho, resolve, invoke, builtin, Sem.run_bind, Sem.run_pure, Result.andThen_ok, List.map_toArray, List.map_cons, List.map_nil, hs, hx, hr]
    exact hK _ _ (h W.heap.size 0 #[] _ hbl (Nat.le_refl _) (heap_new _ _) (fun j hj => absurd hj (Nat.not_lt_zero _)))
  · obtain rfl := hal hpos
    have hown : (W.alloc (.cells #[] 26)).ownsRow W.heap.size 26 2 (.slice (some ⟨W.heap.size, 0, none⟩) 0 0) 0 [] := ⟨rfl, Or.inr ⟨W.heap.size, 0, #[], rfl, Nat.le_refl _, heap_new _ _, Nat.le_refl _, by unfold maxLen; omega, rfl, rfl⟩⟩
    refine wpList_append_own_at _ hgd (.tmp 23) (.tmp 24) 22 ho W.heap.size 26 i (.agg #[.int .i64 0, .int .i64 0]) 2 16 Try.underlying22 hi hz hsz hby rfl (by decide) _ 0 [] hs hown ⟨b, off, none⟩ n c (rowL k0 nn n) hx (rowL_length k0 nn n) ?_ (rowL_one k0 nn n) (by unfold maxLen; omega) (by omega) hbl.size ?_
    · intro j u hj
      rw [Addr.add_mid]
      have h1 := rowL_cell k0 nn W b off n hrow j u hj
      rw [hbl.cell (p := ⟨b, off + j, none⟩) (by exact hb hpos)]; exact h1
    · intro v' W' q1 q2 _ _
      rcases q1.2 with ⟨_, h0⟩ | ⟨g, cap, cur, rfl, r1, r2, r3, r4, r5, r6⟩
      · omega
      · rw [Nat.zero_add]
        refine h g cap cur W' (hbl.trans ⟨q2.os, q2.tape, q2.output, q2.size, fun j hj => q2.block j (by have := hbl.size; omega) (fun e => by have e2 : some j = some W.heap.size := e; injection e2 with e2; omega)⟩) r1 r2 (fun j hj => ?_)
        rw [Nat.zero_add, List.nil_append] at r6
        have g1 := rowL_get k0 nn n j hj
        rw [← r6] at g1
        rw [List.getElem?_take_of_lt (by omega), List.getElem?_take_of_lt (by omega), Array.getElem?_toList, Array.getElem?_toList] at g1
        rw [if_neg (Nat.not_lt_zero _)]
        exact g1
end Go.Proofs.Ythojbccoejdmeaa
