/- A slot's pages: an array of sixteen, in a box. -/
import Derived.Test.YtknmipbjkkeebaaGreatHG
namespace Go.Proofs.YtknmipbjkkeebaaGreat
open Go.RowKit
/-- Cells put over others, one behind the other. -/
def putL (c : Array Value) : Nat → List Value → Array Value
  | _, [] => c
  | o, v :: r => putL (c.setIfInBounds o v) (o + 1) r
theorem putL_size : ∀ (l : List Value) (c : Array Value) (o : Nat), (putL c o l).size = c.size
  | [], _, _ => rfl
  | v :: r, c, o => by rw [putL, putL_size r]; simp
theorem putL_get : ∀ (l : List Value) (c : Array Value) (o j : Nat), o + l.length ≤ c.size → (putL c o l)[j]? = if o ≤ j ∧ j < o + l.length then l[j - o]? else c[j]?
  | [], c, o, j, _ => by rw [putL, if_neg (by rw [List.length_nil]; omega)]
  | v :: r, c, o, j, h => by
    simp only [List.length_cons] at h
    rw [putL, putL_get r _ _ _ (by simp; omega)]
    by_cases h1 : o + 1 ≤ j ∧ j < o + 1 + r.length
    · rw [if_pos h1, if_pos (by simp; omega)]
      obtain ⟨d, rfl⟩ : ∃ d, j = o + 1 + d := ⟨j - (o + 1), by omega⟩
      rw [show o + 1 + d - (o + 1) = d by omega, show o + 1 + d - o = d + 1 by omega, List.getElem?_cons_succ]
    · rw [if_neg h1]
      by_cases h2 : j = o
      · subst h2
        rw [if_pos (by simp), Nat.sub_self]
        simp [Array.getElem?_setIfInBounds]; omega
      · rw [if_neg (by simp; omega), Array.getElem?_setIfInBounds, if_neg (fun e => h2 e.symm)]
theorem setCells_block : ∀ (l : List Value) (o : Nat) (W : World) (B : Nat) (c : Array Value) (t : TypeId), W.heap[B]? = some (.cells c t) → (W.setCells B o l).heap[B]? = some (.cells (putL c o l) t)
  | [], _, _, _, _, _, h => h
  | v :: r, o, _W, B, _c, t, h => setCells_block r (o + 1) _ B _ t (F.block_set h v)
theorem putL_all (c0 c : Array Value) (h : c0.size = c.size) : putL c0 0 c.toList = c := by
  apply Array.ext_getElem?
  intro j
  rw [putL_get _ _ _ _ (by simp; omega)]
  by_cases hj : j < c.size
  · rw [if_pos (by simp; exact hj), Nat.sub_zero, Array.getElem?_toList]
  · rw [if_neg (by simp; omega), Array.getElem?_eq_none (by omega), Array.getElem?_eq_none (by omega)]
def zp : Pg := ⟨0, 0, 0, ⟨#[]⟩⟩
def pcs (g : Nat → Pg) : Nat → List Value
  | 0 => []
  | k + 1 => pcs g k ++ (g k).cs.toList
def parr (g : Nat → Pg) : Array Value := (pcs g 16).toArray
theorem pcs_length (g : Nat → Pg) : ∀ k, (pcs g k).length = k * 4
  | 0 => rfl
  | k + 1 => by rw [pcs, List.length_append, pcs_length g k]; show k * 4 + 4 = _; omega
theorem pcs_get (g : Nat → Pg) (j m : Nat) (hm : m < 4) : ∀ k, j < k → (pcs g k)[j * 4 + m]? = (g j).cs[m]?
  | 0, h => absurd h (Nat.not_lt_zero _)
  | k + 1, h => by
    rw [pcs]
    rcases Nat.lt_or_ge j k with h1 | h1
    · rw [List.getElem?_append_left (by rw [pcs_length]; omega)]; exact pcs_get g j m hm k h1
    · obtain rfl : j = k := by omega
      rw [List.getElem?_append_right (by rw [pcs_length]; omega), pcs_length, show j * 4 + m - j * 4 = m by omega, Array.getElem?_toList]
theorem parr_size (g : Nat → Pg) : (parr g).size = 64 := by
  unfold parr; rw [List.size_toArray, pcs_length]
theorem parr_get (g : Nat → Pg) (j m : Nat) (hj : j < 16) (hm : m < 4) : (parr g)[j * 4 + m]? = (g j).cs[m]? := by
  unfold parr; rw [List.getElem?_toArray]; exact pcs_get g j m hm 16 hj
theorem parr_of (g : Nat → Pg) (c : Array Value) (hc : c.size = 64) (h : ∀ j m, j < 16 → m < 4 → c[j * 4 + m]? = (g j).cs[m]?) : c = parr g := by
  apply Array.ext_getElem?
  intro x
  rcases Nat.lt_or_ge x 64 with hx | hx
  · have e : x = x / 4 * 4 + x % 4 := by omega
    rw [e, h _ _ (by omega) (by omega), parr_get _ _ _ (by omega) (by omega)]
  · rw [Array.getElem?_eq_none (by omega), Array.getElem?_eq_none (by rw [parr_size]; omega)]
theorem pcs_one (g : Nat → Pg) : ∀ k u, u ∈ pcs g k → u.oneCell' = true
  | 0, u, h => by cases h
  | k + 1, u, h => by
    rw [pcs] at h
    rcases List.mem_append.1 h with h | h
    · exact pcs_one g k u h
    · simp [Pg.cs] at h
      rcases h with rfl | rfl | rfl | rfl <;> rfl
theorem parr_one (g : Nat → Pg) : (parr g).all (·.oneCell') = true := by
  unfold parr
  generalize hl : pcs g 16 = l
  have h : ∀ u ∈ l, u.oneCell' = true := by rw [← hl]; exact pcs_one g 16
  rw [← Array.all_toList, List.all_eq_true]
  intro u hu
  exact h u (by simpa using hu)
def updP (g : Nat → Pg) (i : Nat) (p : Pg) : Nat → Pg := fun j => if j = i then p else g j
theorem put_page (g : Nat → Pg) (i : Nat) (p : Pg) (hi : i < 16) : putL (parr g) (i * 4) p.cs.toList = parr (updP g i p) := by
  refine parr_of _ _ (by rw [putL_size, parr_size]) (fun j m hj hm => ?_)
  have hl : p.cs.toList.length = 4 := rfl
  rw [putL_get _ _ _ _ (by rw [hl, parr_size]; omega), hl]
  unfold updP
  by_cases h : j = i
  · subst h
    rw [if_pos (by omega), if_pos rfl, show j * 4 + m - j * 4 = m by omega, Array.getElem?_toList]
  · rw [if_neg (by omega), if_neg h]; exact parr_get g j m hj hm
theorem size77 : (Tryz.prog.info? 77).map (·.size) = some 64 := by kernel_rfl
section
variable {ops : Array Oper} {rest : List Oper} {op : Oper} {act : Act} {W : World} {Q : Exit → Act → World → Prop} {K : Act → World → Prop}
/-- A Page is stored into its place. -/
theorem pstAtp (x y : Operand) (ho : op.op = .store 75 x y) (B i : Nat) (hi : i < 16) (p : Pg) (hx : act.eval x = .pointer (some ⟨B, i * 4, none⟩)) (hy : act.eval y = .agg p.cs) {g : Nat → Pg} (h : W.heap[B]? = some (.cells (parr g) 77))
    (k : ∀ W', Off B W W' → W'.heap[B]? = some (.cells (parr (updP g i p)) 77) → K (act.put op.dst undef) W') : op.wp Tryz.prog act W K Q := by
  refine wp_store_mid 75 x y ho B (i * 4) p.cs hx hy ?_ size75 p.cs_one (k _ (off_setCells _ _ _ _) ?_)
  · intro j hj
    have hj4 : j < 4 := hj
    rw [F.cell_of h, F.frz_of h, parr_get g i j hi hj4]
    refine ⟨?_, rfl⟩
    rw [Array.getElem?_eq_getElem (by exact hj4)]; rfl
  · rw [setCells_block _ _ _ _ _ _ h, put_page g i p hi]
theorem pstAt (hgd : op.guard = none) (x y : Operand) (ho : op.op = .store 75 x y) (B i : Nat) (hi : i < 16) (p : Pg) (hx : act.eval x = .pointer (some ⟨B, i * 4, none⟩)) (hy : act.eval y = .agg p.cs) {g : Nat → Pg} (h : W.heap[B]? = some (.cells (parr g) 77))
    (k : ∀ W', Off B W W' → W'.heap[B]? = some (.cells (parr (updP g i p)) 77) → wpList Tryz.prog ops Q rest (act.put op.dst undef) W') : wpList Tryz.prog ops Q (op :: rest) act W :=
  wpList_plain hgd fun _ hK => pstAtp x y ho B i hi p hx hy h (fun W' a b => hK _ _ (k W' a b))
/-- All of them are stored, and loaded. -/
theorem ast77p (x y : Operand) (ho : op.op = .store 77 x y) (B : Nat) (g : Nat → Pg) (hx : act.eval x = .pointer (some ⟨B, 0, none⟩)) (hy : act.eval y = .agg (parr g)) {c0 : Array Value} (hc0 : c0.size = 64) (h : W.heap[B]? = some (.cells c0 77))
    (k : ∀ W', Off B W W' → W'.heap[B]? = some (.cells (parr g) 77) → K (act.put op.dst undef) W') : op.wp Tryz.prog act W K Q := by
  refine wp_store_mid 77 x y ho B 0 (parr g) hx hy ?_ (by rw [size77, parr_size]) (parr_one g) (k _ (off_setCells _ _ _ _) ?_)
  · intro j hj
    rw [parr_size] at hj
    rw [Nat.zero_add, F.cell_of h, F.frz_of h]
    refine ⟨?_, rfl⟩
    rw [Array.getElem?_eq_getElem (by rw [hc0]; exact hj)]; rfl
  · rw [setCells_block _ _ _ _ _ _ h, putL_all _ _ (by rw [hc0, parr_size])]
theorem ast77 (hgd : op.guard = none) (x y : Operand) (ho : op.op = .store 77 x y) (B : Nat) (g : Nat → Pg) (hx : act.eval x = .pointer (some ⟨B, 0, none⟩)) (hy : act.eval y = .agg (parr g)) {c0 : Array Value} (hc0 : c0.size = 64) (h : W.heap[B]? = some (.cells c0 77))
    (k : ∀ W', Off B W W' → W'.heap[B]? = some (.cells (parr g) 77) → wpList Tryz.prog ops Q rest (act.put op.dst undef) W') : wpList Tryz.prog ops Q (op :: rest) act W :=
  wpList_plain hgd fun _ hK => ast77p x y ho B g hx hy hc0 h (fun W' a b => hK _ _ (k W' a b))
theorem ald77p (x : Operand) (ho : op.op = .load 77 x) (B : Nat) (g : Nat → Pg) (hx : act.eval x = .pointer (some ⟨B, 0, none⟩)) (h : W.heap[B]? = some (.cells (parr g) 77)) (k : K (act.put op.dst (.agg (parr g))) W) : op.wp Tryz.prog act W K Q :=
  wp_load_row 77 x ho B hx 77 (parr g) (0, 0) _ h Tryz.underlying77 rfl (by rw [size77, parr_size]) k
theorem ald77 (hgd : op.guard = none) (x : Operand) (ho : op.op = .load 77 x) (B : Nat) (g : Nat → Pg) (hx : act.eval x = .pointer (some ⟨B, 0, none⟩)) (h : W.heap[B]? = some (.cells (parr g) 77)) (k : wpList Tryz.prog ops Q rest (act.put op.dst (.agg (parr g))) W) : wpList Tryz.prog ops Q (op :: rest) act W :=
  wpList_load_row hgd 77 x ho B hx 77 (parr g) (0, 0) _ h Tryz.underlying77 rfl (by rw [size77, parr_size]) k
end
theorem aret {fn : Func} {p : Tmp} (h : fn.results = #[.cell p 77]) (tmps : Array Value) (w : World) (B : Nat) (g : Nat → Pg) (hp : tmps.getD p undef = .pointer (some ⟨B, 0, none⟩)) (hg : w.heap[B]? = some (.cells (parr g) 77)) :
    (results fn tmps).run Tryz.prog w = .ok (.agg (parr g)) w := results_cell_row h tmps w B 77 (parr g) (0, 0) _ hp hg Tryz.underlying77 rfl (by rw [size77, parr_size])
end Go.Proofs.YtknmipbjkkeebaaGreat
