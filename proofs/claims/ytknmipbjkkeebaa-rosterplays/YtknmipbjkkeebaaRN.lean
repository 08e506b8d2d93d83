/- Rosters as plain data; the next one, as a call. -/
import Derived.Test.YtknmipbjkkeebaaRI
namespace Go.Proofs.Ytknmipbjkkeebaa
open Go.RowKit
/-- A member. -/
structure Mb where
  s : Int
  j : Nat
  t : Int
def Mb.cs (m : Mb) : List Value := [.int .i64 m.s, .int .u64 (m.j : Nat), .int .i64 m.t]
def mcs : List Mb → List Value
  | [] => []
  | m :: l => m.cs ++ mcs l
theorem mcs_length : ∀ l, (mcs l).length = l.length * 3
  | [] => rfl
  | m :: l => by rw [mcs, List.length_append, mcs_length l, List.length_cons]; simp [Mb.cs]; omega
theorem mcs_append : ∀ a b, mcs (a ++ b) = mcs a ++ mcs b
  | [], _ => rfl
  | m :: l, b => by rw [List.cons_append, mcs, mcs, mcs_append l b, List.append_assoc]
theorem mcs_one : ∀ (l : List Mb) (u : Value), u ∈ mcs l → u.oneCell' = true
  | [], u, h => by cases h
  | m :: l, u, h => by
    rcases List.mem_append.1 h with h | h
    · simp [Mb.cs] at h
      rcases h with rfl | rfl | rfl <;> rfl
    · exact mcs_one l u h
theorem mcs_take : ∀ (l : List Mb) (i : Nat), (mcs l).take (i * 3) = mcs (l.take i)
  | [], i => by simp [mcs]
  | m :: l, 0 => by simp [mcs]
  | m :: l, i + 1 => by
    rw [List.take_succ_cons, mcs, mcs, ← mcs_take l i, show (i + 1) * 3 = m.cs.length + i * 3 by simp [Mb.cs]; omega, List.take_append, List.take_of_length_le (by omega)]
    congr 2; omega
theorem mcs_drop : ∀ (l : List Mb) (i : Nat), (mcs l).drop (i * 3) = mcs (l.drop i)
  | [], i => by simp [mcs]
  | m :: l, 0 => by simp [mcs]
  | m :: l, i + 1 => by
    rw [List.drop_succ_cons, mcs, ← mcs_drop l i, show (i + 1) * 3 = m.cs.length + i * 3 by simp [Mb.cs]; omega, List.drop_append, List.drop_eq_nil_of_le (by omega), List.nil_append]
    congr 1; omega
/-- A roster. -/
structure Ro where
  c : Nat
  e : Nat
  l : Nat
  j : Nat
  ms : List Mb
def Ro.arr (r : Ro) (v : Value) : Array Value := #[.int .u64 (r.c : Nat), .int .u64 (r.e : Nat), .int .u64 (r.l : Nat), .int .u64 (r.j : Nat), v]
def Ro.val (r : Ro) (v : Value) : Value := .agg (r.arr v)
/-- These members lie there. -/
def MIs (w : World) (b : Nat) (v : Value) (l : List Mb) : Prop := w.ownsRow b 85 3 v l.length (mcs l)
theorem MIs.below {w w' : World} {b : Nat} {v : Value} {l : List Mb} (h : MIs w b v l) (hb : Below w.heap.size w w') : MIs w' b v l := by
  refine ⟨h.1, ?_⟩
  rcases h.2 with h1 | ⟨g, cap, cur, e, h2, h3, h4⟩
  · exact Or.inl h1
  · exact Or.inr ⟨g, cap, cur, e, h2, (hb.block _ (getElem?_lt h3)).trans h3, h4⟩
theorem MIs.least {w : World} {b b' : Nat} {v : Value} {l : List Mb} (h : MIs w b v l) (hb : b' ≤ b) : MIs w b' v l := by
  refine ⟨h.1, ?_⟩
  rcases h.2 with h1 | ⟨g, cap, cur, e, h2, h3⟩
  · exact Or.inl h1
  · exact Or.inr ⟨g, cap, cur, e, Nat.le_trans hb h2, h3⟩
theorem own_slice {w : World} {base : Nat} {t : TypeId} {k : Nat} {v : Value} {n : Nat} {xs : List Value} (h : w.ownsRow base t k v n xs) : ∃ ao cap, v = .slice ao n cap := by
  rcases h.2 with ⟨rfl, rfl⟩ | ⟨g, cap, cur, rfl, _⟩
  · exact ⟨none, 0, rfl⟩
  · exact ⟨_, cap, rfl⟩
/-- Two blocks apart all is as it was. -/
structure Off (B1 B2 : Nat) (w W : World) : Prop where
  os : W.os = w.os
  tape : W.tape = w.tape
  output : W.output = w.output
  size : w.heap.size ≤ W.heap.size
  block : ∀ k, k ≠ B1 → k ≠ B2 → W.heap[k]? = w.heap[k]?
theorem Off.refl (B1 B2 : Nat) (w : World) : Off B1 B2 w w := ⟨rfl, rfl, rfl, Nat.le_refl _, fun _ _ _ => rfl⟩
theorem Off.set {B1 B2 : Nat} {w W : World} (h : Off B1 B2 w W) {a : Addr} (ha : a.block = B1 ∨ a.block = B2) (v : Value) : Off B1 B2 w (W.setCell a v) :=
  ⟨h.os, h.tape, h.output, by simpa [World.setCell] using h.size, fun k h1 h2 => by
    rw [Below.heap_setCell _ _ _ _ (by rcases ha with e | e <;> rw [e] <;> assumption)]; exact h.block k h1 h2⟩
theorem Off.below {B1 B2 b : Nat} {w0 w W : World} (h : Off B1 B2 w W) (h0 : Below b w0 w) (h1 : b ≤ B1) (h2 : b ≤ B2) : Below b w0 W :=
  h0.trans ⟨h.os, h.tape, h.output, h.size, fun k hk => h.block k (by omega) (by omega)⟩
theorem MIs.off {B1 B2 b : Nat} {w W : World} {v : Value} {l : List Mb} (h : MIs w b v l) (ho : Off B1 B2 w W) {c1 c2 : Array Value} {t1 t2 : TypeId} (h1 : w.heap[B1]? = some (.cells c1 t1)) (h2 : w.heap[B2]? = some (.cells c2 t2)) (ht1 : t1 ≠ 85) (ht2 : t2 ≠ 85) : MIs W b v l := by
  refine ⟨h.1, ?_⟩
  rcases h.2 with h0 | ⟨g, cap, cur, e, hb, hg, hr⟩
  · exact Or.inl h0
  · refine Or.inr ⟨g, cap, cur, e, hb, ?_, hr⟩
    rw [ho.block g ?_ ?_]
    · exact hg
    · intro e2; rw [e2, h1] at hg; injection hg with hg; injection hg with _ ht _; exact ht1 ht
    · intro e2; rw [e2, h2] at hg; injection hg with hg; injection hg with _ ht _; exact ht2 ht
theorem size72 : (Try.prog.info? 72).map (·.size) = some 5 := by kernel_rfl
theorem store5 {W : World} {B : Nat} {x0 x1 x2 x3 x4 : Value} {t : TypeId} (h : W.heap[B]? = some (.cells #[x0, x1, x2, x3, x4] t)) (a b c d e : Value) :
    (((((W.setCell ⟨B, 0, none⟩ a).setCell ⟨B, 1, none⟩ b).setCell ⟨B, 2, none⟩ c).setCell ⟨B, 3, none⟩ d).setCell ⟨B, 4, none⟩ e).heap[B]? = some (.cells #[a, b, c, d, e] t) := by
  rw [block_set (block_set (block_set (block_set (block_set h a) b) c) d) e]; rfl
theorem ret1 {fn : Func} {p : Tmp} (h : fn.results = #[.cell p 72]) (tmps : Array Value) (w : World) (B : Nat) (cs : Array Value) (hs : cs.size = 5) (hp : tmps.getD p undef = .pointer (some ⟨B, 0, none⟩)) (hg : w.heap[B]? = some (.cells cs 72)) :
    (results fn tmps).run Try.prog w = .ok (.agg cs) w := results_cell_row h tmps w B 72 cs (0, 0) _ hp hg Try.underlying72 rfl (by rw [size72, hs])
theorem ret2 {fn : Func} {p u : Tmp} (h : fn.results = #[.cell p 72, .tmp u]) (tmps : Array Value) (w : World) (B : Nat) (cs : Array Value) (v : Value) (hs : cs.size = 5) (hp : tmps.getD p undef = .pointer (some ⟨B, 0, none⟩)) (hg : w.heap[B]? = some (.cells cs 72)) (hu : tmps.getD u undef = v) :
    (results fn tmps).run Try.prog w = .ok (.tuple #[.agg cs, v]) w := by
  rw [results_cell_tmp h, hp, hu]
  simp [asAddr, run_loadVar_row w B 72 72 cs (0, 0) _ hg Try.underlying72 rfl (by rw [size72, hs]), Result.andThen]
theorem two_blocks {w w' : World} {o1 o2 : Obj} (h : ((w.alloc o1).alloc o2).grownBy w' none) : w'.heap[w.heap.size]? = some o1 ∧ w'.heap[w.heap.size + 1]? = some o2 ∧ Below w.heap.size w w' := by
  have e0 : (w.alloc o1).heap.size = w.heap.size + 1 := by simp
  have e1 : ((w.alloc o1).alloc o2).heap.size = w.heap.size + 2 := by simp
  refine ⟨?_, ?_, h.os, h.tape, h.output, ?_, fun k hk => ?_⟩
  · rw [h.block _ (by omega) (by simp), Below.heap_alloc _ _ _ (by omega)]; exact heap_new _ _
  · rw [h.block _ (by omega) (by simp)]
    have := heap_new (w.alloc o1) o2
    rw [e0] at this; exact this
  · have := h.size; omega
  · rw [h.block _ (by omega) (by simp), Below.heap_alloc _ _ _ (by omega), Below.heap_alloc _ _ _ (by omega)]
set_option maxRecDepth 100000 in
theorem next_some (r : Ro) (g cap : Nat) (w : World) (h : MIs w 0 (.slice (some ⟨g, 0, none⟩) r.ms.length cap) r.ms) (hn : r.ms.length ≤ 1000) (he : r.e < 9223372036854775807) :
    Calls Try.prog 79 #[r.val (.slice (some ⟨g, 0, none⟩) r.ms.length cap)] w fun e w' => ∃ v', e = .returned ({ r with e := r.e + 1 }.val v') ∧ MIs w' w.heap.size v' r.ms ∧ Below w.heap.size w w' := by
  obtain ⟨i, hi, hz, hs, hby⟩ := info_parts mbinfo
  have hcl := h.cells (g := g) rfl
  have hgl := (h.lt g rfl).2
  obtain ⟨xs, hxs⟩ : ∃ xs, xs = mcs r.ms := ⟨_, rfl⟩
  have hxl : xs.length = r.ms.length * 3 := by rw [hxs]; exact mcs_length _
  have hx1 : ∀ u ∈ xs, u.oneCell' = true := by rw [hxs]; exact mcs_one _
  rw [← hxs] at hcl
  unfold Ro.val Ro.arr
  obtain ⟨n, hnn⟩ : ∃ n, n = r.ms.length := ⟨_, rfl⟩
  rw [← hnn] at hxl hn ⊢
  have HN : Hid (n = r.ms.length) := hnn
  have HX : Hid (xs = mcs r.ms) := hxs
  have hC : ∀ o1 o2 j u, xs[j]? = some u → ((w.alloc o1).alloc o2).cell? ((⟨g, 0, none⟩ : Addr).add j) = some u := fun o1 o2 j u hj => by
    have := hcl j u hj
    rw [Addr.add_lit] at this ⊢
    rw [World.cell?_alloc_past _ _ _ (by simp; omega), World.cell?_alloc_past _ _ _ hgl]; exact this
  have HC : Hid _ := hC
  clear h hnn hxs hcl hC
  have hs2 : ∀ o1 o2, w.heap.size ≤ ((w.alloc o1).alloc o2).heap.size := fun o1 o2 => by simp; omega
  go_enter Try.func79, Try.ntmps79
  go_wp2_with (at_builtin; refine wpList_append_own _ rfl _ _ 70 rfl w.heap.size 85 i mbz 3 24 Try.underlying70 hi hz hs hby (by kernel_rfl) (by decide) _ 0 [] rfl (World.ownsRow_nil _ _ _ _) ⟨g, 0, none⟩ n cap xs rfl (by rw [hxl]) (HC.out _ _) hx1 (by unfold maxLen; omega) (by omega) (hs2 _ _) ?c3)
  intro v' w' h1 h2 h3
  obtain ⟨ao, cp, rfl⟩ := own_slice h1
  obtain ⟨k1, k2, k3⟩ := two_blocks h2
  have a0 := cell_of k1 0
  have a1 := cell_of k1 1
  have a2 := cell_of k1 2
  have a3 := cell_of k1 3
  have a4 := cell_of k1 4
  have f4 := frz_of k1 4
  have b0 := cell_of k2 0
  have b1 := cell_of k2 1
  have b2 := cell_of k2 2
  have b3 := cell_of k2 3
  have b4 := cell_of k2 4
  have g0 := frz_of k2 0
  have g1 := frz_of k2 1
  have g2 := frz_of k2 2
  have g3 := frz_of k2 3
  have g4 := frz_of k2 4
  simp at a0 a1 a2 a3 a4 b0 b1 b2 b3 b4
  have H1 : Hid _ := h1
  have H3 : Hid _ := k3
  have H4 : Hid _ := k1
  have H5 : Hid _ := k2
  clear h1 h2 h3 k1 k2 k3
  go_wp2
  have hO := ((((((Off.refl w.heap.size (w.heap.size + 1) w').set (a := ⟨w.heap.size, 4, none⟩) (by simp) (.slice ao n cp)).set (a := ⟨w.heap.size + 1, 0, none⟩) (by simp) (.int .u64 (r.c : Nat))).set (a := ⟨w.heap.size + 1, 1, none⟩) (by simp) (.int .u64 ((r.e : Int) + 1))).set (a := ⟨w.heap.size + 1, 2, none⟩) (by simp) (.int .u64 (r.l : Nat))).set (a := ⟨w.heap.size + 1, 3, none⟩) (by simp) (.int .u64 (r.j : Nat))).set (a := ⟨w.heap.size + 1, 4, none⟩) (by simp) (.slice ao n cp)
  have hB : (w'.setCell ⟨w.heap.size, 4, none⟩ (.slice ao n cp)).heap[w.heap.size + 1]? = _ := (Below.heap_setCell _ _ _ _ (by simp)).trans H5.out
  refine bodyPost_ret (ret1 Try.results79 _ _ (w.heap.size + 1) _ ?_ rfl (store5 hB _ _ _ _ _)) rfl ⟨.slice ao n cp, rfl, MIs.off ?_ hO H4.out H5.out (by decide) (by decide), hO.below H3.out (by omega) (by omega)⟩
  · rfl
  · have := H1.out
    rw [HX.out] at this
    unfold MIs
    rw [← HN.out]; exact this
theorem next_nil (r : Ro) (w : World) (h : r.ms = []) (he : r.e < 9223372036854775807) :
    Calls Try.prog 79 #[r.val (.slice none 0 0)] w fun e w' => e = .returned ({ r with e := r.e + 1 }.val (.slice none 0 0)) ∧ Below w.heap.size w w' := by
  unfold Ro.val Ro.arr
  go_enter Try.func79, Try.ntmps79
  go_wp2
  have hB : ((w.alloc (.cells #[.int .u64 (r.c : Nat), .int .u64 ((r.e : Int) + 1), .int .u64 (r.l : Nat), .int .u64 (r.j : Nat), .slice none 0 0] 72)).alloc (.cells #[.int .u64 (r.c : Nat), .int .u64 ((r.e : Int) + 1), .int .u64 (r.l : Nat), .int .u64 (r.j : Nat), .slice none 0 0] 72)).heap[w.heap.size + 1]? = _ := heap_alloc2_new w _ _
  refine bodyPost_ret (ret1 Try.results79 _ _ (w.heap.size + 1) _ ?_ rfl hB) rfl ⟨rfl, ?_⟩
  · rfl
  · exact ((Below.refl _ w).alloc (Nat.le_refl _) _).alloc (by simp) _
theorem next_any (r : Ro) (v : Value) (w : World) (h : MIs w 0 v r.ms) (hn : r.ms.length ≤ 1000) (he : r.e < 9223372036854775807) :
    Calls Try.prog 79 #[r.val v] w fun e w' => ∃ v', e = .returned ({ r with e := r.e + 1 }.val v') ∧ MIs w' w.heap.size v' r.ms ∧ Below w.heap.size w w' := by
  rcases h.2 with ⟨rfl, h0⟩ | ⟨g, cap, cur, rfl, hb, hg, hr⟩
  · have h1 : r.ms = [] := List.length_eq_zero_iff.1 h0
    refine (next_nil r w h1 he).mono ?_
    rintro e w' ⟨rfl, hb⟩
    refine ⟨_, rfl, ?_, hb⟩
    rw [h1]
    exact World.ownsRow_nil _ _ _ _
  · exact next_some r g cap w h hn he
/-- The member at a place. -/
def mbAt (l : List Mb) (k : Nat) : Mb := l.getD k ⟨0, 0, 0⟩
theorem mcs_at (l : List Mb) (k : Nat) (hk : k < l.length) : ∃ rest, (mcs l).drop (k * 3) = (mbAt l k).cs ++ rest := by
  rw [mcs_drop, List.drop_eq_getElem_cons hk]
  refine ⟨mcs (l.drop (k + 1)), ?_⟩
  unfold mbAt
  rw [show l.getD k ⟨0, 0, 0⟩ = l[k] by simp [hk]]; rfl
theorem MIs.mems {w : World} {b g cap : Nat} {l : List Mb} (h : MIs w b (.slice (some ⟨g, 0, none⟩) l.length cap) l) : Mems w g l.length (fun j => (mbAt l j).s) (fun j => (mbAt l j).cs) := by
  refine ⟨fun j _ => rfl, fun j _ => rfl, fun j hj k v e => ?_, (h.lt g rfl).2⟩
  obtain ⟨rest, hr⟩ := mcs_at l j hj
  have := h.cells (g := g) rfl (j * 3 + k) v (by
    rw [← List.getElem?_drop, hr, List.getElem?_append_left (List.getElem?_eq_some_iff.1 e).1]; exact e)
  rw [Addr.add_lit, Nat.zero_add] at this
  exact this
theorem rplace_any (r : Ro) (v : Value) (t : Int) (i : Nat) (w : World) (h : MIs w 0 v r.ms) (hn : r.ms.length ≤ 1000) (hi : i ≤ r.ms.length) (h1 : ∀ j, j < i → (mbAt r.ms j).s < t) (h2 : ∀ j, i ≤ j → j < r.ms.length → t ≤ (mbAt r.ms j).s) :
    Calls Try.prog 78 #[r.val v, .int .i64 t] w fun e w' => e = .returned (.tuple #[.int .i64 (i : Nat), .bool (decide (i < r.ms.length ∧ (mbAt r.ms i).s = t))]) ∧ Below w.heap.size w w' := by
  have hs : ∀ W, Below w.heap.size w W → Calls Try.prog 101 #[v, .int .i64 t, .func (.func 102) #[] #[]] W fun e w' => e = .returned (.tuple #[.int .i64 (i : Nat), .bool (decide (i < r.ms.length ∧ (mbAt r.ms i).s = t))]) ∧ Below W.heap.size W w' := by
    intro W hW
    have hM := h.below hW
    rcases hM.2 with ⟨rfl, h0⟩ | ⟨g, cap, cur, rfl, hb, hg, hr⟩
    · refine (msearch_nil t W).mono ?_
      rintro e w' ⟨rfl, rfl⟩
      obtain rfl : i = 0 := by omega
      refine ⟨?_, Below.refl _ _⟩
      rw [decide_eq_false (by omega)]; rfl
    · exact msearch_any g cap r.ms.length _ _ t i hi (by omega) W hM.mems h1 h2
  obtain ⟨ao, cp, hv⟩ := own_slice h
  generalize decide (i < r.ms.length ∧ (mbAt r.ms i).s = t) = q at *
  generalize r.ms.length = n at *
  have HS : Hid _ := hs
  have hB : ∀ o, Below w.heap.size w (w.alloc o) := fun o => (Below.refl _ w).alloc (Nat.le_refl _) o
  have HB : Hid _ := hB
  subst hv
  clear h h1 h2 hs hB
  unfold Ro.val Ro.arr
  go_enter Try.func78, Try.ntmps78
  go_wp2_with fail
  go_call (HS.out _ (HB.out _)) as e w1 ⟨rfl, hb1⟩
  have H1 : Hid _ := hb1
  clear hb1
  go_wp2
  go_returns
  exact ⟨rfl, (HB.out _).trans (H1.out.mono (HB.out _).size)⟩
end Go.Proofs.Ytknmipbjkkeebaa
