/- Insert of one element in the middle of a slice of the call's own, as a call. -/
import Derived.Test.YtknmipbjkkeebaaRA
import Derived.Test.YtknmipbjkkeebaaIL
import Derived.Lib.Overlaps
import Derived.Lib.AppendZerosOnto
import Derived.Lib.JoinLaws
import Derived.Shelf.RegionOpenPlain
import Derived.Laws.Externs
import Derived.Laws.NewBlocks
namespace Go.Proofs.Ytknmipbjkkeebaa
open Go.RowKit
def mbz : Value := .agg #[.int .i64 0, .int .u64 0, .int .i64 0]
theorem mbinfo : (Try.prog.info? 85).map (fun i => (i.zero, i.size, i.bytes)) = some (some mbz, 3, 24) := by kernel_rfl
theorem mbcopy (w : World) (ty : TypeId) (g o dLen dCap : Nat) (a : Addr) (sLen sCap : Nat) (cur : Array Value) (cs : List Value) (hg : w.heap[g]? = some (.cells cur 85 (0, 0))) (hn : cs.length = Nat.min sLen dLen * 3)
    (hsrc : ∀ j v, cs[j]? = some v → w.cell? (a.add j) = some v) (hfit : o + cs.length ≤ cur.size) (h1 : ∀ v ∈ cs, v.oneCell' = true) :
    (Builtin.copy_ #[70, 70] ty #[.slice (some ⟨g, o, none⟩) dLen dCap, .slice (some a) sLen sCap]).run Try.prog w = .ok (goInt (Nat.min sLen dLen)) (w.setRow g (cur.toList.take o ++ cs ++ cur.toList.drop (o + cs.length)).toArray) := by
  have hl := run_loadCells_list (P := Try.prog) w a cs hsrc
  have hst := run_storeCells_at Try.prog g o 85 cs 0 cur w hg (by simpa using hfit) h1
  obtain ⟨i, hi, hz, hs, hb⟩ := info_parts mbinfo
  simp [Builtin.copy_, run_underlying Try.underlying70, Builtin.lenOf, Builtin.firstCells, sizeOf, typeInfo, hi, hs, ← hn, hl, hst]
theorem mbwp_copy (w : World) {o : Oper} {a : Act} {K : Act → World → Prop} {Q : Exit → Act → World → Prop} (d s : Operand) (t t' : TypeId)
    (ho : o.op = .call { callee := .builtin .copy, args := #[d, s], argTypes := #[t, t'] }) (v u : Value) (hd : a.eval d = v) (hs : a.eval s = u) {v' : Value} {w' : World}
    (hr : (Builtin.copy_ #[t, t'] o.type #[v, u]).run Try.prog w = .ok v' w') (h : K (a.put o.dst v') w') : o.wp Try.prog a w K Q := by
  unfold Oper.wp execOp
  simp only [ho, resolve, invoke, builtin, Sem.run_bind, Sem.run_pure, Result.andThen_ok, List.map_toArray, List.map_cons, List.map_nil, hd, hs, hr]
  exact h
theorem mbwpList_copy (w : World) {ops : Array Oper} {rest : List Oper} {o : Oper} {a : Act} {Q : Exit → Act → World → Prop} (hgd : o.guard = none) (d s : Operand) (t t' : TypeId)
    (ho : o.op = .call { callee := .builtin .copy, args := #[d, s], argTypes := #[t, t'] }) (v u : Value) (hd : a.eval d = v) (hs : a.eval s = u) {v' : Value} {w' : World}
    (hr : (Builtin.copy_ #[t, t'] o.type #[v, u]).run Try.prog w = .ok v' w') (h : wpList Try.prog ops Q rest (a.put o.dst v') w') : wpList Try.prog ops Q (o :: rest) a w :=
  wpList_plain hgd fun _ hK => mbwp_copy w d s t t' ho v u hd hs hr (hK _ _ h)
theorem mbstep_copy {ops : Array Oper} {o : Oper} {a : Act} {w : World} {K : Act → World → Prop} {Q : Exit → Act → World → Prop} {E : Prop}
    (hg : o.guard = none) (d x : Operand) (dT sT : TypeId) (hop : o.op = Op.call { callee := Callee.builtin Builtin.copy, args := #[d, x], argTypes := #[dT, sT] })
    (v u : Value) (hd : a.eval d = v) (hx : a.eval x = u) {v' : Value} {w' : World} (hr : (Builtin.copy_ #[dT, sT] o.type #[v, u]).run Try.prog w = .ok v' w') (hK : K (a.put o.dst v') w') :
    if Region.wanted o (yielded ops a.tmps) = true then Oper.wp Try.prog o a w K Q else E := by
  have hw : Region.wanted o (yielded ops a.tmps) = true := by simp [Region.wanted, hg]
  rw [if_pos hw]
  unfold Oper.wp
  simp [execOp, hop, resolve, invoke, builtin, hd, hx, hr, Result.andThen]
  exact hK
set_option maxHeartbeats 4000000 in
set_option maxRecDepth 100000 in
/-- There is room: in place. -/
theorem mbins_room (b0 : Nat) (w : World) (g cap n i vb : Nat) (cur : Array Value) (xs c : List Value) (hb : b0 ≤ g) (hg : w.heap[g]? = some (.cells cur 85 (0, 0))) (hm : cap ≤ maxLen) (hsz : cur.size = cap * 3) (htk : cur.toList.take (n * 3) = xs)
    (hi : i < n) (hroom : n + 1 ≤ cap) (hc : c.length = 3) (h1x : ∀ u ∈ xs, u.oneCell' = true) (h1 : ∀ u ∈ c, u.oneCell' = true) (hvb : w.heap[vb]? = some (.cells c.toArray 85)) (hne : vb ≠ g) :
    Calls Try.prog 82 #[.slice (some ⟨g, 0, none⟩) n cap, .int .i64 (i : Nat), .slice (some ⟨vb, 0, none⟩) 1 1] w fun e w' => ∃ v', e = .returned v' ∧ w'.ownsRow b0 85 3 v' (n + 1) (xs.take (i * 3) ++ c ++ xs.drop (i * 3)) ∧ w.grownBy w' (some g) := by
  have hc63 : cap ≤ 9223372036854775807 := hm
  obtain ⟨A1, hA1⟩ : ∃ A1, A1 = cur.toList.take (i * 3 + 3) ++ xs.drop (i * 3) ++ cur.toList.drop (i * 3 + 3 + (n * 3 - i * 3)) := ⟨_, rfl⟩
  obtain ⟨A2, hA2⟩ : ∃ A2, A2 = A1.take (i * 3) ++ c ++ A1.drop (i * 3 + 3) := ⟨_, rfl⟩
  have hin3 : i * 3 ≤ n * 3 := Nat.mul_le_mul_right _ (by omega)
  have hcl : n * 3 + 3 ≤ cur.toList.length := by rw [Array.length_toList, hsz]; have : (n + 1) * 3 ≤ cap * 3 := Nat.mul_le_mul_right _ hroom; omega
  obtain ⟨hT, hL1, hL2⟩ := ins_row cur.toList xs c (i * 3) 3 (n * 3) hin3 hcl htk hc A1 A2 hA1 hA2
  have hxl : xs.length = n * 3 := by rw [← htk, List.length_take]; omega
  have hdl : (xs.drop (i * 3)).length = n * 3 - i * 3 := by rw [List.length_drop, hxl]
  have hge : ∀ W : World, W.heap = w.heap → W.heap[g]? = some (.cells cur 85 (0, 0)) := fun W e => by rw [e]; exact hg
  have hcp1 : ∀ W : World, W.heap = w.heap → ∀ ty dc sc, (Builtin.copy_ #[70, 70] ty #[.slice (some ⟨g, (i + 1) * 3, none⟩) (n - i) dc, .slice (some ⟨g, i * 3, none⟩) (n + 1 - i) sc]).run Try.prog W = .ok (goInt (Nat.min (n + 1 - i) (n - i))) (W.setRow g A1.toArray) := fun W hW ty dc sc => by
    rw [mbcopy W ty g ((i + 1) * 3) (n - i) dc ⟨g, i * 3, none⟩ (n + 1 - i) sc cur (xs.drop (i * 3)) (hge W hW) ?_ ?_ ?_ ?_]
    · rw [hA1, hdl, show (i + 1) * 3 = i * 3 + 3 by omega]
    · rw [hdl]; simp only [Nat.min_def]; split <;> omega
    · intro j v hj
      rw [Addr.add_lit, cell_of (hge W hW)]
      rw [List.getElem?_drop, ← htk, List.getElem?_take] at hj
      split at hj
      · simpa using hj
      · cases hj
    · rw [hdl, ← Array.length_toList]; omega
    · exact fun v hv => h1x v (List.mem_of_mem_drop hv)
  have hcp2 : ∀ W : World, W.heap = (w.setRow g A1.toArray).heap → ∀ ty dc, (Builtin.copy_ #[70, 70] ty #[.slice (some ⟨g, i * 3, none⟩) (n + 1 - i) dc, .slice (some ⟨vb, 0, none⟩) 1 1]).run Try.prog W = .ok (goInt (Nat.min 1 (n + 1 - i))) (W.setRow g A2.toArray) := fun W hW ty dc => by
    have hgW : W.heap[g]? = some (.cells A1.toArray 85 (0, 0)) := by rw [hW]; exact setRow_heap w g cur _ 85 _ hg
    have hvW : W.heap[vb]? = some (.cells c.toArray 85) := by rw [hW, setRow_other w g vb _ (by omega)]; exact hvb
    rw [mbcopy W ty g (i * 3) (n + 1 - i) dc ⟨vb, 0, none⟩ 1 1 A1.toArray c hgW ?_ ?_ ?_ h1]
    · rw [hA2, hc]
    · rw [hc]; simp only [Nat.min_def]; split <;> omega
    · intro j v hj
      rw [Addr.add_lit, cell_of hvW]
      simpa using hj
    · rw [hc, List.size_toArray, hL1]; omega
  have hov : ∀ lb cb, (callFunc 104 #[.slice (some ⟨vb, 0, none⟩) 1 1, .slice (some ⟨g, (i + 1) * 3, none⟩) lb cb]).run Try.prog w = .ok (.value (.bool false)) w := fun lb cb => by
    have hs0 : ∀ w, (Go.sizeOf 85).run Try.prog w = .ok 3 w := fun w => by
      obtain ⟨i, hi, hz, hs, hb⟩ := info_parts mbinfo
      simp [sizeOf, typeInfo, hi, hs]
    rw [run_callFunc_extern Try.func104 (by kernel_rfl) (by kernel_rfl) (by kernel_rfl) (e := Extern.SlicesOverlaps.overlaps #[70, 70] #[4]) (by kernel_rfl),
      Lib.run_overlaps_apart w 70 4 85 Try.underlying70 3 hs0 ⟨vb, 0, none⟩ ⟨g, (i + 1) * 3, none⟩ 1 1 lb cb hne 85 85 c.toArray.size cur.size (by simp only [World.shape?, hvb]) (by simp only [World.shape?, hg]) (by rw [← Array.length_toList]; omega) (frz_of hvb _) (frz_of hvb _)]
    rfl
  have hz2 : ¬ ((i : Int) = (n : Int)) := by omega
  have hw1 : IntKind.i64.wrap ((i : Int) + 1) = (i : Int) + 1 := by rw [IntKind.wrap_i64]; omega
  have hb1 : (0 : Int) ≤ (i : Int) + 1 := by omega
  have hin : i ≤ n := by omega
  have htn : ((i : Int) + 1).toNat = i + 1 := by omega
  have hb2 : ¬ (cap = i + 1) := by omega
  have hb3 : (i : Int) ≤ (n : Int) + 1 := by omega
  have hb4 : ¬ (cap = i) := by omega
  have HR : Hid (∀ W : World, W.heap = ((w.setRow g A1.toArray).setRow g A2.toArray).heap → W.os = w.os → W.tape = w.tape → W.output = w.output → W.ownsRow b0 85 3 (.slice (some ⟨g, 0, none⟩) (n + 1) cap) (n + 1) (xs.take (i * 3) ++ c ++ xs.drop (i * 3)) ∧ w.grownBy W (some g)) := fun W hW ho1 ht1 hp1 => by
    have e2 : (w.setRow g A1.toArray).heap[g]? = some (.cells A1.toArray 85 (0, 0)) := setRow_heap w g cur _ 85 _ hg
    refine ⟨⟨?_, Or.inr ⟨g, cap, A2.toArray, rfl, hb, ?_, hroom, hm, ?_, ?_⟩⟩, ho1, ht1, hp1, ?_, fun k hk hkg => ?_⟩
    · rw [List.length_append, List.length_append, List.length_take, hxl, hdl, hc]; omega
    · rw [hW]; exact setRow_heap _ g _ _ 85 _ e2
    · rw [List.size_toArray, hL2, Array.length_toList, hsz]
    · rw [show (n + 1) * 3 = n * 3 + 3 by omega]; exact hT
    · rw [hW]; simp [World.setRow]
    · have hkg2 : k ≠ g := fun e => hkg (by rw [e])
      rw [hW, setRow_other _ g k _ (by omega), setRow_other w g k _ (by omega)]
  clear hT hL1 hL2 hA1 hA2 hxl hdl hge hcl hin3 hsz htk hm hc
  have hcp1' := fun ty dc sc => hcp1 w.drew rfl ty dc sc
  have hcp2' := fun ty dc => hcp2 (w.drew.setRow g A1.toArray) rfl ty dc
  clear hcp1 hcp2
  have mixed : Try.prog.follows Departure.mixedOrders = true := by kernel_rfl
  go_enter Try.func82, Try.ntmps82
  go_wp2_with (simp only [hov])
  go_region_law_o (refine mbstep_copy rfl _ _ 70 70 rfl _ _ (by simp [Act.eval, Act.put]) (by simp [Act.eval, Act.put]) (hcp1' _ _ _) ?_)
  go_wp2_with (at_builtin; refine mbwpList_copy _ rfl _ _ 70 70 rfl _ _ rfl rfl (hcp2' _ _) ?_)
  go_returns
  exact ⟨_, rfl, HR.out _ rfl rfl rfl rfl⟩
set_option maxHeartbeats 4000000 in
set_option maxRecDepth 100000 in
/-- There is no room: a new row. -/
theorem mbins_grow (b0 : Nat) (w : World) (g cap n i vb : Nat) (cur : Array Value) (xs c : List Value) (hb : b0 ≤ w.heap.size) (hg : w.heap[g]? = some (.cells cur 85 (0, 0))) (hsz : cur.size = cap * 3) (htk : cur.toList.take (n * 3) = xs)
    (hi : i < n) (hn : n ≤ 5000) (hroom : n = cap) (hc : c.length = 3) (h1x : ∀ u ∈ xs, u.oneCell' = true) (h1 : ∀ u ∈ c, u.oneCell' = true) (hvb : w.heap[vb]? = some (.cells c.toArray 85)) :
    Calls Try.prog 82 #[.slice (some ⟨g, 0, none⟩) n cap, .int .i64 (i : Nat), .slice (some ⟨vb, 0, none⟩) 1 1] w fun e w' => ∃ v', e = .returned v' ∧ w'.ownsRow b0 85 3 v' (n + 1) (xs.take (i * 3) ++ c ++ xs.drop (i * 3)) ∧ w.grownBy w' (some g) := by
  subst hroom
  obtain ⟨i0, hi0, hz0, hzs, hzb⟩ := info_parts mbinfo
  have hgw : g < w.heap.size := getElem?_lt hg
  have hvw : vb < w.heap.size := getElem?_lt hvb
  have hzc : (mbz.cells).size = 3 := by kernel_rfl
  have hin3 : i * 3 ≤ n * 3 := Nat.mul_le_mul_right _ (by omega)
  have hxl : xs.length = n * 3 := by rw [← htk, List.length_take, Array.length_toList]; omega
  have hdl : (xs.drop (i * 3)).length = n * 3 - i * 3 := by rw [List.length_drop, hxl]
  have hkk : (n : Int) + 1 - (i : Int) = ((n + 1 - i : Nat) : Int) := by omega
  have hik : i + (n + 1 - i) = n + 1 := by omega
  have hcell : ∀ j v, xs[j]? = some v → w.cell? ⟨g, j, none⟩ = some v := fun j v hj => by
    rw [cell_of hg]
    rw [← htk, List.getElem?_take] at hj
    split at hj
    · simpa using hj
    · cases hj
  have hold : (Builtin.firstCells i0.size i (.slice (some ⟨g, 0, none⟩) i n)).run Try.prog w.drew = .ok (xs.take (i * 3)).toArray w.drew := by
    rw [hzs]
    exact run_firstCells_some w.drew 3 i ⟨g, 0, none⟩ i n (xs.take (i * 3)) (by rw [List.length_take]; omega) (fun j v hj => by
      rw [Addr.add_lit, Nat.zero_add]
      rw [List.getElem?_take] at hj
      split at hj
      · exact hcell j v hj
      · cases hj)
  obtain ⟨G, hG⟩ : ∃ G, G = grownCap w (n + 1) n 85 := ⟨_, rfl⟩
  have hGn : n + 1 ≤ G := by rw [hG]; exact grownCap_ge w _ _ _
  have hGm : G ≤ maxLen := by rw [hG]; exact grownCap_le_maxLen w (n + 1) n 85 (by unfold maxLen; omega)
  obtain ⟨ROW, hROW⟩ : ∃ ROW : Array Value, ROW = (xs.take (i * 3)).toArray ++ Builtin.zeroCells mbz.cells (n + 1 - i) ++ Builtin.zeroCells mbz.cells (G - (n + 1)) := ⟨_, rfl⟩
  have hrz : ∀ ty, (Builtin.append_ #[70, 3] ty #[.slice (some ⟨g, 0, none⟩) i n, .int .i64 ((n : Int) + 1 - (i : Int))]).run Try.prog w = .ok (.slice (some ⟨w.heap.size, 0, none⟩) (n + 1) G) (w.drew.alloc (.cells ROW 85)) := fun ty => by
    have h := Lib.run_append_grow_zeros w 70 3 ty 85 i0 _ .i64 .i64 Try.underlying70 Try.underlying3 hi0 hz0 (some ⟨g, 0, none⟩) i n (xs.take (i * 3)) hold (n + 1 - i) (by omega) (by omega) (by omega) (by omega) (by rw [hzb]; omega) (by rw [hzb, hik]; exact growslice_fits (by omega) (by omega))
    rw [hik, ← hG, ← hROW] at h
    rw [hkk]
    exact h
  obtain ⟨A1, hA1⟩ : ∃ A1, A1 = ROW.toList.take (i * 3) ++ c ++ ROW.toList.drop (i * 3 + 3) := ⟨_, rfl⟩
  obtain ⟨A2, hA2⟩ : ∃ A2, A2 = A1.take (i * 3 + 3) ++ xs.drop (i * 3) ++ A1.drop (i * 3 + 3 + (n * 3 - i * 3)) := ⟨_, rfl⟩
  obtain ⟨hT, hLR, hL1, hL2⟩ := ins_new xs c (Builtin.zeroCells mbz.cells (n + 1 - i) ++ Builtin.zeroCells mbz.cells (G - (n + 1))).toList (i * 3) 3 (n * 3) (G * 3) hin3 hxl hc
    (by rw [Array.length_toList, Array.size_append, size_zeroCells, size_zeroCells, hzc, ← Nat.add_mul, ← Nat.sub_mul]; congr 1; omega)
    (by have : (n + 1) * 3 ≤ G * 3 := Nat.mul_le_mul_right _ hGn; omega) ROW.toList A1 A2 (by rw [hROW]; simp) hA1 hA2
  have hG3 : n * 3 + 3 ≤ G * 3 := by have : (n + 1) * 3 ≤ G * 3 := Nat.mul_le_mul_right _ hGn; omega
  have hW1g : (w.drew.alloc (.cells ROW 85)).heap[w.heap.size]? = some (.cells ROW 85 (0, 0)) := heap_new w.drew _
  have hW1o : ∀ k, k < w.heap.size → (w.drew.alloc (.cells ROW 85)).heap[k]? = w.heap[k]? := fun k hk => Below.heap_alloc w.drew _ k hk
  have hcpA : ∀ W : World, W.heap = (w.drew.alloc (.cells ROW 85)).heap → ∀ ty dc, (Builtin.copy_ #[70, 70] ty #[.slice (some ⟨w.heap.size, i * 3, none⟩) (n + 1 - i) dc, .slice (some ⟨vb, 0, none⟩) 1 1]).run Try.prog W = .ok (goInt (Nat.min 1 (n + 1 - i))) (W.setRow w.heap.size A1.toArray) := fun W hW ty dc => by
    have hgW : W.heap[w.heap.size]? = some (.cells ROW 85 (0, 0)) := by rw [hW]; exact hW1g
    have hvW : W.heap[vb]? = some (.cells c.toArray 85) := by rw [hW, hW1o vb hvw]; exact hvb
    rw [mbcopy W ty w.heap.size (i * 3) (n + 1 - i) dc ⟨vb, 0, none⟩ 1 1 ROW c hgW ?_ ?_ ?_ h1]
    · rw [hA1, hc]
    · rw [hc]; simp only [Nat.min_def]; split <;> omega
    · intro j v hj
      rw [Addr.add_lit, cell_of hvW]
      simpa using hj
    · rw [hc, ← Array.length_toList, hLR]; omega
  have hcpB : ∀ W : World, W.heap = ((w.drew.alloc (.cells ROW 85)).setRow w.heap.size A1.toArray).heap → ∀ ty dc sc, (Builtin.copy_ #[70, 70] ty #[.slice (some ⟨w.heap.size, (i + 1) * 3, none⟩) (n - i) dc, .slice (some ⟨g, i * 3, none⟩) (n - i) sc]).run Try.prog W = .ok (goInt (Nat.min (n - i) (n - i))) (W.setRow w.heap.size A2.toArray) := fun W hW ty dc sc => by
    have hgW : W.heap[w.heap.size]? = some (.cells A1.toArray 85 (0, 0)) := by rw [hW]; exact setRow_heap _ _ _ _ 85 _ hW1g
    have hgo : W.heap[g]? = some (.cells cur 85 (0, 0)) := by rw [hW, setRow_other _ _ g _ (by omega), hW1o g hgw]; exact hg
    rw [mbcopy W ty w.heap.size ((i + 1) * 3) (n - i) dc ⟨g, i * 3, none⟩ (n - i) sc A1.toArray (xs.drop (i * 3)) hgW ?_ ?_ ?_ ?_]
    · rw [hA2, hdl, show (i + 1) * 3 = i * 3 + 3 by omega]
    · rw [hdl, ← Nat.sub_mul]; simp only [Nat.min_def, ite_self]
    · intro j v hj
      rw [Addr.add_lit, World.cell?_of_block (w := w) (by rw [hgo, hg])]
      rw [List.getElem?_drop] at hj
      exact hcell _ v hj
    · rw [hdl, List.size_toArray, hL1]; omega
    · exact fun v hv => h1x v (List.mem_of_mem_drop hv)
  have HR : Hid (∀ W : World, W.heap = (((w.drew.alloc (.cells ROW 85)).setRow w.heap.size A1.toArray).setRow w.heap.size A2.toArray).heap → W.os = w.os → W.tape = w.tape → W.output = w.output → W.ownsRow b0 85 3 (.slice (some ⟨w.heap.size, 0, none⟩) (n + 1) G) (n + 1) (xs.take (i * 3) ++ c ++ xs.drop (i * 3)) ∧ w.grownBy W (some g)) := fun W hW ho1 ht1 hp1 => by
    have e2 : ((w.drew.alloc (.cells ROW 85)).setRow w.heap.size A1.toArray).heap[w.heap.size]? = some (.cells A1.toArray 85 (0, 0)) := setRow_heap _ _ _ _ 85 _ hW1g
    refine ⟨⟨?_, Or.inr ⟨w.heap.size, G, A2.toArray, rfl, hb, ?_, hGn, hGm, ?_, ?_⟩⟩, ho1, ht1, hp1, ?_, fun k hk hkg => ?_⟩
    · rw [List.length_append, List.length_append, List.length_take, hxl, hdl, hc]; omega
    · rw [hW]; exact setRow_heap _ _ _ _ 85 _ e2
    · rw [List.size_toArray, hL2]
    · rw [show (n + 1) * 3 = n * 3 + 3 by omega]; exact hT
    · rw [hW]; simp [World.setRow]
    · rw [hW, setRow_other _ _ k _ (by omega), setRow_other _ _ k _ (by omega), hW1o k hk]
  have hG63 : G ≤ 9223372036854775807 := hGm
  have hGi : ¬ (G = i) := by omega
  have hGim : ¬ (G = i + 1) := by omega
  have hci : ¬ (n = i) := by omega
  have hz2 : ¬ ((i : Int) = (n : Int)) := by omega
  have hw1 : IntKind.i64.wrap ((i : Int) + 1) = (i : Int) + 1 := by rw [IntKind.wrap_i64]; omega
  have hb1 : (0 : Int) ≤ (i : Int) + 1 := by omega
  have hin : i ≤ n := by omega
  have htn : ((i : Int) + 1).toNat = i + 1 := by omega
  have hb3 : (i : Int) ≤ (n : Int) := by omega
  have hnb : n ≤ 9223372036854775807 := by omega
  have mixed : Try.prog.follows Departure.mixedOrders = true := by kernel_rfl
  have hcpA' := fun ty dc => hcpA (w.alloc (.cells ROW 85)).drew rfl ty dc
  have hcpB' := fun ty dc sc => hcpB (((w.alloc (.cells ROW 85)).drew.setRow w.heap.size A1.toArray).drew) rfl ty dc sc
  clear hcpA hcpB
  clear hT hLR hL1 hL2 hA1 hA2 hxl hdl hin3 hsz htk hc hkk hik hold hROW hG hGm hG3 hcell hW1g hW1o hvw hgw hzc hzb hzs hz0 hi0
  go_enter Try.func82, Try.ntmps82
  go_wp2_with (first
    | (at_builtin; refine Lib.wpList_append_run _ rfl _ _ _ _ rfl _ _ rfl rfl _ _ (hrz _) ?_)
    | (at_builtin; refine mbwpList_copy _ rfl _ _ 70 70 rfl _ _ rfl rfl (hcpA' _ _) ?_))
  go_region_law_o (refine mbstep_copy rfl _ _ 70 70 rfl (.slice (some ⟨w.heap.size, (i + 1) * 3, none⟩) (n - i) (G - (i + 1))) (.slice (some ⟨g, i * 3, none⟩) (n - i) (n - i)) (by simp [Act.eval, Act.put]) (by simp [Act.eval, Act.put]) (hcpB' 3 (G - (i + 1)) (n - i)) ?_)
  go_wp2
  go_returns
  exact ⟨_, rfl, HR.out _ rfl rfl rfl rfl⟩
end Go.Proofs.Ytknmipbjkkeebaa
