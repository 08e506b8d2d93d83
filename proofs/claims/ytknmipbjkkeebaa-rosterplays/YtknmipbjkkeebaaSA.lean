/- The document's rosters: find, copied, as calls. -/
import Derived.Test.YtknmipbjkkeebaaRG
namespace Go.Proofs.Ytknmipbjkkeebaa
open Go.RowKit
theorem xinfo : (Try.prog.info? 130).map (fun i => (i.zero, i.size, i.bytes)) = some (some mbz, 3, 24) := by kernel_rfl
theorem size69 : (Try.prog.info? 69).map (·.size) = some 5 := by kernel_rfl
/-- These members lie there, as the document's. -/
def XIs (w : World) (b : Nat) (v : Value) (l : List Mb) : Prop := w.ownsRow b 130 3 v l.length (mcs l)
theorem XIs.below {w w' : World} {b : Nat} {v : Value} {l : List Mb} (h : XIs w b v l) (hb : Below w.heap.size w w') : XIs w' b v l := by
  refine ⟨h.1, ?_⟩
  rcases h.2 with h1 | ⟨g, cap, cur, e, h2, h3, h4⟩
  · exact Or.inl h1
  · exact Or.inr ⟨g, cap, cur, e, h2, (hb.block _ (getElem?_lt h3)).trans h3, h4⟩
theorem XIs.least {w : World} {b b' : Nat} {v : Value} {l : List Mb} (h : XIs w b v l) (hb : b' ≤ b) : XIs w b' v l := by
  refine ⟨h.1, ?_⟩
  rcases h.2 with h1 | ⟨g, cap, cur, e, h2, h3⟩
  · exact Or.inl h1
  · exact Or.inr ⟨g, cap, cur, e, Nat.le_trans hb h2, h3⟩
theorem XIs.off {B1 B2 b : Nat} {w W : World} {v : Value} {l : List Mb} (h : XIs w b v l) (ho : Off B1 B2 w W) {c1 c2 : Array Value} {t1 t2 : TypeId} (h1 : w.heap[B1]? = some (.cells c1 t1)) (h2 : w.heap[B2]? = some (.cells c2 t2)) (ht1 : t1 ≠ 130) (ht2 : t2 ≠ 130) : XIs W b v l := by
  refine ⟨h.1, ?_⟩
  rcases h.2 with h0 | ⟨g, cap, cur, e, hb, hg, hr⟩
  · exact Or.inl h0
  · refine Or.inr ⟨g, cap, cur, e, hb, ?_, hr⟩
    rw [ho.block g ?_ ?_]
    · exact hg
    · intro e2; rw [e2, h1] at hg; injection hg with hg; injection hg with _ ht _; exact ht1 ht
    · intro e2; rw [e2, h2] at hg; injection hg with hg; injection hg with _ ht _; exact ht2 ht
theorem XIs.at3 {w : World} {b g cap : Nat} {l : List Mb} (h : XIs w b (.slice (some ⟨g, 0, none⟩) l.length cap) l) (k : Nat) (hk : k < l.length) :
    w.cell? ⟨g, k * 3, none⟩ = some (.int .i64 (mbAt l k).s) ∧ w.cell? ⟨g, k * 3 + 1, none⟩ = some (.int .u64 ((mbAt l k).j : Nat)) ∧ w.cell? ⟨g, k * 3 + 2, none⟩ = some (.int .i64 (mbAt l k).t) := by
  have key : ∀ q u, (mbAt l k).cs[q]? = some u → w.cell? ⟨g, k * 3 + q, none⟩ = some u := by
    intro q u e
    obtain ⟨rest, hr⟩ := mcs_at l k hk
    have := h.cells (g := g) rfl (k * 3 + q) u (by
      rw [← List.getElem?_drop, hr, List.getElem?_append_left (List.getElem?_eq_some_iff.1 e).1]; exact e)
    rw [Addr.add_lit, Nat.zero_add] at this
    exact this
  exact ⟨key 0 _ rfl, key 1 _ rfl, key 2 _ rfl⟩
theorem xret1 {fn : Func} {p : Tmp} (h : fn.results = #[.cell p 69]) (tmps : Array Value) (w : World) (B : Nat) (cs : Array Value) (hs : cs.size = 5) (hp : tmps.getD p undef = .pointer (some ⟨B, 0, none⟩)) (hg : w.heap[B]? = some (.cells cs 69)) :
    (results fn tmps).run Try.prog w = .ok (.agg cs) w := results_cell_row h tmps w B 69 cs (0, 0) _ hp hg Try.underlying69 rfl (by rw [size69, hs])
theorem xret2 {fn : Func} {p u : Tmp} (h : fn.results = #[.cell p 69, .tmp u]) (tmps : Array Value) (w : World) (B : Nat) (cs : Array Value) (v : Value) (hs : cs.size = 5) (hp : tmps.getD p undef = .pointer (some ⟨B, 0, none⟩)) (hg : w.heap[B]? = some (.cells cs 69)) (hu : tmps.getD u undef = v) :
    (results fn tmps).run Try.prog w = .ok (.tuple #[.agg cs, v]) w := by
  rw [results_cell_tmp h, hp, hu]
  simp [asAddr, run_loadVar_row w B 69 69 cs (0, 0) _ hg Try.underlying69 rfl (by rw [size69, hs]), Result.andThen]
set_option maxHeartbeats 1000000 in
set_option maxRecDepth 100000 in
theorem xfind_any (r : Ro) (v : Value) (t : Int) (p : Nat) (w : World) (h : XIs w 0 v r.ms) (hn : r.ms.length ≤ 1000) (hp : p ≤ r.ms.length) (h1 : ∀ j, j < p → (mbAt r.ms j).s < t) (h2 : ∀ j, p < j → j < r.ms.length → t < (mbAt r.ms j).s) (h3 : p < r.ms.length → t ≤ (mbAt r.ms p).s) :
    Calls Try.prog 76 #[r.val v, .int .i64 t] w fun e w' => e = .returned (.int .i64 (if p < r.ms.length ∧ (mbAt r.ms p).s = t then (p : Int) else -1)) ∧ Below w.heap.size w w' := by
  obtain ⟨ao, cp, hv⟩ := own_slice h
  have HM : Hid _ := h
  subst hv
  obtain ⟨n, hnn⟩ : ∃ n, n = r.ms.length := ⟨_, rfl⟩
  have HN : Hid _ := hnn
  have H1 : Hid _ := h1
  have H2 : Hid _ := h2
  have H3 : Hid _ := h3
  clear h1 h2 h3 h
  obtain ⟨z, hz⟩ : ∃ z : Int, z = if p < r.ms.length ∧ (mbAt r.ms p).s = t then (p : Int) else -1 := ⟨_, rfl⟩
  rw [← hz]
  have HZ : Hid _ := hz
  clear hz
  unfold Ro.val Ro.arr
  rw [← hnn] at hn hp ⊢
  clear hnn
  have H0 : Hid (∃ W : World, W = w.alloc (.cells #[.int .u64 (r.c : Nat), .int .u64 (r.e : Nat), .int .u64 (r.l : Nat), .int .u64 (r.j : Nat), .slice ao n cp] 69) ∧ Below w.heap.size w W) := ⟨_, rfl, (Below.refl _ w).alloc (Nat.le_refl _) _⟩
  go_enter Try.func76, Try.ntmps76
  go_wp2
  go_loopw [10] (fun i wr => ∃ k : Nat, k ≤ n ∧ i = .int .i64 (k : Nat) ∧ Hid (Below w.heap.size w wr ∧ ∀ j, j < k → (mbAt r.ms j).s ≠ t)) (fun i _ => n - (intOf i).toNat)
  case atStart =>
    obtain ⟨W, rfl, h1⟩ := H0.out
    exact ⟨0, by omega, rfl, h1, fun j hj => absurd hj (Nat.not_lt_zero _)⟩
  case round =>
    clear H0
    obtain ⟨k, hk, rfl, HI⟩ := hrel
    rcases Nat.lt_or_ge k n with hkn | hkn
    · obtain ⟨g, hg⟩ : ∃ g, ao = some ⟨g, 0, none⟩ := by
        rcases HM.out.2 with ⟨_, h0⟩ | ⟨g, cap, cur, e0, _⟩
        · have := HN.out; omega
        · injection e0 with e0 _ _; exact ⟨g, e0⟩
      subst hg
      have hmem : k < r.ms.length := by rw [← HN.out]; exact hkn
      have hgT : g < w.heap.size := (HM.out.lt g rfl).2
      obtain ⟨c0, c1, c2⟩ := XIs.at3 HM.out k hmem
      replace c0 := (HI.out.1.cell (by exact hgT)).trans c0
      replace c1 := (HI.out.1.cell (by exact hgT)).trans c1
      replace c2 := (HI.out.1.cell (by exact hgT)).trans c2
      have HB : Hid (∀ o, Below w.heap.size w (wr.alloc o)) := fun o => HI.out.1.alloc HI.out.1.size o
      by_cases he : (mbAt r.ms k).s = t
      · have hzk : z = (k : Int) := by
          have hkp : k = p := by
            rcases Nat.lt_trichotomy k p with h | h | h
            · have := H1.out k h; omega
            · exact h
            · have := H2.out k h hmem; omega
          rw [HZ.out, ← hkp, if_pos ⟨hmem, he⟩]
        subst hzk
        rw [he] at c0
        clear HI he HZ
        go_wp2
        go_returns
        exact ⟨rfl, HB.out _⟩
      · have HNE : Hid (∀ j, j < k + 1 → (mbAt r.ms j).s ≠ t) := fun j hj => by
          rcases Nat.lt_or_ge j k with h | h
          · exact HI.out.2 j h
          · obtain rfl : j = k := by omega
            exact he
        generalize mbAt r.ms k = m at *
        clear HI
        go_wp2
        go_roundw
        case rel => exact ⟨k + 1, by omega, rfl, HB.out _, HNE.out⟩
        case measure => simp only [intOf]; omega
    · obtain rfl : k = n := by omega
      have hz1 : z = -1 := by
        rw [HZ.out, if_neg (fun hh => HI.out.2 p (by have := HN.out; omega) hh.2)]
      subst hz1
      have HB : Hid (Below w.heap.size w wr) := HI.out.1
      clear HI HZ
      go_wp2
      go_returns
      exact ⟨rfl, HB.out⟩
theorem three_blocks {w w' : World} {o1 o2 o3 : Obj} (h : (((w.alloc o1).alloc o2).alloc o3).grownBy w' (some (w.heap.size + 1 + 1))) : w'.heap[w.heap.size]? = some o1 ∧ w'.heap[w.heap.size + 1]? = some o2 ∧ Below w.heap.size w w' := by
  have e0 : (w.alloc o1).heap.size = w.heap.size + 1 := by simp
  have e1 : ((w.alloc o1).alloc o2).heap.size = w.heap.size + 2 := by simp
  have e2 : (((w.alloc o1).alloc o2).alloc o3).heap.size = w.heap.size + 3 := by simp
  refine ⟨?_, ?_, h.os, h.tape, h.output, ?_, fun k hk => ?_⟩
  · rw [h.block _ (by omega) (by simp; omega), Below.heap_alloc _ _ _ (by omega), Below.heap_alloc _ _ _ (by omega)]; exact heap_new _ _
  · rw [h.block _ (by omega) (by simp), Below.heap_alloc _ _ _ (by omega)]
    have := heap_new (w.alloc o1) o2
    rw [e0] at this; exact this
  · have := h.size; omega
  · rw [h.block _ (by omega) (by simp; omega), Below.heap_alloc _ _ _ (by omega), Below.heap_alloc _ _ _ (by omega), Below.heap_alloc _ _ _ (by omega)]
set_option maxRecDepth 100000 in
theorem xcopied_some (r : Ro) (g cap : Nat) (w : World) (h : XIs w 0 (.slice (some ⟨g, 0, none⟩) r.ms.length cap) r.ms) (hn : r.ms.length ≤ 1000) (he : r.e < 9223372036854775807) :
    Calls Try.prog 77 #[r.val (.slice (some ⟨g, 0, none⟩) r.ms.length cap)] w fun e w' => ∃ v', e = .returned ({ r with e := r.e + 1 }.val v') ∧ XIs w' w.heap.size v' r.ms ∧ Below w.heap.size w w' := by
  obtain ⟨i, hi, hz, hs, hby⟩ := info_parts xinfo
  have hcl := h.cells (g := g) rfl
  have hgl := (h.lt g rfl).2
  obtain ⟨xs, hxs⟩ : ∃ xs, xs = mcs r.ms := ⟨_, rfl⟩
  have hxl : xs.length = r.ms.length * 3 := by rw [hxs]; exact mcs_length _
  have hx1 : ∀ u ∈ xs, u.oneCell' = true := by rw [hxs]; exact mcs_one _
  rw [← hxs] at hcl
  unfold Ro.val Ro.arr
  obtain ⟨n, hnn⟩ : ∃ n, n = r.ms.length := ⟨_, rfl⟩
  rw [← hnn] at hxl hn ⊢
  have HN : Hid (n = r.ms.length) := hnn
  have HX : Hid (xs = mcs r.ms) := hxs
  have hC : ∀ o1 o2 o3 j u, xs[j]? = some u → (((w.alloc o1).alloc o2).alloc o3).cell? ((⟨g, 0, none⟩ : Addr).add j) = some u := fun o1 o2 o3 j u hj => by
    have := hcl j u hj
    rw [Addr.add_lit] at this ⊢
    rw [World.cell?_alloc_past _ _ _ (by simp; omega), World.cell?_alloc_past _ _ _ (by simp; omega), World.cell?_alloc_past _ _ _ hgl]; exact this
  have HC : Hid _ := hC
  clear h hnn hxs hcl hC
  have hs2 : ∀ o1 o2 o3, w.heap.size ≤ (((w.alloc o1).alloc o2).alloc o3).heap.size := fun o1 o2 o3 => by simp; omega
  have hmd : ∀ o1 o2, (((w.alloc o1).alloc o2).alloc (.cells #[] 130)).ownsRow w.heap.size 130 3 (.slice (some ⟨w.heap.size + 2, 0, none⟩) 0 0) 0 [] := fun o1 o2 => by
    have := World.ownsRow_made (base := w.heap.size) (e := 130) (size := 3) ((w.alloc o1).alloc o2) #[] 0 (by simp; omega) (by unfold maxLen; omega) rfl
    simpa using this
  have HMD : Hid _ := hmd
  clear hmd
  go_enter Try.func77, Try.ntmps77
  go_wp2_with (at_builtin; refine wpList_append_own _ rfl _ _ 67 rfl w.heap.size 130 i mbz 3 24 Try.underlying67 hi hz hs hby (by kernel_rfl) (by decide) _ 0 [] rfl (HMD.out _ _) ⟨g, 0, none⟩ n cap xs rfl (by rw [hxl]) (HC.out _ _ _) hx1 (by unfold maxLen; omega) (by omega) (hs2 _ _ _) ?c3)
  intro v' w' h1 h2 h3
  obtain ⟨ao, cp, rfl⟩ := own_slice h1
  obtain ⟨k1, k2, k3⟩ := three_blocks h2
  have a0 := cell_of k1 0
  have a1 := cell_of k1 1
  have a2 := cell_of k1 2
  have a3 := cell_of k1 3
  have a4 := cell_of k1 4
  have f4 := frz_of k1 4
  have b0 := cell_of k2 0
  have b1 := cell_of k2 1
  have b2 := cell_of k2 2
  have b3 := cell_of k2 3
  have b4 := cell_of k2 4
  have g0 := frz_of k2 0
  have g1 := frz_of k2 1
  have g2 := frz_of k2 2
  have g3 := frz_of k2 3
  have g4 := frz_of k2 4
  simp at a0 a1 a2 a3 a4 b0 b1 b2 b3 b4
  have H1 : Hid _ := h1
  have H3 : Hid _ := k3
  have H4 : Hid _ := k1
  have H5 : Hid _ := k2
  clear h1 h2 h3 k1 k2 k3 HMD
  go_wp2
  have hO := ((((((Off.refl w.heap.size (w.heap.size + 1) w').set (a := ⟨w.heap.size, 4, none⟩) (by simp) (.slice ao n cp)).set (a := ⟨w.heap.size + 1, 0, none⟩) (by simp) (.int .u64 (r.c : Nat))).set (a := ⟨w.heap.size + 1, 1, none⟩) (by simp) (.int .u64 ((r.e : Int) + 1))).set (a := ⟨w.heap.size + 1, 2, none⟩) (by simp) (.int .u64 (r.l : Nat))).set (a := ⟨w.heap.size + 1, 3, none⟩) (by simp) (.int .u64 (r.j : Nat))).set (a := ⟨w.heap.size + 1, 4, none⟩) (by simp) (.slice ao n cp)
  have hB : (w'.setCell ⟨w.heap.size, 4, none⟩ (.slice ao n cp)).heap[w.heap.size + 1]? = _ := (Below.heap_setCell _ _ _ _ (by simp)).trans H5.out
  refine bodyPost_ret (xret1 Try.results77 _ _ (w.heap.size + 1) _ ?_ rfl (store5 hB _ _ _ _ _)) rfl ⟨.slice ao n cp, rfl, XIs.off ?_ hO H4.out H5.out (by decide) (by decide), hO.below H3.out (by omega) (by omega)⟩
  · rfl
  · have := H1.out
    rw [HX.out] at this
    unfold XIs
    rw [← HN.out]; exact this
set_option maxRecDepth 100000 in
theorem xcopied_nil (r : Ro) (w : World) (h : r.ms = []) (he : r.e < 9223372036854775807) :
    Calls Try.prog 77 #[r.val (.slice none 0 0)] w fun e w' => ∃ v', e = .returned ({ r with e := r.e + 1 }.val v') ∧ XIs w' w.heap.size v' r.ms ∧ Below w.heap.size w w' := by
  rw [h]
  unfold Ro.val Ro.arr
  have hmd : ∀ o1 o2, (((w.alloc o1).alloc o2).alloc (.cells #[] 130)).ownsRow w.heap.size 130 3 (.slice (some ⟨w.heap.size + 1 + 1, 0, none⟩) 0 0) 0 [] := fun o1 o2 => by
    have := World.ownsRow_made (base := w.heap.size) (e := 130) (size := 3) ((w.alloc o1).alloc o2) #[] 0 (by simp; omega) (by unfold maxLen; omega) rfl
    simpa using this
  have HMD : Hid _ := hmd
  clear hmd
  go_enter Try.func77, Try.ntmps77
  go_wp2
  have hB : (((w.alloc (.cells #[.int .u64 (r.c : Nat), .int .u64 ((r.e : Int) + 1), .int .u64 (r.l : Nat), .int .u64 (r.j : Nat), .slice (some ⟨w.heap.size + 1 + 1, 0, none⟩) 0 0] 69)).alloc (.cells #[.int .u64 (r.c : Nat), .int .u64 ((r.e : Int) + 1), .int .u64 (r.l : Nat), .int .u64 (r.j : Nat), .slice (some ⟨w.heap.size + 1 + 1, 0, none⟩) 0 0] 69)).alloc (.cells #[] 130)).heap[w.heap.size + 1]? = _ := (Below.heap_alloc _ _ _ (by simp)).trans (heap_alloc2_new w _ _)
  refine bodyPost_ret (xret1 Try.results77 _ _ (w.heap.size + 1) _ ?_ rfl hB) rfl ⟨_, rfl, HMD.out _ _, ?_⟩
  · rfl
  · exact (((Below.refl _ w).alloc (Nat.le_refl _) _).alloc (by simp) _).alloc (by simp; omega) _
theorem xcopied_any (r : Ro) (v : Value) (w : World) (h : XIs w 0 v r.ms) (hn : r.ms.length ≤ 1000) (he : r.e < 9223372036854775807) :
    Calls Try.prog 77 #[r.val v] w fun e w' => ∃ v', e = .returned ({ r with e := r.e + 1 }.val v') ∧ XIs w' w.heap.size v' r.ms ∧ Below w.heap.size w w' := by
  rcases h.2 with ⟨rfl, h0⟩ | ⟨g, cap, cur, rfl, hb, hg, hr⟩
  · exact xcopied_nil r w (List.length_eq_zero_iff.1 h0) he
  · exact xcopied_some r g cap w h hn he
end Go.Proofs.Ytknmipbjkkeebaa
