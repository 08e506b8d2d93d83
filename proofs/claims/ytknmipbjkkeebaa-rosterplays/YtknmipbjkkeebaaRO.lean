/- Add, as a call. -/
import Derived.Test.YtknmipbjkkeebaaRN
namespace Go.Proofs.Ytknmipbjkkeebaa
open Go.RowKit
theorem mayserial_any (t : Int) (w : World) : Calls Try.prog 81 #[.int .i64 t] w fun e w' => e = .returned (.bool (decide (1 ≤ t ∧ t ≤ 1000))) ∧ w' = w := by
  by_cases h1 : 1 ≤ t
  · go_enter Try.func81, Try.ntmps81
    go_wp2
    go_returns
    exact ⟨by simp [h1], rfl⟩
  · go_enter Try.func81, Try.ntmps81
    go_wp2
    go_returns
    exact ⟨by rw [decide_eq_false (by omega)]; simp [h1], rfl⟩
set_option maxRecDepth 100000 in
theorem minsert_end (b0 : Nat) (w : World) (v : Value) (n : Nat) (xs c : List Value) (hown : w.ownsRow b0 85 3 v n xs) (hn : n ≤ 5000) (vb : Nat) (hc : c.length = 3) (h1 : ∀ u ∈ c, u.oneCell' = true) (hvb : w.rangeAt vb 0 c) (hb : b0 ≤ w.heap.size) :
    Calls Try.prog 82 #[v, .int .i64 (n : Nat), .slice (some ⟨vb, 0, none⟩) 1 1] w fun e w' => ∃ v', e = .returned v' ∧ w'.ownsRow b0 85 3 v' (n + 1) (xs ++ c) ∧ w.grownBy w' v.ownBlock := by
  obtain ⟨i, hi, hz, hs, hby⟩ := info_parts mbinfo
  obtain ⟨ao, cap, rfl, hnc, hm⟩ : ∃ ao cap, v = .slice ao n cap ∧ n ≤ cap ∧ cap ≤ maxLen := by
    rcases hown.2 with ⟨rfl, rfl⟩ | ⟨g, cap, cur, rfl, _, _, h3, h4, _⟩
    · exact ⟨none, 0, rfl, Nat.le_refl _, by unfold maxLen; omega⟩
    · exact ⟨_, cap, rfl, h3, h4⟩
  have hm2 : cap ≤ 9223372036854775807 := hm
  rcases Nat.eq_or_lt_of_le hnc with rfl | hlt
  · go_enter Try.func82, Try.ntmps82
    go_wp2_with (at_builtin; refine wpList_append_own _ rfl _ _ 70 rfl b0 85 i mbz 3 24 Try.underlying70 hi hz hs hby (by kernel_rfl) (by decide) _ n xs rfl hown ⟨vb, 0, none⟩ 1 1 c rfl (by rw [hc]) ?c1 h1 (by unfold maxLen; omega) (by omega) hb ?c3)
    case c1 =>
      intro j u hj
      have := hvb j u hj
      rw [Addr.add_mid]; simpa using this
    case c3 =>
      intro v' w' h1 h2 h3
      have H : Hid _ := And.intro h1 h2
      clear h1 h2 h3
      go_wp2
      go_returns
      exact ⟨v', rfl, H.out.1, H.out.2⟩
  · go_enter Try.func82, Try.ntmps82
    go_wp2_with (at_builtin; refine wpList_append_own _ rfl _ _ 70 rfl b0 85 i mbz 3 24 Try.underlying70 hi hz hs hby (by kernel_rfl) (by decide) _ n xs rfl hown ⟨vb, 0, none⟩ 1 1 c rfl (by rw [hc]) ?c1 h1 (by unfold maxLen; omega) (by omega) hb ?c3)
    case c1 =>
      intro j u hj
      have := hvb j u hj
      rw [Addr.add_mid]; simpa using this
    case c3 =>
      intro v' w' h1 h2 h3
      have H : Hid _ := And.intro h1 h2
      clear h1 h2 h3
      go_wp2
      go_returns
      exact ⟨v', rfl, H.out.1, H.out.2⟩
theorem minsert_any (b0 : Nat) (w : World) (v : Value) (p : Nat) (l : List Mb) (m : Mb) (hown : MIs w b0 v l) (hp : p ≤ l.length) (hn : l.length ≤ 1000) (vb : Nat) (hvb : w.heap[vb]? = some (.cells m.cs.toArray 85)) (hne : v.ownBlock ≠ some vb) (hb : b0 ≤ w.heap.size) :
    Calls Try.prog 82 #[v, .int .i64 (p : Nat), .slice (some ⟨vb, 0, none⟩) 1 1] w fun e w' => ∃ v', e = .returned v' ∧ MIs w' b0 v' (l.take p ++ [m] ++ l.drop p) ∧ w.grownBy w' v.ownBlock := by
  have hone : ∀ u ∈ m.cs, u.oneCell' = true := fun u hu => by simp [Mb.cs] at hu; rcases hu with rfl | rfl | rfl <;> rfl
  have e3 : mcs (l.take p ++ [m] ++ l.drop p) = (mcs l).take (p * 3) ++ m.cs ++ (mcs l).drop (p * 3) := by
    rw [mcs_append, mcs_append, mcs_take, mcs_drop]; simp [mcs]
  have e4 : (l.take p ++ [m] ++ l.drop p).length = l.length + 1 := by
    rw [List.length_append, List.length_append, List.length_take, List.length_drop]; simp; omega
  unfold MIs
  rw [e3, e4]
  rcases Nat.eq_or_lt_of_le hp with he | hlt
  · have e : (mcs l).take (p * 3) ++ m.cs ++ (mcs l).drop (p * 3) = mcs l ++ m.cs := by
      rw [List.take_of_length_le (by rw [mcs_length, he]; exact Nat.le_refl _), List.drop_eq_nil_of_le (by rw [mcs_length, he]; exact Nat.le_refl _), List.append_nil]
    rw [e, he]
    exact minsert_end b0 w v l.length (mcs l) m.cs hown (by omega) vb rfl hone (fun j u hj => by rw [cell_of hvb, Nat.zero_add]; simpa using hj) hb
  · rcases hown.2 with ⟨_, h0⟩ | ⟨g, cap, cur, rfl, hbg, hg, hnc, hm, hsz, htk⟩
    · omega
    · rcases Nat.eq_or_lt_of_le hnc with he | hr
      · exact mbins_grow b0 w g cap l.length p vb cur (mcs l) m.cs hb hg hsz htk hlt (by omega) he rfl (mcs_one l) hone hvb
      · exact mbins_room b0 w g cap l.length p vb cur (mcs l) m.cs hbg hg hm hsz htk hlt hr rfl (mcs_one l) hone hvb (fun e => hne (by rw [e]; rfl))
theorem below_two {w w' : World} {o1 o2 : Obj} (h : Below ((w.alloc o1).alloc o2).heap.size ((w.alloc o1).alloc o2) w') : w'.heap[w.heap.size]? = some o1 ∧ w'.heap[w.heap.size + 1]? = some o2 ∧ Below w.heap.size w w' := by
  have e0 : (w.alloc o1).heap.size = w.heap.size + 1 := by simp
  have e1 : ((w.alloc o1).alloc o2).heap.size = w.heap.size + 2 := by simp
  refine ⟨?_, ?_, h.os, h.tape, h.output, ?_, fun k hk => ?_⟩
  · rw [h.block _ (by omega), Below.heap_alloc _ _ _ (by omega)]; exact heap_new _ _
  · rw [h.block _ (by omega)]
    have := heap_new (w.alloc o1) o2
    rw [e0] at this; exact this
  · have := h.size; omega
  · rw [h.block _ (by omega), Below.heap_alloc _ _ _ (by omega), Below.heap_alloc _ _ _ (by omega)]
def Ro.add (r : Ro) (p : Nat) (t : Int) : Ro := { r with e := r.e + 1, j := r.j + 1, ms := r.ms.take p ++ [⟨t, r.j + 1, 1⟩] ++ r.ms.drop p }
set_option maxHeartbeats 2000000 in
set_option maxRecDepth 100000 in
theorem radd_ok (r : Ro) (v : Value) (t : Int) (p : Nat) (w : World) (h : MIs w 0 v r.ms) (hn : r.ms.length < 16) (he : r.e < 9223372036854775807) (hj : r.j < 9223372036854775807) (ht : 1 ≤ t ∧ t ≤ 1000) (hp : p ≤ r.ms.length) (h1 : ∀ j, j < p → (mbAt r.ms j).s < t) (h2 : ∀ j, p ≤ j → j < r.ms.length → t < (mbAt r.ms j).s) :
    Calls Try.prog 39 #[r.val v, .int .i64 t] w fun e w' => ∃ v', e = .returned (.tuple #[(r.add p t).val v', .int .i64 0]) ∧ MIs w' w.heap.size v' (r.add p t).ms ∧ Below w.heap.size w w' := by
  have hpl := fun W (hW : Below w.heap.size w W) => rplace_any r v t p W (h.below hW) (by omega) hp h1 (fun j a b => Int.le_of_lt (h2 j a b))
  rw [decide_eq_false (fun hh => by have := h2 p (Nat.le_refl _) hh.1; omega)] at hpl
  have hms := mayserial_any t
  rw [decide_eq_true ht] at hms
  have hnx := fun W (hW : Below w.heap.size w W) => next_any r v W (h.below hW) (by omega) he
  obtain ⟨ao, cp, hv⟩ := own_slice h
  have hlen : ¬ (16 : Int) ≤ ((r.ms.length : Nat) : Int) := by omega
  have HPL : Hid _ := hpl
  have HNX : Hid _ := hnx
  clear hpl hnx h1 h2 h
  obtain ⟨T0, hT0⟩ : ∃ T0, T0 = w.heap.size := ⟨_, rfl⟩
  unfold Ro.val Ro.arr at *
  subst hv
  obtain ⟨n, hnn⟩ : ∃ n, n = r.ms.length := ⟨_, rfl⟩
  rw [← hnn] at hlen hp hn HPL HNX ⊢
  have HN : Hid _ := hnn
  clear hnn
  have hB2 : ∀ o1 o2, Below w.heap.size w ((w.alloc o1).alloc o2) := fun o1 o2 => ((Below.refl _ w).alloc (Nat.le_refl _) _).alloc (by simp) _
  have HB2 : Hid _ := hB2
  clear hB2
  have HT : Hid _ := hT0
  clear hT0
  go_enter Try.func39, Try.ntmps39
  go_wp2_with fail
  go_call (hms _) as e w0 ⟨rfl, rfl⟩
  go_wp2_with fail
  go_call (HPL.out _ (HB2.out _ _)) as e w1 ⟨rfl, hb1⟩
  clear HPL hms
  obtain ⟨k1, k2, k3⟩ := below_two hb1
  have a0 := cell_of k1 0
  have a1 := cell_of k1 1
  have a2 := cell_of k1 2
  have a3 := cell_of k1 3
  have a4 := cell_of k1 4
  simp at a0 a1 a2 a3 a4
  have K1 : Hid _ := k1
  have K2 : Hid _ := k2
  have K3 : Hid _ := k3
  have hnx := HNX.out w1 k3
  have hw1 : w.heap.size + 2 ≤ w1.heap.size := by have := hb1.size; simp at this; omega
  clear hb1 k1 k2 k3 HNX
  go_wp2_with fail
  go_call hnx as e w2 ⟨v2, rfl, hm2, hb2⟩
  clear hnx a0 a1 a2 a3 a4
  obtain ⟨ao2, cp2, rfl⟩ := own_slice hm2
  have q1 := (hb2.block _ (by omega)).trans K1.out
  have q2 := (hb2.block _ (by omega)).trans K2.out
  have M2 : Hid _ := hm2
  have B2 : Hid _ := hb2
  have hw2 := hb2.size
  clear hm2 hb2 K1 K2
  have Q1 : Hid _ := q1
  have Q2 : Hid _ := q2
  clear q1 q2
  obtain ⟨o8, ho8⟩ : ∃ o8 : Obj, o8 = .cells #[.int .u64 (r.c : Nat), .int .u64 ((r.e : Int) + 1), .int .u64 (r.l : Nat), .int .u64 ((r.j : Int) + 1), .slice ao2 r.ms.length cp2] 72 := ⟨_, rfl⟩
  obtain ⟨o9, ho9⟩ : ∃ o9 : Obj, o9 = .cells #[.int .i64 t, .int .u64 ((r.j : Int) + 1), .int .i64 1] 85 := ⟨_, rfl⟩
  have hin : Calls Try.prog 82 #[.slice ao2 r.ms.length cp2, .int .i64 (p : Nat), .slice (some ⟨w2.heap.size + 1, 0, none⟩) 1 1] ((w2.alloc o8).alloc o9) fun e w' => ∃ v', e = .returned v' ∧ MIs w' w.heap.size v' (r.add p t).ms ∧ ((w2.alloc o8).alloc o9).grownBy w' (Value.slice ao2 r.ms.length cp2).ownBlock := by
    refine minsert_any w.heap.size _ _ p r.ms ⟨t, r.j + 1, 1⟩ ?_ (by rw [← HN.out]; exact hp) (by rw [← HN.out]; omega) (w2.heap.size + 1) ?_ ?_ ?_
    · exact (MIs.least (b := w1.heap.size) M2.out (by omega)).below (((Below.refl _ w2).alloc (Nat.le_refl _) _).alloc (by simp) _)
    · have := heap_alloc2_new w2 o8 o9
      rw [this, ho9]
      rfl
    · intro e
      have := (M2.out.lt _ e).2
      omega
    · simp; omega
  have HO8 : Hid _ := ho8
  rw [ho8, ho9] at hin
  clear ho8
  have M2lt : Hid (∀ k, (Value.slice ao2 r.ms.length cp2).ownBlock = some k → w1.heap.size ≤ k ∧ k < w2.heap.size) := M2.out.lt
  clear M2 ho9
  go_wp2_with fail
  go_call hin as e w3 ⟨v3, rfl, hm3, hg3⟩
  clear hin
  obtain ⟨ao3, cp3, rfl⟩ := own_slice hm3
  have e8 : (w2.alloc (.cells #[.int .u64 (r.c : Nat), .int .u64 ((r.e : Int) + 1), .int .u64 (r.l : Nat), .int .u64 ((r.j : Int) + 1), .slice ao2 r.ms.length cp2] 72)).heap.size = w2.heap.size + 1 := by simp
  have kT1 : w3.heap[w.heap.size + 1]? = some (.cells #[.int .u64 0, .int .u64 0, .int .u64 0, .int .u64 0, .slice none 0 0] 72) := by
    rw [hg3.block _ (by simp; omega) (fun e => by have := (M2lt.out _ e.symm).1; omega), Below.heap_alloc _ _ _ (by omega), Below.heap_alloc _ _ _ (by omega)]; exact Q2.out
  have k8 : w3.heap[w2.heap.size]? = some (.cells #[.int .u64 (r.c : Nat), .int .u64 ((r.e : Int) + 1), .int .u64 (r.l : Nat), .int .u64 ((r.j : Int) + 1), .slice ao2 r.ms.length cp2] 72) := by
    rw [hg3.block _ (by simp; omega) (fun e => by have := (M2lt.out _ e.symm).2; omega), Below.heap_alloc _ _ _ (by omega)]; exact heap_new _ _
  have hB3 : Below w.heap.size w w3 := by
    refine ((K3.out.trans (B2.out.mono (by omega))).trans (((Below.refl _ w2).alloc (Nat.le_refl _) _).alloc (by simp) _ |>.mono (by omega))).trans ⟨hg3.os, hg3.tape, hg3.output, hg3.size, fun k hk => hg3.block k (by simp; omega) (fun e => by have := (M2lt.out _ e.symm).1; omega)⟩
  have c0 := cell_of k8 0
  have c1 := cell_of k8 1
  have c2 := cell_of k8 2
  have c3 := cell_of k8 3
  have c4 := cell_of k8 4
  have f4 := frz_of k8 4
  have d0 := cell_of kT1 0
  have d1 := cell_of kT1 1
  have d2 := cell_of kT1 2
  have d3 := cell_of kT1 3
  have d4 := cell_of kT1 4
  have g0 := frz_of kT1 0
  have g1 := frz_of kT1 1
  have g2 := frz_of kT1 2
  have g3 := frz_of kT1 3
  have g4 := frz_of kT1 4
  simp at c0 c1 c2 c3 c4 d0 d1 d2 d3 d4
  have hne : ¬ w2.heap.size = w.heap.size + 1 := by omega
  have M3 : Hid _ := hm3
  have KT : Hid _ := kT1
  have K8 : Hid _ := k8
  have H3 : Hid _ := hB3
  clear hm3 hg3 kT1 k8 hB3 e8 M2lt Q1 Q2 B2 K3 HO8
  go_wp2
  have hO := ((((((Off.refl w2.heap.size (w.heap.size + 1) w3).set (a := ⟨w2.heap.size, 4, none⟩) (by simp) (.slice ao3 (r.add p t).ms.length cp3)).set (a := ⟨w.heap.size + 1, 0, none⟩) (by simp) (.int .u64 (r.c : Nat))).set (a := ⟨w.heap.size + 1, 1, none⟩) (by simp) (.int .u64 ((r.e : Int) + 1))).set (a := ⟨w.heap.size + 1, 2, none⟩) (by simp) (.int .u64 (r.l : Nat))).set (a := ⟨w.heap.size + 1, 3, none⟩) (by simp) (.int .u64 ((r.j : Int) + 1))).set (a := ⟨w.heap.size + 1, 4, none⟩) (by simp) (.slice ao3 (r.add p t).ms.length cp3)
  have hB : (w3.setCell ⟨w2.heap.size, 4, none⟩ (.slice ao3 (r.add p t).ms.length cp3)).heap[w.heap.size + 1]? = _ := (Below.heap_setCell _ _ _ _ (by exact fun e => hne e.symm)).trans KT.out
  refine bodyPost_ret (ret2 Try.results39 _ _ (w.heap.size + 1) _ _ ?_ rfl (store5 hB _ _ _ _ _) rfl) rfl ⟨.slice ao3 (r.add p t).ms.length cp3, rfl, MIs.off M3.out hO K8.out KT.out (by decide) (by decide), hO.below H3.out (by omega) (by omega)⟩
  rfl
end Go.Proofs.Ytknmipbjkkeebaa
