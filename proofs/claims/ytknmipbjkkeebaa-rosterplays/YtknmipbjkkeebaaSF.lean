/- The document's rosters: Add, as a call. -/
import Derived.Test.YtknmipbjkkeebaaSE
import Derived.Test.YtknmipbjkkeebaaRO
namespace Go.Proofs.Ytknmipbjkkeebaa
open Go.RowKit
def adl (l : List Mb) (p : Nat) (m : Mb) (k : Nat) : List Mb := if p < k then l.take p ++ [m] ++ (l.take k).drop p else l.take k
theorem adl_lt (l : List Mb) (p : Nat) (m : Mb) (k : Nat) (hk : k < l.length) (h : k < p) : adl l p m (k + 1) = adl l p m k ++ [mbAt l k] := by
  unfold adl; rw [if_neg (by omega), if_neg (by omega)]; exact take_at l k hk
theorem adl_gt (l : List Mb) (p : Nat) (m : Mb) (k : Nat) (hk : k < l.length) (h : p < k) : adl l p m (k + 1) = adl l p m k ++ [mbAt l k] := by
  unfold adl; rw [if_pos (by omega), if_pos h, take_at l k hk, List.drop_append_of_le_length (by rw [List.length_take]; omega), List.append_assoc, List.append_assoc, List.append_assoc]
theorem adl_eq (l : List Mb) (p : Nat) (m : Mb) (hk : p < l.length) : adl l p m (p + 1) = adl l p m p ++ [m] ++ [mbAt l p] := by
  unfold adl; rw [if_pos (by omega), if_neg (by omega), take_at l p hk, List.drop_append_of_le_length (by rw [List.length_take]; omega), List.drop_of_length_le (by rw [List.length_take]; omega)]; rfl
theorem adl_end (l : List Mb) (p : Nat) (m : Mb) (h : p < l.length) : adl l p m l.length = l.take p ++ [m] ++ l.drop p := by
  unfold adl; rw [if_pos h, List.take_length]
theorem adl_last (l : List Mb) (p : Nat) (m : Mb) (h : p = l.length) : adl l p m l.length ++ [m] = l.take p ++ [m] ++ l.drop p := by
  unfold adl; rw [if_neg (by omega), h]; simp
theorem adl_len (l : List Mb) (p : Nat) (m : Mb) (k : Nat) (h : p ≤ l.length) (hk : k ≤ l.length) : (adl l p m k).length ≤ k + 1 := by
  unfold adl; split <;> simp <;> omega
/-- One member is appended. -/
theorem xappend {ops : Array Oper} {rest : List Oper} {o : Oper} {a : Act} {w : World} {Q : Exit → Act → World → Prop} (hgd : o.guard = none) (s x : Operand) (ho : o.op = .call { callee := .builtin .append, args := #[s, x], argTypes := #[67, 67] })
    (base : Nat) (v : Value) (xs : List Mb) (hs : a.eval s = v) (hown : XIs w base v xs) (G : Nat) (hx : a.eval x = .slice (some ⟨G, 0, none⟩) 1 1) (m : Mb) (hG : w.heap[G]? = some (.cells #[.int .i64 m.s, .int .u64 (m.j : Nat), .int .i64 m.t] 130)) (hl : xs.length ≤ 1001) (hb : base ≤ w.heap.size)
    (k : ∀ (ao : Option Addr) (cp : Nat) (w' : World), XIs w' base (.slice ao (xs.length + 1) cp) (xs ++ [m]) → Below base w w' → (∀ (g : Nat) (c : Array Value) (t : TypeId), w.heap[g]? = some (.cells c t) → t ≠ 130 → w'.heap[g]? = some (.cells c t)) → (∀ (g : Nat) (c : Array Value), w.heap[g]? = some (.cells c 130) → v.ownBlock ≠ some g → w'.heap[g]? = some (.cells c 130)) → wpList Try.prog ops Q rest (a.put o.dst (.slice ao (xs.length + 1) cp)) w') : wpList Try.prog ops Q (o :: rest) a w := by
  obtain ⟨i0, hi0, hz0, hs0, hby0⟩ := info_parts xinfo
  refine wpList_append_own w hgd s x 67 ho base 130 i0 mbz 3 24 Try.underlying67 hi0 hz0 hs0 hby0 (by kernel_rfl) (by decide) v xs.length (mcs xs) hs hown ⟨G, 0, none⟩ 1 1 [.int .i64 m.s, .int .u64 (m.j : Nat), .int .i64 m.t] hx rfl ?_ ?_ (by unfold maxLen; omega) (by omega) hb ?_
  · intro j u hj
    rw [Addr.add_lit, Nat.zero_add, cell_of hG]
    simpa using hj
  · intro u hu
    simp at hu
    rcases hu with rfl | rfl | rfl <;> rfl
  · intro v' w' h1 h2 h3
    have hx : XIs w' base v' (xs ++ [m]) := by
      unfold XIs
      rw [mcs_append, List.length_append]; exact h1
    obtain ⟨ao, cp, rfl⟩ := own_slice h1
    refine k ao cp w' hx ((Below.refl _ w).grown h2 hb (fun q hq => (World.ownsRow.lt hown q hq).1)) ?_ ?_
    · intro g c t hg ht
      rw [h2.block g (getElem?_lt hg) ?_]; exact hg
      intro e
      rcases hown.2 with ⟨h0, _⟩ | ⟨g', cap', cur, e0, _, h4, _⟩
      · rw [h0] at e; simp [Value.ownBlock] at e
      · rw [e0] at e; simp [Value.ownBlock] at e; subst e; rw [hg] at h4; injection h4 with h4; injection h4 with _ h4 _; exact ht h4
    · intro g c hg ht
      rw [h2.block g (getElem?_lt hg) (fun e => ht e.symm)]; exact hg
set_option maxHeartbeats 2000000 in
set_option maxRecDepth 100000 in
theorem xadd_ok (r : Ro) (v : Value) (t : Int) (p : Nat) (w : World) (h : XIs w 0 v r.ms) (hn : r.ms.length < 16) (he : r.e < 9223372036854775807) (hj : r.j < 9223372036854775807) (ht : 1 ≤ t ∧ t ≤ 1000) (hp : p ≤ r.ms.length) (h1 : ∀ j, j < p → (mbAt r.ms j).s < t) (h2 : ∀ j, p ≤ j → j < r.ms.length → t < (mbAt r.ms j).s) :
    Calls Try.prog 38 #[r.val v, .int .i64 t] w fun e w' => ∃ v', e = .returned (.tuple #[(r.add p t).val v', .int .i64 0]) ∧ XIs w' w.heap.size v' (r.add p t).ms ∧ Below w.heap.size w w' := by
  have hpl := fun W (hW : Below w.heap.size w W) => xfind_any r v t p W (h.below hW) (by omega) (by omega) h1 (fun j a b => h2 j (by omega) b) (fun a => Int.le_of_lt (h2 p (Nat.le_refl _) a))
  simp only [if_neg (show ¬ (p < r.ms.length ∧ (mbAt r.ms p).s = t) from fun hh => by have := h2 p (Nat.le_refl _) hh.1; omega)] at hpl
  have hnx := fun W (hW : Below w.heap.size w W) => xcopied_any r v W (h.below hW) (by omega) he
  obtain ⟨ao, cp, hv⟩ := own_slice h
  subst hv
  have H1 : Hid _ := h1
  have H2 : Hid _ := h2
  have HPL : Hid _ := hpl
  have HNX : Hid _ := hnx
  clear hpl hnx h1 h2 h
  have hrv : ∀ v', (r.add p t).val v' = .agg #[.int .u64 (r.c : Nat), .int .u64 ((r.e : Int) + 1), .int .u64 (r.l : Nat), .int .u64 ((r.j : Int) + 1), v'] := fun v' => rfl
  have HRV : Hid _ := hrv
  clear hrv
  unfold Ro.val Ro.arr at HPL HNX
  show Calls Try.prog 38 #[.agg #[.int .u64 (r.c : Nat), .int .u64 (r.e : Nat), .int .u64 (r.l : Nat), .int .u64 (r.j : Nat), .slice ao r.ms.length cp], .int .i64 t] w _
  obtain ⟨n, hnn⟩ : ∃ n, n = r.ms.length := ⟨_, rfl⟩
  rw [← hnn] at hn hp HPL HNX ⊢
  have HN : Hid _ := hnn
  clear hnn
  have HB2 : Hid (∀ o1 o2, Below w.heap.size w ((w.alloc o1).alloc o2)) := fun o1 o2 => ((Below.refl _ w).alloc (Nat.le_refl _) _).alloc (by simp) _
  go_enter Try.func38, Try.ntmps38
  go_wp2_with fail
  go_call (HPL.out _ (HB2.out _ _)) as e w1 ⟨rfl, hb1⟩
  clear HPL
  obtain ⟨k1, k2, k3⟩ := below_two hb1
  have a0 := cell_of k1 0
  have a1 := cell_of k1 1
  have a2 := cell_of k1 2
  have a3 := cell_of k1 3
  have a4 := cell_of k1 4
  simp at a0 a1 a2 a3 a4
  have hw1 : w.heap.size + 2 ≤ w1.heap.size := by have := hb1.size; simp at this; omega
  have hnx := HNX.out w1 k3
  have K1 : Hid _ := k1
  have K2 : Hid _ := k2
  have K3 : Hid _ := k3
  clear hb1 k1 k2 k3 HNX
  go_wp2_with fail
  go_call hnx as e w2 ⟨v2, rfl, hm2, hb2⟩
  clear hnx a0 a1 a2 a3 a4
  obtain ⟨ao2, cp2, rfl⟩ := own_slice hm2
  rw [← HN.out]
  have q1 := (hb2.block _ (by omega)).trans K1.out
  have q2 := (hb2.block _ (by omega)).trans K2.out
  have hw2 := hb2.size
  have Q1 : Hid _ := q1
  have Q2 : Hid _ := q2
  have Q3 : Hid _ := K3.out.trans (hb2.mono (by omega))
  have HM2 : Hid (XIs w2 0 (.slice ao2 r.ms.length cp2) r.ms) := XIs.least hm2 (Nat.zero_le _)
  have HWS : Hid (w.heap.size + 2 ≤ w2.heap.size) := by exact Nat.le_trans hw1 hw2
  clear K1 K2 K3 hm2 hb2 q1 q2 hw1 hw2 HB2
  go_wp2_with (first | (refine xst5 rfl _ _ rfl _ _ _ _ _ _ rfl rfl Q1.out (by simp [Value.oneCell']) ?c3) | (refine xst5p _ _ rfl _ _ _ _ _ _ rfl rfl Q1.out (by simp [Value.oneCell']) ?c3))
  intro W hO1 hk1
  have hk2 := (hO1.block (w.heap.size + 1) (by omega) (by omega)).trans Q2.out
  have hxm := XIs.off HM2.out hO1 Q1.out Q1.out (by decide) (by decide)
  have hbl := hO1.below Q3.out (by omega) (by omega)
  have hwS : w.heap.size + 2 ≤ W.heap.size := by have := hO1.size; have := HWS.out; omega
  have b3 := cell_of hk1 3
  have f3 := frz_of hk1 3
  simp at b3
  have L1 : Hid _ := hk1
  have L2 : Hid _ := hk2
  have L4 : Hid _ := hbl
  have HWS2 : Hid _ := hwS
  have HXM : Hid _ := hxm
  have a4 : ∀ x o, ((W.setCell ⟨w.heap.size, 3, none⟩ x).alloc o).cell? ⟨w.heap.size, 4, none⟩ = some (.slice ao2 n cp2) := fun x o => by
    rw [World.cell?_alloc_past _ _ _ (by show w.heap.size < (W.setCell _ _).heap.size; simp [World.setCell]; omega), cell_of (block_set hk1 x)]; rfl
  obtain ⟨V, hV⟩ : ∃ V, V = W.setCell ⟨w.heap.size, 3, none⟩ (.int .u64 ((r.j : Int) + 1)) := ⟨_, rfl⟩
  have HV : Hid _ := hV
  have hVs : V.heap.size = W.heap.size := by rw [hV]; simp [World.setCell]
  have hOV := (Off.refl w.heap.size w.heap.size W).set (a := ⟨w.heap.size, 3, none⟩) (by simp) (.int .u64 ((r.j : Int) + 1))
  rw [← hV] at hOV
  have V1 : Hid (V.heap[w.heap.size]? = some (.cells #[.int .u64 (r.c : Nat), .int .u64 ((r.e : Int) + 1), .int .u64 (r.l : Nat), .int .u64 ((r.j : Int) + 1), .slice ao2 n cp2] 69)) := by rw [hV]; exact block_set hk1 _
  have V2 : Hid _ := (hOV.block (w.heap.size + 1) (by omega) (by omega)).trans hk2
  have V3 : Hid _ := XIs.off hxm hOV hk1 hk1 (by decide) (by decide)
  have V4 : Hid (Below w.heap.size w V) := hOV.below hbl (by omega) (by omega)
  have H0 : Hid (∀ xs : List Mb, xs = [] → Below V.heap.size V (V.alloc (.cells #[] 130)) ∧ XIs (V.alloc (.cells #[] 130)) V.heap.size (.slice (some ⟨V.heap.size, 0, none⟩) 0 0) xs) := fun xs hxs => ⟨(Below.refl _ V).alloc (Nat.le_refl _) _, by
    have := World.ownsRow_made (base := V.heap.size) (e := 130) (size := 3) V #[] 0 (Nat.le_refl _) (by unfold maxLen; omega) rfl
    subst hxs
    unfold XIs
    simpa [mcs] using this⟩
  have HVs : Hid _ := hVs
  have HVS2 : Hid (w.heap.size + 2 ≤ V.heap.size) := by rw [hVs]; exact hwS
  clear hV hOV hVs L1 L2 L4 HWS2 HXM
  clear Q1 Q2 Q3 HM2 HWS hk1 hk2 hxm hbl hO1 hwS
  go_wp2
  go_loopw [6, 7, 37] (fun l d i wr => ∃ (k : Nat) (b : Bool), k ≤ n ∧ i = .int .i64 (k : Nat) ∧ d = .bool b ∧ Hid (b = decide (p < k) ∧ Below V.heap.size V wr ∧ XIs wr V.heap.size l (adl r.ms p ⟨t, r.j + 1, 1⟩ k))) (fun _ _ i _ => n - (intOf i).toNat)
  case atStart =>
    rw [← HV.out]
    exact ⟨0, false, by omega, rfl, rfl, by simp, (H0.out [] rfl).1, by rw [← HVs.out]; exact (H0.out _ (by simp [adl])).2⟩
  case round =>
    clear H0 a4 b3 f3
    obtain ⟨k, b, hk, rfl, rfl, HI⟩ := hrel
    have hLen : (adl r.ms p ⟨t, r.j + 1, 1⟩ k).length ≤ 1000 := by have := adl_len r.ms p ⟨t, r.j + 1, 1⟩ k (by rw [← HN.out]; exact hp) (by rw [← HN.out]; exact hk); omega
    have HLen : Hid _ := hLen
    clear hLen
    rcases Nat.lt_or_ge k n with hkn | hkn
    · obtain ⟨g, hg⟩ : ∃ g, ao2 = some ⟨g, 0, none⟩ := by
        rcases V3.out.2 with ⟨_, h0⟩ | ⟨g, cap, cur, e0, _⟩
        · have := HN.out; omega
        · injection e0 with e0 _ _; exact ⟨g, e0⟩
      subst hg
      have hmem : k < r.ms.length := by rw [← HN.out]; exact hkn
      have hgT : g < V.heap.size := (V3.out.lt g rfl).2
      obtain ⟨c0, c1, c2⟩ := XIs.at3 V3.out k hmem
      replace c0 := (HI.out.2.1.cell (by exact hgT)).trans c0
      replace c1 := (HI.out.2.1.cell (by exact hgT)).trans c1
      replace c2 := (HI.out.2.1.cell (by exact hgT)).trans c2
      obtain ⟨la, lc, hlv⟩ := own_slice HI.out.2.2
      have hown := HI.out.2.2
      have hbb := HI.out.1
      have HB : Hid (Below V.heap.size V wr) := HI.out.2.1
      have HS1 : Hid (k < p → adl r.ms p ⟨t, r.j + 1, 1⟩ (k + 1) = adl r.ms p ⟨t, r.j + 1, 1⟩ k ++ [mbAt r.ms k]) := adl_lt _ _ _ _ hmem
      have HS2 : Hid (p < k → adl r.ms p ⟨t, r.j + 1, 1⟩ (k + 1) = adl r.ms p ⟨t, r.j + 1, 1⟩ k ++ [mbAt r.ms k]) := adl_gt _ _ _ _ hmem
      have HS3 : Hid (k = p → adl r.ms p ⟨t, r.j + 1, 1⟩ (k + 1) = adl r.ms p ⟨t, r.j + 1, 1⟩ k ++ [⟨t, r.j + 1, 1⟩] ++ [mbAt r.ms k]) := fun e => by subst e; exact adl_eq _ _ _ hmem
      have HL1 : Hid (k < p → (mbAt r.ms k).s < t) := H1.out k
      have HL2 : Hid (p ≤ k → t < (mbAt r.ms k).s) := fun h => H2.out k h hmem
      generalize mbAt r.ms k = m at *
      generalize adl r.ms p ⟨t, r.j + 1, 1⟩ k = xs at *
      subst hlv
      have HO2 : Hid (∀ o1 o2, XIs ((wr.alloc o1).alloc o2) V.heap.size (.slice la xs.length lc) xs) := fun o1 o2 => hown.below (((Below.refl _ wr).alloc (Nat.le_refl _) _).alloc (by simp) _)
      have HSZ : Hid (∀ o1 o2, V.heap.size ≤ ((wr.alloc o1).alloc o2).heap.size) := fun o1 o2 => by have := HB.out.size; simp; omega
      have HNW : Hid (∀ o1 o2, ((wr.alloc o1).alloc o2).heap[wr.heap.size + 1]? = some o2) := fun o1 o2 => heap_alloc2_new wr o1 o2
      have HNO : Hid (∀ o1 o2, ((wr.alloc o1).alloc o2).heap[wr.heap.size]? = some o1) := fun o1 o2 => (Below.heap_alloc _ _ _ (by simp)).trans (heap_new _ _)
      have HBB : Hid (∀ o1 o2, Below V.heap.size V ((wr.alloc o1).alloc o2)) := fun o1 o2 => (HB.out.alloc HB.out.size o1).alloc (by have := HB.out.size; simp; omega) o2
      have HOB : Hid ((Value.slice la xs.length lc).ownBlock ≠ some wr.heap.size) := by
        intro e
        have := (World.ownsRow.lt hown _ e).2
        omega
      have bj : ∀ o, (wr.alloc o).cell? ⟨w.heap.size, 3, none⟩ = some (.int .u64 ((r.j : Int) + 1)) := fun o => by
        rw [World.cell?_alloc_past _ _ _ (by show w.heap.size < _; have := HB.out.size; have := HVS2.out; omega), HB.out.cell (by show w.heap.size < _; have := HVS2.out; omega), cell_of V1.out]; rfl
      clear HI hown hgT
      rcases Nat.lt_trichotomy k p with hkp | hkp | hkp
      · have hb0 : b = false := by rw [hbb]; simp; omega
        subst hb0
        have hlt : ¬ t < m.s := by have := HL1.out hkp; omega
        clear hbb HL1 HL2 HS3 bj
        go_wp2_with (at_builtin; refine xappend rfl _ _ rfl V.heap.size _ xs rfl (HO2.out _ _) (wr.heap.size + 1) rfl m (HNW.out _ _) (Nat.le_succ_of_le HLen.out) (HSZ.out _ _) ?e1)
        case e1 =>
          intro ao' cp' w' h1 h2 h3 h4
          have HXX : Hid _ := h1
          have HB'' : Hid (Below V.heap.size V w') := (HBB.out _ _).trans h2
          clear h1 h2 h3 h4 c0 c1 c2 HO2 HSZ HNW HNO HBB HOB
          go_wp2
          go_roundw
          case rel => exact ⟨k + 1, false, by omega, rfl, rfl, by simp; omega, HB''.out, by rw [HS1.out hkp]; exact HXX.out⟩
          case measure => simp only [intOf]; omega
      · have hb0 : b = false := by rw [hbb]; simp; omega
        subst hb0
        have hlt : t < m.s := HL2.out (by omega)
        have HKP : Hid _ := hkp
        clear hbb HS1 HS2 HL1 HL2 hkp
        go_wp2_with (at_builtin; refine xappend rfl _ _ rfl V.heap.size _ xs rfl (HO2.out _ _) (wr.heap.size + 1) rfl ⟨t, r.j + 1, 1⟩ (HNW.out _ _) (Nat.le_succ_of_le HLen.out) (HSZ.out _ _) ?e3)
        case e3 =>
          intro ao' cp' w' h1 h2 h3 h4
          have hm := h4 wr.heap.size _ (HNO.out _ _) HOB.out
          have m0 := cell_of hm 0
          have m1 := cell_of hm 1
          have m2 := cell_of hm 2
          simp at m0 m1 m2
          have HB' : Hid (Below V.heap.size V w') := (HBB.out _ _).trans h2
          have HX' : Hid (∀ o, XIs (w'.alloc o) V.heap.size (.slice ao' (xs.length + 1) cp') (xs ++ [⟨t, r.j + 1, 1⟩])) := fun o => h1.below ((Below.refl _ w').alloc (Nat.le_refl _) _)
          have HL' : Hid ((xs ++ [(⟨t, r.j + 1, 1⟩ : Mb)]).length ≤ 1001) := by rw [List.length_append]; have := HLen.out; simp; omega
          have HL9 : Hid (xs.length + 1 = (xs ++ [(⟨t, r.j + 1, 1⟩ : Mb)]).length) := by rw [List.length_append]; rfl
          clear h1 h2 h3 h4 hm bj c0 c1 c2 HO2 HSZ HNW HNO HBB HOB
          go_wp2_with (at_builtin; refine xappend rfl _ _ rfl V.heap.size _ (xs ++ [⟨t, r.j + 1, 1⟩]) rfl (HX'.out _) w'.heap.size rfl m (heap_new _ _) HL'.out (by have := HB'.out.size; simp; omega) ?e4)
          case e4 =>
            intro ao'' cp'' w'' h1 h2 h3 h4
            have HXX : Hid _ := h1
            have HB'' : Hid (Below V.heap.size V w'') := (HB'.out.alloc HB'.out.size _).trans h2
            clear h1 h2 h3 h4 m0 m1 m2
            go_wp2
            go_roundw
            case rel => exact ⟨k + 1, true, by omega, rfl, rfl, by have := HKP.out; simp; omega, HB''.out, by rw [HS3.out HKP.out, List.append_assoc]; exact HXX.out⟩
            case measure => simp only [intOf]; omega
      · have hb0 : b = true := by rw [hbb]; simp; omega
        subst hb0
        clear hbb HL1 HL2 HS3 bj
        go_wp2_with (at_builtin; refine xappend rfl _ _ rfl V.heap.size _ xs rfl (HO2.out _ _) (wr.heap.size + 1) rfl m (HNW.out _ _) (Nat.le_succ_of_le HLen.out) (HSZ.out _ _) ?e2)
        case e2 =>
          intro ao' cp' w' h1 h2 h3 h4
          have HXX : Hid _ := h1
          have HB'' : Hid (Below V.heap.size V w') := (HBB.out _ _).trans h2
          clear h1 h2 h3 h4 c0 c1 c2 HO2 HSZ HNW HNO HBB HOB
          go_wp2
          go_roundw
          case rel => exact ⟨k + 1, true, by omega, rfl, rfl, by simp; omega, HB''.out, by rw [HS2.out hkp]; exact HXX.out⟩
          case measure => simp only [intOf]; omega
    · obtain rfl : k = n := by omega
      have hend : p < r.ms.length → adl r.ms p ⟨t, r.j + 1, 1⟩ r.ms.length = (r.add p t).ms := fun h => adl_end _ _ _ h
      have hlast : p = r.ms.length → adl r.ms p ⟨t, r.j + 1, 1⟩ r.ms.length ++ [⟨t, r.j + 1, 1⟩] = (r.add p t).ms := fun h => adl_last _ _ _ h
      rw [← HN.out] at hend hlast
      obtain ⟨la, lc, hlv⟩ := own_slice HI.out.2.2
      rcases Nat.lt_or_ge p k with hpk | hpk
      · have hb0 : b = true := by rw [HI.out.1]; simp; omega
        subst hb0
        have q2 := HI.out.2.2
        rw [hend hpk] at q2 hlv
        subst hlv
        have HBV : Hid (Below V.heap.size V wr) := HI.out.2.1
        have HXE : Hid _ := q2
        obtain ⟨ae, hae⟩ : ∃ ae, ae = la := ⟨_, rfl⟩
        obtain ⟨ce, hce⟩ : ∃ ce, ce = lc := ⟨_, rfl⟩
        subst hae hce
        clear HI q2 hend hlast
        have kB := (HBV.out.block w.heap.size (by have := HVS2.out; omega)).trans V1.out
        have kT := (HBV.out.block (w.heap.size + 1) (by have := HVS2.out; omega)).trans V2.out
        have hbl : Below w.heap.size w wr := V4.out.trans (HBV.out.mono (by have := HVS2.out; omega))
        have q3 : XIs wr w.heap.size (.slice ae (r.add p t).ms.length ce) (r.add p t).ms := XIs.least HXE.out (by have := HVS2.out; omega)
        have b0 := cell_of kB 0
        have b1 := cell_of kB 1
        have b2 := cell_of kB 2
        have b3 := cell_of kB 3
        have b4 := cell_of kB 4
        have f4 := frz_of kB 4
        have d0 := cell_of kT 0
        have g0 := frz_of kT 0
        have d1 := cell_of kT 1
        have g1 := frz_of kT 1
        have d2 := cell_of kT 2
        have g2' := frz_of kT 2
        have d3 := cell_of kT 3
        have g3 := frz_of kT 3
        have d4 := cell_of kT 4
        have g4 := frz_of kT 4
        simp at b0 b1 b2 b3 b4 d0 d1 d2 d3 d4
        have N1 : Hid _ := kB
        have N2 : Hid _ := kT
        have N3 : Hid _ := q3
        have N4 : Hid _ := hbl
        clear V1 V2 V3 V4 HBV HXE q3 kB kT hbl
        go_wp2
        have hB : ∀ x, (wr.setCell ⟨w.heap.size, 4, none⟩ x).heap[w.heap.size + 1]? = _ := fun x => (Below.heap_setCell _ _ _ _ (by simp)).trans N2.out
        have hO := fun x a b c d e => ((Off.refl w.heap.size (w.heap.size + 1) wr).set (a := ⟨w.heap.size, 4, none⟩) (by simp) x).five a b c d e
        refine bodyPost_ret (xret2 Try.results38 _ _ (w.heap.size + 1) _ _ ?_ rfl (store5 (hB _) _ _ _ _ _) rfl) rfl ⟨.slice ae (r.add p t).ms.length ce, rfl, XIs.off N3.out (hO _ _ _ _ _ _) N1.out N2.out (by decide) (by decide), (hO _ _ _ _ _ _).below N4.out (by omega) (by omega)⟩
        rfl
      · have hb0 : b = false := by rw [HI.out.1]; simp; omega
        subst hb0
        obtain rfl : p = k := by omega
        have q2 := HI.out.2.2
        have hl2 := hlast rfl
        generalize adl r.ms p ⟨t, r.j + 1, 1⟩ p = xs at *
        subst hlv
        have HB : Hid (Below V.heap.size V wr) := HI.out.2.1
        have HX' : Hid (∀ o, XIs (wr.alloc o) V.heap.size (.slice la xs.length lc) xs) := fun o => q2.below ((Below.refl _ wr).alloc (Nat.le_refl _) _)
        have bj : wr.cell? ⟨w.heap.size, 3, none⟩ = some (.int .u64 ((r.j : Int) + 1)) := by
          rw [HB.out.cell (by show w.heap.size < _; have := HVS2.out; omega), cell_of V1.out]; rfl
        have HLL : Hid _ := hl2
        have HLn2 : Hid (xs.length + 1 = (r.add p t).ms.length) := by rw [← hl2, List.length_append]; rfl
        clear HI q2 hend hlast hl2
        go_wp2_with (at_builtin; refine xappend rfl _ _ rfl V.heap.size _ xs rfl (HX'.out _) wr.heap.size rfl ⟨t, r.j + 1, 1⟩ (heap_new _ _) (Nat.le_succ_of_le HLen.out) (by have := HB.out.size; simp; omega) ?e5)
        case e5 =>
          intro ae ce w' h1 h2 h3 h4
          rw [HLL.out, HLn2.out] at h1
          rw [HLn2.out]
          have HBV : Hid (Below V.heap.size V w') := (HB.out.alloc HB.out.size _).trans h2
          have HXE : Hid _ := h1
          clear h1 h2 h3 h4 bj HX'
          have kB := (HBV.out.block w.heap.size (by have := HVS2.out; omega)).trans V1.out
          have kT := (HBV.out.block (w.heap.size + 1) (by have := HVS2.out; omega)).trans V2.out
          have hbl : Below w.heap.size w w' := V4.out.trans (HBV.out.mono (by have := HVS2.out; omega))
          have q3 : XIs w' w.heap.size (.slice ae (r.add p t).ms.length ce) (r.add p t).ms := XIs.least HXE.out (by have := HVS2.out; omega)
          have b0 := cell_of kB 0
          have b1 := cell_of kB 1
          have b2 := cell_of kB 2
          have b3 := cell_of kB 3
          have b4 := cell_of kB 4
          have f4 := frz_of kB 4
          have d0 := cell_of kT 0
          have g0 := frz_of kT 0
          have d1 := cell_of kT 1
          have g1 := frz_of kT 1
          have d2 := cell_of kT 2
          have g2' := frz_of kT 2
          have d3 := cell_of kT 3
          have g3 := frz_of kT 3
          have d4 := cell_of kT 4
          have g4 := frz_of kT 4
          simp at b0 b1 b2 b3 b4 d0 d1 d2 d3 d4
          have N1 : Hid _ := kB
          have N2 : Hid _ := kT
          have N3 : Hid _ := q3
          have N4 : Hid _ := hbl
          clear V1 V2 V3 V4 HBV HXE q3 kB kT hbl
          go_wp2
          have hB : ∀ x, (w'.setCell ⟨w.heap.size, 4, none⟩ x).heap[w.heap.size + 1]? = _ := fun x => (Below.heap_setCell _ _ _ _ (by simp)).trans N2.out
          have hO := fun x a b c d e => ((Off.refl w.heap.size (w.heap.size + 1) w').set (a := ⟨w.heap.size, 4, none⟩) (by simp) x).five a b c d e
          refine bodyPost_ret (xret2 Try.results38 _ _ (w.heap.size + 1) _ _ ?_ rfl (store5 (hB _) _ _ _ _ _) rfl) rfl ⟨.slice ae (r.add p t).ms.length ce, rfl, XIs.off N3.out (hO _ _ _ _ _ _) N1.out N2.out (by decide) (by decide), (hO _ _ _ _ _ _).below N4.out (by omega) (by omega)⟩
          rfl
end Go.Proofs.Ytknmipbjkkeebaa
