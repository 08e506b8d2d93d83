/- The document's rosters: Remove of a member, as a call. -/
import Derived.Test.YtknmipbjkkeebaaSD
import Derived.Test.YtknmipbjkkeebaaRK
namespace Go.Proofs.Ytknmipbjkkeebaa
open Go.RowKit
/-- Those of another serial. -/
def rml (t : Int) : List Mb → List Mb
  | [] => []
  | m :: l => (if m.s = t then [] else [m]) ++ rml t l
theorem rml_append (t : Int) : ∀ a b, rml t (a ++ b) = rml t a ++ rml t b
  | [], _ => rfl
  | m :: l, b => by rw [List.cons_append, rml, rml, rml_append t l b, List.append_assoc]
theorem take_at (l : List Mb) (k : Nat) (hk : k < l.length) : l.take (k + 1) = l.take k ++ [mbAt l k] := by
  rw [List.take_add_one, List.getElem?_eq_getElem hk]
  unfold mbAt
  rw [show l.getD k ⟨0, 0, 0⟩ = l[k] by simp [hk]]
  rfl
theorem rml_succ (t : Int) (l : List Mb) (k : Nat) (hk : k < l.length) : rml t (l.take (k + 1)) = rml t (l.take k) ++ rml t [mbAt l k] := by
  rw [take_at l k hk, rml_append]
theorem rml_len (t : Int) : ∀ l, (rml t l).length ≤ l.length
  | [] => Nat.le_refl _
  | m :: l => by
    rw [rml, List.length_append, List.length_cons]
    have := rml_len t l
    split <;> simp <;> omega
theorem rml_le (t : Int) (l : List Mb) (k : Nat) : (rml t (l.take k)).length ≤ k := by
  have := rml_len t (l.take k)
  rw [List.length_take] at this
  omega
theorem rml_keep (t : Int) : ∀ l : List Mb, (∀ k, k < l.length → (mbAt l k).s ≠ t) → rml t l = l
  | [], _ => rfl
  | m :: l, h => by
    have h0 : m.s ≠ t := h 0 (by simp)
    rw [rml, if_neg h0, rml_keep t l (fun k hk => by have := h (k + 1) (by simpa using hk); rwa [show mbAt (m :: l) (k + 1) = mbAt l k by simp [mbAt]] at this)]
    rfl
theorem mbAt_take (l : List Mb) (p k : Nat) (h : k < p) : mbAt (l.take p) k = mbAt l k := by
  unfold mbAt; simp [List.getElem?_take, h]
theorem mbAt_drop (l : List Mb) (p k : Nat) : mbAt (l.drop p) k = mbAt l (p + k) := by
  unfold mbAt; simp [List.getElem?_drop]
theorem rml_done (l : List Mb) (p : Nat) (hp : p < l.length) (h1 : ∀ j, j < p → (mbAt l j).s < (mbAt l p).s) (h2 : ∀ j, p < j → j < l.length → (mbAt l p).s < (mbAt l j).s) : rml (mbAt l p).s l = l.take p ++ l.drop (p + 1) := by
  have e : l = l.take (p + 1) ++ l.drop (p + 1) := (List.take_append_drop _ _).symm
  conv => lhs; rw [e]
  rw [show mbAt (l.take (p + 1) ++ l.drop (p + 1)) p = mbAt l p by rw [← e]]
  rw [rml_append, rml_succ _ l p hp, rml_keep _ (l.take p), rml_keep _ (l.drop (p + 1))]
  · simp [rml]
  · intro k hk
    rw [mbAt_drop]
    have := h2 (p + 1 + k) (by omega) (by rw [List.length_drop] at hk; omega)
    omega
  · intro k hk
    rw [List.length_take] at hk
    rw [mbAt_take _ _ _ (by omega)]
    have := h1 k (by omega)
    omega
set_option maxHeartbeats 2000000 in
set_option maxRecDepth 100000 in
theorem xremove_ok (r : Ro) (v : Value) (p : Nat) (w : World) (h : XIs w 0 v r.ms) (hn : r.ms.length ≤ 1000) (he : r.e < 9223372036854775807) (hp : p < r.ms.length) (h1 : ∀ j, j < p → (mbAt r.ms j).s < (mbAt r.ms p).s) (h2 : ∀ j, p < j → j < r.ms.length → (mbAt r.ms p).s < (mbAt r.ms j).s) :
    Calls Try.prog 32 #[r.val v, .int .i64 (mbAt r.ms p).s] w fun e w' => ∃ v', e = .returned (.tuple #[(r.remove p).val v', .int .i64 0]) ∧ XIs w' w.heap.size v' (r.remove p).ms ∧ Below w.heap.size w w' := by
  obtain ⟨i0, hi0, hz0, hs0, hby0⟩ := info_parts xinfo
  have hpl := fun W (hW : Below w.heap.size w W) => xfind_any r v (mbAt r.ms p).s p W (h.below hW) (by omega) (by omega) h1 h2 (fun _ => Int.le_refl _)
  simp only [hp, true_and, if_true] at hpl
  have hnx := fun W (hW : Below w.heap.size w W) => xcopied_any r v W (h.below hW) (by omega) he
  obtain ⟨ao, cp, hv⟩ := own_slice h
  subst hv
  have HRM : Hid ((r.remove p).ms = rml (mbAt r.ms p).s r.ms) := (rml_done r.ms p hp h1 h2).symm
  have HPL : Hid _ := hpl
  have HNX : Hid _ := hnx
  clear hpl hnx h1 h2 h
  have hrv : ∀ v', (r.remove p).val v' = .agg #[.int .u64 (r.c : Nat), .int .u64 ((r.e : Int) + 1), .int .u64 (r.l : Nat), .int .u64 (r.j : Nat), v'] := fun v' => rfl
  have HRV : Hid _ := hrv
  clear hrv
  unfold Ro.val Ro.arr at HPL HNX
  show Calls Try.prog 32 #[.agg #[.int .u64 (r.c : Nat), .int .u64 (r.e : Nat), .int .u64 (r.l : Nat), .int .u64 (r.j : Nat), .slice ao r.ms.length cp], .int .i64 (mbAt r.ms p).s] w _
  obtain ⟨n, hnn⟩ : ∃ n, n = r.ms.length := ⟨_, rfl⟩
  rw [← hnn] at hn hp HPL HNX ⊢
  have HN : Hid _ := hnn
  clear hnn
  obtain ⟨t, hm⟩ : ∃ t, t = (mbAt r.ms p).s := ⟨_, rfl⟩
  rw [← hm] at HPL HRM ⊢
  clear hm
  have HB2 : Hid (∀ o1 o2, Below w.heap.size w ((w.alloc o1).alloc o2)) := fun o1 o2 => ((Below.refl _ w).alloc (Nat.le_refl _) _).alloc (by simp) _
  go_enter Try.func32, Try.ntmps32
  go_wp2_with fail
  go_call (HPL.out _ (HB2.out _ _)) as e w1 ⟨rfl, hb1⟩
  clear HPL
  obtain ⟨k1, k2, k3⟩ := below_two hb1
  have a0 := cell_of k1 0
  have a1 := cell_of k1 1
  have a2 := cell_of k1 2
  have a3 := cell_of k1 3
  have a4 := cell_of k1 4
  simp at a0 a1 a2 a3 a4
  have hw1 : w.heap.size + 2 ≤ w1.heap.size := by have := hb1.size; simp at this; omega
  have hnx := HNX.out w1 k3
  have K1 : Hid _ := k1
  have K2 : Hid _ := k2
  have K3 : Hid _ := k3
  clear hb1 k1 k2 k3 HNX
  go_wp2_with fail
  go_call hnx as e w2 ⟨v2, rfl, hm2, hb2⟩
  clear hnx a0 a1 a2 a3 a4
  obtain ⟨ao2, cp2, rfl⟩ := own_slice hm2
  rw [← HN.out]
  have q1 := (hb2.block _ (by omega)).trans K1.out
  have q2 := (hb2.block _ (by omega)).trans K2.out
  have hw2 := hb2.size
  have Q1 : Hid _ := q1
  have Q2 : Hid _ := q2
  have Q3 : Hid _ := K3.out.trans (hb2.mono (by omega))
  have HM2 : Hid (XIs w2 0 (.slice ao2 r.ms.length cp2) r.ms) := XIs.least hm2 (Nat.zero_le _)
  have HWS : Hid (w.heap.size + 2 ≤ w2.heap.size) := by exact Nat.le_trans hw1 hw2
  clear K1 K2 K3 hm2 hb2 q1 q2 hw1 hw2 HB2
  go_wp2_with (first | (refine xst5 rfl _ _ rfl _ _ _ _ _ _ rfl rfl Q1.out (by simp [Value.oneCell']) ?c3) | (refine xst5p _ _ rfl _ _ _ _ _ _ rfl rfl Q1.out (by simp [Value.oneCell']) ?c3))
  intro W hO1 hk1
  have hk2 := (hO1.block (w.heap.size + 1) (by omega) (by omega)).trans Q2.out
  have hxm := XIs.off HM2.out hO1 Q1.out Q1.out (by decide) (by decide)
  have hbl := hO1.below Q3.out (by omega) (by omega)
  have hwS : w.heap.size + 2 ≤ W.heap.size := by have := hO1.size; have := HWS.out; omega
  have a4 := cell_of hk1 4
  simp at a4
  have a4' : ∀ o, (W.alloc o).cell? ⟨w.heap.size, 4, none⟩ = _ := fun o => (World.cell?_alloc_past _ _ _ (by show w.heap.size < _; omega)).trans a4
  have HM : Hid _ := hxm
  have L1 : Hid _ := hk1
  have L2 : Hid _ := hk2
  have L4 : Hid _ := hbl
  have HWS2 : Hid _ := hwS
  have H0 : Hid (Below W.heap.size W (W.alloc (.cells #[] 130)) ∧ XIs (W.alloc (.cells #[] 130)) W.heap.size (.slice (some ⟨W.heap.size, 0, none⟩) 0 0) []) := ⟨(Below.refl _ W).alloc (Nat.le_refl _) _, by
    have := World.ownsRow_made (base := W.heap.size) (e := 130) (size := 3) W #[] 0 (Nat.le_refl _) (by unfold maxLen; omega) rfl
    unfold XIs
    simpa [mcs] using this⟩
  clear Q1 Q2 Q3 HM2 HWS hk1 hk2 hxm hbl hO1 a4 hwS
  go_wp2
  go_loopw [6, 20] (fun l i wr => ∃ k : Nat, k ≤ n ∧ i = .int .i64 (k : Nat) ∧ Hid (Below W.heap.size W wr ∧ XIs wr W.heap.size l (rml t (r.ms.take k)))) (fun _ i _ => n - (intOf i).toNat)
  case atStart => exact ⟨0, by omega, rfl, H0.out.1, by simp only [List.take_zero, rml]; exact H0.out.2⟩
  case round =>
    clear H0
    obtain ⟨k, hk, rfl, HI⟩ := hrel
    rcases Nat.lt_or_ge k n with hkn | hkn
    · obtain ⟨g, hg⟩ : ∃ g, ao2 = some ⟨g, 0, none⟩ := by
        rcases HM.out.2 with ⟨_, h0⟩ | ⟨g, cap, cur, e0, _⟩
        · have := HN.out; omega
        · injection e0 with e0 _ _; exact ⟨g, e0⟩
      subst hg
      have hmem : k < r.ms.length := by rw [← HN.out]; exact hkn
      have hgT : g < W.heap.size := (HM.out.lt g rfl).2
      obtain ⟨c0, c1, c2⟩ := XIs.at3 HM.out k hmem
      replace c0 := (HI.out.1.cell (by exact hgT)).trans c0
      replace c1 := (HI.out.1.cell (by exact hgT)).trans c1
      replace c2 := (HI.out.1.cell (by exact hgT)).trans c2
      obtain ⟨la, lc, hlv⟩ := own_slice HI.out.2
      have hown : wr.ownsRow W.heap.size 130 3 _ _ _ := HI.out.2
      have HS : Hid (rml t (r.ms.take (k + 1)) = rml t (r.ms.take k) ++ rml t [mbAt r.ms k]) := rml_succ _ _ _ hmem
      have HLn : Hid ((rml t (r.ms.take k)).length ≤ k) := rml_le _ _ _
      have HB : Hid (Below W.heap.size W wr) := HI.out.1
      generalize mbAt r.ms k = m at *
      generalize rml t (r.ms.take k) = xs at *
      obtain ⟨q, hq⟩ : ∃ q, q = xs.length := ⟨_, rfl⟩
      rw [← hq] at hown hlv HLn
      have HQ : Hid _ := hq
      clear hq
      have hqk : q ≤ k := HLn.out
      subst hlv
      have ho2 : ∀ o1 o2, ((wr.alloc o1).alloc o2).ownsRow W.heap.size 130 3 (.slice la q lc) q (mcs xs) := fun o1 o2 => (hown.alloc o1).alloc o2
      have hsz : ∀ o1 o2, W.heap.size ≤ ((wr.alloc o1).alloc o2).heap.size := fun o1 o2 => by have := HB.out.size; simp; omega
      have hnew : ∀ o1 c t k, ((wr.alloc o1).alloc (.cells c t)).cell? ⟨wr.heap.size + 1, k, none⟩ = c[k]? := fun o1 c t k => cell_of (heap_alloc2_new wr o1 _) k
      have HO1 : Hid (∀ o, (wr.alloc o).ownsRow W.heap.size 130 3 (.slice la q lc) q (mcs xs)) := fun o => hown.alloc o
      have HO2 : Hid _ := ho2
      have HSZ : Hid _ := hsz
      have HNW : Hid _ := hnew
      clear HI hown ho2 hsz hnew
      by_cases ht1 : m.s = t
      · have HBN : Hid (∀ o, Below W.heap.size W (wr.alloc o) ∧ (wr.alloc o).ownsRow W.heap.size 130 3 (.slice la q lc) q (mcs xs)) := fun o => ⟨HB.out.alloc HB.out.size _, HO1.out o⟩
        rw [ht1] at c0
        clear HO2 HSZ HNW
        go_wp2
        go_roundw
        case rel => exact ⟨k + 1, by omega, rfl, (HBN.out _).1, by rw [HS.out, show rml t [m] = [] by simp [rml, ht1], List.append_nil]; unfold XIs; rw [← HQ.out]; exact (HBN.out _).2⟩
        case measure => simp only [intOf]; omega
      · clear HLn
        go_wp2_with (at_builtin; refine wpList_append_own _ rfl _ _ 67 rfl W.heap.size 130 i0 mbz 3 24 Try.underlying67 hi0 hz0 hs0 hby0 (by kernel_rfl) (by decide) _ q (mcs xs) rfl (HO2.out _ _) ⟨wr.heap.size + 1, 0, none⟩ 1 1 [.int .i64 m.s, .int .u64 (m.j : Nat), .int .i64 m.t] rfl rfl ?d1 ?d2 (by unfold maxLen; omega) (by omega) (HSZ.out _ _) ?d3)
        case d1 =>
          intro j u hj
          rw [Addr.add_lit, Nat.zero_add]
          rw [HNW.out]
          simpa using hj
        case d2 =>
          intro u hu
          simp at hu
          rcases hu with rfl | rfl | rfl <;> rfl
        case d3 =>
          intro v' w' h1 h2 h3
          have H1 : Hid (Below W.heap.size W w' ∧ w'.ownsRow W.heap.size 130 3 v' (q + 1) (mcs xs ++ [.int .i64 m.s, .int .u64 (m.j : Nat), .int .i64 m.t])) := by
            refine ⟨(((HB.out.alloc HB.out.size _).alloc (by have := HB.out.size; simp; omega) _)).grown h2 (HSZ.out _ _) (fun q hq => ((HO2.out (.cells #[] 3) (.cells #[] 3)).lt q hq).1), h1⟩
          clear h1 h2 h3 HO2 HSZ HNW c0 c1 c2
          go_wp2
          go_roundw
          case rel => exact ⟨k + 1, by omega, rfl, H1.out.1, by rw [HS.out, show rml t [m] = [m] by simp [rml, ht1]]; unfold XIs; rw [mcs_append, List.length_append, ← HQ.out]; exact H1.out.2⟩
          case measure => simp only [intOf]; omega
    · obtain rfl : k = n := by omega
      obtain ⟨la, lc, hlv⟩ := own_slice HI.out.2
      have q2 := HI.out.2
      rw [List.take_of_length_le (by rw [← HN.out]; exact Nat.le_refl _)] at q2 hlv
      rw [← HRM.out] at q2 hlv
      have hwS := HWS2.out
      have kB := (HI.out.1.block w.heap.size (by omega)).trans L1.out
      have kT := (HI.out.1.block (w.heap.size + 1) (by omega)).trans L2.out
      have hbl : Below w.heap.size w wr := L4.out.trans (HI.out.1.mono (by omega))
      have q3 : XIs wr w.heap.size _ _ := XIs.least q2 (by omega)
      subst hlv
      have b0 := cell_of kB 0
      have b1 := cell_of kB 1
      have b2 := cell_of kB 2
      have b3 := cell_of kB 3
      have b4 := cell_of kB 4
      have f4 := frz_of kB 4
      have d0 := cell_of kT 0
      have g0 := frz_of kT 0
      have d1 := cell_of kT 1
      have g1 := frz_of kT 1
      have d2 := cell_of kT 2
      have g2' := frz_of kT 2
      have d3 := cell_of kT 3
      have g3 := frz_of kT 3
      have d4 := cell_of kT 4
      have g4 := frz_of kT 4
      simp at b0 b1 b2 b3 b4 d0 d1 d2 d3 d4
      have N1 : Hid _ := kB
      have N2 : Hid _ := kT
      have N3 : Hid _ := q3
      have N4 : Hid _ := hbl
      clear HI HM L1 L2 L4 HWS2 q2 q3 kB kT hbl hwS a4'
      go_wp2
      have hB : ∀ x, (wr.setCell ⟨w.heap.size, 4, none⟩ x).heap[w.heap.size + 1]? = _ := fun x => (Below.heap_setCell _ _ _ _ (by simp)).trans N2.out
      have hO := fun x a b c d e => ((Off.refl w.heap.size (w.heap.size + 1) wr).set (a := ⟨w.heap.size, 4, none⟩) (by simp) x).five a b c d e
      refine bodyPost_ret (xret2 Try.results32 _ _ (w.heap.size + 1) _ _ ?_ rfl (store5 (hB _) _ _ _ _ _) rfl) rfl ⟨.slice la (r.remove p).ms.length lc, rfl, XIs.off N3.out (hO _ _ _ _ _ _) N1.out N2.out (by decide) (by decide), (hO _ _ _ _ _ _).below N4.out (by omega) (by omega)⟩
      rfl
end Go.Proofs.Ytknmipbjkkeebaa
