/- Check, All, Fresh, Find of rosters that may be; Add that there is no room for; as calls. -/
import Derived.Test.YtknmipbjkkeebaaRO
namespace Go.Proofs.Ytknmipbjkkeebaa
open Go.RowKit
/-- A member that may be. -/
structure Mb.Ok (m : Mb) (J : Nat) : Prop where
  s1 : 1 ≤ m.s
  s2 : m.s ≤ 1000
  j0 : m.j ≠ 0
  jJ : m.j ≤ J
  t : m.t = 1 ∨ m.t = 2
/-- A roster that may be. -/
structure Ro.Ok (r : Ro) : Prop where
  c : r.c ≠ 0
  few : r.ms.length ≤ 16
  mem : ∀ k, k < r.ms.length → (mbAt r.ms k).Ok r.j
  rise : ∀ i k, i < k → k < r.ms.length → (mbAt r.ms i).s < (mbAt r.ms k).s ∧ (mbAt r.ms i).j ≠ (mbAt r.ms k).j
theorem may_ok (m : Mb) (J : Nat) (h : m.Ok J) (w : World) : Calls Try.prog 106 #[.agg #[.int .i64 m.s, .int .u64 (m.j : Nat), .int .i64 m.t]] w fun e w' => e = .returned (.bool true) ∧ Below w.heap.size w w' := by
  have hms := mayserial_any m.s
  rw [decide_eq_true ⟨h.s1, h.s2⟩] at hms
  have hj : ¬ ((m.j : Nat) : Int) = 0 := by have := h.j0; omega
  have HB : ∀ o, Hid (Below w.heap.size w (w.alloc o)) := fun o => (Below.refl _ w).alloc (Nat.le_refl _) o
  rcases h.t with ht | ht
  · rw [ht]
    clear h ht
    generalize m.s = s at *
    generalize m.j = j at *
    go_enter Try.func106, Try.ntmps106
    go_wp2_with fail
    go_call (hms _) as e w1 ⟨rfl, rfl⟩
    go_wp2
    go_returns
    exact ⟨by simp at hj ⊢; exact hj, (HB _).out⟩
  · rw [ht]
    clear h ht
    generalize m.s = s at *
    generalize m.j = j at *
    go_enter Try.func106, Try.ntmps106
    go_wp2_with fail
    go_call (hms _) as e w1 ⟨rfl, rfl⟩
    go_wp2
    go_returns
    exact ⟨by simp at hj ⊢; exact hj, (HB _).out⟩
theorem MIs.at3 {w : World} {b g cap : Nat} {l : List Mb} (h : MIs w b (.slice (some ⟨g, 0, none⟩) l.length cap) l) (k : Nat) (hk : k < l.length) :
    w.cell? ⟨g, k * 3, none⟩ = some (.int .i64 (mbAt l k).s) ∧ w.cell? ⟨g, k * 3 + 1, none⟩ = some (.int .u64 ((mbAt l k).j : Nat)) ∧ w.cell? ⟨g, k * 3 + 2, none⟩ = some (.int .i64 (mbAt l k).t) :=
  ⟨h.mems.lies k hk 0 _ rfl, h.mems.lies k hk 1 _ rfl, h.mems.lies k hk 2 _ rfl⟩
set_option maxHeartbeats 2000000 in
set_option maxRecDepth 100000 in
theorem fits_ok (r : Ro) (v : Value) (w : World) (h : MIs w 0 v r.ms) (hr : r.Ok) : Calls Try.prog 83 #[r.val v] w fun e w' => e = .returned (.bool true) ∧ Below w.heap.size w w' := by
  obtain ⟨ao, cp, hv⟩ := own_slice h
  have hcp : r.ms.length ≤ cp ∧ cp ≤ 9223372036854775807 := by
    rcases h.2 with ⟨h1, h0⟩ | ⟨g, cap, cur, e0, _, _, h3, h4, _⟩
    · rw [hv] at h1; injection h1 with _ h1 h2; omega
    · rw [hv] at e0; injection e0 with _ _ e2; subst e2; exact ⟨h3, h4⟩
  have HM : Hid _ := h
  have HR : Hid _ := hr
  have hfew := hr.few
  subst hv
  clear h hr
  obtain ⟨n, hnn⟩ : ∃ n, n = r.ms.length := ⟨_, rfl⟩
  have HN : Hid _ := hnn
  unfold Ro.val Ro.arr
  rw [← hnn] at hfew hcp ⊢
  obtain ⟨hcp1, hcp2⟩ := hcp
  clear hnn
  have H0 : Hid (∃ W : World, W = w.alloc (.cells #[.int .u64 (r.c : Nat), .int .u64 (r.e : Nat), .int .u64 (r.l : Nat), .int .u64 (r.j : Nat), .slice ao n cp] 72) ∧ Below w.heap.size w W ∧ W.heap[w.heap.size]? = some (.cells #[.int .u64 (r.c : Nat), .int .u64 (r.e : Nat), .int .u64 (r.l : Nat), .int .u64 (r.j : Nat), .slice ao n cp] 72)) :=
    ⟨_, rfl, (Below.refl _ w).alloc (Nat.le_refl _) _, heap_new _ _⟩
  go_enter Try.func83, Try.ntmps83
  go_wp2
  go_loopw [10] (fun i wr => ∃ k : Nat, k ≤ n ∧ i = .int .i64 (k : Nat) ∧ Hid (Below w.heap.size w wr ∧ wr.heap[w.heap.size]? = some (.cells #[.int .u64 (r.c : Nat), .int .u64 (r.e : Nat), .int .u64 (r.l : Nat), .int .u64 (r.j : Nat), .slice ao n cp] 72))) (fun i _ => n - (intOf i).toNat)
  case atStart =>
    obtain ⟨W, rfl, h1, h2⟩ := H0.out
    exact ⟨0, by omega, rfl, h1, h2⟩
  case round =>
    clear H0
    obtain ⟨k, hk, rfl, HI⟩ := hrel
    rcases Nat.lt_or_ge k n with hkn | hkn
    · obtain ⟨g, hg⟩ : ∃ g, ao = some ⟨g, 0, none⟩ := by
        rcases HM.out.2 with ⟨_, h0⟩ | ⟨g, cap, cur, e0, _⟩
        · have := HN.out; omega
        · injection e0 with e0 _ _; exact ⟨g, e0⟩
      subst hg
      have hmem : k < r.ms.length := by rw [← HN.out]; exact hkn
      have hgT : g < w.heap.size := (HM.out.lt g rfl).2
      obtain ⟨c0, c1, c2⟩ := MIs.at3 HM.out k hmem
      replace c0 := (HI.out.1.cell (by exact hgT)).trans c0
      replace c1 := (HI.out.1.cell (by exact hgT)).trans c1
      replace c2 := (HI.out.1.cell (by exact hgT)).trans c2
      have hok := HR.out.mem k hmem
      have hm := fun W => may_ok (mbAt r.ms k) r.j hok W
      have hjj : ¬ ((r.j : Nat) : Int) < ((mbAt r.ms k).j : Nat) := by have := hok.jJ; omega
      have HRS : Hid (∀ i, i < k → (mbAt r.ms i).s < (mbAt r.ms k).s ∧ (mbAt r.ms i).j ≠ (mbAt r.ms k).j) := fun i hi => HR.out.rise i k hi hmem
      generalize mbAt r.ms k = m at *
      have hlt := World.block_lt_of_cell? wr _ c0
      have b1 : Below w.heap.size w (wr.alloc (.cells #[.int .i64 m.s, .int .u64 (m.j : Nat), .int .i64 m.t] 85)) := HI.out.1.alloc HI.out.1.size _
      have k1 : (wr.alloc (.cells #[.int .i64 m.s, .int .u64 (m.j : Nat), .int .i64 m.t] 85)).heap[w.heap.size]? = _ := (Below.heap_alloc _ _ _ (getElem?_lt HI.out.2)).trans HI.out.2
      have k2 : (wr.alloc (.cells #[.int .i64 m.s, .int .u64 (m.j : Nat), .int .i64 m.t] 85)).heap[wr.heap.size]? = _ := heap_new _ _
      have hws : w.heap.size < wr.heap.size := getElem?_lt HI.out.2
      go_wp2_with fail
      go_call (hm _) as e w1 ⟨rfl, hb1⟩
      have b2 : Below w.heap.size w w1 := b1.trans (hb1.mono b1.size)
      have k3 := (hb1.block _ (getElem?_lt k1)).trans k1
      have k4 := (hb1.block _ (getElem?_lt k2)).trans k2
      have d3 := cell_of k3 3
      have d4 := cell_of k3 4
      have m0 := cell_of k4 0
      have m1 := cell_of k4 1
      simp at d3 d4 m0 m1
      have H2 : Hid (Below w.heap.size w w1 ∧ w1.heap[w.heap.size]? = some (.cells #[.int .u64 (r.c : Nat), .int .u64 (r.e : Nat), .int .u64 (r.l : Nat), .int .u64 (r.j : Nat), .slice (some ⟨g, 0, none⟩) n cp] 72) ∧ w1.heap[wr.heap.size]? = some (.cells #[.int .i64 m.s, .int .u64 (m.j : Nat), .int .i64 m.t] 85)) := ⟨b2, k3, k4⟩
      clear b1 b2 k1 k2 k3 k4 hb1 hm c0 c1 c2 HI hok hlt
      have H3 : Hid (∃ W : World, W = w1 ∧ Below w.heap.size w W ∧ W.heap[w.heap.size]? = some (.cells #[.int .u64 (r.c : Nat), .int .u64 (r.e : Nat), .int .u64 (r.l : Nat), .int .u64 (r.j : Nat), .slice (some ⟨g, 0, none⟩) n cp] 72) ∧ W.heap[wr.heap.size]? = some (.cells #[.int .i64 m.s, .int .u64 (m.j : Nat), .int .i64 m.t] 85)) := ⟨_, rfl, H2.out⟩
      clear H2
      go_wp2
      clear d3 d4 m0 m1
      go_loopw [30] (fun i W => ∃ q : Nat, q ≤ k ∧ i = .int .i64 (q : Nat) ∧ Hid (Below w.heap.size w W ∧ W.heap[w.heap.size]? = some (.cells #[.int .u64 (r.c : Nat), .int .u64 (r.e : Nat), .int .u64 (r.l : Nat), .int .u64 (r.j : Nat), .slice (some ⟨g, 0, none⟩) n cp] 72) ∧ W.heap[wr.heap.size]? = some (.cells #[.int .i64 m.s, .int .u64 (m.j : Nat), .int .i64 m.t] 85))) (fun i _ => k - (intOf i).toNat)
      case atStart =>
        obtain ⟨W, rfl, h1⟩ := H3.out
        exact ⟨0, by omega, rfl, h1⟩
      case round =>
        clear H3
        rename World => wq
        obtain ⟨q, hq, rfl, HJ⟩ := hrel
        rcases Nat.lt_or_ge q k with hqk | hqk
        · obtain ⟨c0, c1, c2⟩ := MIs.at3 HM.out q (by omega)
          replace c0 := (HJ.out.1.cell (by exact hgT)).trans c0
          replace c1 := (HJ.out.1.cell (by exact hgT)).trans c1
          replace c2 := (HJ.out.1.cell (by exact hgT)).trans c2
          obtain ⟨r1, r2⟩ := HRS.out q hqk
          generalize mbAt r.ms q = y at *
          have m0 := cell_of HJ.out.2.2 0
          have m1 := cell_of HJ.out.2.2 1
          simp at m0 m1
          have hl2 := getElem?_lt HJ.out.2.2
          have b1 : Hid (Below w.heap.size w (wq.alloc (.cells #[.int .i64 y.s, .int .u64 (y.j : Nat), .int .i64 y.t] 85)) ∧ (wq.alloc (.cells #[.int .i64 y.s, .int .u64 (y.j : Nat), .int .i64 y.t] 85)).heap[w.heap.size]? = some (.cells #[.int .u64 (r.c : Nat), .int .u64 (r.e : Nat), .int .u64 (r.l : Nat), .int .u64 (r.j : Nat), .slice (some ⟨g, 0, none⟩) n cp] 72) ∧ (wq.alloc (.cells #[.int .i64 y.s, .int .u64 (y.j : Nat), .int .i64 y.t] 85)).heap[wr.heap.size]? = some (.cells #[.int .i64 m.s, .int .u64 (m.j : Nat), .int .i64 m.t] 85)) :=
            ⟨HJ.out.1.alloc HJ.out.1.size _, (Below.heap_alloc _ _ _ (getElem?_lt HJ.out.2.1)).trans HJ.out.2.1, (Below.heap_alloc _ _ _ (getElem?_lt HJ.out.2.2)).trans HJ.out.2.2⟩
          have r1' : ¬ m.s ≤ y.s := by omega
          have r2' : ¬ ((y.j : Nat) : Int) = (m.j : Nat) := by omega
          clear HJ r1 r2
          go_wp2
          go_roundw
          case rel => exact ⟨q + 1, by omega, rfl, b1⟩
          case measure => simp only [intOf]; omega
        · have HB : Hid _ := HJ.out
          clear HJ
          obtain rfl : q = k := by omega
          go_wp2
          go_roundw
          case rel => exact ⟨q + 1, by omega, rfl, HB.out.1, HB.out.2.1⟩
          case measure => simp only [intOf]; omega
    · have HB : Hid (Below w.heap.size w wr) := HI.out.1
      clear HI
      obtain rfl : k = n := by omega
      go_wp2
      go_returns
      exact ⟨rfl, HB.out⟩
theorem check_ok (r : Ro) (v : Value) (w : World) (h : MIs w 0 v r.ms) (hr : r.Ok) : Calls Try.prog 41 #[r.val v] w fun e w' => e = .returned (.int .i64 0) ∧ Below w.heap.size w w' := by
  obtain ⟨ao, cp, hv⟩ := own_slice h
  have hf := fun W (hW : Below w.heap.size w W) => fits_ok r v W (h.below hW) hr
  have hfew : ¬ (16 : Int) < ((r.ms.length : Nat) : Int) := by have := hr.few; omega
  have hc : ¬ ((r.c : Nat) : Int) = 0 := by have := hr.c; omega
  have HF : Hid _ := hf
  have HB : Hid (∀ o, Below w.heap.size w (w.alloc o)) := fun o => (Below.refl _ w).alloc (Nat.le_refl _) o
  subst hv
  clear h hr hf
  unfold Ro.val Ro.arr at *
  generalize r.ms.length = n at *
  go_enter Try.func41, Try.ntmps41
  go_wp2_with fail
  go_call (HF.out _ (HB.out _)) as e w1 ⟨rfl, hb1⟩
  have H1 : Hid _ := hb1
  clear hb1
  go_wp2
  go_returns
  exact ⟨rfl, (HB.out _).trans (H1.out.mono (HB.out _).size)⟩
theorem info3 : (Try.prog.info? 3).map (fun i => (i.zero, i.size, i.bytes)) = some (some (.int .i64 0), 1, 8) := by kernel_rfl
def ints (f : Nat → Int) (n : Nat) : List Value := (List.range n).map fun i => Value.int .i64 (f i)
theorem ints_succ (f : Nat → Int) (n : Nat) : ints f (n + 1) = ints f n ++ [.int .i64 (f n)] := by unfold ints; rw [List.range_succ, List.map_append]; rfl
theorem ints_length (f : Nat → Int) (n : Nat) : (ints f n).length = n := by simp [ints]
set_option maxHeartbeats 2000000 in
set_option maxRecDepth 100000 in
theorem all_any (r : Ro) (v : Value) (w : World) (h : MIs w 0 v r.ms) (hn : r.ms.length ≤ 16) : Calls Try.prog 44 #[r.val v] w fun e w' => ∃ v', e = .returned v' ∧ w'.ownsRow w.heap.size 3 1 v' r.ms.length (ints (fun k => (mbAt r.ms k).s) r.ms.length) ∧ Below w.heap.size w w' := by
  obtain ⟨i0, hi0, hz0, hs0, hby0⟩ := info_parts info3
  obtain ⟨ao, cp, hv⟩ := own_slice h
  have HM : Hid _ := h
  subst hv
  clear h
  obtain ⟨n, hnn⟩ : ∃ n, n = r.ms.length := ⟨_, rfl⟩
  have HN : Hid _ := hnn
  unfold Ro.val Ro.arr
  rw [← hnn] at hn ⊢
  clear hnn
  have H0 : Hid (∃ W : World, W = w.alloc (.cells #[.int .u64 (r.c : Nat), .int .u64 (r.e : Nat), .int .u64 (r.l : Nat), .int .u64 (r.j : Nat), .slice ao n cp] 72) ∧ Below w.heap.size w W) := ⟨_, rfl, (Below.refl _ w).alloc (Nat.le_refl _) _⟩
  go_enter Try.func44, Try.ntmps44
  go_wp2
  go_loopw [3, 9] (fun l i wr => ∃ k : Nat, k ≤ n ∧ i = .int .i64 (k : Nat) ∧ Hid (Below w.heap.size w wr ∧ wr.ownsRow w.heap.size 3 1 l k (ints (fun k => (mbAt r.ms k).s) k))) (fun _ i _ => n - (intOf i).toNat)
  case atStart =>
    obtain ⟨W, rfl, h1⟩ := H0.out
    exact ⟨0, by omega, rfl, h1, World.ownsRow_nil _ _ _ _⟩
  case round =>
    clear H0
    obtain ⟨k, hk, rfl, HI⟩ := hrel
    rcases Nat.lt_or_ge k n with hkn | hkn
    · obtain ⟨g, hg⟩ : ∃ g, ao = some ⟨g, 0, none⟩ := by
        rcases HM.out.2 with ⟨_, h0⟩ | ⟨g, cap, cur, e0, _⟩
        · have := HN.out; omega
        · injection e0 with e0 _ _; exact ⟨g, e0⟩
      subst hg
      have hmem : k < r.ms.length := by rw [← HN.out]; exact hkn
      have hgT : g < w.heap.size := (HM.out.lt g rfl).2
      obtain ⟨c0, c1, c2⟩ := MIs.at3 HM.out k hmem
      replace c0 := (HI.out.1.cell (by exact hgT)).trans c0
      replace c1 := (HI.out.1.cell (by exact hgT)).trans c1
      replace c2 := (HI.out.1.cell (by exact hgT)).trans c2
      obtain ⟨la, lc, hlv⟩ := own_slice HI.out.2
      have hown := HI.out.2
      have HS : Hid (ints (fun k => (mbAt r.ms k).s) (k + 1) = ints (fun k => (mbAt r.ms k).s) k ++ [.int .i64 (mbAt r.ms k).s]) := ints_succ _ _
      have HB : Hid (Below w.heap.size w wr) := HI.out.1
      generalize ints (fun k => (mbAt r.ms k).s) k = xs at *
      generalize mbAt r.ms k = m at *
      subst hlv
      have ho2 : ∀ o1 o2, ((wr.alloc o1).alloc o2).ownsRow w.heap.size 3 1 (.slice la k lc) k xs := fun o1 o2 => (hown.alloc o1).alloc o2
      have hsz : ∀ o1 o2, w.heap.size ≤ ((wr.alloc o1).alloc o2).heap.size := fun o1 o2 => by have := HB.out.size; simp; omega
      have hnew : ∀ o1 (x : Value) t, ((wr.alloc o1).alloc (.cells #[x] t)).cell? ⟨wr.heap.size + 1, 0, none⟩ = some x := fun o1 x t => by rw [cell_of (heap_alloc2_new wr o1 _)]; rfl
      have HO2 : Hid _ := ho2
      have HSZ : Hid _ := hsz
      have HNW : Hid _ := hnew
      clear HI hown ho2 hsz hnew
      go_wp2_with (at_builtin; refine wpList_append_own _ rfl _ _ 23 rfl w.heap.size 3 i0 (.int .i64 0) 1 8 Try.underlying23 hi0 hz0 hs0 hby0 rfl (by decide) _ k xs rfl (HO2.out _ _) ⟨wr.heap.size + 1, 0, none⟩ 1 1 [.int .i64 m.s] rfl rfl ?c1 ?c2 (by unfold maxLen; omega) (by omega) (HSZ.out _ _) ?c3)
      case c1 =>
        intro j u hj
        cases j with
        | zero => simp at hj; subst hj; exact HNW.out _ _ _
        | succ j => simp at hj
      case c2 =>
        intro u hu
        simp at hu
        subst hu
        rfl
      case c3 =>
        intro v' w' h1 h2 h3
        have H1 : Hid (Below w.heap.size w w' ∧ w'.ownsRow w.heap.size 3 1 v' (k + 1) (xs ++ [.int .i64 m.s])) := by
          refine ⟨(((HB.out.alloc HB.out.size _).alloc (by have := HB.out.size; simp; omega) _)).grown h2 (HSZ.out _ _) (fun q hq => ((HO2.out (.cells #[] 3) (.cells #[] 3)).lt q hq).1), h1⟩
        clear h1 h2 h3 HO2 HSZ HNW c0 c1 c2
        go_wp2
        go_roundw
        case rel => exact ⟨k + 1, by omega, rfl, H1.out.1, by rw [HS.out]; exact H1.out.2⟩
        case measure => simp only [intOf]; omega
    · obtain rfl : k = n := by omega
      obtain ⟨la, lc, hlv⟩ := own_slice HI.out.2
      have HE : Hid _ := HI.out
      clear HI
      go_wp2
      go_returns
      exact ⟨_, rfl, HE.out.2, HE.out.1⟩
def Ro.fresh (r : Ro) : Ro := { r with e := r.e + 1, c := r.c + 1, ms := [] }
set_option maxRecDepth 100000 in
theorem fresh_any (r : Ro) (v : Value) (w : World) (h : MIs w 0 v r.ms) (hn : r.ms.length ≤ 1000) (he : r.e < 9223372036854775807) (hc : r.c < 9223372036854775807) :
    Calls Try.prog 37 #[r.val v] w fun e w' => e = .returned (r.fresh.val (.slice none 0 0)) ∧ Below w.heap.size w w' := by
  have hnx := fun W (hW : Below w.heap.size w W) => next_any r v W (h.below hW) hn he
  have HNX : Hid _ := hnx
  obtain ⟨ao, cp, hv⟩ := own_slice h
  subst hv
  have HB2 : Hid (∀ o1 o2, Below w.heap.size w ((w.alloc o1).alloc o2)) := fun o1 o2 => ((Below.refl _ w).alloc (Nat.le_refl _) _).alloc (by simp) _
  clear h hnx
  unfold Ro.val Ro.arr Ro.fresh at *
  generalize r.ms.length = n at *
  go_enter Try.func37, Try.ntmps37
  go_wp2_with fail
  go_call (HNX.out _ (HB2.out _ _)) as e w2 ⟨v2, rfl, hm2, hb2⟩
  clear HNX
  obtain ⟨ao2, cp2, rfl⟩ := own_slice hm2
  obtain ⟨k1, k2, k3⟩ := below_two hb2
  have hw2 : w.heap.size + 2 ≤ w2.heap.size := by have := hb2.size; simp at this; omega
  have kA : ∀ o, (w2.alloc o).heap[w.heap.size + 1]? = some (.cells #[.int .u64 0, .int .u64 0, .int .u64 0, .int .u64 0, .slice none 0 0] 72) := fun o => (Below.heap_alloc _ _ _ (by omega)).trans k2
  have d0 : ∀ o, (w2.alloc o).cell? ⟨w.heap.size + 1, 0, none⟩ = some (.int .u64 0) := fun o => cell_of (kA o) 0
  have d1 : ∀ o, (w2.alloc o).cell? ⟨w.heap.size + 1, 1, none⟩ = some (.int .u64 0) := fun o => cell_of (kA o) 1
  have d2 : ∀ o, (w2.alloc o).cell? ⟨w.heap.size + 1, 2, none⟩ = some (.int .u64 0) := fun o => cell_of (kA o) 2
  have d3 : ∀ o, (w2.alloc o).cell? ⟨w.heap.size + 1, 3, none⟩ = some (.int .u64 0) := fun o => cell_of (kA o) 3
  have d4 : ∀ o, (w2.alloc o).cell? ⟨w.heap.size + 1, 4, none⟩ = some (.slice none 0 0) := fun o => cell_of (kA o) 4
  have g0 := fun o => frz_of (kA o) 0
  have g1 := fun o => frz_of (kA o) 1
  have g2 := fun o => frz_of (kA o) 2
  have g3 := fun o => frz_of (kA o) 3
  have g4 := fun o => frz_of (kA o) 4
  have KA : Hid _ := kA
  have K2 : Hid _ := k2
  have K3 : Hid _ := k3
  clear hb2 k1 k2 k3 hm2 kA
  go_wp2
  have hO := (((((Off.refl (w.heap.size + 1) (w.heap.size + 1) (w2.alloc (.cells #[.int .u64 ((r.c : Int) + 1), .int .u64 ((r.e : Int) + 1), .int .u64 (r.l : Nat), .int .u64 (r.j : Nat), .slice none 0 0] 72))).set (a := ⟨w.heap.size + 1, 0, none⟩) (by simp) (.int .u64 ((r.c : Int) + 1))).set (a := ⟨w.heap.size + 1, 1, none⟩) (by simp) (.int .u64 ((r.e : Int) + 1))).set (a := ⟨w.heap.size + 1, 2, none⟩) (by simp) (.int .u64 (r.l : Nat))).set (a := ⟨w.heap.size + 1, 3, none⟩) (by simp) (.int .u64 (r.j : Nat))).set (a := ⟨w.heap.size + 1, 4, none⟩) (by simp) (.slice none 0 0)
  refine bodyPost_ret (ret1 Try.results37 _ _ (w.heap.size + 1) _ ?_ rfl (store5 (KA.out _) _ _ _ _ _)) rfl ⟨rfl, hO.below (K3.out.alloc (by omega) _) (by omega) (by omega)⟩
  rfl
theorem radd_full (r : Ro) (v : Value) (t : Int) (p : Nat) (w : World) (h : MIs w 0 v r.ms) (hn : 16 ≤ r.ms.length) (hn2 : r.ms.length ≤ 1000) (ht : 1 ≤ t ∧ t ≤ 1000) (hp : p ≤ r.ms.length) (h1 : ∀ j, j < p → (mbAt r.ms j).s < t) (h2 : ∀ j, p ≤ j → j < r.ms.length → t < (mbAt r.ms j).s) :
    Calls Try.prog 39 #[r.val v, .int .i64 t] w fun e w' => e = .returned (.tuple #[(Ro.mk 0 0 0 0 []).val (.slice none 0 0), .int .i64 12]) ∧ Below w.heap.size w w' := by
  have hpl := fun W (hW : Below w.heap.size w W) => rplace_any r v t p W (h.below hW) (by omega) hp h1 (fun j a b => Int.le_of_lt (h2 j a b))
  rw [decide_eq_false (fun hh => by have := h2 p (Nat.le_refl _) hh.1; omega)] at hpl
  have hms := mayserial_any t
  rw [decide_eq_true ht] at hms
  obtain ⟨ao, cp, hv⟩ := own_slice h
  have hlen : (16 : Int) ≤ ((r.ms.length : Nat) : Int) := by omega
  have HPL : Hid _ := hpl
  clear hpl h1 h2 h
  unfold Ro.val Ro.arr at *
  subst hv
  generalize r.ms.length = n at *
  have HB2 : Hid (∀ o1 o2, Below w.heap.size w ((w.alloc o1).alloc o2)) := fun o1 o2 => ((Below.refl _ w).alloc (Nat.le_refl _) _).alloc (by simp) _
  go_enter Try.func39, Try.ntmps39
  go_wp2_with fail
  go_call (hms _) as e w0 ⟨rfl, rfl⟩
  go_wp2_with fail
  go_call (HPL.out _ (HB2.out _ _)) as e w1 ⟨rfl, hb1⟩
  clear HPL hms
  obtain ⟨k1, k2, k3⟩ := below_two hb1
  have a4 := cell_of k1 4
  simp at a4
  have d0 := cell_of k2 0
  have d1 := cell_of k2 1
  have d2 := cell_of k2 2
  have d3 := cell_of k2 3
  have d4 := cell_of k2 4
  have g0 := frz_of k2 0
  have g1 := frz_of k2 1
  have g2 := frz_of k2 2
  have g3 := frz_of k2 3
  have g4 := frz_of k2 4
  simp at d0 d1 d2 d3 d4
  have K2 : Hid _ := k2
  have K3 : Hid _ := k3
  clear hb1 k1 k2 k3
  go_wp2
  have hO := (((((Off.refl (w.heap.size + 1) (w.heap.size + 1) w1).set (a := ⟨w.heap.size + 1, 0, none⟩) (by simp) (.int .u64 0)).set (a := ⟨w.heap.size + 1, 1, none⟩) (by simp) (.int .u64 0)).set (a := ⟨w.heap.size + 1, 2, none⟩) (by simp) (.int .u64 0)).set (a := ⟨w.heap.size + 1, 3, none⟩) (by simp) (.int .u64 0)).set (a := ⟨w.heap.size + 1, 4, none⟩) (by simp) (.slice none 0 0)
  refine bodyPost_ret (ret2 Try.results39 _ _ (w.heap.size + 1) _ _ ?_ rfl (store5 K2.out _ _ _ _ _) rfl) rfl ⟨rfl, hO.below K3.out (by omega) (by omega)⟩
  rfl
theorem ret2m {fn : Func} {p u : Tmp} (h : fn.results = #[.cell p 85, .tmp u]) (tmps : Array Value) (w : World) (B : Nat) (cs : Array Value) (v : Value) (hs : cs.size = 3) (hp : tmps.getD p undef = .pointer (some ⟨B, 0, none⟩)) (hg : w.heap[B]? = some (.cells cs 85)) (hu : tmps.getD u undef = v) :
    (results fn tmps).run Try.prog w = .ok (.tuple #[.agg cs, v]) w := by
  rw [results_cell_tmp h, hp, hu]
  simp [asAddr, run_loadVar_row w B 85 85 cs (0, 0) _ hg Try.underlying85 rfl (by rw [size85, hs]), Result.andThen]
theorem store3 {W : World} {B : Nat} {x0 x1 x2 : Value} {t : TypeId} (h : W.heap[B]? = some (.cells #[x0, x1, x2] t)) (a b c : Value) :
    (((W.setCell ⟨B, 0, none⟩ a).setCell ⟨B, 1, none⟩ b).setCell ⟨B, 2, none⟩ c).heap[B]? = some (.cells #[a, b, c] t) := by
  rw [block_set (block_set (block_set h a) b) c]; rfl
def Mb.val (m : Mb) : Value := .agg #[.int .i64 m.s, .int .u64 (m.j : Nat), .int .i64 m.t]
theorem rfind_yes (r : Ro) (v : Value) (p : Nat) (w : World) (h : MIs w 0 v r.ms) (hn : r.ms.length ≤ 1000) (hp : p < r.ms.length) (h1 : ∀ j, j < p → (mbAt r.ms j).s < (mbAt r.ms p).s) (h2 : ∀ j, p ≤ j → j < r.ms.length → (mbAt r.ms p).s ≤ (mbAt r.ms j).s) :
    Calls Try.prog 43 #[r.val v, .int .i64 (mbAt r.ms p).s] w fun e w' => e = .returned (.tuple #[(mbAt r.ms p).val, .bool true]) ∧ Below w.heap.size w w' := by
  have hpl := fun W (hW : Below w.heap.size w W) => rplace_any r v (mbAt r.ms p).s p W (h.below hW) (by omega) (by omega) h1 h2
  rw [decide_eq_true ⟨hp, rfl⟩] at hpl
  obtain ⟨ao, cp, hv⟩ := own_slice h
  obtain ⟨g, rfl⟩ : ∃ g, ao = some ⟨g, 0, none⟩ := by
    rcases h.2 with ⟨_, h0⟩ | ⟨g, cap, cur, e0, _⟩
    · omega
    · rw [hv] at e0; injection e0 with e0 _ _; exact ⟨g, e0⟩
  subst hv
  have hgT : g < w.heap.size := (h.lt g rfl).2
  have hc3 := MIs.at3 h p hp
  have HC3 : Hid _ := hc3
  have HPL : Hid _ := hpl
  clear hpl h1 h2 h hc3
  unfold Ro.val Ro.arr Mb.val at *
  generalize mbAt r.ms p = m at *
  generalize r.ms.length = n at *
  have HB2 : Hid (∀ o1 o2, Below w.heap.size w ((w.alloc o1).alloc o2)) := fun o1 o2 => ((Below.refl _ w).alloc (Nat.le_refl _) _).alloc (by simp) _
  go_enter Try.func43, Try.ntmps43
  go_wp2_with fail
  go_call (HPL.out _ (HB2.out _ _)) as e w1 ⟨rfl, hb1⟩
  clear HPL
  obtain ⟨k1, k2, k3⟩ := below_two hb1
  have a4 := cell_of k1 4
  simp at a4
  have d0 := cell_of k2 0
  have d1 := cell_of k2 1
  have d2 := cell_of k2 2
  have g0 := frz_of k2 0
  have g1 := frz_of k2 1
  have g2 := frz_of k2 2
  simp at d0 d1 d2
  have c0 := (k3.cell (by exact hgT)).trans HC3.out.1
  have c1 := (k3.cell (by exact hgT)).trans HC3.out.2.1
  have c2 := (k3.cell (by exact hgT)).trans HC3.out.2.2
  have K2 : Hid _ := k2
  have K3 : Hid _ := k3
  clear hb1 k1 k2 k3 HC3
  go_wp2
  have hO := (((Off.refl (w.heap.size + 1) (w.heap.size + 1) w1).set (a := ⟨w.heap.size + 1, 0, none⟩) (by simp) (.int .i64 m.s)).set (a := ⟨w.heap.size + 1, 1, none⟩) (by simp) (.int .u64 (m.j : Nat))).set (a := ⟨w.heap.size + 1, 2, none⟩) (by simp) (.int .i64 m.t)
  refine bodyPost_ret (ret2m Try.results43 _ _ (w.heap.size + 1) _ _ ?_ rfl (store3 K2.out _ _ _) rfl) rfl ⟨rfl, hO.below K3.out (by omega) (by omega)⟩
  rfl
end Go.Proofs.Ytknmipbjkkeebaa
