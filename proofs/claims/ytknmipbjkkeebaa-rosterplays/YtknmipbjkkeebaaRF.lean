/- RosterFull: the walk. -/
import Derived.Test.YtknmipbjkkeebaaRE
import Derived.Test.YtknmipbjkkeebaaRP
import Derived.Lib.MinMax
namespace Go.Proofs.Ytknmipbjkkeebaa
open Go.RowKit
theorem mbAt_cons (m : Mb) (l : List Mb) : mbAt (m :: l) 0 = m := rfl
theorem mbAt_succ (m : Mb) (l : List Mb) (k : Nat) : mbAt (m :: l) (k + 1) = mbAt l k := by simp [mbAt]
theorem add_zero (r : Ro) (t : Int) : (r.add 0 t).ms = ⟨t, r.j + 1, 1⟩ :: r.ms := by simp [Ro.add]
set_option maxRecDepth 100000 in
set_option maxHeartbeats 1000000 in
theorem awake10 (w : World) : Calls Try.prog 29 #[] w fun e w' => e = .returned (.bool true) ∧ Below w.heap.size w w' := by
  have ha := radd_ok ⟨1, 0, 0, 0, []⟩ (.slice none 0 0) 5 0 w (World.ownsRow_nil _ _ _ _) (by decide) (by decide) (by decide) (by decide) (by decide) (fun j hj => absurd hj (Nat.not_lt_zero _)) (fun j _ hj => absurd hj (Nat.not_lt_zero _))
  obtain ⟨r1, hr1⟩ : ∃ r1, r1 = Ro.add ⟨1, 0, 0, 0, []⟩ 0 5 := ⟨_, rfl⟩
  have e1 : r1.ms = [⟨5, 1, 1⟩] := by rw [hr1]; rfl
  have e2 : ∀ v, r1.val v = .agg #[.int .u64 1, .int .u64 1, .int .u64 0, .int .u64 1, v] := fun v => by rw [hr1]; rfl
  rw [← hr1] at ha
  clear hr1
  have hv0 : (Ro.mk 1 0 0 0 []).val (.slice none 0 0) = .agg #[.int .u64 1, .int .u64 0, .int .u64 0, .int .u64 0, .slice none 0 0] := rfl
  rw [hv0] at ha
  clear hv0
  go_enter Try.func29, Try.ntmps29
  go_wp2_with fail
  go_call ha as e w1 ⟨v1, rfl, hm1, hb1⟩
  clear ha
  have hle : ∀ j, 0 ≤ j → j < r1.ms.length → (mbAt r1.ms 0).s ≤ (mbAt r1.ms j).s := by
    rw [e1]
    intro j _ hj
    have h0 : j = 0 := by simp at hj; omega
    subst h0
    exact Int.le_refl _
  have hf := fun W (hW : Below w1.heap.size w1 W) => rfind_yes r1 v1 0 W ((MIs.least hm1 (Nat.zero_le _)).below hW) (by rw [e1]; decide) (by rw [e1]; decide) (fun j hj => absurd hj (Nat.not_lt_zero _)) hle
  rw [e1] at hf
  replace hf : ∀ W, Below w1.heap.size w1 W → Calls Try.prog 43 #[r1.val v1, .int .i64 5] W fun e w' => e = .returned (.tuple #[.agg #[.int .i64 5, .int .u64 1, .int .i64 1], .bool true]) ∧ Below W.heap.size W w' := hf
  rw [e2] at hf
  rw [e2]
  have HF : Hid _ := hf
  have HB1 : Hid _ := hb1
  have HA : Hid (∀ o, Below w1.heap.size w1 (w1.alloc o)) := fun o => (Below.refl _ w1).alloc (Nat.le_refl _) o
  obtain ⟨ao, cp, rfl⟩ := own_slice hm1
  clear hf hb1 hm1 e2 hle e1
  go_wp2_with fail
  go_call (HF.out _ (HA.out _)) as e w2 ⟨rfl, hb2⟩
  obtain ⟨k1, k3⟩ : w2.heap[w1.heap.size]? = some (.cells #[.int .u64 1, .int .u64 1, .int .u64 0, .int .u64 1, .slice ao r1.ms.length cp] 72) ∧ Below w.heap.size w w2 :=
    ⟨(hb2.block _ (by simp)).trans (heap_new _ _), (HB1.out.alloc HB1.out.size _).trans (hb2.mono (by have := HB1.out.size; simp; omega))⟩
  have a1 : ∀ o, (w2.alloc o).cell? ⟨w1.heap.size, 1, none⟩ = some (.int .u64 1) := fun o => cell_of ((Below.heap_alloc _ _ _ (getElem?_lt k1)).trans k1) 1
  have K3 : Hid _ := k3
  clear hb2 k1 k3 HF
  have hq : ∀ w, (binOp .eql 85 (.agg #[.int .i64 5, .int .u64 1, .int .i64 1]) (.agg #[.int .i64 5, .int .u64 1, .int .i64 1])).run Try.prog w = .ok (.bool true) w := fun w => mb_eq 5 5 1 1 1 1 w
  generalize r1.ms.length = n1 at *
  go_wp2
  go_returns
  exact ⟨rfl, K3.out.alloc K3.out.size _⟩
/-- The roster to which k members were added, each ahead of all. -/
def rf : Nat → Ro
  | 0 => ⟨5, 0, 0, 0, []⟩
  | k + 1 => (rf k).add 0 (1000 - (k : Nat))
theorem rf_nums : ∀ k, (rf k).c = 5 ∧ (rf k).e = k ∧ (rf k).l = 0 ∧ (rf k).j = k ∧ (rf k).ms.length = k
  | 0 => ⟨rfl, rfl, rfl, rfl, rfl⟩
  | k + 1 => by
    obtain ⟨a, b, c, d, e⟩ := rf_nums k
    refine ⟨a, by show (rf k).e + 1 = _; rw [b], c, by show (rf k).j + 1 = _; rw [d], ?_⟩
    show ((rf k).add 0 (1000 - (k : Nat))).ms.length = k + 1
    rw [add_zero, List.length_cons, e]
theorem rf_at : ∀ k j, j < k → mbAt (rf k).ms j = ⟨1001 - (k : Nat) + (j : Nat), k - j, 1⟩
  | 0, j, h => by omega
  | k + 1, j, h => by
    obtain ⟨a, b, c, d, e⟩ := rf_nums k
    have e1 : (rf (k + 1)).ms = ⟨1000 - (k : Nat), (rf k).j + 1, 1⟩ :: (rf k).ms := add_zero _ _
    rw [e1]
    cases j with
    | zero => rw [mbAt_cons, d, Mb.mk.injEq]; exact ⟨by omega, by omega, rfl⟩
    | succ j => rw [mbAt_succ, rf_at k j (by omega), Mb.mk.injEq]; exact ⟨by omega, by omega, rfl⟩
theorem rf_ok (k : Nat) (hk : k ≤ 16) : (rf k).Ok := by
  obtain ⟨a, b, c, d, e⟩ := rf_nums k
  refine ⟨by omega, by omega, fun i hi => ?_, fun i q hiq hq => ?_⟩
  · rw [rf_at k i (by omega), d]
    exact ⟨by show (1 : Int) ≤ 1001 - (k : Nat) + (i : Nat); omega, by show 1001 - (k : Int) + (i : Nat) ≤ 1000; omega, by show k - i ≠ 0; omega, by show k - i ≤ k; omega, Or.inl rfl⟩
  · rw [rf_at k i (by omega), rf_at k q (by omega)]
    exact ⟨by show 1001 - (k : Int) + (i : Nat) < 1001 - (k : Int) + (q : Nat); omega, by show k - i ≠ k - q; omega⟩
/-- A roster lies in a block of its own. -/
structure RB (T : Nat) (w : World) (B : Nat) (r : Ro) (W : World) : Prop where
  bel : Below T w W
  bB : T ≤ B
  ex : ∃ v, W.heap[B]? = some (.cells (r.arr v) 72) ∧ MIs W T v r.ms
theorem RB.below {T : Nat} {w : World} {B : Nat} {r : Ro} {W W' : World} (h : RB T w B r W) (hb : Below W.heap.size W W') : RB T w B r W' := by
  obtain ⟨v, h1, h2⟩ := h.ex
  have := getElem?_lt h1
  have hT := h.bB
  exact ⟨h.bel.trans (hb.mono (by omega)), h.bB, v, (hb.block _ this).trans h1, h2.below hb⟩
set_option maxHeartbeats 4000000 in
set_option maxRecDepth 100000 in
theorem rfull_walk (n : Int) (fr : Bool) (w : World) : Calls Try.prog 7 #[.int .i64 n, .bool fr] w fun e w' => e = .returned (.bool true) ∧ Below w.heap.size w w' := by
  obtain ⟨N, hnE⟩ : ∃ N : Nat, N = (max 0 (min n 20)).toNat := ⟨_, rfl⟩
  have hN20 : N ≤ 20 := by omega
  have hN : max 0 (min n 20) = (N : Int) := by omega
  clear hnE
  go_enter Try.func7, Try.ntmps7
  go_wp2_with fail
  go_call (awake10 w) as e w1 ⟨rfl, hb1⟩
  have H0 : Hid (RB w.heap.size w w1.heap.size (rf 0) (w1.alloc (.cells #[.int .u64 5, .int .u64 0, .int .u64 0, .int .u64 0, .slice none 0 0] 72))) :=
    ⟨hb1.alloc hb1.size _, hb1.size, .slice none 0 0, heap_new _ _, World.ownsRow_nil _ _ _ _⟩
  clear hb1
  go_wp2
  have H0' : Hid (∃ W, W = w1.alloc (.cells #[.int .u64 5, .int .u64 0, .int .u64 0, .int .u64 0, .slice none 0 0] 72) ∧ RB w.heap.size w w1.heap.size (rf 0) W) := ⟨_, rfl, H0.out⟩
  clear H0
  generalize hB0 : w1.heap.size = B at *
  clear hB0
  go_loopw [18] (fun i wr => ∃ k : Nat, k ≤ N ∧ i = .int .i64 (k : Nat) ∧ Hid (RB w.heap.size w B (rf (min k 16)) wr)) (fun i _ => N - (intOf i).toNat)
  case atStart =>
    obtain ⟨W, rfl, h⟩ := H0'.out
    exact ⟨0, by omega, rfl, h⟩
  case round =>
    clear H0'
    obtain ⟨k, hk, rfl, HI⟩ := hrel
    obtain ⟨v, hB, hM⟩ := HI.out.ex
    have HBB : Hid (w.heap.size ≤ B) := HI.out.bB
    have HBL : Hid (Below w.heap.size w wr) := HI.out.bel
    obtain ⟨n1, n2, n3, n4, n5⟩ := rf_nums (min k 16)
    have hat := fun j hj => rf_at (min k 16) j hj
    have hok := rf_ok (min k 16) (by omega)
    rcases Nat.lt_or_ge k N with hkN | hkN
    · rcases Nat.lt_or_ge k 16 with hk16 | hk16
      · rw [Nat.min_eq_left (by omega)] at n1 n2 n3 n4 n5 hat hB hM hok HI
        have ha := radd_ok (rf k) v (1000 - (k : Nat)) 0 wr (MIs.least hM (Nat.zero_le _)) (by omega) (by omega) (by omega) (by omega) (by omega) (fun j hj => absurd hj (Nat.not_lt_zero _)) (fun j _ hj => by rw [hat j (by omega)]; show (1000 : Int) - (k : Nat) < 1001 - (k : Nat) + (j : Nat); omega)
        have hrf : (rf k).add 0 (1000 - (k : Nat)) = rf (k + 1) := rfl
        rw [hrf] at ha
        obtain ⟨r, hr⟩ : ∃ r, r = rf k := ⟨_, rfl⟩
        obtain ⟨r2, hr2⟩ : ∃ r2, r2 = rf (k + 1) := ⟨_, rfl⟩
        rw [← hr] at ha hB hM n1 n2 n3 n4 n5
        rw [← hr2] at ha
        have HR2 : Hid _ := hr2
        clear HI hat hok hrf hr hr2
        obtain ⟨ao, cp, rfl⟩ := own_slice hM
        have c0 := cell_of hB 0
        have c1 := cell_of hB 1
        have c2 := cell_of hB 2
        have c3 := cell_of hB 3
        have c4 := cell_of hB 4
        simp [Ro.arr] at c0 c1 c2 c3 c4
        unfold Ro.val Ro.arr at ha
        have HB5 : Hid _ := hB
        clear hB hM
        generalize hq0 : r.ms.length = q0 at *
        clear n1 n2 n3 n4 n5 hq0
        go_wp2_with fail
        go_call ha as e w2 ⟨v2, rfl, hm2, hb2⟩
        clear ha c0 c1 c2 c3 c4
        obtain ⟨ao2, cp2, rfl⟩ := own_slice hm2
        have kB : ∀ o, (w2.alloc o).heap[B]? = _ := fun o => (Below.heap_alloc _ _ _ (Nat.lt_of_lt_of_le (getElem?_lt HB5.out) hb2.size)).trans ((hb2.block _ (getElem?_lt HB5.out)).trans HB5.out)
        unfold Ro.arr at kB
        have d0 := fun o => cell_of (kB o) 0
        have d1 := fun o => cell_of (kB o) 1
        have d2 := fun o => cell_of (kB o) 2
        have d3 := fun o => cell_of (kB o) 3
        have d4 := fun o => cell_of (kB o) 4
        have g0 := fun o => frz_of (kB o) 0
        have g1 := fun o => frz_of (kB o) 1
        have g2 := fun o => frz_of (kB o) 2
        have g3 := fun o => frz_of (kB o) 3
        have g4 := fun o => frz_of (kB o) 4
        simp at d0 d1 d2 d3 d4
        have HBW : Hid (Below w.heap.size w w2) := HBL.out.trans (hb2.mono HBL.out.size)
        have HM2 : Hid (MIs w2 w.heap.size (.slice ao2 r2.ms.length cp2) r2.ms) := MIs.least hm2 HBL.out.size
        have HKB : Hid _ := kB
        clear kB hb2 hm2 HB5
        go_wp2
        go_roundw
        case rel =>
          refine ⟨k + 1, by omega, rfl, ?_⟩
          rw [Nat.min_eq_left (by omega), ← HR2.out]
          have hO := fun o => (((((Off.refl B B (w2.alloc o)).set (a := ⟨B, 0, none⟩) (by simp) (.int .u64 (r2.c : Nat))).set (a := ⟨B, 1, none⟩) (by simp) (.int .u64 (r2.e : Nat))).set (a := ⟨B, 2, none⟩) (by simp) (.int .u64 (r2.l : Nat))).set (a := ⟨B, 3, none⟩) (by simp) (.int .u64 (r2.j : Nat))).set (a := ⟨B, 4, none⟩) (by simp) (.slice ao2 r2.ms.length cp2)
          refine ⟨(hO _).below (HBW.out.alloc HBW.out.size _) HBB.out HBB.out, HBB.out, .slice ao2 r2.ms.length cp2, store5 (HKB.out _) _ _ _ _ _, ?_⟩
          exact MIs.off (MIs.below HM2.out ((Below.refl _ w2).alloc (Nat.le_refl _) _)) (hO _) (HKB.out _) (HKB.out _) (by decide) (by decide)
        case measure => simp only [intOf]; omega
      · rw [Nat.min_eq_right (by omega)] at n1 n2 n3 n4 n5 hat hB hM hok HI
        have ha := radd_full (rf 16) v (1000 - (k : Nat)) 0 wr (MIs.least hM (Nat.zero_le _)) (by omega) (by omega) (by omega) (by omega) (fun j hj => absurd hj (Nat.not_lt_zero _)) (fun j _ hj => by rw [hat j (by omega)]; show (1000 : Int) - (k : Nat) < 1001 - (16 : Nat) + (j : Nat); omega)
        obtain ⟨r, hr⟩ : ∃ r, r = rf 16 := ⟨_, rfl⟩
        rw [← hr] at ha hB hM n1 n2 n3 n4 n5 HI
        have HR : Hid _ := hr
        clear hat hok hr
        obtain ⟨ao, cp, rfl⟩ := own_slice hM
        have c0 := cell_of hB 0
        have c1 := cell_of hB 1
        have c2 := cell_of hB 2
        have c3 := cell_of hB 3
        have c4 := cell_of hB 4
        simp [Ro.arr] at c0 c1 c2 c3 c4
        unfold Ro.val Ro.arr at ha
        clear hB hM
        generalize hq0 : r.ms.length = q0 at *
        clear n1 n2 n3 n4 n5 hq0
        go_wp2_with fail
        go_call ha as e w2 ⟨rfl, hb2⟩
        clear ha c0 c1 c2 c3 c4
        have HI2 : ∀ o, Hid (RB w.heap.size w B r (w2.alloc o)) := fun o => (HI.out.below hb2).below ((Below.refl _ w2).alloc (Nat.le_refl _) o)
        have hkk : ¬ k < 16 := by omega
        clear hb2 HI
        go_wp2
        go_roundw
        case rel =>
          refine ⟨k + 1, by omega, rfl, ?_⟩
          rw [Nat.min_eq_right (by omega), ← HR.out]
          exact HI2 _
        case measure => simp only [intOf]; omega
    · obtain rfl : k = N := by omega
      obtain ⟨r, hr⟩ : ∃ r, r = rf (min k 16) := ⟨_, rfl⟩
      rw [← hr] at hB hM n1 n2 n3 n4 n5 HI hok
      clear hat hr
      have HOK : Hid _ := hok
      obtain ⟨M, hM16, hMk⟩ : ∃ M, M = min k 16 ∧ M ≤ 16 := ⟨_, rfl, by omega⟩
      have hmin : min (k : Int) 16 = (M : Int) := by omega
      rw [← hM16] at n2 n4 n5
      clear hM16
      have HMM : Hid _ := hM
      have HBW : Hid _ := hB
      obtain ⟨ao, cp, rfl⟩ := own_slice hM
      have c0 := cell_of hB 0
      have c1 := cell_of hB 1
      have c2 := cell_of hB 2
      have c3 := cell_of hB 3
      have c4 := cell_of hB 4
      simp [Ro.arr] at c0 c1 c2 c3 c4
      have hval : r.val (.slice ao r.ms.length cp) = .agg #[.int .u64 5, .int .u64 (M : Nat), .int .u64 0, .int .u64 (M : Nat), .slice ao M cp] := by unfold Ro.val Ro.arr; rw [n1, n2, n3, n4, n5]; rfl
      have hch := check_ok r (.slice ao r.ms.length cp) wr (MIs.least HMM.out (Nat.zero_le _)) hok
      have HMW : Hid (∀ W, Below wr.heap.size wr W → MIs W 0 (.slice ao r.ms.length cp) r.ms) := fun W hW => MIs.below (MIs.least HMM.out (Nat.zero_le _)) hW
      have hal := fun W hW => all_any r (.slice ao r.ms.length cp) W (HMW.out W hW) (by omega)
      have hfs := fun W hW => fresh_any r (.slice ao r.ms.length cp) W (HMW.out W hW) (by omega) (by omega) (by omega)
      have hpk := fun W hW => rpack_any r (.slice ao r.ms.length cp) W (HMW.out W hW) (by omega) (by omega) (by omega) (by omega) (by omega) (fun q hq => by have := hok.mem q hq; obtain ⟨a1, a2, a3, a4, a5⟩ := this; refine ⟨by omega, a2, by omega, ?_, ?_⟩ <;> (rcases a5 with e | e <;> omega))
      rw [hval] at hch hal hfs hpk
      have hlen : (rbytes r).length = 33 + 11 * M := by rw [rbytes_length, n5]
      have hfv : r.fresh.val (.slice none 0 0) = .agg #[.int .u64 6, .int .u64 ((M : Int) + 1), .int .u64 0, .int .u64 (M : Nat), .slice none 0 0] := by unfold Ro.fresh Ro.val Ro.arr; simp only [n1, n2, n3, n4]; rfl
      rw [hfv] at hfs
      have hf2 : r.fresh.c = 6 ∧ r.fresh.e = M + 1 ∧ r.fresh.l = 0 ∧ r.fresh.j = M ∧ r.fresh.ms = [] := ⟨by show r.c + 1 = 6; rw [n1], by show r.e + 1 = _; rw [n2], n3, n4, rfl⟩
      rw [n5] at hal
      have HAL : Hid _ := hal
      have HFS : Hid _ := hfs
      have HPK : Hid _ := hpk
      have HLN : Hid _ := hlen
      have HF2 : Hid _ := hf2
      clear hB hM hok hval hal hfs hpk hlen hfv hf2 HMW
      rw [show r.ms.length = M from n5] at c4
      rw [n1] at c0
      rw [n2] at c1
      rw [n3] at c2
      rw [n4] at c3
      have kW : wr.heap[B]? = some (.cells #[.int .u64 5, .int .u64 (M : Nat), .int .u64 0, .int .u64 (M : Nat), .slice ao M cp] 72) := by rw [HBW.out]; unfold Ro.arr; rw [n1, n2, n3, n4, n5]; rfl
      have KW : Hid _ := kW
      clear kW n1 n2 n3 n4 n5 HBW HMM HI HOK
      go_wp2_with fail
      go_call hch as e w2 ⟨rfl, hb2⟩
      clear hch c0 c1 c2 c3 c4
      have kW2 := (hb2.block _ (getElem?_lt KW.out)).trans KW.out
      have c0 := cell_of kW2 0
      have c1 := cell_of kW2 1
      have c2 := cell_of kW2 2
      have c3 := cell_of kW2 3
      have c4 := cell_of kW2 4
      simp at c0 c1 c2 c3 c4
      have hal := HAL.out w2 hb2
      have B2 : Hid _ := hb2
      have KW2 : Hid _ := kW2
      clear hb2 kW2 HAL KW
      go_wp2_with fail
      go_call hal as e w3 ⟨la, rfl, hla, hb3⟩
      clear hal c0 c1 c2 c3 c4
      obtain ⟨lao, lcp, rfl⟩ := own_slice hla
      have kW3 := (hb3.block _ (getElem?_lt KW2.out)).trans KW2.out
      have c0 := cell_of kW3 0
      have c1 := cell_of kW3 1
      have c2 := cell_of kW3 2
      have c3 := cell_of kW3 3
      have c4 := cell_of kW3 4
      have g0 := frz_of kW3 0
      have g1 := frz_of kW3 1
      have g2 := frz_of kW3 2
      have g3 := frz_of kW3 3
      have g4 := frz_of kW3 4
      simp at c0 c1 c2 c3 c4
      have B3 : Hid (Below wr.heap.size wr w3) := B2.out.trans (hb3.mono B2.out.size)
      have KW3 : Hid _ := kW3
      clear hb3 kW3 B2 KW2 hla
      have hwu : IntKind.u64.wrap (M : Int) = (M : Int) := by rw [IntKind.wrap_u64]; omega
      cases fr with
      | false =>
        have hpk := HPK.out w3 B3.out
        obtain ⟨sb, hsb⟩ : ∃ sb, sb = (⟨(rbytes r).toArray⟩ : ByteArray) := ⟨_, rfl⟩
        have hsz : (sb.size : Int) = 33 + 11 * (M : Int) := by
          rw [hsb]
          show (((rbytes r).toArray.size : Nat) : Int) = _
          rw [List.size_toArray, HLN.out]; omega
        rw [← hsb] at hpk
        clear HFS HPK hsb
        go_wp2_with fail
        go_call hpk as e w4 ⟨rfl, hb4⟩
        have HB4 : Hid (Below w.heap.size w w4) := (HBL.out.trans (B3.out.mono HBL.out.size)).trans (hb4.mono (by have := HBL.out.size; have := B3.out.size; omega))
        clear hpk hb4
        go_wp2
        go_returns
        exact ⟨rfl, HB4.out⟩
      | true =>
        have hfs := HFS.out w3 B3.out
        clear HFS HPK
        go_wp2_with fail
        go_call hfs as e w4 ⟨rfl, hb4⟩
        clear hfs c0 c1 c2 c3 c4 g0 g1 g2 g3 g4
        have kW4 := (hb4.block _ (getElem?_lt KW3.out)).trans KW3.out
        have c0 := cell_of kW4 0
        have c1 := cell_of kW4 1
        have c2 := cell_of kW4 2
        have c3 := cell_of kW4 3
        have c4 := cell_of kW4 4
        have g0 := frz_of kW4 0
        have g1 := frz_of kW4 1
        have g2 := frz_of kW4 2
        have g3 := frz_of kW4 3
        have g4 := frz_of kW4 4
        simp at c0 c1 c2 c3 c4
        have hO := (((((Off.refl B B w4).set (a := ⟨B, 0, none⟩) (by simp) (.int .u64 6)).set (a := ⟨B, 1, none⟩) (by simp) (.int .u64 ((M : Int) + 1))).set (a := ⟨B, 2, none⟩) (by simp) (.int .u64 0)).set (a := ⟨B, 3, none⟩) (by simp) (.int .u64 (M : Nat))).set (a := ⟨B, 4, none⟩) (by simp) (.slice none 0 0)
        have kW5 := store5 kW4 (.int .u64 6) (.int .u64 ((M : Int) + 1)) (.int .u64 0) (.int .u64 (M : Nat)) (.slice none 0 0)
        have hbw4 : Below w.heap.size w w4 := (HBL.out.trans (B3.out.mono HBL.out.size)).trans (hb4.mono (by have := HBL.out.size; have := B3.out.size; omega))
        have hbw5 := hO.below hbw4 HBB.out HBB.out
        have HF5 : Hid (∃ W, W = ((((w4.setCell ⟨B, 0, none⟩ (.int .u64 6)).setCell ⟨B, 1, none⟩ (.int .u64 ((M : Int) + 1))).setCell ⟨B, 2, none⟩ (.int .u64 0)).setCell ⟨B, 3, none⟩ (.int .u64 (M : Nat))).setCell ⟨B, 4, none⟩ (.slice none 0 0) ∧ W.heap[B]? = some (.cells #[.int .u64 6, .int .u64 ((M : Int) + 1), .int .u64 0, .int .u64 (M : Nat), .slice none 0 0] 72) ∧ Below w.heap.size w W) := ⟨_, rfl, kW5, hbw5⟩
        obtain ⟨f1, f2, f3, f4, f5⟩ := HF2.out
        have ha := fun W => radd_ok r.fresh (.slice none 0 0) 7 0 W (by rw [f5]; exact World.ownsRow_nil _ _ _ _) (by rw [f5]; decide) (by rw [f2]; omega) (by rw [f4]; omega) (by decide) (by rw [f5]; decide) (fun j hj => absurd hj (Nat.not_lt_zero _)) (fun j _ hj => by rw [f5] at hj; exact absurd hj (Nat.not_lt_zero _))
        have hav : ∀ v, (r.fresh.add 0 7).val v = .agg #[.int .u64 6, .int .u64 ((M : Int) + 1 + 1), .int .u64 0, .int .u64 ((M : Int) + 1), v] := fun v => by
          unfold Ro.val Ro.arr Ro.add
          simp only [f1, f2, f3, f4]
          rfl
        have hal : (r.fresh.add 0 7).ms.length = 1 := by rw [add_zero, f5]; rfl
        have hfv : r.fresh.val (.slice none 0 0) = .agg #[.int .u64 6, .int .u64 ((M : Int) + 1), .int .u64 0, .int .u64 (M : Nat), .slice none 0 0] := by unfold Ro.val Ro.arr; simp only [f1, f2, f3, f4]; rfl
        simp only [hfv, hav] at ha
        have HA : Hid _ := ha
        have HLEN : Hid _ := hal
        clear hb4 kW4 hO kW5 hbw4 hbw5 ha hav hal hfv f1 f2 f3 f4 f5 HF2 KW3 B3
        go_wp2_with fail
        go_call (HA.out _) as e w6 ⟨v6, rfl, hm6, hb6⟩
        clear HA c0 c1 c2 c3 c4 g0 g1 g2 g3 g4
        obtain ⟨W5, hW5, k5, b5⟩ := HF5.out
        rw [← hW5] at hb6
        have k6 := (hb6.block _ (getElem?_lt k5)).trans k5
        have b6 : Below w.heap.size w w6 := b5.trans (hb6.mono b5.size)
        obtain ⟨ao6, cp6, rfl⟩ := own_slice hm6
        rw [HLEN.out]
        have c0 : ∀ o, (w6.alloc o).cell? ⟨B, 0, none⟩ = some (.int .u64 6) := fun o => cell_of ((Below.heap_alloc _ _ _ (getElem?_lt k6)).trans k6) 0
        have c3 : ∀ o, (w6.alloc o).cell? ⟨B, 3, none⟩ = some (.int .u64 (M : Nat)) := fun o => cell_of ((Below.heap_alloc _ _ _ (getElem?_lt k6)).trans k6) 3
        have HB6 : ∀ o, Hid (Below w.heap.size w (w6.alloc o)) := fun o => b6.alloc b6.size o
        have hM1 : IntKind.u64.wrap ((M : Int) + 1) = (M : Int) + 1 := by rw [IntKind.wrap_u64]; omega
        clear hW5 k5 b5 k6 b6 hb6 hm6 HF5
        go_wp2
        go_returns
        exact ⟨rfl, (HB6 _).out⟩
end Go.Proofs.Ytknmipbjkkeebaa
