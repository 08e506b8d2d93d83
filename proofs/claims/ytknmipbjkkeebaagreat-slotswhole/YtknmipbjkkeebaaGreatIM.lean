/- Write of slots, over any medium that does it, as a call. -/
import Derived.Test.YtknmipbjkkeebaaGreatIL
namespace Go.Proofs.YtknmipbjkkeebaaGreat
open Go.RowKit
theorem sp_ok (x : ByteArray) (hx : x.size ≤ 640) (q : Nat) (h0 : q ≠ 0) (h1 : q < 18446744073709551616) (j : Nat) (hj : j < spT x.size) : (spP x q j).Ok :=
  ⟨h0, h1, hj, spT_le _ hx, by show (x.extract _ _).size ≤ 40; rw [ByteArray.size_extract]; omega⟩
theorem gk_lt (g : Nat → Pg) (t j : Nat) (h : j < t) : gk g t j = g j := if_pos h
/-- The sectors of a text. -/
def wrL (x : ByteArray) (q : Nat) : ByteArray := O.tx (secsL (gk (spP x q) (spT x.size)) (spT x.size))
theorem wr_call (x : ByteArray) (hx : x.size ≤ 640) (q : Nat) (h0 : q ≠ 0) (h1 : q < 18446744073709551616) (w : World) : Calls Tryz.prog 41 #[.agg (parr (gk (spP x q) (spT x.size)))] w fun e w' => e = .returned (.string (wrL x q)) ∧ Below w.heap.size w w' :=
  sectors_any _ (spT x.size) (by rw [gk_lt _ _ _ (spT_pos _)]; rfl) (spT_le _ hx) (fun j hj => by rw [gk_lt _ _ _ hj]; exact sp_ok x hx q h0 h1 j hj) w
def WrV4 (S ot q : Nat) (s : Sl) : Nat → Value → Prop
  | 0, v => v = .pointer (some ⟨S, 0, none⟩)
  | 1, v => v = .int .i64 (ot : Nat)
  | 2, v => v = .pointer (some ⟨S, 0, none⟩)
  | 3, v => v = .pointer (some ⟨S, 0, none⟩)
  | 4, v => v = .pointer (some ⟨S, 3, none⟩)
  | 5, v => v = .int .u64 (s.most : Nat)
  | 6, v => v = .int .u64 (q : Nat)
  | 7, v => v = .int .i64 (ot : Nat)
  | 8, v => v = .int .u64 (q : Nat)
  | _, _ => True
def WrV5 (S M ot q : Nat) (x y : ByteArray) (pa : Array Value) : Nat → Value → Prop
  | 0, v => v = .pointer (some ⟨S, 0, none⟩)
  | 1, v => v = .pointer (some ⟨S, 0, none⟩)
  | 2, v => v = .pointer (some ⟨S, 0, none⟩)
  | 3, v => v = .pointer (some ⟨M, 0, none⟩)
  | 4, v => v = .int .i64 (ot : Nat)
  | 5, v => v = .int .i64 ((ot * 16 : Nat) : Int)
  | 6, v => v = .string x
  | 7, v => v = .int .u64 (q : Nat)
  | 8, v => v = .agg pa
  | 9, v => v = .string y
  | _, _ => True
set_option maxHeartbeats 4000000 in
set_option maxRecDepth 100000 in
theorem swrite_any (s : Sl) (hs : s.slot ≤ 1) (hm : s.most < 18446744073709551615) (S M : Nat) (x : ByteArray) (hx : x.size ≤ 640) (R : Nat → World → Prop) (w : World)
    (hR : ∀ k W W', R k W → Below W.heap.size W W' → R k W') (hS : ∀ k W, R k W → W.heap[S]? = some (.cells (Sl.cs { s with unsure := false } M) 72))
    (hsure : Calls Tryz.prog 37 #[.pointer (some ⟨S, 0, none⟩)] w fun e w' => e = .returned (.tuple #[]) ∧ R 0 w')
    (hwr : ∀ W, R 0 W → Calls Tryz.prog 39 #[.pointer (some ⟨M, 0, none⟩), .int .i64 ((s.other * 16 : Nat) : Int), .string (wrL x (s.most + 1))] W fun e W' => e = .returned (.tuple #[]) ∧ R 1 W')
    (hfl : ∀ W, R 1 W → Calls Tryz.prog 42 #[.pointer (some ⟨M, 0, none⟩)] W fun e W' => e = .returned (.tuple #[]) ∧ R 2 W') :
    Calls Tryz.prog 14 #[.pointer (some ⟨S, 0, none⟩), .string x] w fun e w' => e = .returned (.int .i64 0) ∧ ∃ w2, R 2 w2 ∧ SB S M ⟨s.other, s.most + 1, s.most + 1, false⟩ w2 w' := by
  have HR : Hid _ := hR
  have HS : Hid _ := hS
  have HWR : Hid _ := hwr
  have HFL : Hid _ := hfl
  have HOT : Hid (∀ W, W.heap[S]? = some (.cells (Sl.cs { s with unsure := false } M) 72) → Calls Tryz.prog 38 #[.pointer (some ⟨S, 0, none⟩)] W fun e w' => e = .returned (.int .i64 (s.other : Nat)) ∧ w' = W) := fun W h => other_any { s with unsure := false } hs S M W h
  have ho1 : s.other ≤ 1 := by unfold Sl.other; split <;> omega
  obtain ⟨ot, hot⟩ : ∃ ot, ot = s.other := ⟨_, rfl⟩
  obtain ⟨q, hq⟩ : ∃ q, q = s.most + 1 := ⟨_, rfl⟩
  have HQ : Hid _ := hq
  rw [← hot] at ho1 HWR HOT ⊢
  rw [← hq] at HWR ⊢
  have HSP : Hid (∀ W, Calls Tryz.prog 40 #[.string x, .int .u64 (q : Nat)] W fun e w' => e = .returned (.agg (parr (gk (spP x q) (spT x.size)))) ∧ Below W.heap.size W w') := fun W => split_any x hx q W
  have HSE : Hid (∀ W, Calls Tryz.prog 41 #[.agg (parr (gk (spP x q) (spT x.size)))] W fun e w' => e = .returned (.string (wrL x q)) ∧ Below W.heap.size W w') := fun W => wr_call x hx q (by omega) (by omega) W
  generalize parr (gk (spP x q) (spT x.size)) = pa at *
  generalize wrL x q = y at *
  have hq1 : q ≤ 18446744073709551615 := by omega
  clear hR hS hwr hfl hot hq
  go_enter Tryz.func14, Tryz.ntmps14
  go_wp2_with fail
  go_call hsure as e w1 ⟨rfl, hr1⟩
  have R1 : Hid _ := hr1
  clear hsure hr1
  go_wp2
  refine F.wp_region_pb (fun f => ⟨#[.pointer (some ⟨S, 0, none⟩), .string x, undef, undef, .int .i64 0, f 7, f 8, .string x, .int .i64 (x.size : Int), .bool (decide (640 < (x.size : Int))), .pointer (some ⟨S, 0, none⟩), .tuple #[], f 0, f 1, f 2, f 3, f 4, f 5, f 6, undef, undef, undef, undef, undef, undef, undef, undef, undef, undef, undef, undef, undef, undef, undef, undef, undef, undef, undef, undef, undef, undef, undef, undef, undef, undef, undef, undef], []⟩) (WrV4 S ot q s) (fun _ _ W => R 0 W) (fun i => [undef, undef, undef, undef, undef, undef, undef, undef, undef].getD i undef) (by kernel_rfl) rfl rfl ?hI4 ?hput4 ?step4 ?fin4
  case hI4 => exact HR.out 0 _ _ R1.out (Below.refl _ _).drew
  case fin4 =>
    intro f w2 hP hV
    have u0 : f 0 = .pointer (some ⟨S, 0, none⟩) := hV 0 (by decide)
    have u1 : f 1 = .int .i64 (ot : Nat) := hV 1 (by decide)
    have u2 : f 2 = .pointer (some ⟨S, 0, none⟩) := hV 2 (by decide)
    have u3 : f 3 = .pointer (some ⟨S, 0, none⟩) := hV 3 (by decide)
    have u4 : f 4 = .pointer (some ⟨S, 3, none⟩) := hV 4 (by decide)
    have u5 : f 5 = .int .u64 (s.most : Nat) := hV 5 (by decide)
    have u6 : f 6 = .int .u64 (q : Nat) := hV 6 (by decide)
    have u7 : f 7 = .int .i64 (ot : Nat) := hV 7 (by decide)
    have u8 : f 8 = .int .u64 (q : Nat) := hV 8 (by decide)
    clear hV
    generalize f 0 = x0 at *
    subst u0
    generalize f 1 = x1 at *
    subst u1
    generalize f 2 = x2 at *
    subst u2
    generalize f 3 = x3 at *
    subst u3
    generalize f 4 = x4 at *
    subst u4
    generalize f 5 = x5 at *
    subst u5
    generalize f 6 = x6 at *
    subst u6
    generalize f 7 = x7 at *
    subst u7
    generalize f 8 = x8 at *
    subst u8
    have R2 : Hid (R 0 w2) := hP
    clear hP f R1
    go_wp2
    refine F.wp_region_pb (fun f => ⟨#[.pointer (some ⟨S, 0, none⟩), .string x, undef, undef, .int .i64 0, .int .i64 (ot : Int), .int .u64 (q : Int), .string x, .int .i64 (x.size : Int), .bool (decide (640 < (x.size : Int))), .pointer (some ⟨S, 0, none⟩), .tuple #[], .pointer (some ⟨S, 0, none⟩), .int .i64 (ot : Int), .pointer (some ⟨S, 0, none⟩), .pointer (some ⟨S, 0, none⟩), .pointer (some ⟨S, 3, none⟩), .int .u64 (s.most : Int), .int .u64 (q : Int), f 0, f 1, f 2, f 3, f 4, f 5, f 6, f 7, f 8, f 9, f 10, undef, undef, undef, undef, undef, undef, undef, undef, undef, undef, undef, undef, undef, undef, undef, undef, undef], []⟩) (WrV5 S M ot q x y pa) (fun done _ W => ((done 10 = false → R 0 W) ∧ (done 10 = true → R 1 W))) (fun i => [undef, undef, undef, undef, undef, undef, undef, undef, undef, undef, undef].getD i undef) (by kernel_rfl) rfl rfl ?hI5 ?hput5 ?step5 ?fin5
    case hI5 => exact ⟨fun _ => HR.out 0 _ _ R2.out (Below.refl _ _).drew, (fun e => by cases e)⟩
    case fin5 =>
      intro f w3 hP hV
      have u0 : f 0 = .pointer (some ⟨S, 0, none⟩) := hV 0 (by decide)
      have u1 : f 1 = .pointer (some ⟨S, 0, none⟩) := hV 1 (by decide)
      have u2 : f 2 = .pointer (some ⟨S, 0, none⟩) := hV 2 (by decide)
      have u3 : f 3 = .pointer (some ⟨M, 0, none⟩) := hV 3 (by decide)
      have u4 : f 4 = .int .i64 (ot : Nat) := hV 4 (by decide)
      have u5 : f 5 = .int .i64 ((ot * 16 : Nat) : Int) := hV 5 (by decide)
      have u6 : f 6 = .string x := hV 6 (by decide)
      have u7 : f 7 = .int .u64 (q : Nat) := hV 7 (by decide)
      have u8 : f 8 = .agg pa := hV 8 (by decide)
      have u9 : f 9 = .string y := hV 9 (by decide)
      clear hV
      generalize f 0 = x0 at *
      subst u0
      generalize f 1 = x1 at *
      subst u1
      generalize f 2 = x2 at *
      subst u2
      generalize f 3 = x3 at *
      subst u3
      generalize f 4 = x4 at *
      subst u4
      generalize f 5 = x5 at *
      subst u5
      generalize f 6 = x6 at *
      subst u6
      generalize f 7 = x7 at *
      subst u7
      generalize f 8 = x8 at *
      subst u8
      generalize f 9 = x9 at *
      subst u9
      generalize f 10 = x10 at *
      have R3 : Hid (R 1 w3) := hP.2 rfl
      clear hP f R2 HSP HSE HWR HOT
      have c0 : w3.cell? ⟨S, 0, none⟩ = some (.pointer (some ⟨M, 0, none⟩)) := F.cell_of (HS.out 1 w3 R3.out) 0
      go_wp2_with fail
      go_call (HFL.out w3 R3.out) as e w4 ⟨rfl, hr4⟩
      have R4 : Hid _ := hr4
      have hb4 := HS.out 2 w4 hr4
      have g1 := F.cell_of hb4 1
      have g2 := F.cell_of hb4 2
      have g3 := F.cell_of hb4 3
      have k1 := F.frz_of hb4 1
      have k2 := F.frz_of hb4 2
      have k3 := F.frz_of hb4 3
      replace g1 : w4.cell? ⟨S, 1, none⟩ = some (.int .i64 (s.slot : Nat)) := g1
      replace g2 : w4.cell? ⟨S, 2, none⟩ = some (.int .u64 (s.seq : Nat)) := g2
      replace g3 : w4.cell? ⟨S, 3, none⟩ = some (.int .u64 (s.most : Nat)) := g3
      have E4 : Hid (SB S M ⟨ot, q, q, false⟩ w4 (((w4.setCell ⟨S, 1, none⟩ (.int .i64 (ot : Nat))).setCell ⟨S, 2, none⟩ (.int .u64 (q : Nat))).setCell ⟨S, 3, none⟩ (.int .u64 (q : Nat)))) :=
        ((SB.set (s := { s with unsure := false }) (s' := ⟨ot, s.seq, s.most, false⟩) ⟨KS.refl _ _, hb4⟩ 1 _ rfl).set (s' := ⟨ot, q, s.most, false⟩) 2 _ rfl).set 3 _ rfl
      clear hr4 hb4 c0 R3
      go_wp2
      go_returns
      exact ⟨rfl, w4, R4.out, E4.out⟩
    case hput5 =>
      repeat (refine ⟨fun f v => rfl, ?_⟩)
      trivial
    case step5 =>
      refine ⟨?_, ?_⟩
      · intro done f W hP hdn hd K hK
        clear hd
        replace hP : ((done 10 = false → R 0 W) ∧ (done 10 = true → R 1 W)) := hP
        go_simp
        exact hK _ _ rfl ⟨hP.1, hP.2⟩
      refine ⟨?_, ?_⟩
      · intro done f W hP hdn hd K hK
        have d0 := (hd.1 rfl).2
        have e0 : done 0 = true := (hd.1 rfl).1
        clear hd
        replace d0 : f 0 = .pointer (some ⟨S, 0, none⟩) := d0
        replace hP : ((done 10 = false → R 0 W) ∧ (done 10 = true → R 1 W)) := hP
        generalize f 0 = x0 at *
        subst d0
        clear e0
        go_simp
        exact hK _ _ rfl ⟨hP.1, hP.2⟩
      refine ⟨?_, ?_⟩
      · intro done f W hP hdn hd K hK
        have d1 := (hd.1 rfl).2
        have e1 : done 1 = true := (hd.1 rfl).1
        clear hd
        replace d1 : f 1 = .pointer (some ⟨S, 0, none⟩) := d1
        replace hP : ((done 10 = false → R 0 W) ∧ (done 10 = true → R 1 W)) := hP
        generalize f 1 = x1 at *
        subst d1
        clear e1
        go_simp
        exact hK _ _ rfl ⟨hP.1, hP.2⟩
      refine ⟨?_, ?_⟩
      · intro done f W hP hdn hd K hK
        have d2 := (hd.1 rfl).2
        have e2 : done 2 = true := (hd.1 rfl).1
        clear hd
        replace d2 : f 2 = .pointer (some ⟨S, 0, none⟩) := d2
        replace hP : ((done 10 = false → R 0 W) ∧ (done 10 = true → R 1 W)) := hP
        generalize f 2 = x2 at *
        subst d2
        clear e2
        have hb : W.heap[S]? = some (.cells (Sl.cs { s with unsure := false } M) 72) := by
          cases hd10 : done 10 with
          | false => exact HS.out 0 W (hP.1 hd10)
          | true => exact HS.out 1 W (hP.2 hd10)
        have c := F.cell_of hb 0
        replace c : W.cell? ⟨S, 0, none⟩ = some (.pointer (some ⟨M, 0, none⟩)) := c
        go_simp
        exact hK _ _ rfl ⟨hP.1, hP.2⟩
      refine ⟨?_, ?_⟩
      · intro done f W hP hdn hd K hK
        clear hd
        replace hP : ((done 10 = false → R 0 W) ∧ (done 10 = true → R 1 W)) := hP
        go_simp
        exact hK _ _ rfl ⟨hP.1, hP.2⟩
      refine ⟨?_, ?_⟩
      · intro done f W hP hdn hd K hK
        have d4 := (hd.1 rfl).2
        have e4 : done 4 = true := (hd.1 rfl).1
        clear hd
        replace d4 : f 4 = .int .i64 (ot : Nat) := d4
        replace hP : ((done 10 = false → R 0 W) ∧ (done 10 = true → R 1 W)) := hP
        generalize f 4 = x4 at *
        subst d4
        clear e4
        go_simp
        exact hK _ _ (by first | rfl | (show Value.int .i64 _ = Value.int .i64 _; congr 1; rw [IntKind.wrap_i64]; omega)) ⟨hP.1, hP.2⟩
      refine ⟨?_, ?_⟩
      · intro done f W hP hdn hd K hK
        clear hd
        replace hP : ((done 10 = false → R 0 W) ∧ (done 10 = true → R 1 W)) := hP
        go_simp
        exact hK _ _ rfl ⟨hP.1, hP.2⟩
      refine ⟨?_, ?_⟩
      · intro done f W hP hdn hd K hK
        clear hd
        replace hP : ((done 10 = false → R 0 W) ∧ (done 10 = true → R 1 W)) := hP
        go_simp
        exact hK _ _ rfl ⟨hP.1, hP.2⟩
      refine ⟨?_, ?_⟩
      · intro done f W hP hdn hd K hK
        have d6 := (hd.1 rfl).2
        have e6 : done 6 = true := (hd.1 rfl).1
        have d7 := (hd.2.1 rfl).2
        have e7 : done 7 = true := (hd.2.1 rfl).1
        clear hd
        replace d6 : f 6 = .string x := d6
        replace d7 : f 7 = .int .u64 (q : Nat) := d7
        replace hP : ((done 10 = false → R 0 W) ∧ (done 10 = true → R 1 W)) := hP
        generalize f 6 = x6 at *
        subst d6
        clear e6
        generalize f 7 = x7 at *
        subst d7
        clear e7
        go_simp
        refine (HSP.out W).mono ?_
        rintro e W' ⟨rfl, hb⟩
        exact hK _ _ rfl ⟨fun e => HR.out 0 W W' (hP.1 e) hb, fun e => HR.out 1 W W' (hP.2 e) hb⟩
      refine ⟨?_, ?_⟩
      · intro done f W hP hdn hd K hK
        have d8 := (hd.1 rfl).2
        have e8 : done 8 = true := (hd.1 rfl).1
        clear hd
        replace d8 : f 8 = .agg pa := d8
        replace hP : ((done 10 = false → R 0 W) ∧ (done 10 = true → R 1 W)) := hP
        generalize f 8 = x8 at *
        subst d8
        clear e8
        go_simp
        refine (HSE.out W).mono ?_
        rintro e W' ⟨rfl, hb⟩
        exact hK _ _ rfl ⟨fun e => HR.out 0 W W' (hP.1 e) hb, fun e => HR.out 1 W W' (hP.2 e) hb⟩
      refine ⟨?_, ?_⟩
      · intro done f W hP hdn hd K hK
        have d3 := (hd.1 rfl).2
        have e3 : done 3 = true := (hd.1 rfl).1
        have d5 := (hd.2.1 rfl).2
        have e5 : done 5 = true := (hd.2.1 rfl).1
        have d9 := (hd.2.2.1 rfl).2
        have e9 : done 9 = true := (hd.2.2.1 rfl).1
        clear hd
        replace d3 : f 3 = .pointer (some ⟨M, 0, none⟩) := d3
        replace d5 : f 5 = .int .i64 ((ot * 16 : Nat) : Int) := d5
        replace d9 : f 9 = .string y := d9
        replace hP : ((done 10 = false → R 0 W) ∧ (done 10 = true → R 1 W)) := hP
        generalize f 3 = x3 at *
        subst d3
        clear e3
        generalize f 5 = x5 at *
        subst d5
        clear e5
        generalize f 9 = x9 at *
        subst d9
        clear e9
        have hdn10 : done 10 = false := hdn
        go_simp
        refine (HWR.out W (hP.1 hdn10)).mono ?_
        rintro e W' ⟨rfl, hr⟩
        exact hK _ _ trivial ⟨(fun e => by cases e), fun _ => hr⟩
      trivial
  case hput4 =>
    repeat (refine ⟨fun f v => rfl, ?_⟩)
    trivial
  case step4 =>
    refine ⟨?_, ?_⟩
    · intro done f W hP hdn hd K hK
      clear hd
      replace hP : R 0 W := hP
      go_simp
      exact hK _ _ rfl hP
    refine ⟨?_, ?_⟩
    · intro done f W hP hdn hd K hK
      have d0 := (hd.1 rfl).2
      have e0 : done 0 = true := (hd.1 rfl).1
      clear hd
      replace d0 : f 0 = .pointer (some ⟨S, 0, none⟩) := d0
      replace hP : R 0 W := hP
      generalize f 0 = x0 at *
      subst d0
      clear e0
      go_simp
      refine (HOT.out W (HS.out 0 W hP)).mono ?_
      rintro e W' ⟨rfl, rfl⟩
      exact hK _ _ rfl hP
    refine ⟨?_, ?_⟩
    · intro done f W hP hdn hd K hK
      clear hd
      replace hP : R 0 W := hP
      go_simp
      exact hK _ _ rfl hP
    refine ⟨?_, ?_⟩
    · intro done f W hP hdn hd K hK
      have d2 := (hd.1 rfl).2
      have e2 : done 2 = true := (hd.1 rfl).1
      clear hd
      replace d2 : f 2 = .pointer (some ⟨S, 0, none⟩) := d2
      replace hP : R 0 W := hP
      generalize f 2 = x2 at *
      subst d2
      clear e2
      go_simp
      exact hK _ _ rfl hP
    refine ⟨?_, ?_⟩
    · intro done f W hP hdn hd K hK
      have d3 := (hd.1 rfl).2
      have e3 : done 3 = true := (hd.1 rfl).1
      clear hd
      replace d3 : f 3 = .pointer (some ⟨S, 0, none⟩) := d3
      replace hP : R 0 W := hP
      generalize f 3 = x3 at *
      subst d3
      clear e3
      go_simp
      exact hK _ _ rfl hP
    refine ⟨?_, ?_⟩
    · intro done f W hP hdn hd K hK
      have d4 := (hd.1 rfl).2
      have e4 : done 4 = true := (hd.1 rfl).1
      clear hd
      replace d4 : f 4 = .pointer (some ⟨S, 3, none⟩) := d4
      replace hP : R 0 W := hP
      generalize f 4 = x4 at *
      subst d4
      clear e4
      have c := F.cell_of (HS.out 0 W hP) 3
      replace c : W.cell? ⟨S, 3, none⟩ = some (.int .u64 (s.most : Nat)) := c
      go_simp
      exact hK _ _ rfl hP
    refine ⟨?_, ?_⟩
    · intro done f W hP hdn hd K hK
      have d5 := (hd.1 rfl).2
      have e5 : done 5 = true := (hd.1 rfl).1
      clear hd
      replace d5 : f 5 = .int .u64 (s.most : Nat) := d5
      replace hP : R 0 W := hP
      generalize f 5 = x5 at *
      subst d5
      clear e5
      have hwp : IntKind.u64.wrap (((s.most : Nat) : Int) + 1) = ((q : Nat) : Int) := by have := HQ.out; rw [IntKind.wrap_u64]; omega
      go_simp
      exact hK _ _ (by first | rfl | (show Value.int .u64 _ = _; rw [hwp]) | (show Value.int .u64 _ = _; rw [HQ.out]; rfl)) hP
    refine ⟨?_, ?_⟩
    · intro done f W hP hdn hd K hK
      have d1 := (hd.1 rfl).2
      have e1 : done 1 = true := (hd.1 rfl).1
      clear hd
      replace d1 : f 1 = .int .i64 (ot : Nat) := d1
      replace hP : R 0 W := hP
      generalize f 1 = x1 at *
      subst d1
      clear e1
      go_simp
      exact hK _ _ rfl hP
    refine ⟨?_, ?_⟩
    · intro done f W hP hdn hd K hK
      have d6 := (hd.1 rfl).2
      have e6 : done 6 = true := (hd.1 rfl).1
      clear hd
      replace d6 : f 6 = .int .u64 (q : Nat) := d6
      replace hP : R 0 W := hP
      generalize f 6 = x6 at *
      subst d6
      clear e6
      go_simp
      exact hK _ _ rfl hP
    trivial
end Go.Proofs.YtknmipbjkkeebaaGreat
