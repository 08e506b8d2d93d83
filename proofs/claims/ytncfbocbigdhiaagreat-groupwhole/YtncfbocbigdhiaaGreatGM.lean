/- Read of a segment, over any medium that does it, as a call. -/
import Derived.Test.YtncfbocbigdhiaaGreatGL
namespace Go.Proofs.YtncfbocbigdhiaaGreat
open Go.RowKit
open Classical in
/-- The payload whose sectors these are; none: they aren't. -/
noncomputable def rdp (y : ByteArray) (k : Nat) : ByteArray := if ∀ i, i < k → Mk y i then O.tx (payL y k) else ⟨#[]⟩
theorem payof_rdp (y : ByteArray) (k : Nat) (hn : y.size = 64 * k) (hk : k ≤ 100) (w : World) : Calls Tryz.prog 100 #[.string y] w fun e w' => e = .returned (.string (rdp y k)) ∧ Below w.heap.size w w' := by
  refine (payof_any y k hn hk w).mono ?_
  rintro e w' ⟨(⟨h, rfl⟩ | ⟨⟨i, hi, h⟩, rfl⟩), hb⟩
  · unfold rdp; rw [if_pos h]; exact ⟨rfl, hb⟩
  · unfold rdp; rw [if_neg (fun q => h (q i hi))]; exact ⟨rfl, hb⟩
def V60 (Sb M b t k : Nat) (y z : ByteArray) : Nat → Value → Prop
  | 0, v => v = .pointer (some ⟨Sb, 0, none⟩)
  | 1, v => v = .pointer (some ⟨Sb, 0, none⟩)
  | 2, v => v = .pointer (some ⟨Sb, 0, none⟩)
  | 3, v => v = .pointer (some ⟨M, 0, none⟩)
  | 4, v => v = .pointer (some ⟨Sb, 0, none⟩)
  | 5, v => v = .pointer (some ⟨Sb, 0, none⟩)
  | 6, v => v = .pointer (some ⟨Sb, 4, none⟩)
  | 7, v => v = .int .i64 (b : Nat)
  | 8, v => v = .int .i64 (t : Nat)
  | 9, v => v = .int .i64 ((b + t : Nat) : Int)
  | 10, v => v = .int .i64 ((b + t + 1 : Nat) : Int)
  | 11, v => v = .int .i64 (k : Nat)
  | 12, v => v = .string y
  | 13, v => v = .string z
  | 14, v => v = .string z
  | _, _ => True
set_option maxHeartbeats 2000000 in
set_option maxRecDepth 100000 in
theorem sread_any (s : Sg) (hs : s.b ≤ 10000 ∧ s.p ≤ 64) (Sb : Nat) (t k : Nat) (ht : 1 ≤ t) (hk : 1 ≤ k) (hr : t + k < s.p) (y : ByteArray) (hy : y.size = 64 * k) (X0 X1 : World → Prop) (w : World)
    (h0 : X0 w) (hB0 : ∀ W W', X0 W → Below W.heap.size W W' → X0 W') (hB1 : ∀ W W', X1 W → Below W.heap.size W W' → X1 W') (hS0 : ∀ W, X0 W → W.heap[Sb]? = some (.cells s.cs 44)) (hS1 : ∀ W, X1 W → W.heap[Sb]? = some (.cells s.cs 44))
    (hrd : ∀ W, X0 W → Calls Tryz.prog 101 #[.pointer (some ⟨s.M, 0, none⟩), .int .i64 ((s.b + t + 1 : Nat) : Int), .int .i64 (k : Nat)] W fun e W' => e = .returned (.string y) ∧ X1 W') :
    Calls Tryz.prog 60 #[.pointer (some ⟨Sb, 0, none⟩), .int .i64 (t : Nat), .int .i64 (k : Nat)] w fun e w' => e = .returned (.string (rdp y k)) ∧ X1 w' := by
  obtain ⟨M, c, j, n, b, p, a⟩ := s
  have hb1 : b ≤ 10000 := hs.1
  have hp1 : p ≤ 64 := hs.2
  have hr1 : t + k < p := hr
  have HPO : Hid (∀ W, Calls Tryz.prog 100 #[.string y] W fun e w' => e = .returned (.string (rdp y k)) ∧ Below W.heap.size W w') := fun W => payof_rdp y k hy (by omega) W
  have H0 : Hid _ := h0
  have HB0 : Hid _ := hB0
  have HB1 : Hid _ := hB1
  have HS0 : Hid (∀ W, X0 W → W.heap[Sb]? = some (.cells (Sg.mk M c j n b p a).cs 44)) := hS0
  have HS1 : Hid (∀ W, X1 W → W.heap[Sb]? = some (.cells (Sg.mk M c j n b p a).cs 44)) := hS1
  have HRD : Hid (∀ W, X0 W → Calls Tryz.prog 101 #[.pointer (some ⟨M, 0, none⟩), .int .i64 ((b + t + 1 : Nat) : Int), .int .i64 (k : Nat)] W fun e W' => e = .returned (.string y) ∧ X1 W') := hrd
  have hbx := hS0 w h0
  have c5 : w.cell? ⟨Sb, 5, none⟩ = some (.int .i64 (p : Nat)) := F.cell_of hbx 5
  have ht1 : ¬ (t : Int) < 1 := by omega
  have hk1 : ¬ (k : Int) < 1 := by omega
  have hkp : ¬ (p : Int) - (t : Int) ≤ (k : Int) := by omega
  have hwr : IntKind.i64.wrap ((p : Int) - (t : Int)) = (p : Int) - (t : Int) := by rw [IntKind.wrap_i64]; omega
  generalize rdp y k = z at *
  clear hs hr h0 hB0 hB1 hS0 hS1 hrd hbx hy
  go_enter Tryz.func60, Tryz.ntmps60
  go_wp2
  refine F.wp_region_pb (fun f => ⟨#[.pointer (some ⟨Sb, 0, none⟩), .int .i64 (t : Int), .int .i64 (k : Int), undef, undef, undef, f 14, .int .i64 (t : Int), .bool false, .bool false, .int .i64 (k : Int), .bool false, .bool false, .bool false, .int .i64 (k : Int), .pointer (some ⟨Sb, 0, none⟩), .pointer (some ⟨Sb, 0, none⟩), .pointer (some ⟨Sb, 5, none⟩), .int .i64 (p : Int), .int .i64 (t : Int), .int .i64 ((p : Int) - (t : Int)), .bool false, .bool false, f 0, f 1, f 2, f 3, f 4, f 5, f 6, f 7, f 8, f 9, f 10, f 11, f 12, f 13], []⟩) (V60 Sb M b t k y z) (F.Two 12 X0 X1) (fun i => [undef, undef, undef, undef, undef, undef, undef, undef, undef, undef, undef, undef, undef, undef, .string ⟨#[]⟩].getD i undef) (by kernel_rfl) rfl rfl ?hIa ?hputa ?stepa ?fina
  case hIa => exact ⟨fun _ => HB0.out _ _ H0.out (Below.refl _ _).drew, (fun e => by cases e)⟩
  case fina =>
    intro f W hP hV
    have X1h : Hid _ := hP.b rfl
    have u0 : f 0 = .pointer (some ⟨Sb, 0, none⟩) := hV 0 (by decide)
    have u1 : f 1 = .pointer (some ⟨Sb, 0, none⟩) := hV 1 (by decide)
    have u2 : f 2 = .pointer (some ⟨Sb, 0, none⟩) := hV 2 (by decide)
    have u3 : f 3 = .pointer (some ⟨M, 0, none⟩) := hV 3 (by decide)
    have u4 : f 4 = .pointer (some ⟨Sb, 0, none⟩) := hV 4 (by decide)
    have u5 : f 5 = .pointer (some ⟨Sb, 0, none⟩) := hV 5 (by decide)
    have u6 : f 6 = .pointer (some ⟨Sb, 4, none⟩) := hV 6 (by decide)
    have u7 : f 7 = .int .i64 (b : Nat) := hV 7 (by decide)
    have u8 : f 8 = .int .i64 (t : Nat) := hV 8 (by decide)
    have u9 : f 9 = .int .i64 ((b + t : Nat) : Int) := hV 9 (by decide)
    have u10 : f 10 = .int .i64 ((b + t + 1 : Nat) : Int) := hV 10 (by decide)
    have u11 : f 11 = .int .i64 (k : Nat) := hV 11 (by decide)
    have u12 : f 12 = .string y := hV 12 (by decide)
    have u13 : f 13 = .string z := hV 13 (by decide)
    have u14 : f 14 = .string z := hV 14 (by decide)
    clear hV hP
    generalize f 0 = z0 at *
    subst u0
    generalize f 1 = z1 at *
    subst u1
    generalize f 2 = z2 at *
    subst u2
    generalize f 3 = z3 at *
    subst u3
    generalize f 4 = z4 at *
    subst u4
    generalize f 5 = z5 at *
    subst u5
    generalize f 6 = z6 at *
    subst u6
    generalize f 7 = z7 at *
    subst u7
    generalize f 8 = z8 at *
    subst u8
    generalize f 9 = z9 at *
    subst u9
    generalize f 10 = z10 at *
    subst u10
    generalize f 11 = z11 at *
    subst u11
    generalize f 12 = z12 at *
    subst u12
    generalize f 13 = z13 at *
    subst u13
    generalize f 14 = z14 at *
    subst u14
    go_wp2
    go_returns
    exact ⟨rfl, X1h.out⟩
  case hputa =>
    repeat (refine ⟨fun f v => rfl, ?_⟩)
    trivial
  case stepa =>
    refine ⟨?_, ?_⟩
    · intro done f W hP hdn hd K hK
      clear hd
      go_simp
      exact hK _ _ rfl (hP.pure _ (by decide) _)
    refine ⟨?_, ?_⟩
    · intro done f W hP hdn hd K hK
      have d0 := (hd.1 rfl).2
      have e0 : done 0 = true := (hd.1 rfl).1
      clear hd
      replace d0 : f 0 = .pointer (some ⟨Sb, 0, none⟩) := d0
      generalize f 0 = x0 at *
      subst d0
      clear e0
      go_simp
      exact hK _ _ rfl (hP.pure _ (by decide) _)
    refine ⟨?_, ?_⟩
    · intro done f W hP hdn hd K hK
      have d1 := (hd.1 rfl).2
      have e1 : done 1 = true := (hd.1 rfl).1
      clear hd
      replace d1 : f 1 = .pointer (some ⟨Sb, 0, none⟩) := d1
      generalize f 1 = x1 at *
      subst d1
      clear e1
      go_simp
      exact hK _ _ rfl (hP.pure _ (by decide) _)
    refine ⟨?_, ?_⟩
    · intro done f W hP hdn hd K hK
      have d2 := (hd.1 rfl).2
      have e2 : done 2 = true := (hd.1 rfl).1
      clear hd
      replace d2 : f 2 = .pointer (some ⟨Sb, 0, none⟩) := d2
      generalize f 2 = x2 at *
      subst d2
      clear e2
      have hb := F.Two.any (R := fun W => W.heap[Sb]? = some (.cells (Sg.mk M c j n b p a).cs 44)) HS0.out HS1.out hP
      have q0 := F.cell_of hb 0
      have q4 := F.cell_of hb 4
      replace q0 : W.cell? ⟨Sb, 0, none⟩ = some (.pointer (some ⟨M, 0, none⟩)) := q0
      replace q4 : W.cell? ⟨Sb, 4, none⟩ = some (.int .i64 (b : Nat)) := q4
      go_simp
      exact hK _ _ rfl (hP.pure _ (by decide) _)
    refine ⟨?_, ?_⟩
    · intro done f W hP hdn hd K hK
      clear hd
      go_simp
      exact hK _ _ rfl (hP.pure _ (by decide) _)
    refine ⟨?_, ?_⟩
    · intro done f W hP hdn hd K hK
      have d4 := (hd.1 rfl).2
      have e4 : done 4 = true := (hd.1 rfl).1
      clear hd
      replace d4 : f 4 = .pointer (some ⟨Sb, 0, none⟩) := d4
      generalize f 4 = x4 at *
      subst d4
      clear e4
      go_simp
      exact hK _ _ rfl (hP.pure _ (by decide) _)
    refine ⟨?_, ?_⟩
    · intro done f W hP hdn hd K hK
      have d5 := (hd.1 rfl).2
      have e5 : done 5 = true := (hd.1 rfl).1
      clear hd
      replace d5 : f 5 = .pointer (some ⟨Sb, 0, none⟩) := d5
      generalize f 5 = x5 at *
      subst d5
      clear e5
      go_simp
      exact hK _ _ rfl (hP.pure _ (by decide) _)
    refine ⟨?_, ?_⟩
    · intro done f W hP hdn hd K hK
      have d6 := (hd.1 rfl).2
      have e6 : done 6 = true := (hd.1 rfl).1
      clear hd
      replace d6 : f 6 = .pointer (some ⟨Sb, 4, none⟩) := d6
      generalize f 6 = x6 at *
      subst d6
      clear e6
      have hb := F.Two.any (R := fun W => W.heap[Sb]? = some (.cells (Sg.mk M c j n b p a).cs 44)) HS0.out HS1.out hP
      have q0 := F.cell_of hb 0
      have q4 := F.cell_of hb 4
      replace q0 : W.cell? ⟨Sb, 0, none⟩ = some (.pointer (some ⟨M, 0, none⟩)) := q0
      replace q4 : W.cell? ⟨Sb, 4, none⟩ = some (.int .i64 (b : Nat)) := q4
      go_simp
      exact hK _ _ rfl (hP.pure _ (by decide) _)
    refine ⟨?_, ?_⟩
    · intro done f W hP hdn hd K hK
      clear hd
      go_simp
      exact hK _ _ rfl (hP.pure _ (by decide) _)
    refine ⟨?_, ?_⟩
    · intro done f W hP hdn hd K hK
      have d7 := (hd.1 rfl).2
      have e7 : done 7 = true := (hd.1 rfl).1
      have d8 := (hd.2.1 rfl).2
      have e8 : done 8 = true := (hd.2.1 rfl).1
      clear hd
      replace d7 : f 7 = .int .i64 (b : Nat) := d7
      replace d8 : f 8 = .int .i64 (t : Nat) := d8
      generalize f 7 = x7 at *
      subst d7
      clear e7
      generalize f 8 = x8 at *
      subst d8
      clear e8
      go_simp
      exact hK _ _ (by first | rfl | (show Value.int .i64 _ = Value.int .i64 _; congr 1; first | omega | (rw [IntKind.wrap_i64]; omega))) (hP.pure _ (by decide) _)
    refine ⟨?_, ?_⟩
    · intro done f W hP hdn hd K hK
      have d9 := (hd.1 rfl).2
      have e9 : done 9 = true := (hd.1 rfl).1
      clear hd
      replace d9 : f 9 = .int .i64 ((b + t : Nat) : Int) := d9
      generalize f 9 = x9 at *
      subst d9
      clear e9
      go_simp
      exact hK _ _ (by first | rfl | (show Value.int .i64 _ = Value.int .i64 _; congr 1; first | omega | (rw [IntKind.wrap_i64]; omega))) (hP.pure _ (by decide) _)
    refine ⟨?_, ?_⟩
    · intro done f W hP hdn hd K hK
      clear hd
      go_simp
      exact hK _ _ rfl (hP.pure _ (by decide) _)
    refine ⟨?_, ?_⟩
    · intro done f W hP hdn hd K hK
      have d3 := (hd.1 rfl).2
      have e3 : done 3 = true := (hd.1 rfl).1
      have d10 := (hd.2.1 rfl).2
      have e10 : done 10 = true := (hd.2.1 rfl).1
      have d11 := (hd.2.2.1 rfl).2
      have e11 : done 11 = true := (hd.2.2.1 rfl).1
      clear hd
      replace d3 : f 3 = .pointer (some ⟨M, 0, none⟩) := d3
      replace d10 : f 10 = .int .i64 ((b + t + 1 : Nat) : Int) := d10
      replace d11 : f 11 = .int .i64 (k : Nat) := d11
      generalize f 3 = x3 at *
      subst d3
      clear e3
      generalize f 10 = x10 at *
      subst d10
      clear e10
      generalize f 11 = x11 at *
      subst d11
      clear e11
      have hx0 := hP.a hdn
      go_simp
      refine (HRD.out W hx0).mono ?_
      rintro e W' ⟨rfl, hr⟩
      exact hK _ _ rfl (hP.turn hr _)
    refine ⟨?_, ?_⟩
    · intro done f W hP hdn hd K hK
      have d12 := (hd.1 rfl).2
      have e12 : done 12 = true := (hd.1 rfl).1
      clear hd
      replace d12 : f 12 = .string y := d12
      generalize f 12 = x12 at *
      subst d12
      clear e12
      go_simp
      refine (HPO.out W).mono ?_
      rintro e W' ⟨rfl, hb⟩
      exact hK _ _ rfl (hP.below (by decide) (fun q => HB0.out _ _ q hb) (fun q => HB1.out _ _ q hb) _)
    refine ⟨?_, ?_⟩
    · intro done f W hP hdn hd K hK
      have d13 := (hd.1 rfl).2
      have e13 : done 13 = true := (hd.1 rfl).1
      clear hd
      replace d13 : f 13 = .string z := d13
      generalize f 13 = x13 at *
      subst d13
      clear e13
      go_simp
      exact hK _ _ rfl (hP.pure _ (by decide) _)
    trivial
end Go.Proofs.YtncfbocbigdhiaaGreat
