/- How many sectors of payload the group at a place has: count. -/
import Derived.Test.YtncfbocbigdhiaaGreatGO
namespace Go.Proofs.YtncfbocbigdhiaaGreat
open Go.RowKit
/-- Phases: the sector is read; the Commit's box is made, and filled. -/
structure CT (b0 : Nat) (w0 : World) (L : F.Loc) (st : F.St) (oth : List (Nat × Obj)) (q : Cm) (done : Nat → Bool) (f : Nat → Value) (W : World) : Prop where
  h : ∃ lv cb, F.One b0 w0 L { st with count := st.count + (if done 10 then 1 else 0) } lv (cb ++ oth) W ∧ (done 15 = false → cb = []) ∧ (done 15 = true → ∃ C, f 15 = .pointer (some ⟨C, 0, none⟩) ∧ (∀ p ∈ oth, p.1 ≠ C) ∧ cb = [(C, .cells (if done 16 then q.cs else cmz) 55)])
  o : done 15 = false → done 16 = false
section
variable {b0 : Nat} {w0 : World} {L : F.Loc} {st : F.St} {oth : List (Nat × Obj)} {q : Cm} {done : Nat → Bool} {f : Nat → Value} {W W' : World}
theorem CT.pure (h : CT b0 w0 L st oth q done f W) (i : Nat) (hi : i ≠ 10 ∧ i ≠ 15 ∧ i ≠ 16) (v : Value) : CT b0 w0 L st oth q (F.updB done i) (F.upd f i v) W := by
  have e1 : F.updB done i 10 = done 10 := if_neg (Ne.symm hi.1)
  have e2 : F.updB done i 15 = done 15 := if_neg (Ne.symm hi.2.1)
  have e3 : F.updB done i 16 = done 16 := if_neg (Ne.symm hi.2.2)
  have e4 : F.upd f i v 15 = f 15 := if_neg (Ne.symm hi.2.1)
  exact ⟨by rw [e1, e2, e3, e4]; exact h.h, by rw [e2, e3]; exact h.o⟩
theorem CT.below (h : CT b0 w0 L st oth q done f W) (i : Nat) (hi : i ≠ 10 ∧ i ≠ 15 ∧ i ≠ 16) (hb : Below W.heap.size W W') (v : Value) : CT b0 w0 L st oth q (F.updB done i) (F.upd f i v) W' := by
  have h1 : CT b0 w0 L st oth q done f W' := by
    obtain ⟨lv, cb, a, r⟩ := h.h
    exact ⟨⟨lv, cb, a.ofBelow hb, r⟩, h.o⟩
  exact h1.pure i hi v
theorem CT.mem (h : CT b0 w0 L st oth q done f W) {p : Nat × Obj} (hp : p ∈ oth) : W.heap[p.1]? = some p.2 := by
  obtain ⟨lv, cb, a, _⟩ := h.h
  exact (a.oth p (List.mem_append_right _ hp)).1
theorem CT.read (h : CT b0 w0 L st oth q done f W) (h10 : done 10 = false) : ∃ lv cb, (∀ p ∈ cb, ∃ c, p.2 = .cells c 55) ∧ F.One b0 w0 L st lv (cb ++ oth) W ∧ ∀ v W' lv', F.One b0 w0 L { st with count := st.count + 1 } lv' (cb ++ oth) W' → CT b0 w0 L st oth q (F.updB done 10) (F.upd f 10 v) W' := by
  have e1 : F.updB done 10 10 = true := if_pos rfl
  have e2 : F.updB done 10 15 = done 15 := if_neg (by decide)
  have e3 : F.updB done 10 16 = done 16 := if_neg (by decide)
  obtain ⟨lv, cb, a, r1, r2⟩ := h.h
  have es : ({ st with count := st.count + (if done 10 then 1 else 0) } : F.St) = st := by rw [h10]; cases st; simp
  rw [es] at a
  refine ⟨lv, cb, fun p hp => ?_, a, fun v W' lv' ho => ⟨?_, by rw [e2, e3]; exact h.o⟩⟩
  · cases h15 : done 15 with
    | false => rw [r1 h15] at hp; cases hp
    | true =>
      obtain ⟨C, _, _, c3⟩ := r2 h15
      rw [c3] at hp
      rw [List.mem_singleton.1 hp]; exact ⟨_, rfl⟩
  · have e4 : F.upd f 10 v 15 = f 15 := if_neg (by decide)
    rw [e1, e2, e3, e4]
    exact ⟨lv', cb, ho, r1, r2⟩
theorem CT.made (h : CT b0 w0 L st oth q done f W) (h15 : done 15 = false) : CT b0 w0 L st oth q (F.updB done 15) (F.upd f 15 (.pointer (some ⟨W.heap.size, 0, none⟩))) (W.alloc (.cells cmz 55)) := by
  have e1 : F.updB done 15 10 = done 10 := if_neg (by decide)
  have e2 : F.updB done 15 15 = true := if_pos rfl
  have e3 : F.updB done 15 16 = done 16 := if_neg (by decide)
  have e4 : F.upd f 15 (.pointer (some ⟨W.heap.size, 0, none⟩)) 15 = .pointer (some ⟨W.heap.size, 0, none⟩) := if_pos rfl
  obtain ⟨lv, cb, a, r1, _⟩ := h.h
  have hcb := r1 h15
  subst hcb
  refine ⟨?_, by rw [e2]; exact (fun e => by cases e)⟩
  rw [e1, e3, e4, h.o h15]
  refine ⟨lv, [(W.heap.size, .cells cmz 55)], a.alloc _ (F.apart_of (by decide)), by rw [e2]; exact (fun e => by cases e), fun _ => ⟨W.heap.size, rfl, fun p hp => ?_, rfl⟩⟩
  exact Nat.ne_of_lt (a.lts p hp)
theorem CT.filled (h : CT b0 w0 L st oth q done f W) (h15 : done 15 = true) (h16 : done 16 = false) (v : Value) : ∃ C, f 15 = .pointer (some ⟨C, 0, none⟩) ∧ W.heap[C]? = some (.cells cmz 55) ∧ ∀ W', Off C W W' → W'.heap[C]? = some (.cells q.cs 55) → CT b0 w0 L st oth q (F.updB done 16) (F.upd f 16 v) W' := by
  have e1 : F.updB done 16 10 = done 10 := if_neg (by decide)
  have e2 : F.updB done 16 15 = done 15 := if_neg (by decide)
  have e3 : F.updB done 16 16 = true := if_pos rfl
  have e4 : F.upd f 16 v 15 = f 15 := if_neg (by decide)
  obtain ⟨lv, cb, a, _, r2⟩ := h.h
  obtain ⟨C, c1, c2, c3⟩ := r2 h15
  rw [h16] at c3
  subst c3
  refine ⟨C, c1, (a.oth (C, _) (by simp)).1, fun W' ho hc => ⟨?_, by rw [e2, h15]; exact (fun e => by cases e)⟩⟩
  rw [e1, e2, e3, e4]
  exact ⟨lv, [(C, .cells q.cs 55)], F.One.other a c2 ho.os ho.tape ho.output ho.size (fun k _ hk => ho.block k hk) hc (F.apart_of (by decide)), by rw [h15]; exact (fun e => by cases e), fun _ => ⟨C, c1, c2, rfl⟩⟩
end
def V99 (Sb M b t : Nat) (y : ByteArray) (q : Cm) (er : Int) : Nat → Value → Prop
  | 0, v => v = .pointer (some ⟨Sb, 0, none⟩)
  | 1, v => v = .pointer (some ⟨Sb, 0, none⟩)
  | 2, v => v = .pointer (some ⟨Sb, 0, none⟩)
  | 3, v => v = .pointer (some ⟨M, 0, none⟩)
  | 4, v => v = .pointer (some ⟨Sb, 0, none⟩)
  | 5, v => v = .pointer (some ⟨Sb, 0, none⟩)
  | 6, v => v = .pointer (some ⟨Sb, 4, none⟩)
  | 7, v => v = .int .i64 (b : Nat)
  | 8, v => v = .int .i64 (t : Nat)
  | 9, v => v = .int .i64 ((b + t : Nat) : Int)
  | 10, v => v = .string y
  | 11, v => v = .tuple #[.agg q.cs, .int .i64 er]
  | 12, v => v = .tuple #[.agg q.cs, .int .i64 er]
  | 13, v => v = .agg q.cs
  | 14, v => v = .int .i64 er
  | 17, v => v = .int .i64 er
  | _, _ => True
def V99b (Sb C t : Nat) (z : ByteArray) (q qz : Cm) (bo : Bool) : Nat → Value → Prop
  | 0, v => v = .agg q.cs
  | 1, v => v = .pointer (some ⟨Sb, 0, none⟩)
  | 2, v => v = .int .i64 (t : Nat)
  | 3, v => v = .pointer (some ⟨Sb, 0, none⟩)
  | 4, v => v = .int .i64 (t : Nat)
  | 5, v => v = .pointer (some ⟨C, 4, none⟩)
  | 6, v => v = .int .i64 (q.k : Nat)
  | 7, v => v = .string z
  | 8, v => v = .agg qz.cs
  | 9, v => v = .bool bo
  | _, _ => True
set_option maxHeartbeats 2000000 in
set_option maxRecDepth 100000 in
theorem count_in {b0 : Nat} {w0 : World} {L : F.Loc} {st : F.St} {lv : Value} {oth : List (Nat × Obj)} {w : World} {Sb : Nat} (s : Sg) (h : F.One b0 w0 L st lv ((Sb, .cells s.cs 44) :: oth) w) (hm : (s.M, F.med L.P st.serial st.session) ∈ oth) (h5 : ∀ p ∈ oth, ∀ c fz, p.2 ≠ .cells c 5 fz)
    (hs : s.b ≤ 10000 ∧ s.p ≤ 64) (t : Nat) (htp : t < s.p) (hfit : s.b + t + 1 ≤ st.n) (hn : st.n ≤ 1000) (hdn : st.down = false) (hth : st.there = true) (haw : st.aw = false) (hhw : st.hw = false) (hok : F.SecOk st) (hc : 0 ≤ st.count ∧ st.count ≤ 100000)
    (q : Cm) (er : Int) (htc : ∀ W, Calls Tryz.prog 131 #[.string ⟨(F.rdsL st (s.b + t) 1).toArray⟩] W fun e w' => e = .returned (.tuple #[.agg q.cs, .int .i64 er]) ∧ Below W.heap.size W w')
    (z : ByteArray) (hz : z.size ≤ 100000) (c2 : Int)
    (hrd : ∀ C W lv', (∀ p ∈ (Sb, .cells s.cs 44) :: oth, p.1 ≠ C) → F.One b0 w0 L { st with count := st.count + 1 } lv' ((C, .cells q.cs 55) :: (Sb, .cells s.cs 44) :: oth) W → Calls Tryz.prog 60 #[.pointer (some ⟨Sb, 0, none⟩), .int .i64 (t : Nat), .int .i64 (q.k : Nat)] W fun e W' => e = .returned (.string z) ∧ ∃ lv'', F.One b0 w0 L { st with count := c2 } lv'' ((C, .cells q.cs 55) :: (Sb, .cells s.cs 44) :: oth) W') :
    Calls Tryz.prog 99 #[.pointer (some ⟨Sb, 0, none⟩), .int .i64 (t : Nat)] w fun e w' => ∃ v : Nat, e = .returned (.int .i64 (v : Nat)) ∧ (q = s.cm t z → v = q.k) ∧ (q ≠ s.cm t z → v = 0) ∧ ∃ lv', F.One b0 w0 L { st with count := c2 } lv' ((Sb, .cells s.cs 44) :: oth) w' := by
  obtain ⟨M, c, j, n, b, p, a⟩ := s
  have hb1 : b ≤ 10000 := hs.1
  have hp1 : p ≤ 64 := hs.2
  have htp1 : t < p := htp
  have c5 : w.cell? ⟨Sb, 5, none⟩ = some (.int .i64 (p : Nat)) := F.cell_of (h.oth (Sb, _) (List.mem_cons_self ..)).1 5
  have hgt : ¬ (p : Int) ≤ (t : Int) := by omega
  have H0 : Hid _ := h
  have HMD : Hid (∀ W lv2 cb, (∀ p ∈ cb, ∃ c, p.2 = .cells c 55) → F.One b0 w0 L st lv2 (cb ++ (Sb, .cells (Sg.mk M c j n b p a).cs 44) :: oth) W → Calls Tryz.prog 101 #[.pointer (some ⟨M, 0, none⟩), .int .i64 ((b + t : Nat) : Int), .int .i64 1] W fun e w' => e = .returned (.string ⟨(F.rdsL st (b + t) 1).toArray⟩) ∧ ∃ lv', F.One b0 w0 L { st with count := st.count + 1 } lv' (cb ++ (Sb, .cells (Sg.mk M c j n b p a).cs 44) :: oth) w') := fun W lv2 cb hcb ho => by
    exact ho.mread M (List.mem_append_right _ (List.mem_cons_of_mem _ hm)) (by
      intro p hp c fz e
      rcases List.mem_append.1 hp with hp | hp
      · obtain ⟨c', e'⟩ := hcb p hp
        rw [e'] at e; injection e with _ e _; exact absurd e (by decide)
      · rcases List.mem_cons.1 hp with rfl | hp
        · injection e with _ e _; exact absurd e (by decide)
        · exact h5 p hp c fz e) (b + t) 1 (by omega) hn hdn hth haw hhw hok hc
  have HTC : Hid (∀ W, Calls Tryz.prog 131 #[.string ⟨(F.rdsL st (b + t) 1).toArray⟩] W fun e w' => e = .returned (.tuple #[.agg q.cs, .int .i64 er]) ∧ Below W.heap.size W w') := htc
  obtain ⟨y, hy⟩ : ∃ y : ByteArray, y = ⟨(F.rdsL st (b + t) 1).toArray⟩ := ⟨_, rfl⟩
  rw [← hy] at HMD HTC
  have HRD : Hid (∀ C W lv', (∀ pr ∈ (Sb, .cells (Sg.mk M c j n b p a).cs 44) :: oth, pr.1 ≠ C) → F.One b0 w0 L { st with count := st.count + 1 } lv' ((C, .cells q.cs 55) :: (Sb, .cells (Sg.mk M c j n b p a).cs 44) :: oth) W → Calls Tryz.prog 60 #[.pointer (some ⟨Sb, 0, none⟩), .int .i64 (t : Nat), .int .i64 (q.k : Nat)] W fun e W' => e = .returned (.string z) ∧ ∃ lv'', F.One b0 w0 L { st with count := c2 } lv'' ((C, .cells q.cs 55) :: (Sb, .cells (Sg.mk M c j n b p a).cs 44) :: oth) W') := hrd
  have HCM : Hid (∀ W, W.heap[Sb]? = some (.cells (Sg.mk M c j n b p a).cs 44) → Calls Tryz.prog 56 #[.pointer (some ⟨Sb, 0, none⟩), .int .i64 (t : Nat), .string z] W fun e w' => e = .returned (.agg ((Sg.mk M c j n b p a).cm t z).cs) ∧ Below W.heap.size W w') := fun W hW => commit_any _ Sb t z hz W hW
  obtain ⟨qz, hqz⟩ : ∃ qz, qz = (Sg.mk M c j n b p a).cm t z := ⟨_, rfl⟩
  rw [← hqz] at HCM ⊢
  obtain ⟨bo, hbo, hne⟩ := cm_ne q qz
  have HBO : Hid (bo = false ↔ q = qz) := hbo
  clear h hm h5 hs htp hfit hn hdn hth haw hhw hok hc htc hy hrd hz hqz hbo
  go_enter Tryz.func99, Tryz.ntmps99
  go_wp2
  refine F.wp_region_pb (fun f => ⟨#[.pointer (some ⟨Sb, 0, none⟩), .int .i64 (t : Int), undef, undef, .int .i64 0, f 15, f 17, .int .i64 (t : Int), .pointer (some ⟨Sb, 0, none⟩), .pointer (some ⟨Sb, 0, none⟩), .pointer (some ⟨Sb, 5, none⟩), .int .i64 (p : Int), .bool false, f 12, f 0, f 1, f 2, f 3, f 4, f 5, f 6, f 7, f 8, f 9, f 10, f 11, f 13, f 14, undef, undef, undef, undef, undef, undef, undef, undef, undef, undef, undef, undef], []⟩) (V99 Sb M b t y q er) (CT b0 w0 L st ((Sb, .cells (Sg.mk M c j n b p a).cs 44) :: oth) q) (fun i => [undef, undef, undef, undef, undef, undef, undef, undef, undef, undef, undef, undef, undef, undef, undef, undef, undef, undef].getD i undef) (by kernel_rfl) rfl rfl ?hIa ?hputa ?stepa ?fina
  case hIa => exact ⟨⟨lv, [], by have := H0.out.ofBelow (Below.refl _ _).drew; simpa using this, fun _ => rfl, (fun e => by cases e)⟩, fun _ => rfl⟩
  case fina =>
    intro f W hP hV
    obtain ⟨lv2, cb, ho, _, r2⟩ := hP.h
    obtain ⟨C, u15, hne2, rfl⟩ := r2 rfl
    have H1 : Hid (F.One b0 w0 L { st with count := st.count + 1 } lv2 ((C, .cells q.cs 55) :: (Sb, .cells (Sg.mk M c j n b p a).cs 44) :: oth) W) := ho
    have HNE : Hid _ := hne2
    have u0 : f 0 = .pointer (some ⟨Sb, 0, none⟩) := hV 0 (by decide)
    have u1 : f 1 = .pointer (some ⟨Sb, 0, none⟩) := hV 1 (by decide)
    have u2 : f 2 = .pointer (some ⟨Sb, 0, none⟩) := hV 2 (by decide)
    have u3 : f 3 = .pointer (some ⟨M, 0, none⟩) := hV 3 (by decide)
    have u4 : f 4 = .pointer (some ⟨Sb, 0, none⟩) := hV 4 (by decide)
    have u5 : f 5 = .pointer (some ⟨Sb, 0, none⟩) := hV 5 (by decide)
    have u6 : f 6 = .pointer (some ⟨Sb, 4, none⟩) := hV 6 (by decide)
    have u7 : f 7 = .int .i64 (b : Nat) := hV 7 (by decide)
    have u8 : f 8 = .int .i64 (t : Nat) := hV 8 (by decide)
    have u9 : f 9 = .int .i64 ((b + t : Nat) : Int) := hV 9 (by decide)
    have u10 : f 10 = .string y := hV 10 (by decide)
    have u11 : f 11 = .tuple #[.agg q.cs, .int .i64 er] := hV 11 (by decide)
    have u12 : f 12 = .tuple #[.agg q.cs, .int .i64 er] := hV 12 (by decide)
    have u13 : f 13 = .agg q.cs := hV 13 (by decide)
    have u14 : f 14 = .int .i64 er := hV 14 (by decide)
    have u17 : f 17 = .int .i64 er := hV 17 (by decide)
    clear hV hP ho hne2 r2 HMD HTC H0
    generalize f 0 = z0 at *
    subst u0
    generalize f 1 = z1 at *
    subst u1
    generalize f 2 = z2 at *
    subst u2
    generalize f 3 = z3 at *
    subst u3
    generalize f 4 = z4 at *
    subst u4
    generalize f 5 = z5 at *
    subst u5
    generalize f 6 = z6 at *
    subst u6
    generalize f 7 = z7 at *
    subst u7
    generalize f 8 = z8 at *
    subst u8
    generalize f 9 = z9 at *
    subst u9
    generalize f 10 = z10 at *
    subst u10
    generalize f 11 = z11 at *
    subst u11
    generalize f 12 = z12 at *
    subst u12
    generalize f 13 = z13 at *
    subst u13
    generalize f 14 = z14 at *
    subst u14
    generalize f 15 = z15 at *
    subst u15
    generalize f 17 = z17 at *
    subst u17
    go_wp2
    refine F.wp_region_pb (fun f => ⟨#[.pointer (some ⟨Sb, 0, none⟩), .int .i64 (t : Int), undef, undef, .int .i64 0, .pointer (some ⟨C, 0, none⟩), .int .i64 er, .int .i64 (t : Int), .pointer (some ⟨Sb, 0, none⟩), .pointer (some ⟨Sb, 0, none⟩), .pointer (some ⟨Sb, 5, none⟩), .int .i64 (p : Int), .bool false, .tuple #[.agg q.cs, .int .i64 er], .pointer (some ⟨Sb, 0, none⟩), .pointer (some ⟨Sb, 0, none⟩), .pointer (some ⟨Sb, 0, none⟩), .pointer (some ⟨M, 0, none⟩), .pointer (some ⟨Sb, 0, none⟩), .pointer (some ⟨Sb, 0, none⟩), .pointer (some ⟨Sb, 4, none⟩), .int .i64 (b : Int), .int .i64 (t : Int), .int .i64 ↑(b + t), .string y, .tuple #[.agg q.cs, .int .i64 er], .agg q.cs, .int .i64 er, f 0, f 1, f 2, f 3, f 4, f 5, f 6, f 7, f 8, f 9, undef, undef], []⟩) (V99b Sb C t z q qz bo) (F.Two 7 (fun W => ∃ lv, F.One b0 w0 L { st with count := st.count + 1 } lv ((C, .cells q.cs 55) :: (Sb, .cells (Sg.mk M c j n b p a).cs 44) :: oth) W) (fun W => ∃ lv, F.One b0 w0 L { st with count := c2 } lv ((C, .cells q.cs 55) :: (Sb, .cells (Sg.mk M c j n b p a).cs 44) :: oth) W)) (fun i => [undef, undef, undef, undef, undef, undef, undef, undef, undef, undef].getD i undef) (by kernel_rfl) rfl rfl ?hIb ?hputb ?stepb ?finb
    case hIb => exact ⟨fun _ => ⟨lv2, H1.out.ofBelow (Below.refl _ _).drew⟩, (fun e => by cases e)⟩
    case finb =>
      intro f W hP hV
      obtain ⟨lv3, ho⟩ := hP.b rfl
      have hC := (ho.oth (C, _) (List.mem_cons_self ..)).1
      have q4 := F.cell_of hC 4
      replace q4 : W.cell? ⟨C, 4, none⟩ = some (.int .i64 (q.k : Nat)) := q4
      have H2 : Hid (F.One b0 w0 L { st with count := c2 } lv3 ((Sb, .cells (Sg.mk M c j n b p a).cs 44) :: oth) W) := ho.forget (fun p hp => List.mem_cons_of_mem _ hp)
      have u0 : f 0 = .agg q.cs := hV 0 (by decide)
      have u1 : f 1 = .pointer (some ⟨Sb, 0, none⟩) := hV 1 (by decide)
      have u2 : f 2 = .int .i64 (t : Nat) := hV 2 (by decide)
      have u3 : f 3 = .pointer (some ⟨Sb, 0, none⟩) := hV 3 (by decide)
      have u4 : f 4 = .int .i64 (t : Nat) := hV 4 (by decide)
      have u5 : f 5 = .pointer (some ⟨C, 4, none⟩) := hV 5 (by decide)
      have u6 : f 6 = .int .i64 (q.k : Nat) := hV 6 (by decide)
      have u7 : f 7 = .string z := hV 7 (by decide)
      have u8 : f 8 = .agg qz.cs := hV 8 (by decide)
      have u9 : f 9 = .bool bo := hV 9 (by decide)
      clear hV hP ho hC HRD HCM H1 HNE hne
      generalize f 0 = y0 at *
      subst u0
      generalize f 1 = y1 at *
      subst u1
      generalize f 2 = y2 at *
      subst u2
      generalize f 3 = y3 at *
      subst u3
      generalize f 4 = y4 at *
      subst u4
      generalize f 5 = y5 at *
      subst u5
      generalize f 6 = y6 at *
      subst u6
      generalize f 7 = y7 at *
      subst u7
      generalize f 8 = y8 at *
      subst u8
      generalize f 9 = y9 at *
      subst u9
      cases bo with
      | false =>
        have hq : Hid (q = qz) := HBO.out.1 rfl
        go_wp2
        go_returns
        exact ⟨q.k, rfl, fun _ => rfl, fun e => absurd hq.out e, lv3, H2.out⟩
      | true =>
        have hq : Hid (q ≠ qz) := fun e => by have := HBO.out.2 e; cases this
        go_wp2
        go_returns
        exact ⟨0, rfl, fun e => absurd e hq.out, fun _ => rfl, lv3, H2.out⟩
    case hputb =>
      repeat (refine ⟨fun f v => rfl, ?_⟩)
      trivial
    case stepb =>
      refine ⟨?_, ?_⟩
      · intro done f W hP hdn hd K hK
        clear hd
        have hC : W.heap[C]? = some (.cells q.cs 55) := F.Two.any (R := fun W => W.heap[C]? = some (.cells q.cs 55)) (fun W ⟨lv, h⟩ => (h.oth (C, _) (List.mem_cons_self ..)).1) (fun W ⟨lv, h⟩ => (h.oth (C, _) (List.mem_cons_self ..)).1) hP
        refine pldp _ rfl C q.cs (Cm.cs_size _) rfl hC ?_
        exact hK _ _ rfl (hP.pure _ (by decide) _)
      refine ⟨?_, ?_⟩
      · intro done f W hP hdn hd K hK
        clear hd
        go_simp
        exact hK _ _ rfl (hP.pure _ (by decide) _)
      refine ⟨?_, ?_⟩
      · intro done f W hP hdn hd K hK
        clear hd
        go_simp
        exact hK _ _ rfl (hP.pure _ (by decide) _)
      refine ⟨?_, ?_⟩
      · intro done f W hP hdn hd K hK
        clear hd
        go_simp
        exact hK _ _ rfl (hP.pure _ (by decide) _)
      refine ⟨?_, ?_⟩
      · intro done f W hP hdn hd K hK
        clear hd
        go_simp
        exact hK _ _ rfl (hP.pure _ (by decide) _)
      refine ⟨?_, ?_⟩
      · intro done f W hP hdn hd K hK
        clear hd
        go_simp
        exact hK _ _ rfl (hP.pure _ (by decide) _)
      refine ⟨?_, ?_⟩
      · intro done f W hP hdn hd K hK
        have d5 := (hd.1 rfl).2
        have e5 : done 5 = true := (hd.1 rfl).1
        clear hd
        replace d5 : f 5 = .pointer (some ⟨C, 4, none⟩) := d5
        generalize f 5 = x5 at *
        subst d5
        clear e5
        have hC : W.heap[C]? = some (.cells q.cs 55) := F.Two.any (R := fun W => W.heap[C]? = some (.cells q.cs 55)) (fun W ⟨lv, h⟩ => (h.oth (C, _) (List.mem_cons_self ..)).1) (fun W ⟨lv, h⟩ => (h.oth (C, _) (List.mem_cons_self ..)).1) hP
        have q4 := F.cell_of hC 4
        replace q4 : W.cell? ⟨C, 4, none⟩ = some (.int .i64 (q.k : Nat)) := q4
        go_simp
        exact hK _ _ rfl (hP.pure _ (by decide) _)
      refine ⟨?_, ?_⟩
      · intro done f W hP hdn hd K hK
        have d3 := (hd.1 rfl).2
        have e3 : done 3 = true := (hd.1 rfl).1
        have d4 := (hd.2.1 rfl).2
        have e4 : done 4 = true := (hd.2.1 rfl).1
        have d6 := (hd.2.2.1 rfl).2
        have e6 : done 6 = true := (hd.2.2.1 rfl).1
        clear hd
        replace d3 : f 3 = .pointer (some ⟨Sb, 0, none⟩) := d3
        replace d4 : f 4 = .int .i64 (t : Nat) := d4
        replace d6 : f 6 = .int .i64 (q.k : Nat) := d6
        generalize f 3 = x3 at *
        subst d3
        clear e3
        generalize f 4 = x4 at *
        subst d4
        clear e4
        generalize f 6 = x6 at *
        subst d6
        clear e6
        obtain ⟨lv3, ho3⟩ := hP.a hdn
        go_simp
        refine (HRD.out C W lv3 HNE.out ho3).mono ?_
        rintro e W' ⟨rfl, hr⟩
        exact hK _ _ rfl (hP.turn hr _)
      refine ⟨?_, ?_⟩
      · intro done f W hP hdn hd K hK
        have d1 := (hd.1 rfl).2
        have e1 : done 1 = true := (hd.1 rfl).1
        have d2 := (hd.2.1 rfl).2
        have e2 : done 2 = true := (hd.2.1 rfl).1
        have d7 := (hd.2.2.1 rfl).2
        have e7 : done 7 = true := (hd.2.2.1 rfl).1
        clear hd
        replace d1 : f 1 = .pointer (some ⟨Sb, 0, none⟩) := d1
        replace d2 : f 2 = .int .i64 (t : Nat) := d2
        replace d7 : f 7 = .string z := d7
        generalize f 1 = x1 at *
        subst d1
        clear e1
        generalize f 2 = x2 at *
        subst d2
        clear e2
        generalize f 7 = x7 at *
        subst d7
        clear e7
        have hS : W.heap[Sb]? = some (.cells (Sg.mk M c j n b p a).cs 44) := F.Two.any (R := fun W => W.heap[Sb]? = some (.cells (Sg.mk M c j n b p a).cs 44)) (fun W ⟨lv, h⟩ => (h.oth (Sb, _) (List.mem_cons_of_mem _ (List.mem_cons_self ..))).1) (fun W ⟨lv, h⟩ => (h.oth (Sb, _) (List.mem_cons_of_mem _ (List.mem_cons_self ..))).1) hP
        go_simp
        refine (HCM.out W hS).mono ?_
        rintro e W' ⟨rfl, hb⟩
        exact hK _ _ rfl (hP.below (by decide) (fun ⟨lv, h⟩ => ⟨lv, h.ofBelow hb⟩) (fun ⟨lv, h⟩ => ⟨lv, h.ofBelow hb⟩) _)
      refine ⟨?_, ?_⟩
      · intro done f W hP hdn hd K hK
        have d0 := (hd.1 rfl).2
        have e0 : done 0 = true := (hd.1 rfl).1
        have d8 := (hd.2.1 rfl).2
        have e8 : done 8 = true := (hd.2.1 rfl).1
        clear hd
        replace d0 : f 0 = .agg q.cs := d0
        replace d8 : f 8 = .agg qz.cs := d8
        generalize f 0 = x0 at *
        subst d0
        clear e0
        generalize f 8 = x8 at *
        subst d8
        clear e8
        have hn2 := hne W
        go_simp
        exact hK _ _ rfl (hP.pure _ (by decide) _)
      trivial
  case hputa =>
    repeat (refine ⟨fun f v => rfl, ?_⟩)
    trivial
  case stepa =>
    refine ⟨?_, ?_⟩
    · intro done f W hP hdn hd K hK
      clear hd
      go_simp
      exact hK _ _ rfl (hP.pure _ (by decide) _)
    refine ⟨?_, ?_⟩
    · intro done f W hP hdn hd K hK
      have d0 := (hd.1 rfl).2
      have e0 : done 0 = true := (hd.1 rfl).1
      clear hd
      replace d0 : f 0 = .pointer (some ⟨Sb, 0, none⟩) := d0
      generalize f 0 = x0 at *
      subst d0
      clear e0
      go_simp
      exact hK _ _ rfl (hP.pure _ (by decide) _)
    refine ⟨?_, ?_⟩
    · intro done f W hP hdn hd K hK
      have d1 := (hd.1 rfl).2
      have e1 : done 1 = true := (hd.1 rfl).1
      clear hd
      replace d1 : f 1 = .pointer (some ⟨Sb, 0, none⟩) := d1
      generalize f 1 = x1 at *
      subst d1
      clear e1
      go_simp
      exact hK _ _ rfl (hP.pure _ (by decide) _)
    refine ⟨?_, ?_⟩
    · intro done f W hP hdn hd K hK
      have d2 := (hd.1 rfl).2
      have e2 : done 2 = true := (hd.1 rfl).1
      clear hd
      replace d2 : f 2 = .pointer (some ⟨Sb, 0, none⟩) := d2
      generalize f 2 = x2 at *
      subst d2
      clear e2
      have hb := hP.mem (p := (Sb, .cells (Sg.mk M c j n b p a).cs 44)) (List.mem_cons_self ..)
      have q0 := F.cell_of hb 0
      have q4 := F.cell_of hb 4
      replace q0 : W.cell? ⟨Sb, 0, none⟩ = some (.pointer (some ⟨M, 0, none⟩)) := q0
      replace q4 : W.cell? ⟨Sb, 4, none⟩ = some (.int .i64 (b : Nat)) := q4
      go_simp
      exact hK _ _ rfl (hP.pure _ (by decide) _)
    refine ⟨?_, ?_⟩
    · intro done f W hP hdn hd K hK
      clear hd
      go_simp
      exact hK _ _ rfl (hP.pure _ (by decide) _)
    refine ⟨?_, ?_⟩
    · intro done f W hP hdn hd K hK
      have d4 := (hd.1 rfl).2
      have e4 : done 4 = true := (hd.1 rfl).1
      clear hd
      replace d4 : f 4 = .pointer (some ⟨Sb, 0, none⟩) := d4
      generalize f 4 = x4 at *
      subst d4
      clear e4
      go_simp
      exact hK _ _ rfl (hP.pure _ (by decide) _)
    refine ⟨?_, ?_⟩
    · intro done f W hP hdn hd K hK
      have d5 := (hd.1 rfl).2
      have e5 : done 5 = true := (hd.1 rfl).1
      clear hd
      replace d5 : f 5 = .pointer (some ⟨Sb, 0, none⟩) := d5
      generalize f 5 = x5 at *
      subst d5
      clear e5
      go_simp
      exact hK _ _ rfl (hP.pure _ (by decide) _)
    refine ⟨?_, ?_⟩
    · intro done f W hP hdn hd K hK
      have d6 := (hd.1 rfl).2
      have e6 : done 6 = true := (hd.1 rfl).1
      clear hd
      replace d6 : f 6 = .pointer (some ⟨Sb, 4, none⟩) := d6
      generalize f 6 = x6 at *
      subst d6
      clear e6
      have hb := hP.mem (p := (Sb, .cells (Sg.mk M c j n b p a).cs 44)) (List.mem_cons_self ..)
      have q0 := F.cell_of hb 0
      have q4 := F.cell_of hb 4
      replace q0 : W.cell? ⟨Sb, 0, none⟩ = some (.pointer (some ⟨M, 0, none⟩)) := q0
      replace q4 : W.cell? ⟨Sb, 4, none⟩ = some (.int .i64 (b : Nat)) := q4
      go_simp
      exact hK _ _ rfl (hP.pure _ (by decide) _)
    refine ⟨?_, ?_⟩
    · intro done f W hP hdn hd K hK
      clear hd
      go_simp
      exact hK _ _ rfl (hP.pure _ (by decide) _)
    refine ⟨?_, ?_⟩
    · intro done f W hP hdn hd K hK
      have d7 := (hd.1 rfl).2
      have e7 : done 7 = true := (hd.1 rfl).1
      have d8 := (hd.2.1 rfl).2
      have e8 : done 8 = true := (hd.2.1 rfl).1
      clear hd
      replace d7 : f 7 = .int .i64 (b : Nat) := d7
      replace d8 : f 8 = .int .i64 (t : Nat) := d8
      generalize f 7 = x7 at *
      subst d7
      clear e7
      generalize f 8 = x8 at *
      subst d8
      clear e8
      go_simp
      exact hK _ _ (by first | rfl | (show Value.int .i64 _ = Value.int .i64 _; congr 1; first | omega | (rw [IntKind.wrap_i64]; omega))) (hP.pure _ (by decide) _)
    refine ⟨?_, ?_⟩
    · intro done f W hP hdn hd K hK
      have d3 := (hd.1 rfl).2
      have e3 : done 3 = true := (hd.1 rfl).1
      have d9 := (hd.2.1 rfl).2
      have e9 : done 9 = true := (hd.2.1 rfl).1
      clear hd
      replace d3 : f 3 = .pointer (some ⟨M, 0, none⟩) := d3
      replace d9 : f 9 = .int .i64 ((b + t : Nat) : Int) := d9
      generalize f 3 = x3 at *
      subst d3
      clear e3
      generalize f 9 = x9 at *
      subst d9
      clear e9
      obtain ⟨lv2, cb, hcb, ho, hnx⟩ := hP.read hdn
      go_simp
      refine (HMD.out W lv2 cb hcb ho).mono ?_
      rintro e W' ⟨rfl, lv', ho'⟩
      exact hK _ _ rfl (hnx _ _ _ ho')
    refine ⟨?_, ?_⟩
    · intro done f W hP hdn hd K hK
      have d10 := (hd.1 rfl).2
      have e10 : done 10 = true := (hd.1 rfl).1
      clear hd
      replace d10 : f 10 = .string y := d10
      generalize f 10 = x10 at *
      subst d10
      clear e10
      go_simp
      refine (HTC.out W).mono ?_
      rintro e W' ⟨rfl, hb⟩
      exact hK _ _ rfl (hP.below _ (by decide) hb _)
    refine ⟨?_, ?_⟩
    · intro done f W hP hdn hd K hK
      have d11 := (hd.1 rfl).2
      have e11 : done 11 = true := (hd.1 rfl).1
      clear hd
      replace d11 : f 11 = .tuple #[.agg q.cs, .int .i64 er] := d11
      generalize f 11 = x11 at *
      subst d11
      clear e11
      go_simp
      exact hK _ _ rfl (hP.pure _ (by decide) _)
    refine ⟨?_, ?_⟩
    · intro done f W hP hdn hd K hK
      have d12 := (hd.1 rfl).2
      have e12 : done 12 = true := (hd.1 rfl).1
      clear hd
      replace d12 : f 12 = .tuple #[.agg q.cs, .int .i64 er] := d12
      generalize f 12 = x12 at *
      subst d12
      clear e12
      go_simp
      exact hK _ _ rfl (hP.pure _ (by decide) _)
    refine ⟨?_, ?_⟩
    · intro done f W hP hdn hd K hK
      have d12 := (hd.1 rfl).2
      have e12 : done 12 = true := (hd.1 rfl).1
      clear hd
      replace d12 : f 12 = .tuple #[.agg q.cs, .int .i64 er] := d12
      generalize f 12 = x12 at *
      subst d12
      clear e12
      go_simp
      exact hK _ _ rfl (hP.pure _ (by decide) _)
    refine ⟨?_, ?_⟩
    · intro done f W hP hdn hd K hK
      clear hd
      have hm := hP.made hdn
      go_simp
      exact hK _ _ trivial hm
    refine ⟨?_, ?_⟩
    · intro done f W hP hdn hd K hK
      have d15 := (hd.1 rfl).2
      have e15 : done 15 = true := (hd.1 rfl).1
      have d13 := (hd.2.1 rfl).2
      have e13 : done 13 = true := (hd.2.1 rfl).1
      clear hd
      replace d13 : f 13 = .agg q.cs := d13
      generalize f 13 = x13 at *
      subst d13
      clear e13
      have e15' : done 15 = true := e15
      obtain ⟨C, c1, c2, hnx⟩ := hP.filled e15' hdn undef
      generalize f 15 = x15 at *
      subst c1
      refine cst6p _ _ rfl C _ rfl rfl rfl rfl c2 (Cm.cs_one _) (fun W' ho hk => ?_)
      exact hK _ _ trivial (hnx W' ho hk)
    refine ⟨?_, ?_⟩
    · intro done f W hP hdn hd K hK
      have d14 := (hd.1 rfl).2
      have e14 : done 14 = true := (hd.1 rfl).1
      clear hd
      replace d14 : f 14 = .int .i64 er := d14
      generalize f 14 = x14 at *
      subst d14
      clear e14
      go_simp
      exact hK _ _ rfl (hP.pure _ (by decide) _)
    trivial
end Go.Proofs.YtncfbocbigdhiaaGreat
