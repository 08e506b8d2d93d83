/- GroupFull's closure: groups, till there is no room. -/
import Derived.Test.YtncfbocbigdhiaaGreatJJ
namespace Go.Proofs.YtncfbocbigdhiaaGreat
open Go.RowKit
/-- So many groups of n sectors each. -/
def FS (T : Nat) (w : World) (L : F.Loc) (rest : List (Nat × Obj)) (per n M Cb Sb i : Nat) (W : World) : Prop :=
  1 + i * (n + 1) ≤ per ∧ ∃ now l, Chn now ⟨M, 3, 2, 5, 4, per, 1 + i * (n + 1)⟩ l (1 + i * (n + 1)) ∧ l.length = i ∧ (∀ j, j < 4 + per → Ksec (now j)) ∧ (∀ j, 4 + (1 + i * (n + 1)) ≤ j → now j = F.pad ⟨#[]⟩) ∧ Dev T w L (4 + per) ((Cb, .cells #[.int .i64 (i : Nat)] 3) :: (Sb, .cells (Sg.cs ⟨M, 3, 2, 5, 4, per, 1 + i * (n + 1)⟩) 44) :: rest) now (100 * i) W
/-- Where one more was written, and not counted yet. -/
def FS2 (T : Nat) (w : World) (L : F.Loc) (rest : List (Nat × Obj)) (per n M Cb Sb i : Nat) (W : World) : Prop :=
  1 + (i + 1) * (n + 1) ≤ per ∧ ∃ now l, Chn now ⟨M, 3, 2, 5, 4, per, 1 + (i + 1) * (n + 1)⟩ l (1 + (i + 1) * (n + 1)) ∧ l.length = i + 1 ∧ (∀ j, j < 4 + per → Ksec (now j)) ∧ (∀ j, 4 + (1 + (i + 1) * (n + 1)) ≤ j → now j = F.pad ⟨#[]⟩) ∧ Dev T w L (4 + per) ((Cb, .cells #[.int .i64 (i : Nat)] 3) :: (Sb, .cells (Sg.cs ⟨M, 3, 2, 5, 4, per, 1 + (i + 1) * (n + 1)⟩) 44) :: rest) now (100 * (i + 1 : Nat)) W
section
variable {T : Nat} {w : World} {L : F.Loc} {rest : List (Nat × Obj)} {per n M Cb Sb i : Nat} {W W' : World}
theorem FS.below (h : FS T w L rest per n M Cb Sb i W) (hb : Below W.heap.size W W') : FS T w L rest per n M Cb Sb i W' := by
  obtain ⟨h0, now, l, h1, h2, h3, h4, h5⟩ := h
  exact ⟨h0, now, l, h1, h2, h3, h4, h5.below hb⟩
theorem FS.at' (h : FS T w L rest per n M Cb Sb i W) {p : Nat × Obj} (hp : p ∈ rest) : W.heap[p.1]? = some p.2 := by
  obtain ⟨h0, now, l, h1, h2, h3, h4, h5⟩ := h
  exact h5.at' (List.mem_cons_of_mem _ (List.mem_cons_of_mem _ hp))
theorem FS.cnt (h : FS T w L rest per n M Cb Sb i W) : W.heap[Cb]? = some (.cells #[.int .i64 (i : Nat)] 3) := by
  obtain ⟨h0, now, l, h1, h2, h3, h4, h5⟩ := h
  exact h5.at' (p := (Cb, .cells #[.int .i64 (i : Nat)] 3)) (by simp)
theorem FS.small (hn : 1 ≤ n) (hp : per ≤ 64) (h : FS T w L rest per n M Cb Sb i W) : i ≤ 32 := by
  have h0 := h.1
  have h1 : i * 2 ≤ i * (n + 1) := Nat.mul_le_mul_left i (by omega)
  omega
theorem FS2.at' (h : FS2 T w L rest per n M Cb Sb i W) {p : Nat × Obj} (hp : p ∈ rest) : W.heap[p.1]? = some p.2 := by
  obtain ⟨h0, now, l, h1, h2, h3, h4, h5⟩ := h
  exact h5.at' (List.mem_cons_of_mem _ (List.mem_cons_of_mem _ hp))
theorem FS2.cnt (h : FS2 T w L rest per n M Cb Sb i W) : W.heap[Cb]? = some (.cells #[.int .i64 (i : Nat)] 3) := by
  obtain ⟨h0, now, l, h1, h2, h3, h4, h5⟩ := h
  exact h5.at' (p := (Cb, .cells #[.int .i64 (i : Nat)] 3)) (by simp)
theorem FS2.below (h : FS2 T w L rest per n M Cb Sb i W) (hb : Below W.heap.size W W') : FS2 T w L rest per n M Cb Sb i W' := by
  obtain ⟨h0, now, l, h1, h2, h3, h4, h5⟩ := h
  exact ⟨h0, now, l, h1, h2, h3, h4, h5.below hb⟩
/-- One more is counted. -/
theorem FS2.count (hnc : ∀ p ∈ rest, p.1 ≠ Cb) (hCS : Cb ≠ Sb) (h : FS2 T w L rest per n M Cb Sb i W) : FS T w L rest per n M Cb Sb (i + 1) (W.setCell ⟨Cb, 0, none⟩ (.int .i64 ((i : Int) + 1))) := by
  obtain ⟨h0, now, l, h1, h2, h3, h4, h5⟩ := h
  refine ⟨h0, now, l, h1, h2, h3, h4, ?_⟩
  have := h5.setOther (v := .int .i64 ((i : Int) + 1)) (by
    intro p hp
    rcases List.mem_cons.1 hp with rfl | hp
    · exact Ne.symm hCS
    · exact hnc p hp) (by decide)
  exact this
theorem FS.room (hper : 8 ≤ per ∧ per ≤ 64) (h : FS T w L rest per n M Cb Sb i W) (b : Bool) (hb : decide ((0 : Int) < (n : Nat) ∧ ((n : Nat) : Int) < (per : Nat) - ((1 + i * (n + 1) : Nat) : Int)) = b) : Calls Tryz.prog 14 #[.pointer (some ⟨Sb, 0, none⟩), .int .i64 (n : Nat)] W fun e w' => e = .returned (.bool b) ∧ FS T w L rest per n M Cb Sb i w' := by
  have h0 := h.1
  have hS : W.heap[Sb]? = some (.cells (Sg.cs ⟨M, 3, 2, 5, 4, per, 1 + i * (n + 1)⟩) 44) := by
    obtain ⟨h0, now, l, h1, h2, h3, h4, h5⟩ := h
    exact h5.at' (p := (Sb, _)) (by simp)
  refine (room_any _ Sb (n : Nat) W hS ⟨by show per ≤ 1000; omega, by show 1 + i * (n + 1) ≤ 1000; omega⟩).mono ?_
  rintro e W' ⟨rfl, hbl⟩
  exact ⟨by rw [← hb], h.below hbl⟩
/-- One more is written. -/
theorem FS.app (hper : 8 ≤ per ∧ per ≤ 64) (hn : 1 ≤ n ∧ n ≤ 20) (hM : (M, F.med L.P 1 1) ∈ rest) (hCS : Cb ≠ Sb) (hne : ∀ p ∈ rest, p.1 ≠ Sb) (hr : 1 + i * (n + 1) + n < per) (x : ByteArray) (hx : x.size = 63 * n) (h : FS T w L rest per n M Cb Sb i W) :
    Calls Tryz.prog 17 #[.pointer (some ⟨Sb, 0, none⟩), .string x] W fun e w' => e = .returned (.int .i64 (1 + i * (n + 1) : Nat)) ∧ FS2 T w L rest per n M Cb Sb i w' := by
  have hi := h.small hn.1 hper.2
  obtain ⟨h0, now, l, h1, h2, h3, h4, h5⟩ := h
  have hmul : (i + 1) * (n + 1) = i * (n + 1) + (n + 1) := Nat.succ_mul _ _
  have e1 : 1 + (i + 1) * (n + 1) = 1 + i * (n + 1) + 1 + n := by omega
  let s : Sg := ⟨M, 3, 2, 5, 4, per, 1 + i * (n + 1)⟩
  have hs : s.Ok := ⟨(by decide : (3 : Nat) < _), (by decide : (2 : Nat) < _), (by decide : (5 : Nat) < _), (by decide : (4 : Nat) ≤ _), hper.1, hper.2, (by show 1 ≤ 1 + i * (n + 1); omega), h0⟩
  have h6 : Dev T w L (4 + per) ((Sb, .cells s.cs 44) :: (Cb, .cells #[.int .i64 (i : Nat)] 3) :: rest) now (100 * i) W := h5.forget (by
    intro p hp
    simp only [List.mem_cons] at hp ⊢
    rcases hp with hp | hp | hp
    · exact Or.inr (Or.inl hp)
    · exact Or.inl hp
    · exact Or.inr (Or.inr hp))
  refine (dev_append s h6 (List.mem_cons_of_mem _ hM) (by
    intro p hp
    rcases List.mem_cons.1 hp with rfl | hp
    · exact hCS
    · exact hne p hp) hs x n hn.1 hr hx (Nat.le_refl _) (by omega) (by omega)).mono ?_
  rintro e W' ⟨rfl, hd⟩
  refine ⟨rfl, by rw [e1]; omega, layC now s x n, l ++ [(1 + i * (n + 1), x)], ?_, by rw [List.length_append, h2]; rfl, ?_, ?_, ?_⟩
  · rw [e1]; exact Chn.more (s := s) h1 hx hn.1 hr
  · exact layC_ksec (s := s) hs hx hn.1 hr h3
  · intro j hj
    have hj2 : 4 + (1 + i * (n + 1)) + 1 + n ≤ j := by omega
    have := layC_ge (now := now) (s := s) (x := x) (k := n) j hj2
    rw [this]; exact h4 j (by omega)
  · rw [e1]
    refine (hd.more (d := 100 * (i + 1 : Nat)) (by omega)).forget ?_
    intro p hp
    simp only [List.mem_cons] at hp ⊢
    rcases hp with hp | hp | hp
    · exact Or.inr (Or.inl hp)
    · exact Or.inl hp
    · exact Or.inr (Or.inr hp)
end
theorem ent32 (args : Array Value) (W : World) : (callFunc 32 args).run Tryz.prog W = .ok (.enter 32 args) W := O.enter_of Tryz.func32 (by kernel_rfl) (by kernel_rfl) args W
/-- What is counted. -/
def cnt32 (Cb : Nat) (W : World) : Nat := match W.cell? ⟨Cb, 0, none⟩ with
  | some v => (intOf v).toNat
  | none => 0
theorem FS.cnt32 {T : Nat} {w : World} {L : F.Loc} {rest : List (Nat × Obj)} {per n M Cb Sb i : Nat} {W : World} (h : FS T w L rest per n M Cb Sb i W) : cnt32 Cb W = i := by
  unfold YtncfbocbigdhiaaGreat.cnt32
  have q : W.cell? ⟨Cb, 0, none⟩ = some (.int .i64 (i : Nat)) := F.cell_of h.cnt 0
  rw [q]
  show ((i : Nat) : Int).toNat = i
  omega
def V32 (Sb n i : Nat) : Nat → Value → Prop
  | 0, v => v = .pointer (some ⟨Sb, 0, none⟩)
  | 1, v => v = .int .i64 (n : Nat)
  | 2, v => v = .string (payN ⟨#[103]⟩ n)
  | 3, v => v = .int .i64 (1 + i * (n + 1) : Nat)
  | _, _ => True
theorem F_two_start {i : Nat} {X0 X1 : World → Prop} {f : Nat → Value} {W : World} (h : X0 W) : F.Two i X0 X1 (fun _ => false) f W := ⟨fun _ => h, (fun e => by cases e)⟩
set_option maxHeartbeats 4000000 in
set_option maxRecDepth 100000 in
theorem op32 {T : Nat} {w : World} {L : F.Loc} {rest : List (Nat × Obj)} {per n M Cb Sb Pb Nb : Nat} {W0 : World} (hper : 8 ≤ per ∧ per ≤ 64) (hn : 1 ≤ n ∧ n ≤ 20) (h : FS T w L rest per n M Cb Sb 0 W0)
    (hP : (Pb, .cells #[.pointer (some ⟨Sb, 0, none⟩)] 28) ∈ rest) (hN : (Nb, .cells #[.int .i64 (n : Nat)] 3) ∈ rest) (hM : (M, F.med L.P 1 1) ∈ rest) (hCS : Cb ≠ Sb) (hne : ∀ p ∈ rest, p.1 ≠ Sb) (hnc : ∀ p ∈ rest, p.1 ≠ Cb) :
    Calls Tryz.prog 32 #[.pointer (some ⟨Pb, 0, none⟩), .pointer (some ⟨Nb, 0, none⟩), .pointer (some ⟨Cb, 0, none⟩)] W0 fun e w' => e = .returned (.tuple #[]) ∧ ∃ i, ¬ (1 + i * (n + 1) + n < per) ∧ FS T w L rest per n M Cb Sb i w' := by
  have HF : Hid ((8 ≤ per ∧ per ≤ 64) ∧ (1 ≤ n ∧ n ≤ 20) ∧ (Pb, Obj.cells #[.pointer (some ⟨Sb, 0, none⟩)] 28) ∈ rest ∧ (Nb, Obj.cells #[.int .i64 (n : Nat)] 3) ∈ rest ∧ (M, F.med L.P 1 1) ∈ rest ∧ Cb ≠ Sb ∧ (∀ p ∈ rest, p.1 ≠ Sb) ∧ (∀ p ∈ rest, p.1 ≠ Cb)) := ⟨hper, hn, hP, hN, hM, hCS, hne, hnc⟩
  have H0 : Hid _ := h
  have hn2 : n ≤ 20 := hn.2
  clear h hP hN hM hCS hne hnc hper hn
  go_enter Tryz.func32, Tryz.ntmps32
  go_wp2
  go_loopw [] (fun wr => ∃ i, Hid (FS T w L rest per n M Cb Sb i wr)) (fun wr => 64 - cnt32 Cb wr)
  case atStart => exact ⟨0, H0.out⟩
  case round =>
    obtain ⟨i, HI⟩ := hrel
    clear H0
    have hi : i ≤ 32 := HI.out.small HF.out.2.1.1 HF.out.1.2
    have c1 : wr.cell? ⟨Pb, 0, none⟩ = some (.pointer (some ⟨Sb, 0, none⟩)) := F.cell_of (HI.out.at' (p := (Pb, Obj.cells #[.pointer (some ⟨Sb, 0, none⟩)] 28)) HF.out.2.2.1) 0
    have c2 : wr.cell? ⟨Nb, 0, none⟩ = some (.int .i64 (n : Nat)) := F.cell_of (HI.out.at' (p := (Nb, Obj.cells #[.int .i64 (n : Nat)] 3)) HF.out.2.2.2.1) 0
    by_cases hr : 1 + i * (n + 1) + n < per
    · have hrm := HI.out.room HF.out.1 true (by
        have := HF.out.2.1.1
        exact decide_eq_true ⟨by omega, by omega⟩)
      have HR : Hid _ := hr
      clear hr
      go_wp2_with fail
      go_call hrm as er w1 ⟨rfl, hI1⟩
      have HI1 : Hid (FS T w L rest per n M Cb Sb i w1) := hI1
      clear hrm hI1 c1 c2
      go_wp2_with fail
      refine F.wp_region_pb (fun f => ⟨#[.pointer (some ⟨Pb, 0, none⟩), .pointer (some ⟨Nb, 0, none⟩), .pointer (some ⟨Cb, 0, none⟩), .pointer (some ⟨Sb, 0, none⟩), .int .i64 (n : Nat), .bool true, f 0, f 1, f 2, f 3, u10, u11], []⟩) (V32 Sb n i) (F.Two 3 (FS T w L rest per n M Cb Sb i) (FS2 T w L rest per n M Cb Sb i)) (fun i => [u6, u7, u8, u9].getD i undef) (by kernel_rfl) rfl rfl ?hIq ?hputq ?stepq ?finq
      case hIq => exact F_two_start (HI1.out.below (Below.refl _ _).drew)
      case finq =>
        intro f W hP hV
        have w0 : f 0 = .pointer (some ⟨Sb, 0, none⟩) := hV 0 (by decide)
        have w1 : f 1 = .int .i64 (n : Nat) := hV 1 (by decide)
        have w2 : f 2 = .string (payN ⟨#[103]⟩ n) := hV 2 (by decide)
        have w3 : f 3 = .int .i64 (1 + i * (n + 1) : Nat) := hV 3 (by decide)
        clear hV
        have h2 : FS2 T w L rest per n M Cb Sb i W := hP.b rfl
        clear hP
        generalize f 0 = z0 at *
        subst w0
        generalize f 1 = z1 at *
        subst w1
        generalize f 2 = z2 at *
        subst w2
        generalize f 3 = z3 at *
        subst w3
        have q1 : W.cell? ⟨Cb, 0, none⟩ = some (.int .i64 (i : Nat)) := F.cell_of h2.cnt 0
        have q2 := F.frz_of h2.cnt 0
        have H3 : Hid (FS T w L rest per n M Cb Sb (i + 1) (W.setCell ⟨Cb, 0, none⟩ (.int .i64 ((i : Int) + 1)))) := h2.count HF.out.2.2.2.2.2.2.2 HF.out.2.2.2.2.2.1
        have hc0 : cnt32 Cb wr = i := HI.out.cnt32
        clear h2 HI1
        go_wp2
        go_roundw
        case rel => exact ⟨i + 1, H3.out⟩
        case measure =>
          rw [hc0, H3.out.cnt32]
          omega
      case hputq =>
        repeat (refine ⟨fun f v => rfl, ?_⟩)
        trivial
      case stepq =>
        refine ⟨?_, ?_⟩
        · intro done f W hP hdn hd K hK
          clear hd
          have q : W.cell? ⟨Pb, 0, none⟩ = some (.pointer (some ⟨Sb, 0, none⟩)) := F.cell_of (F.Two.any (R := fun W => W.heap[Pb]? = some (Obj.cells #[.pointer (some ⟨Sb, 0, none⟩)] 28)) (fun W h => h.at' (p := (Pb, Obj.cells #[.pointer (some ⟨Sb, 0, none⟩)] 28)) HF.out.2.2.1) (fun W h => h.at' (p := (Pb, Obj.cells #[.pointer (some ⟨Sb, 0, none⟩)] 28)) HF.out.2.2.1) hP) 0
          go_simp
          exact hK _ _ rfl (hP.pure _ (by decide) _)
        refine ⟨?_, ?_⟩
        · intro done f W hP hdn hd K hK
          clear hd
          have q : W.cell? ⟨Nb, 0, none⟩ = some (.int .i64 (n : Nat)) := F.cell_of (F.Two.any (R := fun W => W.heap[Nb]? = some (Obj.cells #[.int .i64 (n : Nat)] 3)) (fun W h => h.at' (p := (Nb, Obj.cells #[.int .i64 (n : Nat)] 3)) HF.out.2.2.2.1) (fun W h => h.at' (p := (Nb, Obj.cells #[.int .i64 (n : Nat)] 3)) HF.out.2.2.2.1) hP) 0
          go_simp
          exact hK _ _ rfl (hP.pure _ (by decide) _)
        refine ⟨?_, ?_⟩
        · intro done f W hP hdn hd K hK
          have d1 := (hd.1 rfl).2
          have e1 : done 1 = true := (hd.1 rfl).1
          clear hd
          replace d1 : f 1 = .int .i64 (n : Nat) := d1
          generalize f 1 = x1 at *
          subst d1
          clear e1
          have hpy := pay_any ⟨#[103]⟩ n HF.out.2.1.1 (by omega) W
          go_simp
          refine Calls.mono hpy ?_
          rintro er W' ⟨rfl, hb⟩
          exact hK _ _ rfl (hP.below (by decide) (fun h => h.below hb) (fun h => h.below hb) _)
        refine ⟨?_, ?_⟩
        · intro done f W hP hdn hd K hK
          have d0 := (hd.1 rfl).2
          have e0 : done 0 = true := (hd.1 rfl).1
          have d2 := (hd.2.1 rfl).2
          have e2 : done 2 = true := (hd.2.1 rfl).1
          clear hd
          replace d0 : f 0 = .pointer (some ⟨Sb, 0, none⟩) := d0
          replace d2 : f 2 = .string (payN ⟨#[103]⟩ n) := d2
          generalize f 0 = x0 at *
          subst d0
          clear e0
          generalize f 2 = x2 at *
          subst d2
          clear e2
          have hA := hP.a hdn
          have hap := hA.app HF.out.1 HF.out.2.1 HF.out.2.2.2.2.1 HF.out.2.2.2.2.2.1 HF.out.2.2.2.2.2.2.1 HR.out (payN ⟨#[103]⟩ n) (payN_size _ _)
          go_simp
          refine Calls.mono hap ?_
          rintro er W' ⟨rfl, hB⟩
          exact hK _ _ rfl (hP.turn hB _)
        trivial
    · have hrm := HI.out.room HF.out.1 false (by
        exact decide_eq_false (fun hh => hr (by omega)))
      have HR : Hid _ := hr
      clear hr
      go_wp2_with fail
      go_call hrm as er w1 ⟨rfl, hI1⟩
      have HI1 : Hid (FS T w L rest per n M Cb Sb i w1) := hI1
      clear hrm hI1 c1 c2
      go_wp2
      go_returns
      exact ⟨rfl, i, HR.out, HI1.out⟩
end Go.Proofs.YtncfbocbigdhiaaGreat
