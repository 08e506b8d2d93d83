/- Loose, and GroupBack's closure, on a device that does all. -/
import Derived.Test.YtncfbocbigdhiaaGreatJM
namespace Go.Proofs.YtncfbocbigdhiaaGreat
open Go.RowKit
set_option maxHeartbeats 1000000 in
theorem dev_loose {T : Nat} {w : World} {L : F.Loc} {n : Nat} {oth : List (Nat × Obj)} {now : Nat → ByteArray} {c : Int} {W : World} (h : Dev T w L n oth now c W) :
    Calls Tryz.prog 19 #[.pointer (some ⟨L.P, 0, none⟩), .int .i64 1] W fun e w' => e = .returned (.int .i64 0) ∧ w' = W := by
  obtain ⟨st, lv, ats, ho, -, hsr, -, -, -, -, -, -, hl0⟩ := h.ex
  have hf := ho.find
  rw [hsr] at hf
  have c4 := ho.dc.2.2.2.2.1
  obtain ⟨ao, cp, hv⟩ : ∃ ao cp, lv = .slice ao 0 cp := by
    rcases ho.own.2 with h1 | ⟨g, cap, cur, e, h2, h3, h4⟩
    · exact ⟨none, 0, h1.1⟩
    · rw [hl0] at e; exact ⟨_, _, e⟩
  rw [hv] at c4
  clear h ho hl0 hsr
  go_enter Tryz.func19, Tryz.ntmps19
  go_wp2_with fail
  go_call hf as e w1 ⟨rfl, rfl⟩
  go_wp2
  go_returns
  exact ⟨rfl, rfl⟩
theorem ent16 (args : Array Value) (W : World) : (callFunc 16 args).run Tryz.prog W = .ok (.enter 16 args) W := O.enter_of Tryz.func16 (by kernel_rfl) (by kernel_rfl) args W
def V16 (Sb Kb O ln lc i k : Nat) (x : ByteArray) (s : Sg) : Nat → Value → Prop
  | 0, v => v = .pointer (some ⟨Sb, 0, none⟩)
  | 1, v => v = .slice (some ⟨Kb, O, none⟩) ln lc
  | 2, v => v = .int .i64 (i : Nat)
  | 3, v => v = .pointer (some ⟨Kb, O + i * 6, none⟩)
  | 4, v => v = .pointer (some ⟨Kb, O + i * 6, none⟩)
  | 5, v => v = .string x
  | 6, v => v = .int .i64 (k : Nat)
  | 7, v => v = .string (payN x k)
  | 8, v => v = .int .i64 (s.a : Nat)
  | _, _ => True
set_option maxHeartbeats 1000000 in
set_option maxRecDepth 100000 in
theorem op16 {T : Nat} {w : World} {L : F.Loc} {n : Nat} {rest : List (Nat × Obj)} {now : Nat → ByteArray} {c : Int} {W0 : World} {Pb Lb Ib Nb Ab Sb Kb O ln lc i k : Nat} {x : ByteArray} (s : Sg) (h : Dev T w L n ((Sb, .cells s.cs 44) :: (Ab, .cells #[.int .i64 0] 3) :: rest) now c W0)
    (pbm : (Pb, Obj.cells #[.pointer (some ⟨Sb, 0, none⟩)] 28) ∈ rest) (plm : (Lb, Obj.cells #[.slice (some ⟨Kb, O, none⟩) ln lc] 22) ∈ rest) (pim : (Ib, Obj.cells #[.int .i64 (i : Nat)] 3) ∈ rest) (pnm : (Nb, Obj.cells #[.int .i64 (k : Nat)] 3) ∈ rest) (hM : (s.M, F.med L.P 1 1) ∈ rest)
    (h12 : Ab ≠ Sb) (hne : ∀ p ∈ rest, p.1 ≠ Sb) (hna : ∀ p ∈ rest, p.1 ≠ Ab) (hil : i < ln) (hi30 : i ≤ 30) (hrow : ∀ W, Below T w W → W.cell? ⟨Kb, O + i * 6, none⟩ = some (.string x)) (hs : s.Ok) (hk1 : 1 ≤ k) (hk2 : k ≤ 100) (hroom : s.a + k < s.p) (hfit : s.b + s.p ≤ n) (hn1 : n ≤ 1000) (hc : c ≤ 600000) :
    Calls Tryz.prog 16 #[.pointer (some ⟨Pb, 0, none⟩), .pointer (some ⟨Lb, 0, none⟩), .pointer (some ⟨Ib, 0, none⟩), .pointer (some ⟨Nb, 0, none⟩), .pointer (some ⟨Ab, 0, none⟩)] W0 fun e w' => e = .returned (.tuple #[]) ∧ Dev T w L n ((Ab, .cells #[.int .i64 (s.a : Nat)] 3) :: (Sb, .cells (Sg.cs { s with a := s.a + 1 + k }) 44) :: rest) (layC now s (payN x k) k) (c + 100) w' := by
  go_enter Tryz.func16, Tryz.ntmps16
  refine F.wp_region_pb (fun f => ⟨#[.pointer (some ⟨Pb, 0, none⟩), .pointer (some ⟨Lb, 0, none⟩), .pointer (some ⟨Ib, 0, none⟩), .pointer (some ⟨Nb, 0, none⟩), .pointer (some ⟨Ab, 0, none⟩), f 0, f 1, f 2, f 3, f 4, f 5, f 6, f 7, f 8], []⟩) (V16 Sb Kb O ln lc i k x s) (Ph3 8 9 (fun W => Dev T w L n ((Sb, .cells s.cs 44) :: (Ab, .cells #[.int .i64 0] 3) :: rest) now c W) (fun W => Dev T w L n ((Sb, .cells (Sg.cs { s with a := s.a + 1 + k }) 44) :: (Ab, .cells #[.int .i64 0] 3) :: rest) (layC now s (payN x k) k) (c + 100) W) (fun W => Dev T w L n ((Ab, .cells #[.int .i64 (s.a : Nat)] 3) :: (Sb, .cells (Sg.cs { s with a := s.a + 1 + k }) 44) :: rest) (layC now s (payN x k) k) (c + 100) W)) (fun i => [undef, undef, undef, undef, undef, undef, undef, undef, undef, undef].getD i undef) (by kernel_rfl) rfl rfl ?hIq ?hputq ?stepq ?finq
  case hIq => exact Ph3.start (h.below (Below.refl _ _).drew)
  case finq =>
    intro f W hP hV
    have v0 : f 0 = .pointer (some ⟨Sb, 0, none⟩) := hV 0 (by decide)
    have v1 : f 1 = .slice (some ⟨Kb, O, none⟩) ln lc := hV 1 (by decide)
    have v2 : f 2 = .int .i64 (i : Nat) := hV 2 (by decide)
    have v3 : f 3 = .pointer (some ⟨Kb, O + i * 6, none⟩) := hV 3 (by decide)
    have v4 : f 4 = .pointer (some ⟨Kb, O + i * 6, none⟩) := hV 4 (by decide)
    have v5 : f 5 = .string x := hV 5 (by decide)
    have v6 : f 6 = .int .i64 (k : Nat) := hV 6 (by decide)
    have v7 : f 7 = .string (payN x k) := hV 7 (by decide)
    have v8 : f 8 = .int .i64 (s.a : Nat) := hV 8 (by decide)
    clear hV
    have HC : Hid _ := hP.c rfl rfl
    clear hP
    generalize f 0 = z0 at *
    subst v0
    generalize f 1 = z1 at *
    subst v1
    generalize f 2 = z2 at *
    subst v2
    generalize f 3 = z3 at *
    subst v3
    generalize f 4 = z4 at *
    subst v4
    generalize f 5 = z5 at *
    subst v5
    generalize f 6 = z6 at *
    subst v6
    generalize f 7 = z7 at *
    subst v7
    generalize f 8 = z8 at *
    subst v8
    go_wp2
    go_returns
    exact ⟨rfl, HC.out⟩
  case hputq =>
    repeat (refine ⟨fun f v => rfl, ?_⟩)
    trivial
  case stepq =>
    refine ⟨?_, ?_⟩
    · intro done f W hP hdn hd K hK
      clear hd
      have q : W.cell? ⟨Pb, 0, none⟩ = some (.pointer (some ⟨Sb, 0, none⟩)) := F.cell_of (hP.any (D := fun W => W.heap[Pb]? = some (Obj.cells #[.pointer (some ⟨Sb, 0, none⟩)] 28)) (fun h => h.at' (p := (Pb, Obj.cells #[.pointer (some ⟨Sb, 0, none⟩)] 28)) (by simp [pbm])) (fun h => h.at' (p := (Pb, Obj.cells #[.pointer (some ⟨Sb, 0, none⟩)] 28)) (by simp [pbm])) (fun h => h.at' (p := (Pb, Obj.cells #[.pointer (some ⟨Sb, 0, none⟩)] 28)) (by simp [pbm]))) 0
      go_simp
      exact hK _ _ rfl (hP.pure (by decide) (by decide))
    refine ⟨?_, ?_⟩
    · intro done f W hP hdn hd K hK
      clear hd
      have q : W.cell? ⟨Lb, 0, none⟩ = some (.slice (some ⟨Kb, O, none⟩) ln lc) := F.cell_of (hP.any (D := fun W => W.heap[Lb]? = some (Obj.cells #[.slice (some ⟨Kb, O, none⟩) ln lc] 22)) (fun h => h.at' (p := (Lb, Obj.cells #[.slice (some ⟨Kb, O, none⟩) ln lc] 22)) (by simp [plm])) (fun h => h.at' (p := (Lb, Obj.cells #[.slice (some ⟨Kb, O, none⟩) ln lc] 22)) (by simp [plm])) (fun h => h.at' (p := (Lb, Obj.cells #[.slice (some ⟨Kb, O, none⟩) ln lc] 22)) (by simp [plm]))) 0
      go_simp
      exact hK _ _ rfl (hP.pure (by decide) (by decide))
    refine ⟨?_, ?_⟩
    · intro done f W hP hdn hd K hK
      clear hd
      have q : W.cell? ⟨Ib, 0, none⟩ = some (.int .i64 (i : Nat)) := F.cell_of (hP.any (D := fun W => W.heap[Ib]? = some (Obj.cells #[.int .i64 (i : Nat)] 3)) (fun h => h.at' (p := (Ib, Obj.cells #[.int .i64 (i : Nat)] 3)) (by simp [pim])) (fun h => h.at' (p := (Ib, Obj.cells #[.int .i64 (i : Nat)] 3)) (by simp [pim])) (fun h => h.at' (p := (Ib, Obj.cells #[.int .i64 (i : Nat)] 3)) (by simp [pim]))) 0
      go_simp
      exact hK _ _ rfl (hP.pure (by decide) (by decide))
    refine ⟨?_, ?_⟩
    · intro done f W hP hdn hd K hK
      have d1 := (hd.1 rfl).2
      have e1 : done 1 = true := (hd.1 rfl).1
      have d2 := (hd.2.1 rfl).2
      have e2 : done 2 = true := (hd.2.1 rfl).1
      clear hd
      replace d1 : f 1 = .slice (some ⟨Kb, O, none⟩) ln lc := d1
      replace d2 : f 2 = .int .i64 (i : Nat) := d2
      generalize f 1 = x1 at *
      subst d1
      clear e1
      generalize f 2 = x2 at *
      subst d2
      clear e2
      go_simp
      exact hK _ _ rfl (hP.pure (by decide) (by decide))
    refine ⟨?_, ?_⟩
    · intro done f W hP hdn hd K hK
      have d3 := (hd.1 rfl).2
      have e3 : done 3 = true := (hd.1 rfl).1
      clear hd
      replace d3 : f 3 = .pointer (some ⟨Kb, O + i * 6, none⟩) := d3
      generalize f 3 = x3 at *
      subst d3
      clear e3
      go_simp
      exact hK _ _ rfl (hP.pure (by decide) (by decide))
    refine ⟨?_, ?_⟩
    · intro done f W hP hdn hd K hK
      have d4 := (hd.1 rfl).2
      have e4 : done 4 = true := (hd.1 rfl).1
      clear hd
      replace d4 : f 4 = .pointer (some ⟨Kb, O + i * 6, none⟩) := d4
      generalize f 4 = x4 at *
      subst d4
      clear e4
      have q := hrow W (hP.any (D := fun W => Below T w W) (fun h => h.bel) (fun h => h.bel) (fun h => h.bel))
      go_simp
      exact hK _ _ rfl (hP.pure (by decide) (by decide))
    refine ⟨?_, ?_⟩
    · intro done f W hP hdn hd K hK
      clear hd
      have q : W.cell? ⟨Nb, 0, none⟩ = some (.int .i64 (k : Nat)) := F.cell_of (hP.any (D := fun W => W.heap[Nb]? = some (Obj.cells #[.int .i64 (k : Nat)] 3)) (fun h => h.at' (p := (Nb, Obj.cells #[.int .i64 (k : Nat)] 3)) (by simp [pnm])) (fun h => h.at' (p := (Nb, Obj.cells #[.int .i64 (k : Nat)] 3)) (by simp [pnm])) (fun h => h.at' (p := (Nb, Obj.cells #[.int .i64 (k : Nat)] 3)) (by simp [pnm]))) 0
      go_simp
      exact hK _ _ rfl (hP.pure (by decide) (by decide))
    refine ⟨?_, ?_⟩
    · intro done f W hP hdn hd K hK
      have d5 := (hd.1 rfl).2
      have e5 : done 5 = true := (hd.1 rfl).1
      have d6 := (hd.2.1 rfl).2
      have e6 : done 6 = true := (hd.2.1 rfl).1
      clear hd
      replace d5 : f 5 = .string x := d5
      replace d6 : f 6 = .int .i64 (k : Nat) := d6
      generalize f 5 = x5 at *
      subst d5
      clear e5
      generalize f 6 = x6 at *
      subst d6
      clear e6
      have hpy := pay_any x k hk1 hk2 W
      go_simp
      refine Calls.mono hpy ?_
      rintro e W' ⟨rfl, hb⟩
      exact hK _ _ rfl (hP.step (by decide) (by decide) (fun h => h.below hb) (fun h => h.below hb) (fun h => h.below hb))
    refine ⟨?_, ?_⟩
    · intro done f W hP hdn hd K hK
      have d0 := (hd.1 rfl).2
      have e0 : done 0 = true := (hd.1 rfl).1
      have d7 := (hd.2.1 rfl).2
      have e7 : done 7 = true := (hd.2.1 rfl).1
      clear hd
      replace d0 : f 0 = .pointer (some ⟨Sb, 0, none⟩) := d0
      replace d7 : f 7 = .string (payN x k) := d7
      generalize f 0 = x0 at *
      subst d0
      clear e0
      generalize f 7 = x7 at *
      subst d7
      clear e7
      have hA := hP.a hdn
      have hap := dev_append s hA (List.mem_cons_of_mem _ hM) (by
        intro p hp
        rcases List.mem_cons.1 hp with rfl | hp
        · exact h12
        · exact hne p hp) hs (payN x k) k hk1 hroom (payN_size _ _) hfit hn1 hc
      go_simp
      refine Calls.mono hap ?_
      rintro e W' ⟨rfl, hB⟩
      exact hK _ _ rfl (hP.one (by decide) hdn hB)
    refine ⟨?_, ?_⟩
    · intro done f W hP hdn hd K hK
      have d8 := (hd.1 rfl).2
      have e8 : done 8 = true := (hd.1 rfl).1
      clear hd
      replace d8 : f 8 = .int .i64 (s.a : Nat) := d8
      generalize f 8 = x8 at *
      subst d8
      have hB := hP.b e8 hdn
      have q := F.cell_of (hB.at' (p := (Ab, .cells #[.int .i64 0] 3)) (by simp)) 0
      have z := F.frz_of (hB.at' (p := (Ab, .cells #[.int .i64 0] 3)) (by simp)) 0
      simp at q
      have hC := ((hB.forget (oth' := (Ab, .cells #[.int .i64 0] 3) :: (Sb, .cells (Sg.cs { s with a := s.a + 1 + k }) 44) :: rest) (by intro p hp; simp only [List.mem_cons] at hp ⊢; rcases hp with rfl | rfl | hp <;> simp [*])).setOther (v := .int .i64 (s.a : Nat)) (by
        intro p hp
        rcases List.mem_cons.1 hp with rfl | hp
        · exact Ne.symm h12
        · exact hna p hp) (by decide))
      have HC : Hid _ := hC
      clear hC
      go_simp
      exact hK (.bool false) _ trivial (hP.two (by decide) e8 HC.out)
    trivial
end Go.Proofs.YtncfbocbigdhiaaGreat
