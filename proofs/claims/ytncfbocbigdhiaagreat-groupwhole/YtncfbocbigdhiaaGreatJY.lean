/- Texts of this seat, one behind the other: JR. -/
import Derived.Test.YtncfbocbigdhiaaGreatJZ
import Derived.BigQuiet
/- Texts of this seat, one behind the other: JM, JN, JO, JP, JQ. -/
/- same: texts held against themselves, as they lie in two rows. -/
namespace Go.Proofs.YtncfbocbigdhiaaGreat
open Go.RowKit
theorem Txs.cellN {v : Value} {xs : List ByteArray} {ol : List (Nat × Obj)} (h : Txs v xs ol) {W : World} (ho : ∀ p ∈ ol, W.heap[p.1]? = some p.2) :
    ∃ ao cp g, v = .slice ao xs.length cp ∧ (0 < xs.length → ao = some ⟨g, 0, none⟩) ∧ ∀ k j (hj : j < xs.length), (W.drewN k).cell? ⟨g, j, none⟩ = some (.string xs[j]) := by
  obtain ⟨ao, cp, g, h1, h2, h3⟩ := h.cell ho
  exact ⟨ao, cp, g, h1, h2, fun k j hj => h3 j hj⟩
set_option maxHeartbeats 2000000 in
set_option maxRecDepth 100000 in
theorem same_yes {v u : Value} {xs : List ByteArray} {ol ol2 : List (Nat × Obj)} (h : Txs v xs ol) (h2 : Txs u xs ol2) (hl : xs.length ≤ 1000) (W : World) (ho : ∀ p ∈ ol, W.heap[p.1]? = some p.2) (ho2 : ∀ p ∈ ol2, W.heap[p.1]? = some p.2) :
    Calls Tryz.prog 21 #[v, u] W fun e w' => e = .returned (.bool true) ∧ Below W.heap.size W w' := by
  obtain ⟨ao, cp, g, rfl, ha, hc⟩ := h.cellN ho
  obtain ⟨ao2, cp2, g2, rfl, ha2, hc2⟩ := h2.cellN ho2
  have HA : Hid _ := ha
  have HA2 : Hid _ := ha2
  have HC : Hid _ := hc
  have HC2 : Hid _ := hc2
  obtain ⟨n, hn⟩ : ∃ n, n = xs.length := ⟨_, rfl⟩
  have HN : Hid _ := hn
  rw [← hn] at hl ⊢
  clear h h2 ho ho2 ha ha2 hc hc2 hn
  go_enter Tryz.func21, Tryz.ntmps21
  go_wp2
  go_loopw [13] (fun iv wr => ∃ i : Nat, iv = .int .i64 (i : Nat) ∧ i ≤ n ∧ Hid (∃ k, wr = W.drewN k)) (fun iv _ => n - (intOf iv).toNat)
  case atStart => exact ⟨0, rfl, Nat.zero_le _, ⟨0, rfl⟩⟩
  case round =>
    obtain ⟨i, rfl, hin, HW⟩ := hrel
    rcases Nat.eq_or_lt_of_le hin with rfl | hlt
    · go_wp2
      go_returns
      obtain ⟨k, rfl⟩ := HW.out
      exact ⟨rfl, ⟨rfl, rfl, rfl, Nat.le_refl _, fun _ _ => rfl⟩⟩
    · obtain ⟨k, hk⟩ := HW.out
      have hi : i < xs.length := by rw [← HN.out]; exact hlt
      obtain rfl := HA.out (by omega)
      obtain rfl := HA2.out (by omega)
      obtain ⟨x, hx⟩ : ∃ x, x = xs[i] := ⟨_, rfl⟩
      have q1 : ∀ m, (wr.drewN m).cell? ⟨g, i, none⟩ = some (.string x) := fun m => by rw [hx, hk]; exact HC.out (k + m) i hi
      have q2 : ∀ m, (wr.drewN m).cell? ⟨g2, i, none⟩ = some (.string x) := fun m => by rw [hx, hk]; exact HC2.out (k + m) i hi
      clear hx hk
      go_wp2_with fail
      go_quiet (fail)
      have HW2 : Hid (∃ k2, wr.drewN nq = W.drewN k2) := by
        obtain ⟨k, hk⟩ := HW.out
        exact ⟨k + nq, by rw [hk]; first | rfl | (simp [World.drewN]; omega) | simp⟩
      clear q1 q2
      go_wp2
      go_roundw
      case rel => exact ⟨i + 1, by congr 1, by omega, HW2⟩
      case measure =>
        show n - ((i : Int) + 1).toNat < n - ((i : Nat) : Int).toNat
        omega
end Go.Proofs.YtncfbocbigdhiaaGreat

/- Loose, and GroupBack's closure, on a device that does all. -/
namespace Go.Proofs.YtncfbocbigdhiaaGreat
open Go.RowKit
set_option maxHeartbeats 1000000 in
theorem dev_loose {T : Nat} {w : World} {L : F.Loc} {n : Nat} {oth : List (Nat × Obj)} {now : Nat → ByteArray} {c : Int} {W : World} (h : Dev T w L n oth now c W) :
    Calls Tryz.prog 19 #[.pointer (some ⟨L.P, 0, none⟩), .int .i64 1] W fun e w' => e = .returned (.int .i64 0) ∧ w' = W := by
  obtain ⟨st, lv, ats, ho, -, hsr, -, -, -, -, -, -, hl0⟩ := h.ex
  have hf := ho.find
  rw [hsr] at hf
  have c4 := ho.dc.2.2.2.2.1
  obtain ⟨ao, cp, hv⟩ : ∃ ao cp, lv = .slice ao 0 cp := by
    rcases ho.own.2 with h1 | ⟨g, cap, cur, e, h2, h3, h4⟩
    · exact ⟨none, 0, h1.1⟩
    · rw [hl0] at e; exact ⟨_, _, e⟩
  rw [hv] at c4
  clear h ho hl0 hsr
  go_enter Tryz.func19, Tryz.ntmps19
  go_wp2_with fail
  go_call hf as e w1 ⟨rfl, rfl⟩
  go_wp2
  go_returns
  exact ⟨rfl, rfl⟩
theorem ent16 (args : Array Value) (W : World) : (callFunc 16 args).run Tryz.prog W = .ok (.enter 16 args) W := O.enter_of Tryz.func16 (by kernel_rfl) (by kernel_rfl) args W
def V16 (Sb Kb O ln lc i k : Nat) (x : ByteArray) (s : Sg) : Nat → Value → Prop
  | 0, v => v = .pointer (some ⟨Sb, 0, none⟩)
  | 1, v => v = .slice (some ⟨Kb, O, none⟩) ln lc
  | 2, v => v = .int .i64 (i : Nat)
  | 3, v => v = .pointer (some ⟨Kb, O + i * 6, none⟩)
  | 4, v => v = .pointer (some ⟨Kb, O + i * 6, none⟩)
  | 5, v => v = .string x
  | 6, v => v = .int .i64 (k : Nat)
  | 7, v => v = .string (payN x k)
  | 8, v => v = .int .i64 (s.a : Nat)
  | _, _ => True
set_option maxHeartbeats 1000000 in
set_option maxRecDepth 100000 in
theorem op16 {T : Nat} {w : World} {L : F.Loc} {n : Nat} {rest : List (Nat × Obj)} {now : Nat → ByteArray} {c : Int} {W0 : World} {Pb Lb Ib Nb Ab Sb Kb O ln lc i k : Nat} {x : ByteArray} (s : Sg) (h : Dev T w L n ((Sb, .cells s.cs 44) :: (Ab, .cells #[.int .i64 0] 3) :: rest) now c W0)
    (pbm : (Pb, Obj.cells #[.pointer (some ⟨Sb, 0, none⟩)] 28) ∈ rest) (plm : (Lb, Obj.cells #[.slice (some ⟨Kb, O, none⟩) ln lc] 22) ∈ rest) (pim : (Ib, Obj.cells #[.int .i64 (i : Nat)] 3) ∈ rest) (pnm : (Nb, Obj.cells #[.int .i64 (k : Nat)] 3) ∈ rest) (hM : (s.M, F.med L.P 1 1) ∈ rest)
    (h12 : Ab ≠ Sb) (hne : ∀ p ∈ rest, p.1 ≠ Sb) (hna : ∀ p ∈ rest, p.1 ≠ Ab) (hil : i < ln) (_hi30 : i ≤ 30) (hrow : ∀ W, Below T w W → W.cell? ⟨Kb, O + i * 6, none⟩ = some (.string x)) (hs : s.Ok) (hk1 : 1 ≤ k) (hk2 : k ≤ 100) (hroom : s.a + k < s.p) (hfit : s.b + s.p ≤ n) (hn1 : n ≤ 1000) (hc : c ≤ 600000) :
    Calls Tryz.prog 16 #[.pointer (some ⟨Pb, 0, none⟩), .pointer (some ⟨Lb, 0, none⟩), .pointer (some ⟨Ib, 0, none⟩), .pointer (some ⟨Nb, 0, none⟩), .pointer (some ⟨Ab, 0, none⟩)] W0 fun e w' => e = .returned (.tuple #[]) ∧ Dev T w L n ((Ab, .cells #[.int .i64 (s.a : Nat)] 3) :: (Sb, .cells (Sg.cs { s with a := s.a + 1 + k }) 44) :: rest) (layC now s (payN x k) k) (c + 100) w' := by
  go_enter Tryz.func16, Tryz.ntmps16
  refine F.wp_region_pb (fun f => ⟨#[.pointer (some ⟨Pb, 0, none⟩), .pointer (some ⟨Lb, 0, none⟩), .pointer (some ⟨Ib, 0, none⟩), .pointer (some ⟨Nb, 0, none⟩), .pointer (some ⟨Ab, 0, none⟩), f 0, f 1, f 2, f 3, f 4, f 5, f 6, f 7, f 8], []⟩) (V16 Sb Kb O ln lc i k x s) (Ph3 8 9 (fun W => Dev T w L n ((Sb, .cells s.cs 44) :: (Ab, .cells #[.int .i64 0] 3) :: rest) now c W) (fun W => Dev T w L n ((Sb, .cells (Sg.cs { s with a := s.a + 1 + k }) 44) :: (Ab, .cells #[.int .i64 0] 3) :: rest) (layC now s (payN x k) k) (c + 100) W) (fun W => Dev T w L n ((Ab, .cells #[.int .i64 (s.a : Nat)] 3) :: (Sb, .cells (Sg.cs { s with a := s.a + 1 + k }) 44) :: rest) (layC now s (payN x k) k) (c + 100) W)) (fun i => [undef, undef, undef, undef, undef, undef, undef, undef, undef, undef].getD i undef) (by kernel_rfl) rfl rfl ?hIq ?hputq ?stepq ?finq
  case hIq => exact Ph3.start (h.below (Below.refl _ _).drew)
  case finq =>
    intro f W hP hV
    have v0 : f 0 = .pointer (some ⟨Sb, 0, none⟩) := hV 0 (by decide)
    have v1 : f 1 = .slice (some ⟨Kb, O, none⟩) ln lc := hV 1 (by decide)
    have v2 : f 2 = .int .i64 (i : Nat) := hV 2 (by decide)
    have v3 : f 3 = .pointer (some ⟨Kb, O + i * 6, none⟩) := hV 3 (by decide)
    have v4 : f 4 = .pointer (some ⟨Kb, O + i * 6, none⟩) := hV 4 (by decide)
    have v5 : f 5 = .string x := hV 5 (by decide)
    have v6 : f 6 = .int .i64 (k : Nat) := hV 6 (by decide)
    have v7 : f 7 = .string (payN x k) := hV 7 (by decide)
    have v8 : f 8 = .int .i64 (s.a : Nat) := hV 8 (by decide)
    clear hV
    have HC : Hid _ := hP.c rfl rfl
    clear hP
    generalize f 0 = z0 at *
    subst v0
    generalize f 1 = z1 at *
    subst v1
    generalize f 2 = z2 at *
    subst v2
    generalize f 3 = z3 at *
    subst v3
    generalize f 4 = z4 at *
    subst v4
    generalize f 5 = z5 at *
    subst v5
    generalize f 6 = z6 at *
    subst v6
    generalize f 7 = z7 at *
    subst v7
    generalize f 8 = z8 at *
    subst v8
    go_wp2
    go_returns
    exact ⟨rfl, HC.out⟩
  case hputq =>
    repeat (refine ⟨fun f v => rfl, ?_⟩)
    trivial
  case stepq =>
    refine ⟨?_, ?_⟩
    · intro done f W hP hdn hd K hK
      clear hd
      have q : W.cell? ⟨Pb, 0, none⟩ = some (.pointer (some ⟨Sb, 0, none⟩)) := F.cell_of (hP.any (D := fun W => W.heap[Pb]? = some (Obj.cells #[.pointer (some ⟨Sb, 0, none⟩)] 28)) (fun h => h.at' (p := (Pb, Obj.cells #[.pointer (some ⟨Sb, 0, none⟩)] 28)) (by simp [pbm])) (fun h => h.at' (p := (Pb, Obj.cells #[.pointer (some ⟨Sb, 0, none⟩)] 28)) (by simp [pbm])) (fun h => h.at' (p := (Pb, Obj.cells #[.pointer (some ⟨Sb, 0, none⟩)] 28)) (by simp [pbm]))) 0
      go_simp
      exact hK _ _ rfl (hP.pure (by decide) (by decide))
    refine ⟨?_, ?_⟩
    · intro done f W hP hdn hd K hK
      clear hd
      have q : W.cell? ⟨Lb, 0, none⟩ = some (.slice (some ⟨Kb, O, none⟩) ln lc) := F.cell_of (hP.any (D := fun W => W.heap[Lb]? = some (Obj.cells #[.slice (some ⟨Kb, O, none⟩) ln lc] 22)) (fun h => h.at' (p := (Lb, Obj.cells #[.slice (some ⟨Kb, O, none⟩) ln lc] 22)) (by simp [plm])) (fun h => h.at' (p := (Lb, Obj.cells #[.slice (some ⟨Kb, O, none⟩) ln lc] 22)) (by simp [plm])) (fun h => h.at' (p := (Lb, Obj.cells #[.slice (some ⟨Kb, O, none⟩) ln lc] 22)) (by simp [plm]))) 0
      go_simp
      exact hK _ _ rfl (hP.pure (by decide) (by decide))
    refine ⟨?_, ?_⟩
    · intro done f W hP hdn hd K hK
      clear hd
      have q : W.cell? ⟨Ib, 0, none⟩ = some (.int .i64 (i : Nat)) := F.cell_of (hP.any (D := fun W => W.heap[Ib]? = some (Obj.cells #[.int .i64 (i : Nat)] 3)) (fun h => h.at' (p := (Ib, Obj.cells #[.int .i64 (i : Nat)] 3)) (by simp [pim])) (fun h => h.at' (p := (Ib, Obj.cells #[.int .i64 (i : Nat)] 3)) (by simp [pim])) (fun h => h.at' (p := (Ib, Obj.cells #[.int .i64 (i : Nat)] 3)) (by simp [pim]))) 0
      go_simp
      exact hK _ _ rfl (hP.pure (by decide) (by decide))
    refine ⟨?_, ?_⟩
    · intro done f W hP hdn hd K hK
      have d1 := (hd.1 rfl).2
      have e1 : done 1 = true := (hd.1 rfl).1
      have d2 := (hd.2.1 rfl).2
      have e2 : done 2 = true := (hd.2.1 rfl).1
      clear hd
      replace d1 : f 1 = .slice (some ⟨Kb, O, none⟩) ln lc := d1
      replace d2 : f 2 = .int .i64 (i : Nat) := d2
      generalize f 1 = x1 at *
      subst d1
      clear e1
      generalize f 2 = x2 at *
      subst d2
      clear e2
      go_simp
      exact hK _ _ rfl (hP.pure (by decide) (by decide))
    refine ⟨?_, ?_⟩
    · intro done f W hP hdn hd K hK
      have d3 := (hd.1 rfl).2
      have e3 : done 3 = true := (hd.1 rfl).1
      clear hd
      replace d3 : f 3 = .pointer (some ⟨Kb, O + i * 6, none⟩) := d3
      generalize f 3 = x3 at *
      subst d3
      clear e3
      go_simp
      exact hK _ _ rfl (hP.pure (by decide) (by decide))
    refine ⟨?_, ?_⟩
    · intro done f W hP hdn hd K hK
      have d4 := (hd.1 rfl).2
      have e4 : done 4 = true := (hd.1 rfl).1
      clear hd
      replace d4 : f 4 = .pointer (some ⟨Kb, O + i * 6, none⟩) := d4
      generalize f 4 = x4 at *
      subst d4
      clear e4
      have q := hrow W (hP.any (D := fun W => Below T w W) (fun h => h.bel) (fun h => h.bel) (fun h => h.bel))
      go_simp
      exact hK _ _ rfl (hP.pure (by decide) (by decide))
    refine ⟨?_, ?_⟩
    · intro done f W hP hdn hd K hK
      clear hd
      have q : W.cell? ⟨Nb, 0, none⟩ = some (.int .i64 (k : Nat)) := F.cell_of (hP.any (D := fun W => W.heap[Nb]? = some (Obj.cells #[.int .i64 (k : Nat)] 3)) (fun h => h.at' (p := (Nb, Obj.cells #[.int .i64 (k : Nat)] 3)) (by simp [pnm])) (fun h => h.at' (p := (Nb, Obj.cells #[.int .i64 (k : Nat)] 3)) (by simp [pnm])) (fun h => h.at' (p := (Nb, Obj.cells #[.int .i64 (k : Nat)] 3)) (by simp [pnm]))) 0
      go_simp
      exact hK _ _ rfl (hP.pure (by decide) (by decide))
    refine ⟨?_, ?_⟩
    · intro done f W hP hdn hd K hK
      have d5 := (hd.1 rfl).2
      have e5 : done 5 = true := (hd.1 rfl).1
      have d6 := (hd.2.1 rfl).2
      have e6 : done 6 = true := (hd.2.1 rfl).1
      clear hd
      replace d5 : f 5 = .string x := d5
      replace d6 : f 6 = .int .i64 (k : Nat) := d6
      generalize f 5 = x5 at *
      subst d5
      clear e5
      generalize f 6 = x6 at *
      subst d6
      clear e6
      have hpy := pay_any x k hk1 hk2 W
      go_simp
      refine Calls.mono hpy ?_
      rintro e W' ⟨rfl, hb⟩
      exact hK _ _ rfl (hP.step (by decide) (by decide) (fun h => h.below hb) (fun h => h.below hb) (fun h => h.below hb))
    refine ⟨?_, ?_⟩
    · intro done f W hP hdn hd K hK
      have d0 := (hd.1 rfl).2
      have e0 : done 0 = true := (hd.1 rfl).1
      have d7 := (hd.2.1 rfl).2
      have e7 : done 7 = true := (hd.2.1 rfl).1
      clear hd
      replace d0 : f 0 = .pointer (some ⟨Sb, 0, none⟩) := d0
      replace d7 : f 7 = .string (payN x k) := d7
      generalize f 0 = x0 at *
      subst d0
      clear e0
      generalize f 7 = x7 at *
      subst d7
      clear e7
      have hA := hP.a hdn
      have hap := dev_append s hA (List.mem_cons_of_mem _ hM) (by
        intro p hp
        rcases List.mem_cons.1 hp with rfl | hp
        · exact h12
        · exact hne p hp) hs (payN x k) k hk1 hroom (payN_size _ _) hfit hn1 hc
      go_simp
      refine Calls.mono hap ?_
      rintro e W' ⟨rfl, hB⟩
      exact hK _ _ rfl (hP.one (by decide) hdn hB)
    refine ⟨?_, ?_⟩
    · intro done f W hP hdn hd K hK
      have d8 := (hd.1 rfl).2
      have e8 : done 8 = true := (hd.1 rfl).1
      clear hd
      replace d8 : f 8 = .int .i64 (s.a : Nat) := d8
      generalize f 8 = x8 at *
      subst d8
      have hB := hP.b e8 hdn
      have q := F.cell_of (hB.at' (p := (Ab, .cells #[.int .i64 0] 3)) (by simp)) 0
      have z := F.frz_of (hB.at' (p := (Ab, .cells #[.int .i64 0] 3)) (by simp)) 0
      simp at q
      have hC := ((hB.forget (oth' := (Ab, .cells #[.int .i64 0] 3) :: (Sb, .cells (Sg.cs { s with a := s.a + 1 + k }) 44) :: rest) (by intro p hp; simp only [List.mem_cons] at hp ⊢; rcases hp with rfl | rfl | hp <;> simp [*])).setOther (v := .int .i64 (s.a : Nat)) (by
        intro p hp
        rcases List.mem_cons.1 hp with rfl | hp
        · exact Ne.symm h12
        · exact hna p hp) (by decide))
      have HC : Hid _ := hC
      clear hC
      go_simp
      exact hK (.bool false) _ trivial (hP.two (by decide) e8 HC.out)
    trivial
end Go.Proofs.YtncfbocbigdhiaaGreat

/- GroupBack's closure, under Guard. -/
namespace Go.Proofs.YtncfbocbigdhiaaGreat
open Go.RowKit
theorem back_guard {T : Nat} {w : World} {L : F.Loc} {n : Nat} {rest : List (Nat × Obj)} {now : Nat → ByteArray} {c : Int} {W : World} {Pb Lb Ib Nb Ab Sb Kb O ln lc i k : Nat} {x : ByteArray} (s : Sg) (h : Dev T w L n ((Sb, .cells s.cs 44) :: (Ab, .cells #[.int .i64 0] 3) :: rest) now c W)
    (pbm : (Pb, Obj.cells #[.pointer (some ⟨Sb, 0, none⟩)] 28) ∈ rest) (plm : (Lb, Obj.cells #[.slice (some ⟨Kb, O, none⟩) ln lc] 22) ∈ rest) (pim : (Ib, Obj.cells #[.int .i64 (i : Nat)] 3) ∈ rest) (pnm : (Nb, Obj.cells #[.int .i64 (k : Nat)] 3) ∈ rest) (hM : (s.M, F.med L.P 1 1) ∈ rest)
    (h12 : Ab ≠ Sb) (hne : ∀ p ∈ rest, p.1 ≠ Sb) (hna : ∀ p ∈ rest, p.1 ≠ Ab) (hil : i < ln) (hi30 : i ≤ 30) (hrow : ∀ W, Below T w W → W.cell? ⟨Kb, O + i * 6, none⟩ = some (.string x)) (hs : s.Ok) (hk1 : 1 ≤ k) (hk2 : k ≤ 100) (hroom : s.a + k < s.p) (hfit : s.b + s.p ≤ n) (hn1 : n ≤ 1000) (hc : c ≤ 600000) :
    Calls Tryz.prog 15 #[.func (.func 16) #[] #[.pointer (some ⟨Pb, 0, none⟩), .pointer (some ⟨Lb, 0, none⟩), .pointer (some ⟨Ib, 0, none⟩), .pointer (some ⟨Nb, 0, none⟩), .pointer (some ⟨Ab, 0, none⟩)]] W fun e w' => e = .returned (.tuple #[.agg #[.int .i64 0, .int .i64 0], .bool false]) ∧ Dev T w L n ((Ab, .cells #[.int .i64 (s.a : Nat)] 3) :: (Sb, .cells (Sg.cs { s with a := s.a + 1 + k }) 44) :: rest) (layC now s (payN x k) k) (c + 100) w' := by
  have hlt := h.lts
  have l1 : Sb < W.heap.size := hlt (Sb, .cells s.cs 44) (by simp)
  have l2 : Ab < W.heap.size := hlt (Ab, .cells #[.int .i64 0] 3) (by simp)
  refine dev_guard (oth2 := (Ab, .cells #[.int .i64 (s.a : Nat)] 3) :: (Sb, .cells (Sg.cs { s with a := s.a + 1 + k }) 44) :: F.gob W.heap.size rest) 16 _ ent16 h (fun hg => op16 (lc := lc) (Pb := Pb) (Lb := Lb) (Ib := Ib) (Nb := Nb) (Ab := Ab) (Sb := Sb) (rest := F.gob W.heap.size rest) s (hg.forget ?_) (by simp [F.gob, pbm]) (by simp [F.gob, plm]) (by simp [F.gob, pim]) (by simp [F.gob, pnm]) (by simp [F.gob, hM]) h12 ?_ ?_ hil hi30 hrow hs hk1 hk2 hroom hfit hn1 hc) ?_ ?_
  · intro p hp
    simp only [F.gob, List.mem_cons] at hp ⊢
    rcases hp with hp | hp | hp | hp | hp
    · exact Or.inr (Or.inr (Or.inl hp))
    · exact Or.inr (Or.inr (Or.inr (Or.inl hp)))
    · exact Or.inl hp
    · exact Or.inr (Or.inl hp)
    · exact Or.inr (Or.inr (Or.inr (Or.inr hp)))
  · intro p hp
    simp only [F.gob, List.mem_cons] at hp
    rcases hp with rfl | rfl | hp
    · show W.heap.size + 1 ≠ Sb; omega
    · show W.heap.size ≠ Sb; omega
    · exact hne p hp
  · intro p hp
    simp only [F.gob, List.mem_cons] at hp
    rcases hp with rfl | rfl | hp
    · show W.heap.size + 1 ≠ Ab; omega
    · show W.heap.size ≠ Ab; omega
    · exact hna p hp
  · intro p hp
    simp only [F.gob, List.mem_cons] at hp ⊢
    rcases hp with hp | hp | hp | hp | hp
    · exact Or.inr (Or.inr (Or.inl hp))
    · exact Or.inr (Or.inr (Or.inr (Or.inl hp)))
    · exact Or.inl hp
    · exact Or.inr (Or.inl hp)
    · exact Or.inr (Or.inr (Or.inr (Or.inr hp)))
  · intro p hp
    simp only [List.mem_cons] at hp
    rcases hp with rfl | rfl | hp
    · exact ⟨by show Ab ≠ _; omega, by show Ab ≠ _; omega⟩
    · exact ⟨by show Sb ≠ _; omega, by show Sb ≠ _; omega⟩
    · have := hlt p (by simp [hp]); exact ⟨by omega, by omega⟩
end Go.Proofs.YtncfbocbigdhiaaGreat

/- GroupBack's state between two rounds: what lies on the device, the texts that were wanted, the box of i. -/
namespace Go.Proofs.YtncfbocbigdhiaaGreat
open Go.RowKit
theorem Txs.ty {v : Value} {xs : List ByteArray} {ol : List (Nat × Obj)} (h : Txs v xs ol) : ∀ p ∈ ol, ∃ c, p.2 = .cells c 9 := by
  rcases h with ⟨rfl, rfl, rfl⟩ | ⟨g, cap, cur, rfl, rfl, _⟩
  · intro p hp; cases hp
  · intro p hp; rw [List.mem_singleton.1 hp]; exact ⟨_, rfl⟩
theorem Txs.sl {v : Value} {xs : List ByteArray} {ol : List (Nat × Obj)} (h : Txs v xs ol) : ∃ ao cp, v = .slice ao xs.length cp := by
  rcases h with ⟨rfl, rfl, rfl⟩ | ⟨g, cap, cur, rfl, rfl, _⟩
  · exact ⟨_, _, rfl⟩
  · exact ⟨_, _, rfl⟩
/-- Rows of texts and all that is of another type lie apart. -/
theorem dev_apart9 {T : Nat} {w : World} {L : F.Loc} {n : Nat} {rest ol : List (Nat × Obj)} {now : Nat → ByteArray} {c : Int} {W : World} {v : Value} {xs : List ByteArray} (h : Txs v xs ol) (h9 : ∀ q ∈ rest, ∀ c fz, q.2 ≠ .cells c 9 fz) (hd : Dev T w L n (ol ++ rest) now c W) : ∀ p ∈ ol, ∀ q ∈ rest, p.1 ≠ q.1 := by
  intro p hp q hq e
  obtain ⟨cu, hcu⟩ := h.ty p hp
  have o1 := hd.at' (p := p) (List.mem_append_left _ hp)
  have o2 := hd.at' (p := q) (List.mem_append_right _ hq)
  rw [e, o2] at o1
  injection o1 with o1
  rw [hcu] at o1
  exact h9 q hq _ _ o1
/-- As dev_tx, whatever lies where, but of other types. -/
theorem dev_tx9 {T : Nat} {w : World} {L : F.Loc} {n : Nat} {rest : List (Nat × Obj)} {now : Nat → ByteArray} {c : Int} {W : World} {v : Value} {xs : List ByteArray} {ol : List (Nat × Obj)} (h : Txs v xs ol) (h9 : ∀ q ∈ rest, ∀ c fz, q.2 ≠ .cells c 9 fz) (hd : Dev T w L n (ol ++ rest) now c W) :
    W.ownsRow T 9 1 v xs.length (xs.map .string) ∧ T ≤ W.heap.size ∧ ∀ x v' W', W'.ownsRow T 9 1 v' (xs.length + 1) (xs.map .string ++ [.string x]) → W.grownBy W' v.ownBlock → ∃ ol', Txs v' (xs ++ [x]) ol' ∧ Dev T w L n (ol' ++ rest) now c W' := by
  have hdj := dev_apart9 h h9 hd
  obtain ⟨st, lv, ats, ho, h2⟩ := hd.ex
  refine ⟨?_, Nat.le_trans ho.bP (Nat.le_of_lt (F.getElem?_lt ho.pool)), ?_⟩
  · rcases h with ⟨rfl, rfl, rfl⟩ | ⟨g, cap, cur, rfl, rfl, h1, h2, h3, h4⟩
    · exact ⟨rfl, Or.inl ⟨rfl, rfl⟩⟩
    · obtain ⟨o1, _, _, o4⟩ := ho.oth (g, .cells cur 9) (List.mem_append_left _ (List.mem_singleton.2 rfl))
      exact ⟨by simp, Or.inr ⟨g, cap, cur, rfl, o4, o1, h1, h2, by rw [Nat.mul_one]; exact h3, by rw [Nat.mul_one]; exact h4⟩⟩
  · intro x v' W' hn hg
    have hrow : ∀ g, v.ownBlock = some g → T ≤ g ∧ ∃ c, W.heap[g]? = some (.cells c 9) := by
      intro g e
      rcases h with ⟨rfl, rfl, rfl⟩ | ⟨g', cap, cur, rfl, rfl, _⟩
      · cases e
      · injection e with e
        subst e
        obtain ⟨o1, _, _, o4⟩ := ho.oth (g', .cells cur 9) (by simp)
        exact ⟨o4, cur, o1⟩
    have h1 : F.One T w L st lv rest W := ho.forget (fun p hp => List.mem_append_right _ hp)
    have h3 := h1.grownS hg hrow (by
      intro p hp e
      rcases h with ⟨rfl, rfl, rfl⟩ | ⟨g', cap, cur, rfl, rfl, _⟩
      · cases e
      · injection e with e
        exact hdj (g', .cells cur 9) (List.mem_singleton.2 rfl) p hp e)
    rcases hn.2 with ⟨_, e0⟩ | ⟨g, cap, cur, rfl, k1, k2, k3, k4, k5, k6⟩
    · exact absurd e0 (Nat.succ_ne_zero _)
    · rw [Nat.mul_one] at k5 k6
      refine ⟨[(g, .cells cur 9)], Or.inr ⟨g, cap, cur, ?_, rfl, ?_, k4, k5, ?_⟩, st, lv, ats, h3.addS k2 k1, h2⟩
      · rw [List.length_append]; rfl
      · rw [List.length_append]; exact k3
      · rw [List.length_append, List.map_append]; exact k6
/-- Between two rounds: m groups at most were written. -/
def BI (T : Nat) (w : World) (L : F.Loc) (rest : List (Nat × Obj)) (per M Sb : Nat) (m i a Ib : Nat) (v : Value) (W : World) : Prop :=
  1 ≤ a ∧ a ≤ per ∧ ∃ now l ol, Txs v (l.map Prod.snd) ol ∧ Chn now ⟨M, 3, 2, 5, 4, per, a⟩ l a ∧ l.length ≤ m ∧ (∀ j, j < 70 → Ksec (now j)) ∧ (∀ j, 4 + a ≤ j → now j = F.pad ⟨#[]⟩) ∧ Dev T w L 70 (ol ++ (Ib, .cells #[.int .i64 (i : Nat)] 3) :: (Sb, .cells (Sg.cs ⟨M, 3, 2, 5, 4, per, a⟩) 44) :: rest) now (100 * m) W ∧ Ib ≠ Sb ∧ ∀ p ∈ rest, p.1 ≠ Ib ∧ p.1 ≠ Sb
/-- A group was written, and is not wanted yet. -/
def BP (T : Nat) (w : World) (L : F.Loc) (rest : List (Nat × Obj)) (per M Sb : Nat) (m i a n Ib : Nat) (y : ByteArray) (v : Value) (W : World) : Prop :=
  a + 1 + n ≤ per ∧ ∃ now l ol, Txs v (l.map Prod.snd) ol ∧ Chn now ⟨M, 3, 2, 5, 4, per, a + 1 + n⟩ (l ++ [(a, y)]) (a + 1 + n) ∧ l.length ≤ m ∧ (∀ j, j < 70 → Ksec (now j)) ∧ (∀ j, 4 + (a + 1 + n) ≤ j → now j = F.pad ⟨#[]⟩) ∧ Dev T w L 70 (ol ++ (Ib, .cells #[.int .i64 (i : Nat)] 3) :: (Sb, .cells (Sg.cs ⟨M, 3, 2, 5, 4, per, a + 1 + n⟩) 44) :: rest) now (100 * (m + 1 : Nat)) W ∧ Ib ≠ Sb ∧ ∀ p ∈ rest, p.1 ≠ Ib ∧ p.1 ≠ Sb
section
variable {T : Nat} {w : World} {L : F.Loc} {rest : List (Nat × Obj)} {per M Sb m i a n Ib : Nat} {y : ByteArray} {v : Value} {W W' : World}
theorem BI.below (h : BI T w L rest per M Sb m i a Ib v W) (hb : Below W.heap.size W W') : BI T w L rest per M Sb m i a Ib v W' := by
  obtain ⟨ha, h0, now, l, ol, h1, h2, h3, h4, h5, h6, h7⟩ := h
  exact ⟨ha, h0, now, l, ol, h1, h2, h3, h4, h5, h6.below hb, h7⟩
theorem BI.at' (h : BI T w L rest per M Sb m i a Ib v W) {p : Nat × Obj} (hp : p ∈ rest) : W.heap[p.1]? = some p.2 := by
  obtain ⟨ha, h0, now, l, ol, h1, h2, h3, h4, h5, h6, h7⟩ := h
  exact h6.at' (by simp [hp])
theorem BI.box (h : BI T w L rest per M Sb m i a Ib v W) : W.heap[Ib]? = some (.cells #[.int .i64 (i : Nat)] 3) := by
  obtain ⟨ha, h0, now, l, ol, h1, h2, h3, h4, h5, h6, h7⟩ := h
  exact h6.at' (p := (Ib, .cells #[.int .i64 (i : Nat)] 3)) (by simp)
theorem BI.seg (h : BI T w L rest per M Sb m i a Ib v W) : W.heap[Sb]? = some (.cells (Sg.cs ⟨M, 3, 2, 5, 4, per, a⟩) 44) := by
  obtain ⟨ha, h0, now, l, ol, h1, h2, h3, h4, h5, h6, h7⟩ := h
  exact h6.at' (p := (Sb, .cells (Sg.cs ⟨M, 3, 2, 5, 4, per, a⟩) 44)) (by simp)
theorem BI.bel (h : BI T w L rest per M Sb m i a Ib v W) : Below T w W := by
  obtain ⟨ha, h0, now, l, ol, h1, h2, h3, h4, h5, h6, h7⟩ := h
  exact h6.bel
theorem BI.sl (h : BI T w L rest per M Sb m i a Ib v W) : ∃ ao k cp, v = .slice ao k cp := by
  obtain ⟨ha, h0, now, l, ol, h1, h2⟩ := h
  obtain ⟨ao, cp, e⟩ := h1.sl
  exact ⟨ao, _, cp, e⟩
theorem BI.room (hper : 8 ≤ per ∧ per ≤ 64) (h : BI T w L rest per M Sb m i a Ib v W) (k : Nat) (b : Bool) (hb : decide ((0 : Int) < (k : Nat) ∧ ((k : Nat) : Int) < (per : Nat) - ((a : Nat) : Int)) = b) : Calls Tryz.prog 14 #[.pointer (some ⟨Sb, 0, none⟩), .int .i64 (k : Nat)] W fun e w' => e = .returned (.bool b) ∧ BI T w L rest per M Sb m i a Ib v w' := by
  have h0 := h.2.1
  refine (room_any _ Sb (k : Nat) W h.seg ⟨by show per ≤ 1000; omega, by show a ≤ 1000; omega⟩).mono ?_
  rintro e W' ⟨rfl, hbl⟩
  exact ⟨by rw [← hb], h.below hbl⟩
/-- The box of the next round. -/
theorem BI.turn (h : BI T w L rest per M Sb m i a Ib v W) : BI T w L rest per M Sb m (i + 1) a W.heap.size v (W.alloc (.cells #[.int .i64 ((i + 1 : Nat) : Int)] 3)) := by
  obtain ⟨ha, h0, now, l, ol, h1, h2, h3, h4, h5, h6, h7, h8⟩ := h
  have hl := h6.lts
  refine ⟨ha, h0, now, l, ol, h1, h2, h3, h4, h5, ?_, ?_, ?_⟩
  · refine (h6.alloc (.cells #[.int .i64 ((i + 1 : Nat) : Int)] 3) (F.apart_of (by decide))).forget ?_
    intro p hp
    simp only [List.mem_append, List.mem_cons] at hp ⊢
    rcases hp with hp | hp | hp | hp
    · exact Or.inr (Or.inl hp)
    · exact Or.inl hp
    · exact Or.inr (Or.inr (Or.inr (Or.inl hp)))
    · exact Or.inr (Or.inr (Or.inr (Or.inr hp)))
  · have := hl (Sb, .cells (Sg.cs ⟨M, 3, 2, 5, 4, per, a⟩) 44) (by simp)
    have : Sb < W.heap.size := this
    omega
  · intro p hp
    have := hl p (by simp [hp])
    exact ⟨by omega, (h8 p hp).2⟩
/-- One box more is held. -/
theorem BI.hold (h : BI T w L rest per M Sb m i a Ib v W) (o : Obj) (ho : F.Obj.apart o) : BI T w L ((W.heap.size, o) :: rest) per M Sb m i a Ib v (W.alloc o) := by
  obtain ⟨ha, h0, now, l, ol, h1, h2, h3, h4, h5, h6, h7, h8⟩ := h
  have hl := h6.lts
  have l1 : Ib < W.heap.size := hl (Ib, .cells #[.int .i64 (i : Nat)] 3) (by simp)
  have l2 : Sb < W.heap.size := hl (Sb, .cells (Sg.cs ⟨M, 3, 2, 5, 4, per, a⟩) 44) (by simp)
  refine ⟨ha, h0, now, l, ol, h1, h2, h3, h4, h5, (h6.alloc o ho).forget ?_, h7, ?_⟩
  · intro p hp
    simp only [List.mem_append, List.mem_cons] at hp ⊢
    rcases hp with hp | hp | hp | hp | hp
    · exact Or.inr (Or.inl hp)
    · exact Or.inr (Or.inr (Or.inl hp))
    · exact Or.inr (Or.inr (Or.inr (Or.inl hp)))
    · exact Or.inl hp
    · exact Or.inr (Or.inr (Or.inr (Or.inr hp)))
  · intro p hp
    rcases List.mem_cons.1 hp with rfl | hp
    · exact ⟨by show W.heap.size ≠ Ib; omega, by show W.heap.size ≠ Sb; omega⟩
    · exact h8 p hp
/-- Some are held no more. -/
theorem BI.drop {rest' : List (Nat × Obj)} (h : BI T w L rest per M Sb m i a Ib v W) (hs : ∀ p ∈ rest', p ∈ rest) : BI T w L rest' per M Sb m i a Ib v W := by
  obtain ⟨ha, h0, now, l, ol, h1, h2, h3, h4, h5, h6, h7, h8⟩ := h
  refine ⟨ha, h0, now, l, ol, h1, h2, h3, h4, h5, h6.forget ?_, h7, fun p hp => h8 p (hs p hp)⟩
  intro p hp
  simp only [List.mem_append, List.mem_cons] at hp ⊢
  rcases hp with hp | hp | hp | hp
  · exact Or.inl hp
  · exact Or.inr (Or.inl hp)
  · exact Or.inr (Or.inr (Or.inl hp))
  · exact Or.inr (Or.inr (Or.inr (hs p hp)))
/-- What was written is wanted. -/
theorem BP.grow (h9 : ∀ q ∈ rest, ∀ c fz, q.2 ≠ .cells c 9 fz) (h : BP T w L rest per M Sb m i a n Ib y v W) : ∃ xs : List ByteArray, xs.length ≤ m ∧ W.ownsRow T 9 1 v xs.length (xs.map .string) ∧ T ≤ W.heap.size ∧ ∀ v' W', W'.ownsRow T 9 1 v' (xs.length + 1) (xs.map .string ++ [.string y]) → W.grownBy W' v.ownBlock → BI T w L rest per M Sb (m + 1) i (a + 1 + n) Ib v' W' := by
  obtain ⟨h0, now, l, ol, h1, h2, h3, h4, h5, h6, h7, h8⟩ := h
  obtain ⟨k1, k2, k3⟩ := dev_tx9 h1 (by
    intro q hq c fz e
    rcases List.mem_cons.1 hq with rfl | hq
    · injection e with _ e _; exact absurd e (by decide)
    · rcases List.mem_cons.1 hq with rfl | hq
      · injection e with _ e _; exact absurd e (by decide)
      · exact h9 q hq c fz e) h6
  refine ⟨l.map Prod.snd, by rw [List.length_map]; exact h3, k1, k2, fun v' W' q1 q2 => ?_⟩
  obtain ⟨ol', t1, t2⟩ := k3 y v' W' q1 q2
  refine ⟨by omega, h0, now, l ++ [(a, y)], ol', ?_, h2, ?_, h4, h5, t2, h7, h8⟩
  · rw [List.map_append]; exact t1
  · rw [List.length_append]; show l.length + 1 ≤ m + 1; omega
theorem BP.below (h : BP T w L rest per M Sb m i a n Ib y v W) (hb : Below W.heap.size W W') : BP T w L rest per M Sb m i a n Ib y v W' := by
  obtain ⟨h0, now, l, ol, h1, h2, h3, h4, h5, h6, h7⟩ := h
  exact ⟨h0, now, l, ol, h1, h2, h3, h4, h5, h6.below hb, h7⟩
theorem BP.at' (h : BP T w L rest per M Sb m i a n Ib y v W) {p : Nat × Obj} (hp : p ∈ rest) : W.heap[p.1]? = some p.2 := by
  obtain ⟨h0, now, l, ol, h1, h2, h3, h4, h5, h6, h7⟩ := h
  exact h6.at' (by simp [hp])
end
/-- A group is written, under Guard. -/
theorem BI.put {T : Nat} {w : World} {L : F.Loc} {rest : List (Nat × Obj)} {per M Sb m i a n Ib : Nat} {v : Value} {W : World} {Pb Lb Nb Ab Kb O ln lc : Nat} {x : ByteArray} (hper : 8 ≤ per ∧ per ≤ 64) (hn : 1 ≤ n ∧ n ≤ 64) (hm : m ≤ 30) (h : BI T w L ((Ab, .cells #[.int .i64 0] 3) :: (Nb, .cells #[.int .i64 (n : Nat)] 3) :: rest) per M Sb m i a Ib v W)
    (pbm : (Pb, Obj.cells #[.pointer (some ⟨Sb, 0, none⟩)] 28) ∈ rest) (plm : (Lb, Obj.cells #[.slice (some ⟨Kb, O, none⟩) ln lc] 22) ∈ rest) (hM : (M, F.med L.P 1 1) ∈ rest) (hAN : Ab ≠ Nb) (hAr : ∀ p ∈ rest, p.1 ≠ Ab)
    (hil : i < ln) (hi30 : i ≤ 30) (hrow : ∀ W, Below T w W → W.cell? ⟨Kb, O + i * 6, none⟩ = some (.string x)) (hroom : a + n < per) :
    Calls Tryz.prog 15 #[.func (.func 16) #[] #[.pointer (some ⟨Pb, 0, none⟩), .pointer (some ⟨Lb, 0, none⟩), .pointer (some ⟨Ib, 0, none⟩), .pointer (some ⟨Nb, 0, none⟩), .pointer (some ⟨Ab, 0, none⟩)]] W fun e w' => e = .returned (.tuple #[.agg #[.int .i64 0, .int .i64 0], .bool false]) ∧ BP T w L ((Ab, .cells #[.int .i64 (a : Nat)] 3) :: (Nb, .cells #[.int .i64 (n : Nat)] 3) :: rest) per M Sb m i a n Ib (payN x n) v w' := by
  obtain ⟨ha, h0, now, l, ol, h1, h2, h3, h4, h5, h6, h7, h8⟩ := h
  let s : Sg := ⟨M, 3, 2, 5, 4, per, a⟩
  have hs : s.Ok := ⟨(by decide : (3 : Nat) < _), (by decide : (2 : Nat) < _), (by decide : (5 : Nat) < _), (by decide : (4 : Nat) ≤ _), hper.1, hper.2, ha, h0⟩
  have hty := h1.ty
  have hO : ∀ p ∈ ol, ∀ q ∈ (Ib, Obj.cells #[.int .i64 (i : Nat)] 3) :: (Sb, Obj.cells s.cs 44) :: (Ab, Obj.cells #[.int .i64 0] 3) :: [], p.1 ≠ q.1 := by
    refine dev_apart9 (rest := (Ib, Obj.cells #[.int .i64 (i : Nat)] 3) :: (Sb, Obj.cells s.cs 44) :: (Ab, Obj.cells #[.int .i64 0] 3) :: []) h1 ?_ (h6.forget ?_)
    · intro q hq c fz e
      simp only [List.mem_cons, List.not_mem_nil, or_false] at hq
      rcases hq with rfl | rfl | rfl <;> (injection e with _ e _; exact absurd e (by decide))
    · intro p hp
      simp only [List.mem_append, List.mem_cons, List.not_mem_nil, or_false] at hp ⊢
      rcases hp with hp | hp | hp | hp
      · exact Or.inl hp
      · exact Or.inr (Or.inl hp)
      · exact Or.inr (Or.inr (Or.inl hp))
      · exact Or.inr (Or.inr (Or.inr (Or.inl hp)))
  have hd : Dev T w L 70 ((Sb, .cells s.cs 44) :: (Ab, .cells #[.int .i64 0] 3) :: ((Nb, .cells #[.int .i64 (n : Nat)] 3) :: (Ib, .cells #[.int .i64 (i : Nat)] 3) :: (ol ++ rest))) now (100 * m) W := h6.forget (by
    intro p hp
    simp only [List.mem_append, List.mem_cons] at hp ⊢
    rcases hp with hp | hp | hp | hp | hp | hp
    · exact Or.inr (Or.inr (Or.inl hp))
    · exact Or.inr (Or.inr (Or.inr (Or.inl hp)))
    · exact Or.inr (Or.inr (Or.inr (Or.inr (Or.inl hp))))
    · exact Or.inr (Or.inl hp)
    · exact Or.inl hp
    · exact Or.inr (Or.inr (Or.inr (Or.inr (Or.inr hp)))))
  refine (back_guard (lc := lc) (Pb := Pb) (Lb := Lb) (Ib := Ib) (Nb := Nb) (Ab := Ab) (Sb := Sb) (i := i) (k := n) (x := x) s hd (by simp [pbm]) (by simp [plm]) (by simp) (by simp) (by simp [s, hM]) (h8 (Ab, .cells #[.int .i64 0] 3) (by simp)).2 ?_ ?_ hil hi30 hrow hs hn.1 (by omega) hroom (by show 4 + per ≤ 70; omega) (by decide) (by omega)).mono ?_
  · intro p hp
    simp only [List.mem_append, List.mem_cons] at hp
    rcases hp with rfl | rfl | hp | hp
    · exact (h8 (Nb, .cells #[.int .i64 (n : Nat)] 3) (by simp)).2
    · exact h7
    · exact hO p hp (Sb, Obj.cells s.cs 44) (by simp)
    · exact (h8 p (by simp [hp])).2
  · intro p hp
    simp only [List.mem_append, List.mem_cons] at hp
    rcases hp with rfl | rfl | hp | hp
    · exact Ne.symm hAN
    · exact Ne.symm (h8 (Ab, .cells #[.int .i64 0] 3) (by simp)).1
    · exact hO p hp (Ab, Obj.cells #[.int .i64 0] 3) (by simp)
    · exact hAr p hp
  · rintro e W' ⟨rfl, hd2⟩
    have hps := payN_size x n
    refine ⟨rfl, by omega, layC now s (payN x n) n, l, ol, h1, Chn.more (s := s) h2 hps hn.1 hroom, h3, layC_ksec (s := s) hs hps hn.1 hroom h4, ?_, ?_, h7, ?_⟩
    · intro j hj
      have hj2 : 4 + a + 1 + n ≤ j := by omega
      have := layC_ge (now := now) (s := s) (x := payN x n) (k := n) j hj2
      rw [this]; exact h5 j (by omega)
    · refine (hd2.more (d := 100 * ((m + 1 : Nat) : Int)) (by omega)).forget ?_
      intro p hp
      simp only [List.mem_append, List.mem_cons] at hp ⊢
      rcases hp with hp | hp | hp | hp | hp | hp
      · exact Or.inr (Or.inr (Or.inr (Or.inr (Or.inl hp))))
      · exact Or.inr (Or.inr (Or.inr (Or.inl hp)))
      · exact Or.inr (Or.inl hp)
      · exact Or.inl hp
      · exact Or.inr (Or.inr (Or.inl hp))
      · exact Or.inr (Or.inr (Or.inr (Or.inr (Or.inr hp))))
    · intro p hp
      rcases List.mem_cons.1 hp with rfl | hp
      · exact h8 (Ab, .cells #[.int .i64 0] 3) (by simp)
      · exact h8 p (by simp [List.mem_cons.1 hp])
end Go.Proofs.YtncfbocbigdhiaaGreat

/- GroupBack's walk, under way. -/
namespace Go.Proofs.YtncfbocbigdhiaaGreat
open Go.RowKit
theorem BI.start {T : Nat} {w : World} {L : F.Loc} {rest : List (Nat × Obj)} {per M Sb Ib : Nat} {W : World} (hper : 8 ≤ per) (hd : Dev T w L 70 ((Ib, .cells #[.int .i64 0] 3) :: (Sb, .cells (sg0 M per).cs 44) :: rest) (fun _ => F.pad ⟨#[]⟩) 0 W) (hI : Ib ≠ Sb) (hr : ∀ p ∈ rest, p.1 ≠ Ib ∧ p.1 ≠ Sb) : BI T w L rest per M Sb 0 0 1 Ib (.slice none 0 0) W :=
  ⟨Nat.le_refl _, by omega, fun _ => F.pad ⟨#[]⟩, [], [], Txs.nil, Chn.nil, Nat.le_refl _, fun j _ => ksec0, fun j _ => rfl, hd, hI, hr⟩
theorem BI.cnt {T : Nat} {w : World} {L : F.Loc} {rest : List (Nat × Obj)} {per M Sb m i a Ib : Nat} {v : Value} {W : World} (h : BI T w L rest per M Sb m i a Ib v W) : cnt32 Ib W = i := by
  have := F.cell_of h.box 0
  unfold cnt32
  rw [this]
  simp [intOf]
theorem BP.box {T : Nat} {w : World} {L : F.Loc} {rest : List (Nat × Obj)} {per M Sb m i a n Ib : Nat} {y : ByteArray} {v : Value} {W : World} (h : BP T w L rest per M Sb m i a n Ib y v W) : W.heap[Ib]? = some (.cells #[.int .i64 (i : Nat)] 3) := by
  obtain ⟨h0, now, l, ol, h1, h2, h3, h4, h5, h6, h7⟩ := h
  exact h6.at' (p := (Ib, .cells #[.int .i64 (i : Nat)] 3)) (by simp)
theorem BP.seg {T : Nat} {w : World} {L : F.Loc} {rest : List (Nat × Obj)} {per M Sb m i a n Ib : Nat} {y : ByteArray} {v : Value} {W : World} (h : BP T w L rest per M Sb m i a n Ib y v W) : W.heap[Sb]? = some (.cells (Sg.cs ⟨M, 3, 2, 5, 4, per, a + 1 + n⟩) 44) := by
  obtain ⟨h0, now, l, ol, h1, h2, h3, h4, h5, h6, h7⟩ := h
  exact h6.at' (p := (Sb, .cells (Sg.cs ⟨M, 3, 2, 5, 4, per, a + 1 + n⟩) 44)) (by simp)
theorem BP.bel {T : Nat} {w : World} {L : F.Loc} {rest : List (Nat × Obj)} {per M Sb m i a n Ib : Nat} {y : ByteArray} {v : Value} {W : World} (h : BP T w L rest per M Sb m i a n Ib y v W) : Below T w W := by
  obtain ⟨h0, now, l, ol, h1, h2, h3, h4, h5, h6, h7⟩ := h
  exact h6.bel
/-- What each operation yields. -/
def QV23 (vs : Value) (Kb O ln lc i n : Nat) (x : ByteArray) : Nat → Value → Prop
  | 0, v => v = vs
  | 1, v => v = .slice (some ⟨Kb, O, none⟩) ln lc
  | 2, v => v = .int .i64 (i : Nat)
  | 3, v => v = .pointer (some ⟨Kb, O + i * 6, none⟩)
  | 4, v => v = .pointer (some ⟨Kb, O + i * 6, none⟩)
  | 5, v => v = .string x
  | 6, v => v = .int .i64 (n : Nat)
  | 7, v => v = .string (payN x n)
  | _, _ => True
structure RP23 (P : World → Prop) (Q : Value → World → Prop) (y : ByteArray) (vs : Value) (done : Nat → Bool) (f : Nat → Value) (W : World) : Prop where
  a : done 9 = false → P W
  b : done 8 = true → ∃ G, f 8 = .slice (some ⟨G, 0, none⟩) 1 1 ∧ (done 9 = false → W.heap[G]? = some (.cells #[.string y] 9))
  c : done 9 = true → Q (f 9) W
  d : done 10 = true → f 10 = f 9
  e : done 10 = true → done 9 = true
  g : done 9 = true → done 8 = true
  u : done 10 = false → f 10 = vs
  all : done 10 = true → ∀ j, j < 10 → done j = true
section
variable {P : World → Prop} {Q : Value → World → Prop} {y : ByteArray} {vs : Value} {done : Nat → Bool} {f : Nat → Value} {W W' : World}
theorem RP23.start (hu : f 10 = vs) (h : P W) : RP23 P Q y vs (fun _ => false) f W := ⟨fun _ => h, (fun e => by cases e), (fun e => by cases e), (fun e => by cases e), (fun e => by cases e), (fun e => by cases e), fun _ => hu, (fun e => by cases e)⟩
theorem RP23.step (h : RP23 P Q y vs done f W) (j : Nat) (hj : j < 8) (v : Value) (hP : P W → P W') (hQ : ∀ v, Q v W → Q v W') (hG : ∀ (G : Nat) o, W.heap[G]? = some o → W'.heap[G]? = some o) : RP23 P Q y vs (F.updB done j) (F.upd f j v) W' := by
  have e8 : F.updB done j 8 = done 8 := if_neg (by omega)
  have e9 : F.updB done j 9 = done 9 := if_neg (by omega)
  have e10 : F.updB done j 10 = done 10 := if_neg (by omega)
  have f8 : F.upd f j v 8 = f 8 := if_neg (by omega)
  have f9 : F.upd f j v 9 = f 9 := if_neg (by omega)
  have f10 : F.upd f j v 10 = f 10 := if_neg (by omega)
  obtain ⟨h1, h2, h3, h4, h5, h6, h7, h8⟩ := h
  refine ⟨by rw [e9]; exact fun q => hP (h1 q), ?_, by rw [e9, f9]; exact fun q => hQ _ (h3 q), by rw [e10, f10, f9]; exact h4, by rw [e10, e9]; exact h5, by rw [e9, e8]; exact h6, by rw [e10, f10]; exact h7, ?_⟩
  · rw [e8, f8, e9]
    intro q
    obtain ⟨G, g1, g2⟩ := h2 q
    exact ⟨G, g1, fun q9 => hG G _ (g2 q9)⟩
  · rw [e10]; intro q k hk
    unfold F.updB; split
    · rfl
    · exact h8 q k hk
theorem RP23.pure (h : RP23 P Q y vs done f W) (j : Nat) (hj : j < 8) (v : Value) : RP23 P Q y vs (F.updB done j) (F.upd f j v) W := h.step j hj v id (fun _ => id) (fun _ _ => id)
theorem RP23.any {X : Prop} (h : RP23 P Q y vs done f W) (h1 : P W → X) (h2 : ∀ v, Q v W → X) : X := by
  cases q : done 9 with
  | false => exact h1 (h.a q)
  | true => exact h2 _ (h.c q)
theorem RP23.n10 (h : RP23 P Q y vs done f W) {j : Nat} (hj : j < 10) (hd : done j = false) : done 10 = false := by
  cases q : done 10 with
  | false => rfl
  | true => have := h.all q j hj; rw [hd] at this; cases this
theorem RP23.s8 (h : RP23 P Q y vs done f W) (hd : done 8 = false) {G : Nat} (hP : P W → P W') (hG : W'.heap[G]? = some (.cells #[.string y] 9)) : RP23 P Q y vs (F.updB done 8) (F.upd f 8 (.slice (some ⟨G, 0, none⟩) 1 1)) W' := by
  have d9 : done 9 = false := by
    cases q : done 9 with
    | false => rfl
    | true => have := h.g q; rw [hd] at this; cases this
  have d10 := h.n10 (by decide) hd
  have e9 : F.updB done 8 9 = false := (if_neg (by omega)).trans d9
  have e10 : F.updB done 8 10 = false := (if_neg (by omega)).trans d10
  exact ⟨fun _ => hP (h.a d9), fun _ => ⟨G, if_pos rfl, fun _ => hG⟩, (fun e => by rw [e9] at e; cases e), (fun e => by rw [e10] at e; cases e), (fun e => by rw [e10] at e; cases e), (fun e => by rw [e9] at e; cases e), fun _ => (if_neg (by omega) : F.upd f 8 _ 10 = f 10).trans (h.u d10), (fun e => by rw [e10] at e; cases e)⟩
theorem RP23.s9 (h : RP23 P Q y vs done f W) (h8 : done 8 = true) (hd : done 9 = false) {v : Value} (hQ : Q v W') : RP23 P Q y vs (F.updB done 9) (F.upd f 9 v) W' := by
  have d10 := h.n10 (by decide) hd
  have e9 : F.updB done 9 9 = true := if_pos rfl
  have e8 : F.updB done 9 8 = true := (if_neg (by omega)).trans h8
  have e10 : F.updB done 9 10 = false := (if_neg (by omega)).trans d10
  have f9 : F.upd f 9 v 9 = v := if_pos rfl
  have f8 : F.upd f 9 v 8 = f 8 := if_neg (by omega)
  obtain ⟨G, g1, -⟩ := h.b h8
  exact ⟨(fun e => by rw [e9] at e; cases e), fun _ => ⟨G, f8.trans g1, (fun e => by rw [e9] at e; cases e)⟩, fun _ => by rw [f9]; exact hQ, (fun e => by rw [e10] at e; cases e), (fun e => by rw [e10] at e; cases e), fun _ => e8, fun _ => (if_neg (by omega) : F.upd f 9 v 10 = f 10).trans (h.u d10), (fun e => by rw [e10] at e; cases e)⟩
theorem RP23.s10 (h : RP23 P Q y vs done f W) (h9 : done 9 = true) (ha : ∀ j, j < 10 → done j = true) : RP23 P Q y vs (F.updB done 10) (F.upd f 10 (f 9)) W := by
  have e9 : F.updB done 10 9 = true := (if_neg (by omega)).trans h9
  have e8 : F.updB done 10 8 = true := (if_neg (by omega)).trans (h.g h9)
  have e10 : F.updB done 10 10 = true := if_pos rfl
  have f9 : F.upd f 10 (f 9) 9 = f 9 := if_neg (by omega)
  have f8 : F.upd f 10 (f 9) 8 = f 8 := if_neg (by omega)
  have f10 : F.upd f 10 (f 9) 10 = f 9 := if_pos rfl
  obtain ⟨G, g1, -⟩ := h.b (h.g h9)
  exact ⟨(fun e => by rw [e9] at e; cases e), fun _ => ⟨G, f8.trans g1, (fun e => by rw [e9] at e; cases e)⟩, fun _ => by rw [f9]; exact h.c h9, fun _ => by rw [f10, f9], fun _ => e9, fun _ => e8, (fun e => by rw [e10] at e; cases e), fun _ j hj => (if_neg (by omega)).trans (ha j hj)⟩
end
theorem go_ifp {c : Prop} [Decidable c] {a b : Prop} (h : c) (k : a) : (if c then a else b) := by rw [if_pos h]; exact k
/-- What each operation yields. -/
def QV16 (S n a per : Nat) (rb : Bool) : Nat → Value → Prop
  | 0, v => v = .pointer (some ⟨S, 0, none⟩)
  | 1, v => v = .int .i64 (n : Nat)
  | 2, v => v = .bool rb
  | 3, v => v = .int .i64 (a : Nat)
  | 4, v => v = .int .i64 (n : Nat)
  | 5, v => v = .int .i64 ((a : Int) + (n : Int))
  | 6, v => v = .int .i64 (per : Nat)
  | 7, v => v = .bool rb
  | 8, v => v = .bool false
  | _, _ => True
set_option maxHeartbeats 4000000 in
set_option maxRecDepth 100000 in
theorem back_walk (p0 : Int) (ao : Option Addr) (ln lc Kb O : Nat) (hao : 0 < ln → ao = some ⟨Kb, O, none⟩) (_hlc : ln ≤ lc) (_hlm : lc ≤ 9223372036854775807) (xs : Nat → ByteArray) (ns : Nat → Int) (w : World)
    (hS : ∀ W, Below w.heap.size w W → ∀ j, j < ln → W.cell? ⟨Kb, O + j * 6, none⟩ = some (.string (xs j))) (hN : ∀ W, Below w.heap.size w W → ∀ j, j < ln → W.cell? ⟨Kb, O + j * 6 + 1, none⟩ = some (.int .i64 (ns j))) :
    Calls Tryz.prog 3 #[.int .i64 p0, .slice ao ln lc] w fun e w' => e = .returned (.bool true) ∧ Below w.heap.size w w' := by
  have haw := awake11 (w.alloc (.cells #[.slice ao ln lc] 22))
  obtain ⟨per, hper⟩ : ∃ m : Nat, max 8 (min p0 64) = (m : Int) := ⟨(max 8 (min p0 64)).toNat, by omega⟩
  have HP : Hid (8 ≤ per ∧ per ≤ 64) := ⟨by omega, by omega⟩
  have c0 : (w.alloc (.cells #[.slice ao ln lc] 22)).heap[w.heap.size]? = some (.cells #[.slice ao ln lc] 22) := F.heap_new _ _
  have HS : Hid _ := hS
  have HNN : Hid _ := hN
  have HAO : Hid _ := hao
  clear hS hN hao
  go_enter Tryz.func3, Tryz.ntmps3
  go_wp2_with fail
  go_call haw as e w1 ⟨rfl, hb1⟩
  have hlt0 : w.heap.size < (w.alloc (.cells #[.slice ao ln lc] 22)).heap.size := F.getElem?_lt c0
  have c1 : w1.heap[w.heap.size]? = some (.cells #[.slice ao ln lc] 22) := (hb1.block _ hlt0).trans c0
  have HB1 : Hid (Below w.heap.size w w1) := ((Below.refl _ _).alloc (Nat.le_refl _) _).trans (hb1.mono (Nat.le_of_lt hlt0))
  have hmk := F.made_any w.heap.size w w1 [(w.heap.size, .cells #[.slice ao ln lc] 22)] HB1.out HB1.out.size (by
    intro p hp
    rw [List.mem_singleton.1 hp]
    exact ⟨c1, F.apart_of (by decide), Nat.le_refl _⟩) 1 (by decide) (by decide) 70 (by decide) (by decide)
  clear haw hb1 c0 hlt0 c1 HB1
  go_wp2_with fail
  go_call hmk as e w2 ⟨L, M0, rfl, o1⟩
  have hd1 := dev0 o1
  have hof := dev_of hd1 per
  clear hmk o1 hd1
  go_wp2_with fail
  go_call hof as e w3 ⟨S, M, rfl, hd2, hSM, hne2⟩
  have hl2 := hd2.lts
  have lS : S < w3.heap.size := hl2 (S, .cells (sg0 M per).cs 44) (by simp)
  have lM : M < w3.heap.size := hl2 (M, F.med L.P 1 1) (by simp)
  have lM0 : M0 < w3.heap.size := hl2 (M0, F.med L.P 1 1) (by simp)
  have lN : w.heap.size < w3.heap.size := hl2 (w.heap.size, .cells #[.slice ao ln lc] 22) (by simp)
  have nM0 : M0 ≠ S := hne2 (M0, F.med L.P 1 1) (by simp)
  have nN : w.heap.size ≠ S := hne2 (w.heap.size, .cells #[.slice ao ln lc] 22) (by simp)
  have hd3 := (hd2.alloc (.cells #[.pointer (some ⟨S, 0, none⟩)] 28) (F.apart_of (by decide))).alloc (.cells #[.int .i64 0] 3) (F.apart_of (by decide))
  have e5 : (w3.alloc (.cells #[.pointer (some ⟨S, 0, none⟩)] 28)).heap.size = w3.heap.size + 1 := by simp
  rw [e5] at hd3
  have hbi : BI w.heap.size w L [(w3.heap.size, .cells #[.pointer (some ⟨S, 0, none⟩)] 28), (M, F.med L.P 1 1), (M0, F.med L.P 1 1), (w.heap.size, .cells #[.slice ao ln lc] 22)] per M S 0 0 1 (w3.heap.size + 1) (.slice none 0 0) ((w3.alloc (.cells #[.pointer (some ⟨S, 0, none⟩)] 28)).alloc (.cells #[.int .i64 0] 3)) := by
    refine BI.start HP.out.1 (hd3.forget ?_) (by omega) ?_
    · intro p hp
      simp only [List.mem_cons, List.not_mem_nil, or_false] at hp ⊢
      rcases hp with hp | hp | hp | hp | hp | hp
      · exact Or.inl hp
      · exact Or.inr (Or.inr (Or.inl hp))
      · exact Or.inr (Or.inl hp)
      · exact Or.inr (Or.inr (Or.inr (Or.inl hp)))
      · exact Or.inr (Or.inr (Or.inr (Or.inr (Or.inl hp))))
      · exact Or.inr (Or.inr (Or.inr (Or.inr (Or.inr hp))))
    · intro p hp
      simp only [List.mem_cons, List.not_mem_nil, or_false] at hp
      rcases hp with rfl | rfl | rfl | rfl
      · exact ⟨by show w3.heap.size ≠ _; omega, by show w3.heap.size ≠ S; omega⟩
      · exact ⟨by show M ≠ _; omega, Ne.symm hSM⟩
      · exact ⟨by show M0 ≠ _; omega, nM0⟩
      · exact ⟨by show w.heap.size ≠ _; omega, nN⟩
  obtain ⟨rest, hrest⟩ : ∃ rest, rest = [(w3.heap.size, Obj.cells #[.pointer (some ⟨S, 0, none⟩)] 28), (M, F.med L.P 1 1), (M0, F.med L.P 1 1), (w.heap.size, Obj.cells #[.slice ao ln lc] 22)] := ⟨_, rfl⟩
  rw [← hrest] at hbi
  have HM : Hid ((w3.heap.size, Obj.cells #[.pointer (some ⟨S, 0, none⟩)] 28) ∈ rest ∧ (w.heap.size, Obj.cells #[.slice ao ln lc] 22) ∈ rest ∧ (M, F.med L.P 1 1) ∈ rest ∧ (∀ q ∈ rest, ∀ c fz, q.2 ≠ .cells c 9 fz) ∧ (∀ q ∈ rest, ∀ c fz, q.2 ≠ .cells c 5 fz)) := by
    rw [hrest]
    refine ⟨by simp, by simp, by simp, ?_, ?_⟩
    · intro q hq c fz e
      simp only [List.mem_cons, List.not_mem_nil, or_false] at hq
      rcases hq with rfl | rfl | rfl | rfl <;> (injection e with _ e _; exact absurd e (by decide))
    · intro q hq c fz e
      simp only [List.mem_cons, List.not_mem_nil, or_false] at hq
      rcases hq with rfl | rfl | rfl | rfl <;> (injection e with _ e _; exact absurd e (by decide))
  have HBI : Hid (BI w.heap.size w L rest per M S 0 0 1 (w3.heap.size + 1) (.slice none 0 0) ((w3.alloc (.cells #[.pointer (some ⟨S, 0, none⟩)] 28)).alloc (.cells #[.int .i64 0] 3))) := hbi
  clear hof hd2 hl2 hne2 hd3 hSM lM lM0 nM0 nN lN hbi hrest hper e5
  go_wp2
  go_loopw [8, 9, 10] (fun v av iv wr => ∃ (m i a Ib : Nat), av = .int .i64 (a : Nat) ∧ iv = .pointer (some ⟨Ib, 0, none⟩) ∧ m ≤ i ∧ i ≤ 30 ∧ i ≤ ln ∧ Hid (BI w.heap.size w L rest per M S m i a Ib v wr)) (fun _ _ iv wr => 31 - cnt32 (match iv with | .pointer (some p) => p.block | _ => 0) wr)
  case atStart => exact ⟨0, 0, 1, w3.heap.size + 1, rfl, rfl, Nat.le_refl _, by decide, Nat.zero_le _, HBI.out⟩
  case round =>
    obtain ⟨m, i, a, Ib, rfl, rfl, hmi, hi30, hiln, HI⟩ := hrel
    clear HBI
    have ci : wr.cell? ⟨Ib, 0, none⟩ = some (.int .i64 (i : Nat)) := F.cell_of HI.out.box 0
    have cl : wr.cell? ⟨w.heap.size, 0, none⟩ = some (.slice ao ln lc) := F.cell_of (HI.out.at' HM.out.2.1) 0
    obtain ⟨vo, vk, vc, rfl⟩ := HI.out.sl
    by_cases hlt : i < ln
    · by_cases h30 : i < 30
      · obtain rfl := HAO.out (by omega)
        obtain ⟨hp8, hp64⟩ := HP.out
        have hap : a ≤ per := HI.out.2.1
        have cn : wr.cell? ⟨Kb, O + i * 6 + 1, none⟩ = some (.int .i64 (ns i)) := HNN.out wr HI.out.bel i hlt
        obtain ⟨n, hn⟩ : ∃ n : Nat, max 1 (min (ns i) 64) = (n : Int) := ⟨(max 1 (min (ns i) 64)).toNat, by omega⟩
        have hn1 : 1 ≤ n := by omega
        have hn64 : n ≤ 64 := by omega
        have HI1 : Hid (BI w.heap.size w L ((wr.heap.size, .cells #[.int .i64 (n : Nat)] 3) :: rest) per M S m i a Ib (.slice vo vk vc) (wr.alloc (.cells #[.int .i64 (n : Nat)] 3))) := HI.out.hold _ (F.apart_of (by decide))
        by_cases hroom : a + n < per
        · have HRB : Hid (decide ((0 : Int) < (n : Nat) ∧ ((n : Nat) : Int) < (per : Nat) - ((a : Nat) : Int)) = true) := decide_eq_true ⟨by omega, by omega⟩
          have HRC : Hid (decide ((a : Int) + (n : Int) < (per : Int)) = true) := decide_eq_true (by omega)
          go_wp2
          refine F.wp_region_pb (fun f => ⟨#[.int .i64 (per : Int), .slice (some ⟨Kb, O, none⟩) ln lc, undef, .pointer (some ⟨w.heap.size, 0, none⟩), u4, .pointer (some ⟨L.P, 0, none⟩), .pointer (some ⟨M0, 0, none⟩), .pointer (some ⟨w3.heap.size, 0, none⟩), .slice vo vk vc, .int .i64 (a : Int), .pointer (some ⟨Ib, 0, none⟩), .pointer (some ⟨wr.heap.size, 0, none⟩), u12, u13, u14, undef, undef, undef, .bool true, .bool false, .int .i64 p0, .int .i64 (min p0 64), .int .i64 (per : Int), .tuple #[.pointer (some ⟨L.P, 0, none⟩), .pointer (some ⟨M0, 0, none⟩)], .tuple #[.pointer (some ⟨L.P, 0, none⟩), .pointer (some ⟨M0, 0, none⟩)], .pointer (some ⟨L.P, 0, none⟩), .pointer (some ⟨M0, 0, none⟩), .pointer (some ⟨L.P, 0, none⟩), .bool false, .pointer (some ⟨L.P, 0, none⟩), .int .i64 (per : Int), .pointer (some ⟨S, 0, none⟩), .pointer (some ⟨S, 0, none⟩), .bool false, .int .i64 (i : Int), .slice (some ⟨Kb, O, none⟩) ln lc, .int .i64 (ln : Int), .bool true, .bool true, .int .i64 (i : Int), .bool true, .bool true, u42, u43, .slice (some ⟨Kb, O, none⟩) ln lc, .int .i64 (i : Int), .pointer (some ⟨Kb, O + i * 6, none⟩), .pointer (some ⟨Kb, O + i * 6 + 1, none⟩), .int .i64 (ns i), .int .i64 (min (ns i) 64), .int .i64 (n : Int), f 0, f 1, f 2, f 3, f 4, f 5, f 6, f 7, f 8, u60, u61, u62, u63, u64, u65, u66, u67, u68, u69, u70, u71, u72, u73, u74, u75, u76, u77, u78, u79, u80, u81, u82, u83, u84, u85, u86, u87, u88, u89, u90, u91, u92, u93, u94, u95, u96, u97, u98, u99, u100, u101, undef, undef, undef, undef, undef, undef, undef, undef, undef, undef, undef, undef, undef, undef, undef, undef, undef, undef, undef, undef, undef, undef, undef, undef, undef, undef, undef, undef, undef, undef], []⟩) (QV16 S n a per true) (fun _ _ W => BI w.heap.size w L ((wr.heap.size, .cells #[.int .i64 (n : Nat)] 3) :: rest) per M S m i a Ib (.slice vo vk vc) W) (fun i => [u51, u52, u53, u54, u55, u56, u57, u58, u59].getD i undef) (by kernel_rfl) rfl rfl ?hIra ?hputra ?stepra ?finra
          case hIra => exact HI1.out.below (Below.refl _ _).drew
          case finra =>
            intro f W hP hV
            have v0 : f 0 = .pointer (some ⟨S, 0, none⟩) := hV 0 (by decide)
            have v1 : f 1 = .int .i64 (n : Nat) := hV 1 (by decide)
            have v2 : f 2 = .bool true := hV 2 (by decide)
            have v3 : f 3 = .int .i64 (a : Nat) := hV 3 (by decide)
            have v4 : f 4 = .int .i64 (n : Nat) := hV 4 (by decide)
            have v5 : f 5 = .int .i64 ((a : Int) + (n : Int)) := hV 5 (by decide)
            have v6 : f 6 = .int .i64 (per : Nat) := hV 6 (by decide)
            have v7 : f 7 = .bool true := hV 7 (by decide)
            have v8 : f 8 = .bool false := hV 8 (by decide)
            clear hV
            generalize f 0 = z0 at *
            subst v0
            generalize f 1 = z1 at *
            subst v1
            generalize f 2 = z2 at *
            subst v2
            generalize f 3 = z3 at *
            subst v3
            generalize f 4 = z4 at *
            subst v4
            generalize f 5 = z5 at *
            subst v5
            generalize f 6 = z6 at *
            subst v6
            generalize f 7 = z7 at *
            subst v7
            generalize f 8 = z8 at *
            subst v8
            have HW : Hid (BI w.heap.size w L ((wr.heap.size, .cells #[.int .i64 (n : Nat)] 3) :: rest) per M S m i a Ib (.slice vo vk vc) W) := hP
            clear hP
            have cnb : W.cell? ⟨wr.heap.size, 0, none⟩ = some (.int .i64 (n : Nat)) := F.cell_of (HW.out.at' (p := (wr.heap.size, .cells #[.int .i64 (n : Nat)] 3)) (by simp)) 0
            have hge : ¬ (per : Int) ≤ (a : Int) + (n : Int) := by omega
            have hNW : wr.heap.size < W.heap.size := F.getElem?_lt (HW.out.at' (p := (wr.heap.size, .cells #[.int .i64 (n : Nat)] 3)) (by simp))
            have hput := BI.put (x := xs i) (Ab := W.heap.size) (Nb := wr.heap.size) (lc := lc) ⟨hp8, hp64⟩ ⟨hn1, hn64⟩ (by omega) (HW.out.hold (.cells #[.int .i64 0] 3) (F.apart_of (by decide))) HM.out.1 HM.out.2.1 HM.out.2.2.1 (Nat.ne_of_gt hNW) (fun p hp e => by
              have := F.getElem?_lt (HW.out.at' (p := p) (List.mem_cons_of_mem _ hp))
              omega) hlt hi30 (fun W' hb => HS.out W' hb i hlt) hroom
            have HC0 : Hid (cnt32 Ib wr = i) := HI.out.cnt
            have Hne : Hid (wr.heap.size < W.heap.size) := hNW
            clear HW hNW HI HI1
            go_wp2_with fail
            go_call hput as e w6 ⟨rfl, hbp⟩
            have HBP : Hid (BP w.heap.size w L ((W.heap.size, .cells #[.int .i64 (a : Nat)] 3) :: (wr.heap.size, .cells #[.int .i64 (n : Nat)] 3) :: rest) per M S m i a n Ib (payN (xs i) n) (.slice vo vk vc) (w6.alloc (.cells #[.int .i64 0, .int .i64 0] 37))) := hbp.below ((Below.refl _ _).alloc (Nat.le_refl _) _)
            have qA : ∀ z, ((w6.alloc (.cells #[.int .i64 0, .int .i64 0] 37)).drewN z).cell? ⟨W.heap.size, 0, none⟩ = some (.int .i64 (a : Nat)) := fun z => F.cell_of (w := (w6.alloc (.cells #[.int .i64 0, .int .i64 0] 37)).drewN z) (HBP.out.at' (p := (W.heap.size, .cells #[.int .i64 (a : Nat)] 3)) (by simp)) 0
            have qN : ∀ z, ((w6.alloc (.cells #[.int .i64 0, .int .i64 0] 37)).drewN z).cell? ⟨wr.heap.size, 0, none⟩ = some (.int .i64 (n : Nat)) := fun z => F.cell_of (w := (w6.alloc (.cells #[.int .i64 0, .int .i64 0] 37)).drewN z) (HBP.out.at' (p := (wr.heap.size, .cells #[.int .i64 (n : Nat)] 3)) (by simp)) 0
            have qP : ∀ z, ((w6.alloc (.cells #[.int .i64 0, .int .i64 0] 37)).drewN z).cell? ⟨w3.heap.size, 0, none⟩ = some (.pointer (some ⟨S, 0, none⟩)) := fun z => F.cell_of (w := (w6.alloc (.cells #[.int .i64 0, .int .i64 0] 37)).drewN z) (HBP.out.at' (p := (w3.heap.size, .cells #[.pointer (some ⟨S, 0, none⟩)] 28)) (List.mem_cons_of_mem _ (List.mem_cons_of_mem _ HM.out.1))) 0
            have q6 : ∀ z, ((w6.alloc (.cells #[.int .i64 0, .int .i64 0] 37)).drewN z).cell? ⟨S, 6, none⟩ = some (.int .i64 ((a + 1 + n : Nat) : Int)) := fun z => F.cell_of (w := (w6.alloc (.cells #[.int .i64 0, .int .i64 0] 37)).drewN z) HBP.out.seg 6
            have hna : ((a : Int) != (a : Int)) = false := bne_self_eq_false _
            have hnb : (((a + 1 + n : Nat) : Int) != (a : Int) + 1 + (n : Int)) = false := by
              rw [show ((a + 1 + n : Nat) : Int) = (a : Int) + 1 + (n : Int) by omega]; exact bne_self_eq_false _
            clear hput hbp
            go_wp2_with fail
            go_quiet (fail)
            have HB7 : Hid (BP w.heap.size w L ((W.heap.size, .cells #[.int .i64 (a : Nat)] 3) :: (wr.heap.size, .cells #[.int .i64 (n : Nat)] 3) :: rest) per M S m i a n Ib (payN (xs i) n) (.slice vo vk vc) ((w6.alloc (.cells #[.int .i64 0, .int .i64 0] 37)).drewN nq)) := HBP.out.below ⟨rfl, rfl, rfl, Nat.le_refl _, fun _ _ => rfl⟩
            have H9 : Hid (∀ q ∈ ((W.heap.size, Obj.cells #[.int .i64 (a : Nat)] 3) :: (wr.heap.size, Obj.cells #[.int .i64 (n : Nat)] 3) :: rest), ∀ c fz, q.2 ≠ .cells c 9 fz) := by
              intro q hq c fz e
              rcases List.mem_cons.1 hq with rfl | hq
              · injection e with _ e _; exact absurd e (by decide)
              · rcases List.mem_cons.1 hq with rfl | hq
                · injection e with _ e _; exact absurd e (by decide)
                · exact HM.out.2.2.2.1 q hq c fz e
            clear qA qN qP q6 hna hnb HBP
            generalize (w6.alloc (.cells #[.int .i64 0, .int .i64 0] 37)).drewN nq = w7 at *
            go_wp2_with fail
            refine F.wp_region_pb (fun f => ⟨#[.int .i64 (per : Int), .slice (some ⟨Kb, O, none⟩) ln lc, undef, .pointer (some ⟨w.heap.size, 0, none⟩), u4, .pointer (some ⟨L.P, 0, none⟩), .pointer (some ⟨M0, 0, none⟩), .pointer (some ⟨w3.heap.size, 0, none⟩), f 10, .int .i64 (a : Int), .pointer (some ⟨Ib, 0, none⟩), .pointer (some ⟨wr.heap.size, 0, none⟩), .pointer (some ⟨W.heap.size, 0, none⟩), .pointer (some ⟨w6.heap.size, 0, none⟩), .bool false, undef, undef, undef, .bool true, .bool false, .int .i64 p0, .int .i64 (min p0 64), .int .i64 (per : Int), .tuple #[.pointer (some ⟨L.P, 0, none⟩), .pointer (some ⟨M0, 0, none⟩)], .tuple #[.pointer (some ⟨L.P, 0, none⟩), .pointer (some ⟨M0, 0, none⟩)], .pointer (some ⟨L.P, 0, none⟩), .pointer (some ⟨M0, 0, none⟩), .pointer (some ⟨L.P, 0, none⟩), .bool false, .pointer (some ⟨L.P, 0, none⟩), .int .i64 (per : Int), .pointer (some ⟨S, 0, none⟩), .pointer (some ⟨S, 0, none⟩), .bool false, .int .i64 (i : Int), .slice (some ⟨Kb, O, none⟩) ln lc, .int .i64 (ln : Int), .bool true, .bool true, .int .i64 (i : Int), .bool true, .bool true, u42, u43, .slice (some ⟨Kb, O, none⟩) ln lc, .int .i64 (i : Int), .pointer (some ⟨Kb, O + i * 6, none⟩), .pointer (some ⟨Kb, O + i * 6 + 1, none⟩), .int .i64 (ns i), .int .i64 (min (ns i) 64), .int .i64 (n : Int), .pointer (some ⟨S, 0, none⟩), .int .i64 (n : Int), .bool true, .int .i64 (a : Int), .int .i64 (n : Int), .int .i64 ((a : Int) + (n : Int)), .int .i64 (per : Int), .bool true, .bool false, .int .i64 (a : Int), .int .i64 (n : Int), .int .i64 ((a : Int) + (n : Int)), .int .i64 (per : Int), .bool false, .tuple #[.agg #[.int .i64 0, .int .i64 0], .bool false], .func (.func 16) #[] #[.pointer (some ⟨w3.heap.size, 0, none⟩), .pointer (some ⟨w.heap.size, 0, none⟩), .pointer (some ⟨Ib, 0, none⟩), .pointer (some ⟨wr.heap.size, 0, none⟩), .pointer (some ⟨W.heap.size, 0, none⟩)], .tuple #[.agg #[.int .i64 0, .int .i64 0], .bool false], .agg #[.int .i64 0, .int .i64 0], .bool false, .bool false, .bool false, .int .i64 (a : Int), .int .i64 (a : Int), .bool false, .bool false, .bool false, .pointer (some ⟨S, 0, none⟩), .pointer (some ⟨S, 0, none⟩), .pointer (some ⟨S, 6, none⟩), .int .i64 ((a : Int) + 1 + (n : Int)), .int .i64 (a : Int), .int .i64 ((a : Int) + 1), .int .i64 (n : Int), .int .i64 ((a : Int) + 1 + (n : Int)), .bool false, .bool false, f 0, f 1, f 2, f 3, f 4, f 5, f 6, f 7, f 8, f 9, u97, u98, u99, u100, u101, undef, undef, undef, undef, undef, undef, undef, undef, undef, undef, undef, undef, undef, undef, undef, undef, undef, undef, undef, undef, undef, undef, undef, undef, undef, undef, undef, undef, undef, undef], []⟩) (QV23 (.slice vo vk vc) Kb O ln lc i n (xs i)) (RP23 (fun W9 => BP w.heap.size w L ((W.heap.size, .cells #[.int .i64 (a : Nat)] 3) :: (wr.heap.size, .cells #[.int .i64 (n : Nat)] 3) :: rest) per M S m i a n Ib (payN (xs i) n) (.slice vo vk vc) W9) (fun v9 W9 => BI w.heap.size w L ((W.heap.size, .cells #[.int .i64 (a : Nat)] 3) :: (wr.heap.size, .cells #[.int .i64 (n : Nat)] 3) :: rest) per M S (m + 1) i (a + 1 + n) Ib v9 W9) (payN (xs i) n) (.slice vo vk vc)) (fun i => [u87, u88, u89, u90, u91, u92, u93, u94, u95, u96, .slice vo vk vc].getD i undef) (by kernel_rfl) rfl rfl ?hIrc ?hputrc ?steprc ?finrc
            case hIrc => exact RP23.start rfl (HB7.out.below (Below.refl _ _).drew)
            case finrc =>
              intro f W9 hP hV
              have v0 : f 0 = .slice vo vk vc := hV 0 (by decide)
              have v1 : f 1 = .slice (some ⟨Kb, O, none⟩) ln lc := hV 1 (by decide)
              have v2 : f 2 = .int .i64 (i : Nat) := hV 2 (by decide)
              have v3 : f 3 = .pointer (some ⟨Kb, O + i * 6, none⟩) := hV 3 (by decide)
              have v4 : f 4 = .pointer (some ⟨Kb, O + i * 6, none⟩) := hV 4 (by decide)
              have v5 : f 5 = .string (xs i) := hV 5 (by decide)
              have v6 : f 6 = .int .i64 (n : Nat) := hV 6 (by decide)
              have v7 : f 7 = .string (payN (xs i) n) := hV 7 (by decide)
              have h10 := hP.d rfl
              have hq := hP.c rfl
              rw [← h10] at hq
              have HQ : Hid (BI w.heap.size w L ((W.heap.size, .cells #[.int .i64 (a : Nat)] 3) :: (wr.heap.size, .cells #[.int .i64 (n : Nat)] 3) :: rest) per M S (m + 1) i (a + 1 + n) Ib (f 10) W9) := hq
              clear hq h10 hP hV
              generalize f 0 = z0 at *
              subst v0
              generalize f 1 = z1 at *
              subst v1
              generalize f 2 = z2 at *
              subst v2
              generalize f 3 = z3 at *
              subst v3
              generalize f 4 = z4 at *
              subst v4
              generalize f 5 = z5 at *
              subst v5
              generalize f 6 = z6 at *
              subst v6
              generalize f 7 = z7 at *
              subst v7
              generalize f 8 = z8 at *
              generalize f 9 = z9 at *
              generalize f 10 = z10 at *
              have cN2 : W9.cell? ⟨wr.heap.size, 0, none⟩ = some (.int .i64 (n : Nat)) := F.cell_of (HQ.out.at' (p := (wr.heap.size, .cells #[.int .i64 (n : Nat)] 3)) (by simp)) 0
              have cI2 : W9.cell? ⟨Ib, 0, none⟩ = some (.int .i64 (i : Nat)) := F.cell_of HQ.out.box 0
              have HT2 : Hid (BI w.heap.size w L rest per M S (m + 1) (i + 1) (a + 1 + n) W9.heap.size z10 (W9.alloc (.cells #[.int .i64 ((i + 1 : Nat) : Int)] 3))) := (HQ.out.turn).drop (fun p hp => List.mem_cons_of_mem _ (List.mem_cons_of_mem _ hp))
              have HC1 : Hid (cnt32 W9.heap.size (W9.alloc (.cells #[.int .i64 ((i + 1 : Nat) : Int)] 3)) = i + 1) := HT2.out.cnt
              go_wp2_with fail
              exact ⟨⟨m + 1, i + 1, a + 1 + n, W9.heap.size, by rw [show ((a + 1 + n : Nat) : Int) = (a : Int) + (1 + (n : Int)) by omega], rfl, by omega, by omega, by omega, HT2.out⟩, by
                have h0 := HC0.out
                have h1 := HC1.out
                show 31 - cnt32 W9.heap.size (W9.alloc (.cells #[.int .i64 ((i + 1 : Nat) : Int)] 3)) < 31 - cnt32 Ib wr
                omega⟩
            case hputrc =>
              repeat (refine ⟨fun f v => rfl, ?_⟩)
              trivial
            case steprc =>
              refine ⟨?_, ?_⟩
              · intro done f W9 hP hdn hd K hK
                clear hd
                go_simp
                have q := hP.u (hP.n10 (by decide) hdn)
                exact hK _ _ q (hP.pure _ (by decide) _)
              refine ⟨?_, ?_⟩
              · intro done f W9 hP hdn hd K hK
                clear hd
                have q := F.cell_of (hP.any (X := W9.heap[w.heap.size]? = some (.cells #[.slice (some ⟨Kb, O, none⟩) ln lc] 22)) (fun h => h.at' (p := (w.heap.size, .cells #[.slice (some ⟨Kb, O, none⟩) ln lc] 22)) (by simp [HM.out.2.1])) (fun _ h => h.at' (p := (w.heap.size, .cells #[.slice (some ⟨Kb, O, none⟩) ln lc] 22)) (by simp [HM.out.2.1]))) 0
                simp at q
                go_simp
                exact hK _ _ rfl (hP.pure _ (by decide) _)
              refine ⟨?_, ?_⟩
              · intro done f W9 hP hdn hd K hK
                clear hd
                have q := F.cell_of (hP.any (X := W9.heap[Ib]? = some (.cells #[.int .i64 (i : Nat)] 3)) (fun h => h.box) (fun _ h => h.box)) 0
                simp at q
                go_simp
                exact hK _ _ rfl (hP.pure _ (by decide) _)
              refine ⟨?_, ?_⟩
              · intro done f W9 hP hdn hd K hK
                have d1 := (hd.1 rfl).2
                have e1 : done 1 = true := (hd.1 rfl).1
                have d2 := (hd.2.1 rfl).2
                have e2 : done 2 = true := (hd.2.1 rfl).1
                clear hd
                replace d1 : f 1 = .slice (some ⟨Kb, O, none⟩) ln lc := d1
                replace d2 : f 2 = .int .i64 (i : Nat) := d2
                generalize f 1 = x1 at *
                subst d1
                clear e1
                generalize f 2 = x2 at *
                subst d2
                clear e2
                go_simp
                exact hK _ _ rfl (hP.pure _ (by decide) _)
              refine ⟨?_, ?_⟩
              · intro done f W9 hP hdn hd K hK
                have d3 := (hd.1 rfl).2
                have e3 : done 3 = true := (hd.1 rfl).1
                clear hd
                replace d3 : f 3 = .pointer (some ⟨Kb, O + i * 6, none⟩) := d3
                generalize f 3 = x3 at *
                subst d3
                clear e3
                go_simp
                exact hK _ _ rfl (hP.pure _ (by decide) _)
              refine ⟨?_, ?_⟩
              · intro done f W9 hP hdn hd K hK
                have d4 := (hd.1 rfl).2
                have e4 : done 4 = true := (hd.1 rfl).1
                clear hd
                replace d4 : f 4 = .pointer (some ⟨Kb, O + i * 6, none⟩) := d4
                generalize f 4 = x4 at *
                subst d4
                clear e4
                have q := hP.any (X := W9.cell? ⟨Kb, O + i * 6, none⟩ = some (.string (xs i))) (fun h => HS.out W9 h.bel i hlt) (fun _ h => HS.out W9 h.bel i hlt)
                go_simp
                exact hK _ _ rfl (hP.pure _ (by decide) _)
              refine ⟨?_, ?_⟩
              · intro done f W9 hP hdn hd K hK
                clear hd
                have q := F.cell_of (hP.any (X := W9.heap[wr.heap.size]? = some (.cells #[.int .i64 (n : Nat)] 3)) (fun h => h.at' (p := (wr.heap.size, .cells #[.int .i64 (n : Nat)] 3)) (by simp)) (fun _ h => h.at' (p := (wr.heap.size, .cells #[.int .i64 (n : Nat)] 3)) (by simp))) 0
                simp at q
                go_simp
                exact hK _ _ rfl (hP.pure _ (by decide) _)
              refine ⟨?_, ?_⟩
              · intro done f W9 hP hdn hd K hK
                have d5 := (hd.1 rfl).2
                have e5 : done 5 = true := (hd.1 rfl).1
                have d6 := (hd.2.1 rfl).2
                have e6 : done 6 = true := (hd.2.1 rfl).1
                clear hd
                replace d5 : f 5 = .string (xs i) := d5
                replace d6 : f 6 = .int .i64 (n : Nat) := d6
                generalize f 5 = x5 at *
                subst d5
                clear e5
                generalize f 6 = x6 at *
                subst d6
                clear e6
                go_simp
                refine Calls.mono (pay_any (xs i) n hn1 (by omega) W9) ?_
                rintro e W' ⟨rfl, hb⟩
                exact hK _ _ rfl (hP.step _ (by decide) _ (fun h => h.below hb) (fun _ h => h.below hb) (fun G o h => (hb.block G (F.getElem?_lt h)).trans h))
              refine ⟨?_, ?_⟩
              · intro done f W9 hP hdn hd K hK
                have d7 := (hd.1 rfl).2
                have e7 : done 7 = true := (hd.1 rfl).1
                clear hd
                replace d7 : f 7 = .string (payN (xs i) n) := d7
                generalize f 7 = x7 at *
                subst d7
                clear e7
                go_simp
                exact hK _ _ trivial (hP.s8 hdn (fun h => h.below ((Below.refl _ _).alloc (Nat.le_refl _) _)) (F.heap_new _ _))
              refine ⟨?_, ?_⟩
              · intro done f W9 hP hdn hd K hK
                have d0 := (hd.1 rfl).2
                have e0 : done 0 = true := (hd.1 rfl).1
                have d8 := (hd.2.1 rfl).2
                have e8 : done 8 = true := (hd.2.1 rfl).1
                clear hd
                replace d0 : f 0 = .slice vo vk vc := d0
                generalize f 0 = x0 at *
                subst d0
                clear e0
                obtain ⟨G, g8, gc⟩ := hP.b e8
                have gcc := gc hdn
                have hbp := hP.a hdn
                obtain ⟨xs2, hx1, hx2, hx3, hx4⟩ := BP.grow H9.out hbp
                refine go_ifp (by rfl) ?_
                refine tapp _ _ rfl rfl g8 gcc hx2 hx3 (by omega) ?_
                intro v' W' q1 q2
                exact hK _ _ trivial (hP.s9 e8 hdn (hx4 v' W' q1 q2))
              refine ⟨?_, ?_⟩
              · intro done f W9 hP hdn hd K hK
                have d9 := (hd.1 rfl).2
                have e9 : done 9 = true := (hd.1 rfl).1
                have e0 : done 0 = true := (hd.2.2.1 rfl).1
                have e1 : done 1 = true := (hd.2.2.2.1 rfl).1
                have e2 : done 2 = true := (hd.2.2.2.2.1 rfl).1
                have e3 : done 3 = true := (hd.2.2.2.2.2.1 rfl).1
                have e4 : done 4 = true := (hd.2.2.2.2.2.2.1 rfl).1
                have e5 : done 5 = true := (hd.2.2.2.2.2.2.2.1 rfl).1
                have e6 : done 6 = true := (hd.2.2.2.2.2.2.2.2.1 rfl).1
                have e7 : done 7 = true := (hd.2.2.2.2.2.2.2.2.2.1 rfl).1
                have e8 : done 8 = true := (hd.2.2.2.2.2.2.2.2.2.2.1 rfl).1
                clear hd
                go_simp
                exact hK _ _ trivial (hP.s10 e9 (by
                  intro j hj
                  match j, hj with
                  | 0, _ => exact e0
                  | 1, _ => exact e1
                  | 2, _ => exact e2
                  | 3, _ => exact e3
                  | 4, _ => exact e4
                  | 5, _ => exact e5
                  | 6, _ => exact e6
                  | 7, _ => exact e7
                  | 8, _ => exact e8
                  | 9, _ => exact e9))
              trivial
          case hputra =>
            repeat (refine ⟨fun f v => rfl, ?_⟩)
            trivial
          case stepra =>
            refine ⟨?_, ?_⟩
            · intro done f W hP hdn hd K hK
              clear hd
              have q := F.cell_of (hP.at' (p := (w3.heap.size, .cells #[.pointer (some ⟨S, 0, none⟩)] 28)) (List.mem_cons_of_mem _ HM.out.1)) 0
              simp at q
              go_simp
              exact hK _ _ rfl hP
            refine ⟨?_, ?_⟩
            · intro done f W hP hdn hd K hK
              clear hd
              have q := F.cell_of (hP.at' (p := (wr.heap.size, .cells #[.int .i64 (n : Nat)] 3)) (by simp)) 0
              simp at q
              go_simp
              exact hK _ _ rfl hP
            refine ⟨?_, ?_⟩
            · intro done f W hP hdn hd K hK
              have d0 := (hd.1 rfl).2
              have e0 : done 0 = true := (hd.1 rfl).1
              have d1 := (hd.2.1 rfl).2
              have e1 : done 1 = true := (hd.2.1 rfl).1
              clear hd
              replace d0 : f 0 = .pointer (some ⟨S, 0, none⟩) := d0
              replace d1 : f 1 = .int .i64 (n : Nat) := d1
              generalize f 0 = x0 at *
              subst d0
              clear e0
              generalize f 1 = x1 at *
              subst d1
              clear e1
              have q := BI.room ⟨hp8, hp64⟩ hP n true HRB.out
              go_simp
              refine Calls.mono q ?_
              rintro e W' ⟨rfl, hb⟩
              exact hK _ _ rfl hb
            refine ⟨?_, ?_⟩
            · intro done f W hP hdn hd K hK
              clear hd
              go_simp
              exact hK _ _ rfl hP
            refine ⟨?_, ?_⟩
            · intro done f W hP hdn hd K hK
              clear hd
              have q := F.cell_of (hP.at' (p := (wr.heap.size, .cells #[.int .i64 (n : Nat)] 3)) (by simp)) 0
              simp at q
              go_simp
              exact hK _ _ rfl hP
            refine ⟨?_, ?_⟩
            · intro done f W hP hdn hd K hK
              have d3 := (hd.1 rfl).2
              have e3 : done 3 = true := (hd.1 rfl).1
              have d4 := (hd.2.1 rfl).2
              have e4 : done 4 = true := (hd.2.1 rfl).1
              clear hd
              replace d3 : f 3 = .int .i64 (a : Nat) := d3
              replace d4 : f 4 = .int .i64 (n : Nat) := d4
              generalize f 3 = x3 at *
              subst d3
              clear e3
              generalize f 4 = x4 at *
              subst d4
              clear e4
              have q : IntKind.i64.wrap ((a : Int) + (n : Int)) = (a : Int) + (n : Int) := by rw [IntKind.wrap_i64]; omega
              go_simp
              exact hK _ _ rfl hP
            refine ⟨?_, ?_⟩
            · intro done f W hP hdn hd K hK
              clear hd
              go_simp
              exact hK _ _ rfl hP
            refine ⟨?_, ?_⟩
            · intro done f W hP hdn hd K hK
              have d5 := (hd.1 rfl).2
              have e5 : done 5 = true := (hd.1 rfl).1
              have d6 := (hd.2.1 rfl).2
              have e6 : done 6 = true := (hd.2.1 rfl).1
              clear hd
              replace d5 : f 5 = .int .i64 ((a : Int) + (n : Int)) := d5
              replace d6 : f 6 = .int .i64 (per : Nat) := d6
              generalize f 5 = x5 at *
              subst d5
              clear e5
              generalize f 6 = x6 at *
              subst d6
              clear e6
              have q := HRC.out
              go_simp
              exact hK _ _ rfl hP
            refine ⟨?_, ?_⟩
            · intro done f W hP hdn hd K hK
              have d2 := (hd.1 rfl).2
              have e2 : done 2 = true := (hd.1 rfl).1
              have d7 := (hd.2.1 rfl).2
              have e7 : done 7 = true := (hd.2.1 rfl).1
              clear hd
              replace d2 : f 2 = .bool true := d2
              replace d7 : f 7 = .bool true := d7
              generalize f 2 = x2 at *
              subst d2
              clear e2
              generalize f 7 = x7 at *
              subst d7
              clear e7
              go_simp
              exact hK _ _ rfl hP
            trivial
        · have HRB : Hid (decide ((0 : Int) < (n : Nat) ∧ ((n : Nat) : Int) < (per : Nat) - ((a : Nat) : Int)) = false) := decide_eq_false (by omega)
          have HRC : Hid (decide ((a : Int) + (n : Int) < (per : Int)) = false) := decide_eq_false (by omega)
          go_wp2
          refine F.wp_region_pb (fun f => ⟨#[.int .i64 (per : Int), .slice (some ⟨Kb, O, none⟩) ln lc, undef, .pointer (some ⟨w.heap.size, 0, none⟩), u4, .pointer (some ⟨L.P, 0, none⟩), .pointer (some ⟨M0, 0, none⟩), .pointer (some ⟨w3.heap.size, 0, none⟩), .slice vo vk vc, .int .i64 (a : Int), .pointer (some ⟨Ib, 0, none⟩), .pointer (some ⟨wr.heap.size, 0, none⟩), u12, u13, u14, undef, undef, undef, .bool true, .bool false, .int .i64 p0, .int .i64 (min p0 64), .int .i64 (per : Int), .tuple #[.pointer (some ⟨L.P, 0, none⟩), .pointer (some ⟨M0, 0, none⟩)], .tuple #[.pointer (some ⟨L.P, 0, none⟩), .pointer (some ⟨M0, 0, none⟩)], .pointer (some ⟨L.P, 0, none⟩), .pointer (some ⟨M0, 0, none⟩), .pointer (some ⟨L.P, 0, none⟩), .bool false, .pointer (some ⟨L.P, 0, none⟩), .int .i64 (per : Int), .pointer (some ⟨S, 0, none⟩), .pointer (some ⟨S, 0, none⟩), .bool false, .int .i64 (i : Int), .slice (some ⟨Kb, O, none⟩) ln lc, .int .i64 (ln : Int), .bool true, .bool true, .int .i64 (i : Int), .bool true, .bool true, u42, u43, .slice (some ⟨Kb, O, none⟩) ln lc, .int .i64 (i : Int), .pointer (some ⟨Kb, O + i * 6, none⟩), .pointer (some ⟨Kb, O + i * 6 + 1, none⟩), .int .i64 (ns i), .int .i64 (min (ns i) 64), .int .i64 (n : Int), f 0, f 1, f 2, f 3, f 4, f 5, f 6, f 7, f 8, u60, u61, u62, u63, u64, u65, u66, u67, u68, u69, u70, u71, u72, u73, u74, u75, u76, u77, u78, u79, u80, u81, u82, u83, u84, u85, u86, u87, u88, u89, u90, u91, u92, u93, u94, u95, u96, u97, u98, u99, u100, u101, undef, undef, undef, undef, undef, undef, undef, undef, undef, undef, undef, undef, undef, undef, undef, undef, undef, undef, undef, undef, undef, undef, undef, undef, undef, undef, undef, undef, undef, undef], []⟩) (QV16 S n a per false) (fun _ _ W => BI w.heap.size w L ((wr.heap.size, .cells #[.int .i64 (n : Nat)] 3) :: rest) per M S m i a Ib (.slice vo vk vc) W) (fun i => [u51, u52, u53, u54, u55, u56, u57, u58, u59].getD i undef) (by kernel_rfl) rfl rfl ?hIrb ?hputrb ?steprb ?finrb
          case hIrb => exact HI1.out.below (Below.refl _ _).drew
          case finrb =>
            intro f W hP hV
            have v0 : f 0 = .pointer (some ⟨S, 0, none⟩) := hV 0 (by decide)
            have v1 : f 1 = .int .i64 (n : Nat) := hV 1 (by decide)
            have v2 : f 2 = .bool false := hV 2 (by decide)
            have v3 : f 3 = .int .i64 (a : Nat) := hV 3 (by decide)
            have v4 : f 4 = .int .i64 (n : Nat) := hV 4 (by decide)
            have v5 : f 5 = .int .i64 ((a : Int) + (n : Int)) := hV 5 (by decide)
            have v6 : f 6 = .int .i64 (per : Nat) := hV 6 (by decide)
            have v7 : f 7 = .bool false := hV 7 (by decide)
            have v8 : f 8 = .bool false := hV 8 (by decide)
            clear hV
            generalize f 0 = z0 at *
            subst v0
            generalize f 1 = z1 at *
            subst v1
            generalize f 2 = z2 at *
            subst v2
            generalize f 3 = z3 at *
            subst v3
            generalize f 4 = z4 at *
            subst v4
            generalize f 5 = z5 at *
            subst v5
            generalize f 6 = z6 at *
            subst v6
            generalize f 7 = z7 at *
            subst v7
            generalize f 8 = z8 at *
            subst v8
            have HW : Hid (BI w.heap.size w L ((wr.heap.size, .cells #[.int .i64 (n : Nat)] 3) :: rest) per M S m i a Ib (.slice vo vk vc) W) := hP
            clear hP
            have cnb : W.cell? ⟨wr.heap.size, 0, none⟩ = some (.int .i64 (n : Nat)) := F.cell_of (HW.out.at' (p := (wr.heap.size, .cells #[.int .i64 (n : Nat)] 3)) (by simp)) 0
            have cib : W.cell? ⟨Ib, 0, none⟩ = some (.int .i64 (i : Nat)) := F.cell_of HW.out.box 0
            have hge : (per : Int) ≤ (a : Int) + (n : Int) := by omega
            have HT1 : Hid (BI w.heap.size w L rest per M S m (i + 1) a W.heap.size (.slice vo vk vc) (W.alloc (.cells #[.int .i64 ((i + 1 : Nat) : Int)] 3))) := (HW.out.turn).drop (fun p hp => List.mem_cons_of_mem _ hp)
            have HC0 : Hid (cnt32 Ib wr = i) := HI.out.cnt
            have HC1 : Hid (cnt32 W.heap.size (W.alloc (.cells #[.int .i64 ((i + 1 : Nat) : Int)] 3)) = i + 1) := HT1.out.cnt
            go_wp2_with fail
            exact ⟨⟨m, i + 1, a, W.heap.size, rfl, rfl, by omega, by omega, by omega, HT1.out⟩, by
              have h0 := HC0.out
              have h1 := HC1.out
              show 31 - cnt32 W.heap.size (W.alloc (.cells #[.int .i64 ((i + 1 : Nat) : Int)] 3)) < 31 - cnt32 Ib wr
              omega⟩
          case hputrb =>
            repeat (refine ⟨fun f v => rfl, ?_⟩)
            trivial
          case steprb =>
            refine ⟨?_, ?_⟩
            · intro done f W hP hdn hd K hK
              clear hd
              have q := F.cell_of (hP.at' (p := (w3.heap.size, .cells #[.pointer (some ⟨S, 0, none⟩)] 28)) (List.mem_cons_of_mem _ HM.out.1)) 0
              simp at q
              go_simp
              exact hK _ _ rfl hP
            refine ⟨?_, ?_⟩
            · intro done f W hP hdn hd K hK
              clear hd
              have q := F.cell_of (hP.at' (p := (wr.heap.size, .cells #[.int .i64 (n : Nat)] 3)) (by simp)) 0
              simp at q
              go_simp
              exact hK _ _ rfl hP
            refine ⟨?_, ?_⟩
            · intro done f W hP hdn hd K hK
              have d0 := (hd.1 rfl).2
              have e0 : done 0 = true := (hd.1 rfl).1
              have d1 := (hd.2.1 rfl).2
              have e1 : done 1 = true := (hd.2.1 rfl).1
              clear hd
              replace d0 : f 0 = .pointer (some ⟨S, 0, none⟩) := d0
              replace d1 : f 1 = .int .i64 (n : Nat) := d1
              generalize f 0 = x0 at *
              subst d0
              clear e0
              generalize f 1 = x1 at *
              subst d1
              clear e1
              have q := BI.room ⟨hp8, hp64⟩ hP n false HRB.out
              go_simp
              refine Calls.mono q ?_
              rintro e W' ⟨rfl, hb⟩
              exact hK _ _ rfl hb
            refine ⟨?_, ?_⟩
            · intro done f W hP hdn hd K hK
              clear hd
              go_simp
              exact hK _ _ rfl hP
            refine ⟨?_, ?_⟩
            · intro done f W hP hdn hd K hK
              clear hd
              have q := F.cell_of (hP.at' (p := (wr.heap.size, .cells #[.int .i64 (n : Nat)] 3)) (by simp)) 0
              simp at q
              go_simp
              exact hK _ _ rfl hP
            refine ⟨?_, ?_⟩
            · intro done f W hP hdn hd K hK
              have d3 := (hd.1 rfl).2
              have e3 : done 3 = true := (hd.1 rfl).1
              have d4 := (hd.2.1 rfl).2
              have e4 : done 4 = true := (hd.2.1 rfl).1
              clear hd
              replace d3 : f 3 = .int .i64 (a : Nat) := d3
              replace d4 : f 4 = .int .i64 (n : Nat) := d4
              generalize f 3 = x3 at *
              subst d3
              clear e3
              generalize f 4 = x4 at *
              subst d4
              clear e4
              have q : IntKind.i64.wrap ((a : Int) + (n : Int)) = (a : Int) + (n : Int) := by rw [IntKind.wrap_i64]; omega
              go_simp
              exact hK _ _ rfl hP
            refine ⟨?_, ?_⟩
            · intro done f W hP hdn hd K hK
              clear hd
              go_simp
              exact hK _ _ rfl hP
            refine ⟨?_, ?_⟩
            · intro done f W hP hdn hd K hK
              have d5 := (hd.1 rfl).2
              have e5 : done 5 = true := (hd.1 rfl).1
              have d6 := (hd.2.1 rfl).2
              have e6 : done 6 = true := (hd.2.1 rfl).1
              clear hd
              replace d5 : f 5 = .int .i64 ((a : Int) + (n : Int)) := d5
              replace d6 : f 6 = .int .i64 (per : Nat) := d6
              generalize f 5 = x5 at *
              subst d5
              clear e5
              generalize f 6 = x6 at *
              subst d6
              clear e6
              have q := HRC.out
              go_simp
              exact hK _ _ rfl hP
            refine ⟨?_, ?_⟩
            · intro done f W hP hdn hd K hK
              have d2 := (hd.1 rfl).2
              have e2 : done 2 = true := (hd.1 rfl).1
              have d7 := (hd.2.1 rfl).2
              have e7 : done 7 = true := (hd.2.1 rfl).1
              clear hd
              replace d2 : f 2 = .bool false := d2
              replace d7 : f 7 = .bool false := d7
              generalize f 2 = x2 at *
              subst d2
              clear e2
              generalize f 7 = x7 at *
              subst d7
              clear e7
              go_simp
              exact hK _ _ rfl hP
            trivial
      · skip
        obtain ⟨ha1, hap2, now, l, ol, htx, hch, hlm, hks, hpd, hdev, hne0, hne1⟩ := HI.out
        obtain ⟨hp8, hp64⟩ := HP.out
        have hm30 : m ≤ 30 := by omega
        have hlo := dev_loose hdev
        have hof := dev_of hdev per
        have HTX : Hid (Txs (.slice vo vk vc) (l.map Prod.snd) ol) := htx
        have HCH : Hid (Chn now ⟨M, 3, 2, 5, 4, per, a⟩ l a) := hch
        have HKS : Hid (∀ j, j < 70 → Ksec (now j)) := hks
        have HPD : Hid (∀ j, 4 + a ≤ j → now j = F.pad ⟨#[]⟩) := hpd
        clear htx hch hks hpd hdev hne1 HI
        go_wp2_with fail
        go_call hlo as e w4 ⟨rfl, rfl⟩
        clear ci cl hlo
        go_wp2_with fail
        go_call hof as e w5 ⟨S2, M2, rfl, hd7, hSM2, hne7⟩
        have hsc := scanned_all (Sb := S2) (sg0 M2 per) hd7 (by simp [sg0]) (by
          intro p hp cc fz e
          rcases List.mem_cons.1 hp with rfl | hp
          · injection e with _ e _; exact absurd e (by decide)
          · rcases List.mem_append.1 hp with hp | hp
            · obtain ⟨cu, hcu⟩ := HTX.out.ty p hp
              rw [hcu] at e; injection e with _ e _; exact absurd e (by decide)
            · rcases List.mem_cons.1 hp with rfl | hp
              · injection e with _ e _; exact absurd e (by decide)
              · rcases List.mem_cons.1 hp with rfl | hp
                · injection e with _ e _; exact absurd e (by decide)
                · exact HM.out.2.2.2.2 p hp cc fz e) (by
          intro p hp
          rcases List.mem_cons.1 hp with rfl | hp
          · exact Ne.symm hSM2
          · exact hne7 p hp) ⟨(by decide : (3 : Nat) < _), (by decide : (2 : Nat) < _), (by decide : (5 : Nat) < _)⟩ ⟨(by decide : (4 : Nat) ≤ _), (by show 1 ≤ per; omega), hp64⟩ (by show 4 + per ≤ 70; omega) (by decide) (by omega) HKS.out HCH.out.med (fun _ => by
          have := HPD.out (4 + a) (Nat.le_refl _)
          show (now (4 + a))[0]? ≠ some 67
          rw [this, pad0]; decide)
        clear hof hd7 hSM2 hne7 HKS HCH HPD
        go_wp2_with fail
        go_call hsc as e w8 ⟨v2, ol2, rfl, htx2, -, hd8⟩
        have HPc : Hid (∀ W, Below w8.heap.size w8 W → W.cell? ⟨w3.heap.size, 0, none⟩ = some (.pointer (some ⟨S, 0, none⟩))) := fun W hb => by
          have h0 := hd8.at' (p := (w3.heap.size, .cells #[.pointer (some ⟨S, 0, none⟩)] 28)) (by simp [HM.out.1])
          exact F.cell_of ((hb.block _ (F.getElem?_lt h0)).trans h0) 0
        have H6c : Hid (∀ W, Below w8.heap.size w8 W → W.cell? ⟨S2, 6, none⟩ = some (.int .i64 (a : Nat))) := fun W hb => by
          have h0 := hd8.at' (p := (S2, .cells (Sg.cs { sg0 M2 per with a := a }) 44)) (by simp)
          exact F.cell_of ((hb.block _ (F.getElem?_lt h0)).trans h0) 6
        have HSM : Hid (∀ W, Below w8.heap.size w8 W → Calls Tryz.prog 21 #[v2, .slice vo vk vc] W fun e w' => e = .returned (.bool true) ∧ Below W.heap.size W w') := fun W hb =>
          same_yes htx2 HTX.out (by rw [List.length_map]; omega) W (fun p hp => by
            have h0 := hd8.at' (p := p) (by simp [hp])
            exact (hb.block _ (F.getElem?_lt h0)).trans h0) (fun p hp => by
            have h0 := hd8.at' (p := p) (by simp [hp])
            exact (hb.block _ (F.getElem?_lt h0)).trans h0)
        have HRM : Hid (∀ W, Below w8.heap.size w8 W → Calls Tryz.prog 14 #[.pointer (some ⟨S, 0, none⟩), .int .i64 0] W fun e w' => e = .returned (.bool false) ∧ Below W.heap.size W w') := fun W hb => by
          have h0 := hd8.at' (p := (S, .cells (Sg.cs ⟨M, 3, 2, 5, 4, per, a⟩) 44)) (by simp)
          refine (room_any ⟨M, 3, 2, 5, 4, per, a⟩ S 0 W ((hb.block _ (F.getElem?_lt h0)).trans h0) ⟨by show per ≤ 1000; omega, by show a ≤ 1000; omega⟩).mono ?_
          rintro e w' ⟨rfl, hb2⟩
          exact ⟨by rw [decide_eq_false (by omega)], hb2⟩
        have HB8 : Hid (Below w.heap.size w w8) := hd8.bel
        clear hsc hd8 htx2 HTX
        go_wp2_with fail
        have h31 := HSM.out w8 (Below.refl _ _)
        go_call h31 as e w9 ⟨rfl, b9⟩
        have q6 := H6c.out w9 b9
        have qP := HPc.out w9 b9
        have h32 := HRM.out w9 b9
        clear h31
        go_wp2_with fail
        go_call h32 as e w10 ⟨rfl, b10⟩
        go_wp2
        go_returns
        exact ⟨rfl, HB8.out.trans ((b9.trans (b10.mono b9.size)).mono HB8.out.size)⟩
    · skip
      obtain ⟨ha1, hap2, now, l, ol, htx, hch, hlm, hks, hpd, hdev, hne0, hne1⟩ := HI.out
      obtain ⟨hp8, hp64⟩ := HP.out
      have hm30 : m ≤ 30 := by omega
      have hlo := dev_loose hdev
      have hof := dev_of hdev per
      have HTX : Hid (Txs (.slice vo vk vc) (l.map Prod.snd) ol) := htx
      have HCH : Hid (Chn now ⟨M, 3, 2, 5, 4, per, a⟩ l a) := hch
      have HKS : Hid (∀ j, j < 70 → Ksec (now j)) := hks
      have HPD : Hid (∀ j, 4 + a ≤ j → now j = F.pad ⟨#[]⟩) := hpd
      clear htx hch hks hpd hdev hne1 HI
      go_wp2_with fail
      go_call hlo as e w4 ⟨rfl, rfl⟩
      clear ci cl hlo
      go_wp2_with fail
      go_call hof as e w5 ⟨S2, M2, rfl, hd7, hSM2, hne7⟩
      have hsc := scanned_all (Sb := S2) (sg0 M2 per) hd7 (by simp [sg0]) (by
        intro p hp cc fz e
        rcases List.mem_cons.1 hp with rfl | hp
        · injection e with _ e _; exact absurd e (by decide)
        · rcases List.mem_append.1 hp with hp | hp
          · obtain ⟨cu, hcu⟩ := HTX.out.ty p hp
            rw [hcu] at e; injection e with _ e _; exact absurd e (by decide)
          · rcases List.mem_cons.1 hp with rfl | hp
            · injection e with _ e _; exact absurd e (by decide)
            · rcases List.mem_cons.1 hp with rfl | hp
              · injection e with _ e _; exact absurd e (by decide)
              · exact HM.out.2.2.2.2 p hp cc fz e) (by
        intro p hp
        rcases List.mem_cons.1 hp with rfl | hp
        · exact Ne.symm hSM2
        · exact hne7 p hp) ⟨(by decide : (3 : Nat) < _), (by decide : (2 : Nat) < _), (by decide : (5 : Nat) < _)⟩ ⟨(by decide : (4 : Nat) ≤ _), (by show 1 ≤ per; omega), hp64⟩ (by show 4 + per ≤ 70; omega) (by decide) (by omega) HKS.out HCH.out.med (fun _ => by
        have := HPD.out (4 + a) (Nat.le_refl _)
        show (now (4 + a))[0]? ≠ some 67
        rw [this, pad0]; decide)
      clear hof hd7 hSM2 hne7 HKS HCH HPD
      go_wp2_with fail
      go_call hsc as e w8 ⟨v2, ol2, rfl, htx2, -, hd8⟩
      have HPc : Hid (∀ W, Below w8.heap.size w8 W → W.cell? ⟨w3.heap.size, 0, none⟩ = some (.pointer (some ⟨S, 0, none⟩))) := fun W hb => by
        have h0 := hd8.at' (p := (w3.heap.size, .cells #[.pointer (some ⟨S, 0, none⟩)] 28)) (by simp [HM.out.1])
        exact F.cell_of ((hb.block _ (F.getElem?_lt h0)).trans h0) 0
      have H6c : Hid (∀ W, Below w8.heap.size w8 W → W.cell? ⟨S2, 6, none⟩ = some (.int .i64 (a : Nat))) := fun W hb => by
        have h0 := hd8.at' (p := (S2, .cells (Sg.cs { sg0 M2 per with a := a }) 44)) (by simp)
        exact F.cell_of ((hb.block _ (F.getElem?_lt h0)).trans h0) 6
      have HSM : Hid (∀ W, Below w8.heap.size w8 W → Calls Tryz.prog 21 #[v2, .slice vo vk vc] W fun e w' => e = .returned (.bool true) ∧ Below W.heap.size W w') := fun W hb =>
        same_yes htx2 HTX.out (by rw [List.length_map]; omega) W (fun p hp => by
          have h0 := hd8.at' (p := p) (by simp [hp])
          exact (hb.block _ (F.getElem?_lt h0)).trans h0) (fun p hp => by
          have h0 := hd8.at' (p := p) (by simp [hp])
          exact (hb.block _ (F.getElem?_lt h0)).trans h0)
      have HRM : Hid (∀ W, Below w8.heap.size w8 W → Calls Tryz.prog 14 #[.pointer (some ⟨S, 0, none⟩), .int .i64 0] W fun e w' => e = .returned (.bool false) ∧ Below W.heap.size W w') := fun W hb => by
        have h0 := hd8.at' (p := (S, .cells (Sg.cs ⟨M, 3, 2, 5, 4, per, a⟩) 44)) (by simp)
        refine (room_any ⟨M, 3, 2, 5, 4, per, a⟩ S 0 W ((hb.block _ (F.getElem?_lt h0)).trans h0) ⟨by show per ≤ 1000; omega, by show a ≤ 1000; omega⟩).mono ?_
        rintro e w' ⟨rfl, hb2⟩
        exact ⟨by rw [decide_eq_false (by omega)], hb2⟩
      have HB8 : Hid (Below w.heap.size w w8) := hd8.bel
      clear hsc hd8 htx2 HTX
      go_wp2_with fail
      have h31 := HSM.out w8 (Below.refl _ _)
      go_call h31 as e w9 ⟨rfl, b9⟩
      have q6 := H6c.out w9 b9
      have qP := HPc.out w9 b9
      have h32 := HRM.out w9 b9
      clear h31
      go_wp2_with fail
      go_call h32 as e w10 ⟨rfl, b10⟩
      go_wp2
      go_returns
      exact ⟨rfl, HB8.out.trans ((b9.trans (b10.mono b9.size)).mono HB8.out.size)⟩
end Go.Proofs.YtncfbocbigdhiaaGreat
