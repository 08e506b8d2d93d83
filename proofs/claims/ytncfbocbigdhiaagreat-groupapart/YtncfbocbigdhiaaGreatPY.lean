/- Texts of this seat, one behind the other: PA, PB, PD. -/
import Derived.Test.YtncfbocbigdhiaaGreatVY
import Derived.Test.YtncfbocbigdhiaaGreatUY
/- GroupApart: its first closure, under Guard; the state between two rounds. -/
namespace Go.Proofs.YtncfbocbigdhiaaGreat.V
open Go Go.RowKit
theorem ent26 (args : Array Value) (W : World) : (callFunc 26 args).run Tryz.prog W = .ok (.enter 26 args) W := O.enter_of Tryz.func26 (by kernel_rfl) (by kernel_rfl) args W
def V26 (Sb Kb O ln lc i k : Nat) (x : ByteArray) : Nat → Value → Prop
  | 0, v => v = .pointer (some ⟨Sb, 0, none⟩)
  | 1, v => v = .slice (some ⟨Kb, O, none⟩) ln lc
  | 2, v => v = .int .i64 (i : Nat)
  | 3, v => v = .pointer (some ⟨Kb, O + i * 6, none⟩)
  | 4, v => v = .pointer (some ⟨Kb, O + i * 6, none⟩)
  | 5, v => v = .string x
  | 6, v => v = .int .i64 (k : Nat)
  | 7, v => v = .string (payN x k)
  | _, _ => True
set_option maxHeartbeats 2000000 in
set_option maxRecDepth 100000 in
theorem op26 {T : Nat} {w : World} {L : F.Loc} {q : Int} {n : Nat} {rest : List (Nat × Obj)} {now : Nat → ByteArray} {c : Int} {W0 : World} {Pb Lb Ib Nb Sb Kb O ln lc i k : Nat} {x : ByteArray} (s : Sg) (h : Dev T w L q n ((Sb, .cells s.cs 44) :: rest) now c W0)
    (pbm : (Pb, Obj.cells #[.pointer (some ⟨Sb, 0, none⟩)] 28) ∈ rest) (plm : (Lb, Obj.cells #[.slice (some ⟨Kb, O, none⟩) ln lc] 22) ∈ rest) (pim : (Ib, Obj.cells #[.int .i64 (i : Nat)] 3) ∈ rest) (pnm : (Nb, Obj.cells #[.int .i64 (k : Nat)] 3) ∈ rest) (hM : (s.M, F.med L.P 1 q) ∈ rest)
    (hne : ∀ p ∈ rest, p.1 ≠ Sb) (hil : i < ln) (_hi30 : i ≤ 30) (hrow : ∀ W, Below T w W → W.cell? ⟨Kb, O + i * 6, none⟩ = some (.string x)) (hs : s.Ok) (hk1 : 1 ≤ k) (hk2 : k ≤ 100) (hroom : s.a + k < s.p) (hfit : s.b + s.p ≤ n) (hn1 : n ≤ 1000) (hc : c ≤ 600000) :
    Calls Tryz.prog 26 #[.pointer (some ⟨Pb, 0, none⟩), .pointer (some ⟨Lb, 0, none⟩), .pointer (some ⟨Ib, 0, none⟩), .pointer (some ⟨Nb, 0, none⟩)] W0 fun e w' => e = .returned (.tuple #[]) ∧ Dev T w L q n ((Sb, .cells (Sg.cs { s with a := s.a + 1 + k }) 44) :: rest) (layC now s (payN x k) k) (c + 100) w' := by
  have HF : Hid ((Pb, Obj.cells #[.pointer (some ⟨Sb, 0, none⟩)] 28) ∈ rest ∧ (Lb, Obj.cells #[.slice (some ⟨Kb, O, none⟩) ln lc] 22) ∈ rest ∧ (Ib, Obj.cells #[.int .i64 (i : Nat)] 3) ∈ rest ∧ (Nb, Obj.cells #[.int .i64 (k : Nat)] 3) ∈ rest ∧ 1 ≤ k ∧ k ≤ 100) := ⟨pbm, plm, pim, pnm, hk1, hk2⟩
  have HR : Hid (∀ W, Below T w W → W.cell? ⟨Kb, O + i * 6, none⟩ = some (.string x)) := hrow
  have HA : Hid (∀ W, Dev T w L q n ((Sb, .cells s.cs 44) :: rest) now c W → Calls Tryz.prog 17 #[.pointer (some ⟨Sb, 0, none⟩), .string (payN x k)] W fun e W' => e = .returned (.int .i64 (s.a : Nat)) ∧ Dev T w L q n ((Sb, .cells (Sg.cs { s with a := s.a + 1 + k }) 44) :: rest) (layC now s (payN x k) k) (c + 100) W') := fun W hW => dev_append s hW hM hne hs (payN x k) k hk1 hroom (payN_size _ _) hfit hn1 hc
  have H0 : Hid (Dev T w L q n ((Sb, .cells s.cs 44) :: rest) now c W0) := h
  clear h pbm plm pim pnm hM hne hs hk1 hk2 hroom hfit hn1 hc hrow
  go_enter Tryz.func26, Tryz.ntmps26
  refine F.wp_region_pb (fun f => ⟨#[.pointer (some ⟨Pb, 0, none⟩), .pointer (some ⟨Lb, 0, none⟩), .pointer (some ⟨Ib, 0, none⟩), .pointer (some ⟨Nb, 0, none⟩), f 0, f 1, f 2, f 3, f 4, f 5, f 6, f 7, f 8], []⟩) (V26 Sb Kb O ln lc i k x) (F.Two 8 (fun W => Dev T w L q n ((Sb, .cells s.cs 44) :: rest) now c W) (fun W => Dev T w L q n ((Sb, .cells (Sg.cs { s with a := s.a + 1 + k }) 44) :: rest) (layC now s (payN x k) k) (c + 100) W)) (fun i => [undef, undef, undef, undef, undef, undef, undef, undef, undef].getD i undef) (by kernel_rfl) rfl rfl ?hI ?hput ?step ?fin
  case hI => exact F_two_start (H0.out.below (Below.refl _ _).drew)
  case fin =>
    intro f W hP hV
    have h2 := hP.b rfl
    have H2 : Hid (Dev T w L q n ((Sb, .cells (Sg.cs { s with a := s.a + 1 + k }) 44) :: rest) (layC now s (payN x k) k) (c + 100) W) := h2
    clear hP hV h2 H0 HA
    go_wp2
    go_returns
    exact ⟨rfl, H2.out⟩
  case hput =>
    repeat (refine ⟨fun f v => rfl, ?_⟩)
    trivial
  case step =>
    refine ⟨?_, ?_⟩
    · intro done f W hP hdn hd K hK
      clear hd
      have qq : W.cell? ⟨Pb, 0, none⟩ = some (.pointer (some ⟨Sb, 0, none⟩)) := F.cell_of (F.Two.any (R := fun W => W.heap[Pb]? = some (Obj.cells #[.pointer (some ⟨Sb, 0, none⟩)] 28)) (fun W h => h.at' (p := (Pb, Obj.cells #[.pointer (some ⟨Sb, 0, none⟩)] 28)) (List.mem_cons_of_mem _ HF.out.1)) (fun W h => h.at' (p := (Pb, Obj.cells #[.pointer (some ⟨Sb, 0, none⟩)] 28)) (List.mem_cons_of_mem _ HF.out.1)) hP) 0
      go_simp
      exact hK _ _ rfl (hP.pure _ (by decide) _)
    refine ⟨?_, ?_⟩
    · intro done f W hP hdn hd K hK
      clear hd
      have qq : W.cell? ⟨Lb, 0, none⟩ = some (.slice (some ⟨Kb, O, none⟩) ln lc) := F.cell_of (F.Two.any (R := fun W => W.heap[Lb]? = some (Obj.cells #[.slice (some ⟨Kb, O, none⟩) ln lc] 22)) (fun W h => h.at' (p := (Lb, Obj.cells #[.slice (some ⟨Kb, O, none⟩) ln lc] 22)) (List.mem_cons_of_mem _ HF.out.2.1)) (fun W h => h.at' (p := (Lb, Obj.cells #[.slice (some ⟨Kb, O, none⟩) ln lc] 22)) (List.mem_cons_of_mem _ HF.out.2.1)) hP) 0
      go_simp
      exact hK _ _ rfl (hP.pure _ (by decide) _)
    refine ⟨?_, ?_⟩
    · intro done f W hP hdn hd K hK
      clear hd
      have qq : W.cell? ⟨Ib, 0, none⟩ = some (.int .i64 (i : Nat)) := F.cell_of (F.Two.any (R := fun W => W.heap[Ib]? = some (Obj.cells #[.int .i64 (i : Nat)] 3)) (fun W h => h.at' (p := (Ib, Obj.cells #[.int .i64 (i : Nat)] 3)) (List.mem_cons_of_mem _ HF.out.2.2.1)) (fun W h => h.at' (p := (Ib, Obj.cells #[.int .i64 (i : Nat)] 3)) (List.mem_cons_of_mem _ HF.out.2.2.1)) hP) 0
      go_simp
      exact hK _ _ rfl (hP.pure _ (by decide) _)
    refine ⟨?_, ?_⟩
    · intro done f W hP hdn hd K hK
      have d1 := (hd.1 rfl).2
      have e1 : done 1 = true := (hd.1 rfl).1
      have d2 := (hd.2.1 rfl).2
      have e2 : done 2 = true := (hd.2.1 rfl).1
      clear hd
      replace d1 : f 1 = .slice (some ⟨Kb, O, none⟩) ln lc := d1
      replace d2 : f 2 = .int .i64 (i : Nat) := d2
      generalize f 1 = x1 at *
      subst d1
      clear e1
      generalize f 2 = x2 at *
      subst d2
      clear e2
      go_simp
      exact hK _ _ rfl (hP.pure _ (by decide) _)
    refine ⟨?_, ?_⟩
    · intro done f W hP hdn hd K hK
      have d3 := (hd.1 rfl).2
      have e3 : done 3 = true := (hd.1 rfl).1
      clear hd
      replace d3 : f 3 = .pointer (some ⟨Kb, O + i * 6, none⟩) := d3
      generalize f 3 = x3 at *
      subst d3
      clear e3
      go_simp
      exact hK _ _ rfl (hP.pure _ (by decide) _)
    refine ⟨?_, ?_⟩
    · intro done f W hP hdn hd K hK
      have d4 := (hd.1 rfl).2
      have e4 : done 4 = true := (hd.1 rfl).1
      clear hd
      replace d4 : f 4 = .pointer (some ⟨Kb, O + i * 6, none⟩) := d4
      generalize f 4 = x4 at *
      subst d4
      clear e4
      have qq := HR.out W (F.Two.any (R := fun W => Below T w W) (fun W h => h.bel) (fun W h => h.bel) hP)
      go_simp
      exact hK _ _ rfl (hP.pure _ (by decide) _)
    refine ⟨?_, ?_⟩
    · intro done f W hP hdn hd K hK
      clear hd
      have qq : W.cell? ⟨Nb, 0, none⟩ = some (.int .i64 (k : Nat)) := F.cell_of (F.Two.any (R := fun W => W.heap[Nb]? = some (Obj.cells #[.int .i64 (k : Nat)] 3)) (fun W h => h.at' (p := (Nb, Obj.cells #[.int .i64 (k : Nat)] 3)) (List.mem_cons_of_mem _ HF.out.2.2.2.1)) (fun W h => h.at' (p := (Nb, Obj.cells #[.int .i64 (k : Nat)] 3)) (List.mem_cons_of_mem _ HF.out.2.2.2.1)) hP) 0
      go_simp
      exact hK _ _ rfl (hP.pure _ (by decide) _)
    refine ⟨?_, ?_⟩
    · intro done f W hP hdn hd K hK
      have d5 := (hd.1 rfl).2
      have e5 : done 5 = true := (hd.1 rfl).1
      have d6 := (hd.2.1 rfl).2
      have e6 : done 6 = true := (hd.2.1 rfl).1
      clear hd
      replace d5 : f 5 = .string x := d5
      replace d6 : f 6 = .int .i64 (k : Nat) := d6
      generalize f 5 = x5 at *
      subst d5
      clear e5
      generalize f 6 = x6 at *
      subst d6
      clear e6
      have hpy := pay_any x k HF.out.2.2.2.2.1 HF.out.2.2.2.2.2 W
      go_simp
      refine Calls.mono hpy ?_
      rintro er W' ⟨rfl, hb⟩
      exact hK _ _ rfl (hP.below (by decide) (fun h => h.below hb) (fun h => h.below hb) _)
    refine ⟨?_, ?_⟩
    · intro done f W hP hdn hd K hK
      have d0 := (hd.1 rfl).2
      have e0 : done 0 = true := (hd.1 rfl).1
      have d7 := (hd.2.1 rfl).2
      have e7 : done 7 = true := (hd.2.1 rfl).1
      clear hd
      replace d0 : f 0 = .pointer (some ⟨Sb, 0, none⟩) := d0
      replace d7 : f 7 = .string (payN x k) := d7
      generalize f 0 = x0 at *
      subst d0
      clear e0
      generalize f 7 = x7 at *
      subst d7
      clear e7
      have hap := HA.out W (hP.a hdn)
      go_simp
      refine Calls.mono hap ?_
      rintro er W' ⟨rfl, hB⟩
      exact hK _ _ trivial (hP.turn hB _)
    trivial
theorem apart_guard {T : Nat} {w : World} {L : F.Loc} {q : Int} {n : Nat} {rest : List (Nat × Obj)} {now : Nat → ByteArray} {c : Int} {W : World} {Pb Lb Ib Nb Sb Kb O ln lc i k : Nat} {x : ByteArray} (s : Sg) (h : Dev T w L q n ((Sb, .cells s.cs 44) :: rest) now c W)
    (pbm : (Pb, Obj.cells #[.pointer (some ⟨Sb, 0, none⟩)] 28) ∈ rest) (plm : (Lb, Obj.cells #[.slice (some ⟨Kb, O, none⟩) ln lc] 22) ∈ rest) (pim : (Ib, Obj.cells #[.int .i64 (i : Nat)] 3) ∈ rest) (pnm : (Nb, Obj.cells #[.int .i64 (k : Nat)] 3) ∈ rest) (hM : (s.M, F.med L.P 1 q) ∈ rest)
    (hne : ∀ p ∈ rest, p.1 ≠ Sb) (hil : i < ln) (hi30 : i ≤ 30) (hrow : ∀ W, Below T w W → W.cell? ⟨Kb, O + i * 6, none⟩ = some (.string x)) (hs : s.Ok) (hk1 : 1 ≤ k) (hk2 : k ≤ 100) (hroom : s.a + k < s.p) (hfit : s.b + s.p ≤ n) (hn1 : n ≤ 1000) (hc : c ≤ 600000) :
    Calls Tryz.prog 15 #[.func (.func 26) #[] #[.pointer (some ⟨Pb, 0, none⟩), .pointer (some ⟨Lb, 0, none⟩), .pointer (some ⟨Ib, 0, none⟩), .pointer (some ⟨Nb, 0, none⟩)]] W fun e w' => e = .returned (.tuple #[.agg #[.int .i64 0, .int .i64 0], .bool false]) ∧ Dev T w L q n ((Sb, .cells (Sg.cs { s with a := s.a + 1 + k }) 44) :: rest) (layC now s (payN x k) k) (c + 100) w' := by
  have hlt := h.lts
  have l1 : Sb < W.heap.size := hlt (Sb, .cells s.cs 44) (by simp)
  refine dev_guard (oth2 := (Sb, .cells (Sg.cs { s with a := s.a + 1 + k }) 44) :: F.gob W.heap.size rest) 26 _ ent26 h (fun hg => op26 (lc := lc) (Pb := Pb) (Lb := Lb) (Ib := Ib) (Nb := Nb) (Sb := Sb) (rest := F.gob W.heap.size rest) s (hg.forget ?_) (by simp [F.gob, pbm]) (by simp [F.gob, plm]) (by simp [F.gob, pim]) (by simp [F.gob, pnm]) (by simp [F.gob, hM]) ?_ hil hi30 hrow hs hk1 hk2 hroom hfit hn1 hc) ?_ ?_
  · intro p hp
    simp only [F.gob, List.mem_cons] at hp ⊢
    rcases hp with hp | hp | hp | hp <;> simp [hp]
  · intro p hp
    simp only [F.gob, List.mem_cons] at hp
    rcases hp with rfl | rfl | hp
    · show W.heap.size + 1 ≠ Sb; omega
    · show W.heap.size ≠ Sb; omega
    · exact hne p hp
  · intro p hp
    simp only [F.gob, List.mem_cons] at hp ⊢
    rcases hp with hp | hp | hp | hp <;> simp [hp]
  · intro p hp
    simp only [List.mem_cons] at hp
    rcases hp with rfl | hp
    · exact ⟨by show Sb ≠ _; omega, by show Sb ≠ _; omega⟩
    · have := hlt p (by simp [hp]); exact ⟨by omega, by omega⟩
/-- Between two rounds: i groups at most were written. -/
def AI (T : Nat) (w : World) (L : F.Loc) (rest : List (Nat × Obj)) (per M Sb : Nat) (i a Ib : Nat) (W : World) : Prop :=
  1 ≤ a ∧ a ≤ per ∧ ∃ now l, Chn now ⟨M, 3, 2, 5, 4, per, a⟩ l a ∧ l.length ≤ i ∧ (∀ j, j < 70 → Ksec (now j)) ∧ (∀ j, 4 + a ≤ j → now j = F.pad ⟨#[]⟩) ∧ Dev T w L 1 70 ((Sb, .cells (Sg.cs ⟨M, 3, 2, 5, 4, per, a⟩) 44) :: (Ib, .cells #[.int .i64 (i : Nat)] 3) :: rest) now (100 * i) W ∧ Ib ≠ Sb ∧ ∀ p ∈ rest, p.1 ≠ Ib ∧ p.1 ≠ Sb
section
variable {T : Nat} {w : World} {L : F.Loc} {rest : List (Nat × Obj)} {per M Sb i a n Ib : Nat} {W W' : World}
theorem AI.below (h : AI T w L rest per M Sb i a Ib W) (hb : Below W.heap.size W W') : AI T w L rest per M Sb i a Ib W' := by
  obtain ⟨ha, h0, now, l, h2, h3, h4, h5, h6, h7⟩ := h
  exact ⟨ha, h0, now, l, h2, h3, h4, h5, h6.below hb, h7⟩
theorem AI.at' (h : AI T w L rest per M Sb i a Ib W) {p : Nat × Obj} (hp : p ∈ rest) : W.heap[p.1]? = some p.2 := by
  obtain ⟨ha, h0, now, l, h2, h3, h4, h5, h6, h7⟩ := h
  exact h6.at' (by simp [hp])
theorem AI.box (h : AI T w L rest per M Sb i a Ib W) : W.heap[Ib]? = some (.cells #[.int .i64 (i : Nat)] 3) := by
  obtain ⟨ha, h0, now, l, h2, h3, h4, h5, h6, h7⟩ := h
  exact h6.at' (p := (Ib, .cells #[.int .i64 (i : Nat)] 3)) (by simp)
theorem AI.seg (h : AI T w L rest per M Sb i a Ib W) : W.heap[Sb]? = some (.cells (Sg.cs ⟨M, 3, 2, 5, 4, per, a⟩) 44) := by
  obtain ⟨ha, h0, now, l, h2, h3, h4, h5, h6, h7⟩ := h
  exact h6.at' (p := (Sb, .cells (Sg.cs ⟨M, 3, 2, 5, 4, per, a⟩) 44)) (by simp)
theorem AI.bel (h : AI T w L rest per M Sb i a Ib W) : Below T w W := by
  obtain ⟨ha, h0, now, l, h2, h3, h4, h5, h6, h7⟩ := h
  exact h6.bel
theorem AI.room (hper : 8 ≤ per ∧ per ≤ 64) (h : AI T w L rest per M Sb i a Ib W) (k : Nat) (b : Bool) (hb : decide ((0 : Int) < (k : Nat) ∧ ((k : Nat) : Int) < (per : Nat) - ((a : Nat) : Int)) = b) : Calls Tryz.prog 14 #[.pointer (some ⟨Sb, 0, none⟩), .int .i64 (k : Nat)] W fun e w' => e = .returned (.bool b) ∧ AI T w L rest per M Sb i a Ib w' := by
  have h0 := h.2.1
  refine (room_any _ Sb (k : Nat) W h.seg ⟨by show per ≤ 1000; omega, by show a ≤ 1000; omega⟩).mono ?_
  rintro e W' ⟨rfl, hbl⟩
  exact ⟨by rw [← hb], h.below hbl⟩
/-- The box of the next round. -/
theorem AI.turn (h : AI T w L rest per M Sb i a Ib W) : AI T w L rest per M Sb (i + 1) a W.heap.size (W.alloc (.cells #[.int .i64 ((i + 1 : Nat) : Int)] 3)) := by
  obtain ⟨ha, h0, now, l, h2, h3, h4, h5, h6, h7, h8⟩ := h
  have hl := h6.lts
  refine ⟨ha, h0, now, l, h2, by omega, h4, h5, ?_, ?_, ?_⟩
  · refine ((h6.alloc (.cells #[.int .i64 ((i + 1 : Nat) : Int)] 3) (F.apart_of (by decide))).more (by omega)).forget ?_
    intro p hp
    simp only [List.mem_cons] at hp ⊢
    rcases hp with hp | hp | hp
    · exact Or.inr (Or.inl hp)
    · exact Or.inl hp
    · exact Or.inr (Or.inr (Or.inr hp))
  · have : Sb < W.heap.size := hl (Sb, .cells (Sg.cs ⟨M, 3, 2, 5, 4, per, a⟩) 44) (by simp)
    omega
  · intro p hp
    have := hl p (by simp [hp])
    exact ⟨by omega, (h8 p hp).2⟩
/-- One box more is held. -/
theorem AI.hold (h : AI T w L rest per M Sb i a Ib W) (o : Obj) (ho : F.Obj.apart o) : AI T w L ((W.heap.size, o) :: rest) per M Sb i a Ib (W.alloc o) := by
  obtain ⟨ha, h0, now, l, h2, h3, h4, h5, h6, h7, h8⟩ := h
  have hl := h6.lts
  have l1 : Ib < W.heap.size := hl (Ib, .cells #[.int .i64 (i : Nat)] 3) (by simp)
  have l2 : Sb < W.heap.size := hl (Sb, .cells (Sg.cs ⟨M, 3, 2, 5, 4, per, a⟩) 44) (by simp)
  refine ⟨ha, h0, now, l, h2, h3, h4, h5, (h6.alloc o ho).forget ?_, h7, ?_⟩
  · intro p hp
    simp only [List.mem_cons] at hp ⊢
    rcases hp with hp | hp | hp | hp
    · exact Or.inr (Or.inl hp)
    · exact Or.inr (Or.inr (Or.inl hp))
    · exact Or.inl hp
    · exact Or.inr (Or.inr (Or.inr hp))
  · intro p hp
    rcases List.mem_cons.1 hp with rfl | hp
    · exact ⟨by show W.heap.size ≠ Ib; omega, by show W.heap.size ≠ Sb; omega⟩
    · exact h8 p hp
/-- Some are held no more. -/
theorem AI.drop {rest' : List (Nat × Obj)} (h : AI T w L rest per M Sb i a Ib W) (hs : ∀ p ∈ rest', p ∈ rest) : AI T w L rest' per M Sb i a Ib W := by
  obtain ⟨ha, h0, now, l, h2, h3, h4, h5, h6, h7, h8⟩ := h
  refine ⟨ha, h0, now, l, h2, h3, h4, h5, h6.forget ?_, h7, fun p hp => h8 p (hs p hp)⟩
  intro p hp
  simp only [List.mem_cons] at hp ⊢
  rcases hp with hp | hp | hp
  · exact Or.inl hp
  · exact Or.inr (Or.inl hp)
  · exact Or.inr (Or.inr (hs p hp))
/-- A group is written, under Guard, and the next round's box is made (whatever else is laid between). -/
theorem AI.put {Pb Lb Nb Kb O ln lc : Nat} {x : ByteArray} (hper : 8 ≤ per ∧ per ≤ 64) (hn : 1 ≤ n ∧ n ≤ 64) (h : AI T w L ((Nb, .cells #[.int .i64 (n : Nat)] 3) :: rest) per M Sb i a Ib W)
    (pbm : (Pb, Obj.cells #[.pointer (some ⟨Sb, 0, none⟩)] 28) ∈ rest) (plm : (Lb, Obj.cells #[.slice (some ⟨Kb, O, none⟩) ln lc] 22) ∈ rest) (hM : (M, F.med L.P 1 1) ∈ rest)
    (hil : i < ln) (hi30 : i ≤ 30) (hrow : ∀ W, Below T w W → W.cell? ⟨Kb, O + i * 6, none⟩ = some (.string x)) (hroom : a + n < per) :
    Calls Tryz.prog 15 #[.func (.func 26) #[] #[.pointer (some ⟨Pb, 0, none⟩), .pointer (some ⟨Lb, 0, none⟩), .pointer (some ⟨Ib, 0, none⟩), .pointer (some ⟨Nb, 0, none⟩)]] W fun e w' => e = .returned (.tuple #[.agg #[.int .i64 0, .int .i64 0], .bool false]) ∧
      w'.heap[Ib]? = some (.cells #[.int .i64 (i : Nat)] 3) ∧ ∀ W3, Below w'.heap.size w' W3 → AI T w L rest per M Sb (i + 1) (a + 1 + n) W3.heap.size (W3.alloc (.cells #[.int .i64 ((i + 1 : Nat) : Int)] 3)) := by
  obtain ⟨ha, h0, now, l, h2, h3, h4, h5, h6, h7, h8⟩ := h
  let s : Sg := ⟨M, 3, 2, 5, 4, per, a⟩
  have hs : s.Ok := ⟨(by decide : (3 : Nat) < _), (by decide : (2 : Nat) < _), (by decide : (5 : Nat) < _), (by decide : (4 : Nat) ≤ _), hper.1, hper.2, ha, h0⟩
  refine (apart_guard (lc := lc) (Pb := Pb) (Lb := Lb) (Ib := Ib) (Nb := Nb) (Sb := Sb) (i := i) (k := n) (x := x) s h6 (by simp [pbm]) (by simp [plm]) (by simp) (by simp) (by simp [s, hM]) ?_ hil hi30 hrow hs hn.1 (by omega) hroom (by show 4 + per ≤ 70; omega) (by decide) (by omega)).mono ?_
  · intro p hp
    rcases List.mem_cons.1 hp with rfl | hp
    · exact h7
    · exact (h8 p hp).2
  · rintro e W' ⟨rfl, hd2⟩
    have hps := payN_size x n
    refine ⟨rfl, hd2.at' (p := (Ib, .cells #[.int .i64 (i : Nat)] 3)) (by simp), fun W3 hb => ?_⟩
    have hd3 := hd2.below hb
    have hl := hd3.lts
    have l2 : Sb < W3.heap.size := hl (Sb, .cells (Sg.cs { s with a := s.a + 1 + n }) 44) (by simp)
    refine ⟨by omega, by omega, layC now s (payN x n) n, l ++ [(s.a, payN x n)], Chn.more (s := s) h2 hps hn.1 hroom, by rw [List.length_append]; show l.length + 1 ≤ i + 1; omega, layC_ksec (s := s) hs hps hn.1 hroom h4, ?_, ?_, by omega, ?_⟩
    · intro j hj
      have hj2 : 4 + a + 1 + n ≤ j := by omega
      have := layC_ge (now := now) (s := s) (x := payN x n) (k := n) j hj2
      rw [this]; exact h5 j (by omega)
    · refine ((hd3.alloc (.cells #[.int .i64 ((i + 1 : Nat) : Int)] 3) (F.apart_of (by decide))).more (d := 100 * ((i + 1 : Nat) : Int)) (by omega)).forget ?_
      intro p hp
      simp only [List.mem_cons] at hp ⊢
      rcases hp with hp | hp | hp
      · exact Or.inr (Or.inl hp)
      · exact Or.inl hp
      · exact Or.inr (Or.inr (Or.inr (Or.inr hp)))
    · intro p hp
      have := hl p (by simp [hp])
      exact ⟨by omega, (h8 p (List.mem_cons_of_mem _ hp)).2⟩
end
end Go.Proofs.YtncfbocbigdhiaaGreat.V

/- GroupApart: its second closure, which writes a Commit alone, under Guard; where no group is found. -/
namespace Go.Proofs.YtncfbocbigdhiaaGreat.U
open Go Go.RowKit
theorem Dev.one7 {T : Nat} {w : World} {L : F.Loc} {q : Int} {n : Nat} {oth : List (Nat × Obj)} {now su : Nat → ByteArray} {c : Int} {W : World} {B : Nat} {o : Obj} {cs : Array Value} {W' : World} (h : Dev T w L q n ((B, o) :: oth) now su c W) (hne : ∀ p ∈ oth, p.1 ≠ B) (k : KS6 B W W') (hb : W'.heap[B]? = some (.cells cs 44)) : Dev T w L q n ((B, .cells cs 44) :: oth) now su c W' := by
  obtain ⟨st, lv, ats, h1, h2⟩ := h.ex
  exact ⟨st, lv, ats, h1.other hne k.os k.tape k.output k.size k.block hb (F.apart_of (by decide)), h2⟩
/-- One sector is written. -/
theorem Dev.write1 {T : Nat} {w : World} {L : F.Loc} {q : Int} {n : Nat} {oth : List (Nat × Obj)} {now su : Nat → ByteArray} {c : Int} {W : World} (h : Dev T w L q n oth now su c W) (M : Nat) (hM : (M, F.med L.P 1 q) ∈ oth) (frm : Nat) (y : ByteArray) (hy : y.size = 64) (hf : frm < n) (hn1 : n ≤ 1000) (hc : c ≤ 600000) :
    Calls Tryz.prog 28 #[.pointer (some ⟨M, 0, none⟩), .int .i64 (frm : Nat), .string y] W fun e W' => e = .returned (.tuple #[]) ∧ Dev T w L q n oth (F.lay now frm y 1) su (c + 1) W' := by
  obtain ⟨st, lv, ats, h1, h2, h3, h4, h5, h6, h7, h8, h9, _⟩ := h.ex
  refine (V.dev_write h1 h2 h3 h4 h5 h6 h7 ⟨h8, by omega⟩ hn1 M hM frm y 1 (by omega) (by decide) (by omega)).mono ?_
  rintro e W' ⟨rfl, st', lv', ats', a1, a2, a3, a4, a5, a6, a7, a8, a9⟩
  exact ⟨rfl, st', lv', ats', a1, a2, a3, a4, a5, a6, a7, by omega, by omega, trivial⟩
theorem lay1_ne (now : Nat → ByteArray) (frm : Nat) (y : ByteArray) (i : Nat) (h : i ≠ frm) : F.lay now frm y 1 i = now i := by
  unfold F.lay
  rw [if_neg (by omega)]
theorem lay1_eq (now : Nat → ByteArray) (frm : Nat) (y : ByteArray) (hy : y.size = 64) : F.lay now frm y 1 frm = y := by
  unfold F.lay
  rw [if_pos (by omega), Nat.sub_self]
  exact pad_whole y hy
theorem Chn.first {now : Nat → ByteArray} {s : Sg} {l : List (Nat × ByteArray)} {e : Nat} (h : Chn now s l e) : (l = [] ∧ e = 1) ∨ ∃ k x, Grp now s 1 k x := by
  induction h with
  | nil => exact Or.inl ⟨rfl, rfl⟩
  | next h1 h2 ih =>
    rcases ih with ⟨rfl, rfl⟩ | h
    · exact Or.inr ⟨_, _, h2⟩
    · exact Or.inr h
theorem pad0_ne : ¬ (F.pad ⟨#[]⟩)[0]? = some 67 := by rw [pad0]; decide
/-- No group of another cache, joining, number or place is found. -/
theorem ends_foreign {now : Nat → ByteArray} {M per a : Nat} {l : List (Nat × ByteArray)} (hp : 8 ≤ per ∧ per ≤ 64) (h : Chn now ⟨M, 3, 2, 5, 4, per, a⟩ l a) (hk : ∀ j, j < 70 → Ksec (now j)) (hz : ∀ j, 4 + a ≤ j → now j = F.pad ⟨#[]⟩)
    (c j n b a' : Nat) (hw : (c ≠ 3 ∨ j ≠ 2 ∨ n ≠ 5) ∧ b = 4 ∨ b = 5) : Ends now 70 ⟨M, c, j, n, b, per, a'⟩ 1 := by
  have hfirst := Chn.first h
  rcases hfirst with ⟨rfl, rfl⟩ | ⟨k, x, hg⟩
  · have e : now (b + 1) = F.pad ⟨#[]⟩ := hz _ (by omega)
    exact ends_other (s := ⟨M, c, j, n, b, per, a'⟩) (Nat.le_refl _) (hk _ (show b + 1 < 70 by omega)) (by show ¬ (now (b + 1))[0]? = some 67; rw [e]; exact pad0_ne)
  · have hfit : 1 + k < per := hg.fit
    have hk1 := hg.k1
    have hsz := hg.sz
    have hxk : x.size / 63 = k := by omega
    rcases hw with ⟨hw, rfl⟩ | rfl
    · intro _
      have hcom : now (4 + 1) = (Sg.cm ⟨M, 3, 2, 5, 4, per, a⟩ 1 x).sec := hg.com
      have hok : (Sg.cm ⟨M, 3, 2, 5, 4, per, a⟩ 1 x).Ok := ⟨(by decide : (3 : Nat) < _), (by decide : (2 : Nat) < _), (by decide : (5 : Nat) < _), Nat.le_refl _, by show 1 ≤ x.size / 63; omega, by show 1 + x.size / 63 ≤ 63; omega, sm_lt x⟩
      refine ⟨Sg.cm ⟨M, 3, 2, 5, 4, per, a⟩ 1 x, 0, by show x.size / 63 ≤ 255; omega, fun W => ?_, fun st ats sure _ _ e => ?_⟩
      · show Calls Tryz.prog 131 #[.string (now (4 + 1))] W _
        rw [hcom]; exact tocommit_back _ hok W
      · have e1 : 3 = c := congrArg Cm.c e
        have e2 : 2 = j := congrArg Cm.j e
        have e3 : 5 = n := congrArg Cm.n e
        omega
    · have hpay : now (4 + 1 + 1 + 0) = F.pad (F.chunk (O.tx (secP x k)) 0) := hg.pay 0 (by omega)
      have hmk := secP_mk x k 0 (by omega) (by omega)
      have hl := padc_list (O.tx (secP x k)) 0 k (ysize x k hsz) (by omega)
      refine ends_other (s := ⟨M, c, j, n, 5, per, a'⟩) (Nat.le_refl _) (hk _ (show 5 + 1 < 70 by decide)) ?_
      show ¬ (now (5 + 1))[0]? = some 67
      have e1 : (now (5 + 1))[0]? = some 68 := by
        show (now (4 + 1 + 1 + 0))[0]? = some 68
        rw [hpay, ba_get, ← Array.getElem?_toList, hl, List.getElem?_take_of_lt (by decide), List.getElem?_drop, Array.getElem?_toList, Nat.add_zero, ← ba_get]
        exact hmk
      rw [e1]; decide
/-- A Commit whose payload is not there. -/
theorem rdp_pad0 : rdp (F.pad ⟨#[]⟩) 1 = ⟨#[]⟩ := by
  unfold rdp
  rw [if_neg]
  intro h
  have h0 := h 0 (by decide)
  have e : (F.pad ⟨#[]⟩)[64 * 0]? = some 68 := h0
  rw [Nat.mul_zero, pad0] at e
  exact absurd e (by decide)
theorem ends_alone {now : Nat → ByteArray} {s : Sg} {a : Nat} (ha : 1 ≤ a) (hs : s.c < 18446744073709551616 ∧ s.j < 18446744073709551616 ∧ s.n < 18446744073709551616 ∧ s.p ≤ 64 ∧ s.b = 4) (hap : a + 1 < s.p) (u : Nat) (hu : u < 4294967296) (hc : now (4 + a) = (Cm.mk s.c s.j s.n a 1 u).sec) (hz : now (4 + a + 1) = F.pad ⟨#[]⟩) : Ends now 70 s a := by
  intro _
  have hok : (Cm.mk s.c s.j s.n a 1 u).Ok := ⟨hs.1, hs.2.1, hs.2.2.1, ha, Nat.le_refl _, by show a + 1 ≤ 63; omega, hu⟩
  refine ⟨Cm.mk s.c s.j s.n a 1 u, 0, by show 1 ≤ 255; decide, fun W => ?_, fun st ats sure hd hn e => ?_⟩
  · rw [hs.2.2.2.2, hc]; exact tocommit_back _ hok W
  · have hz1 : zO st s a 1 = ⟨#[]⟩ := by
      unfold zO
      rw [if_neg (by omega), rds_one, rd_now hd hn _ (by omega), hs.2.2.2.2, hz]
      exact rdp_pad0
    have e2 : Cm.k (Cm.mk s.c s.j s.n a 1 u) = Cm.k (s.cm a (zO st s a 1)) := congrArg Cm.k e
    rw [hz1] at e2
    have e3 : (1 : Nat) = 0 := e2
    omega
theorem ent27 (args : Array Value) (W : World) : (callFunc 27 args).run Tryz.prog W = .ok (.enter 27 args) W := O.enter_of Tryz.func27 (by kernel_rfl) (by kernel_rfl) args W
def V27 (S M a : Nat) : Nat → Value → Prop
  | 0, v => v = .pointer (some ⟨S, 0, none⟩)
  | 1, v => v = .pointer (some ⟨S, 0, none⟩)
  | 2, v => v = .pointer (some ⟨S, 0, none⟩)
  | 3, v => v = .pointer (some ⟨M, 0, none⟩)
  | 4, v => v = .int .i64 (a : Nat)
  | 5, v => v = .int .i64 (4 + (a : Int))
  | 6, v => v = .agg #[.int .u64 3, .int .u64 2, .int .u64 5, .int .i64 (a : Nat), .int .i64 1, .int .u32 77]
  | 7, v => v = .string (Cm.mk 3 2 5 a 1 77).sec
  | _, _ => True
set_option maxHeartbeats 2000000 in
set_option maxRecDepth 100000 in
theorem op27 {T : Nat} {w : World} {L : F.Loc} {q : Int} {n : Nat} {oth : List (Nat × Obj)} {now su : Nat → ByteArray} {c : Int} {W0 : World} {S M Tb Kb Xb a : Nat} {s : Sg} (h : Dev T w L q n oth now su c W0) (hsM : s.M = M)
    (ptm : (Tb, Obj.cells #[.pointer (some ⟨S, 0, none⟩)] 28) ∈ oth) (pkm : (Kb, Obj.cells #[.int .i64 (a : Nat)] 3) ∈ oth) (pxm : (Xb, Obj.cells #[.int .u64 3, .int .u64 2, .int .u64 5, .int .i64 (a : Nat), .int .i64 1, .int .u32 77] 55) ∈ oth) (hS : (S, Obj.cells s.cs 44) ∈ oth) (hM : (M, F.med L.P 1 q) ∈ oth)
    (ha : 1 ≤ a ∧ a ≤ 62) (hf : 4 + a < n) (hn1 : n ≤ 1000) (hc : c ≤ 600000) :
    Calls Tryz.prog 27 #[.pointer (some ⟨Tb, 0, none⟩), .pointer (some ⟨Kb, 0, none⟩), .pointer (some ⟨Xb, 0, none⟩)] W0 fun e w' => e = .returned (.tuple #[]) ∧ Dev T w L q n oth (F.lay now (4 + a) (Cm.mk 3 2 5 a 1 77).sec 1) su (c + 1) w' := by
  have hok : (Cm.mk 3 2 5 a 1 77).Ok := ⟨(by decide : (3 : Nat) < _), (by decide : (2 : Nat) < _), (by decide : (5 : Nat) < _), ha.1, Nat.le_refl _, by show a + 1 ≤ 63; omega, (by decide : (77 : Nat) < _)⟩
  have hcs : (Cm.mk 3 2 5 a 1 77).cs = #[.int .u64 3, .int .u64 2, .int .u64 5, .int .i64 (a : Nat), .int .i64 1, .int .u32 77] := rfl
  have HP : Hid (∀ W, Calls Tryz.prog 29 #[.agg #[.int .u64 3, .int .u64 2, .int .u64 5, .int .i64 (a : Nat), .int .i64 1, .int .u32 77]] W fun e w' => e = .returned (.string (Cm.mk 3 2 5 a 1 77).sec) ∧ Below W.heap.size W w') := fun W => by rw [← hcs]; exact cpack_any _ hok W
  have HW : Hid (∀ W, Dev T w L q n oth now su c W → Calls Tryz.prog 28 #[.pointer (some ⟨M, 0, none⟩), .int .i64 (4 + (a : Int)), .string (Cm.mk 3 2 5 a 1 77).sec] W fun e W' => e = .returned (.tuple #[]) ∧ Dev T w L q n oth (F.lay now (4 + a) (Cm.mk 3 2 5 a 1 77).sec 1) su (c + 1) W') := fun W hW => by
    have := hW.write1 M hM (4 + a) (Cm.mk 3 2 5 a 1 77).sec (Cm.sec_size _) hf hn1 hc
    rw [show ((4 + a : Nat) : Int) = 4 + (a : Int) by omega] at this
    exact this
  have HF : Hid ((Tb, Obj.cells #[.pointer (some ⟨S, 0, none⟩)] 28) ∈ oth ∧ (Kb, Obj.cells #[.int .i64 (a : Nat)] 3) ∈ oth ∧ (Xb, Obj.cells #[.int .u64 3, .int .u64 2, .int .u64 5, .int .i64 (a : Nat), .int .i64 1, .int .u32 77] 55) ∈ oth ∧ (S, Obj.cells s.cs 44) ∈ oth) := ⟨ptm, pkm, pxm, hS⟩
  have H0 : Hid (Dev T w L q n oth now su c W0) := h
  have HSM : Hid (s.M = M) := hsM
  have ha62 : a ≤ 62 := ha.2
  clear h hsM ptm pkm pxm hS hM hf hn1 hc hok hcs ha
  go_enter Tryz.func27, Tryz.ntmps27
  refine F.wp_region_pb (fun f => ⟨#[.pointer (some ⟨Tb, 0, none⟩), .pointer (some ⟨Kb, 0, none⟩), .pointer (some ⟨Xb, 0, none⟩), f 0, f 1, f 2, f 3, f 4, f 5, f 6, f 7, f 8], []⟩) (V27 S M a) (F.Two 8 (fun W => Dev T w L q n oth now su c W) (fun W => Dev T w L q n oth (F.lay now (4 + a) (Cm.mk 3 2 5 a 1 77).sec 1) su (c + 1) W)) (fun i => [undef, undef, undef, undef, undef, undef, undef, undef, undef].getD i undef) (by kernel_rfl) rfl rfl ?hI ?hput ?step ?fin
  case hI => exact F_two_start (H0.out.below (Below.refl _ _).drew)
  case fin =>
    intro f W hP hV
    have h2 := hP.b rfl
    have H2 : Hid (Dev T w L q n oth (F.lay now (4 + a) (Cm.mk 3 2 5 a 1 77).sec 1) su (c + 1) W) := h2
    clear hP hV h2 H0 HW HP
    go_wp2
    go_returns
    exact ⟨rfl, H2.out⟩
  case hput =>
    repeat (refine ⟨fun f v => rfl, ?_⟩)
    trivial
  case step =>
    refine ⟨?_, ?_⟩
    · intro done f W hP hdn hd K hK
      clear hd
      have qb : W.heap[Tb]? = some (Obj.cells #[.pointer (some ⟨S, 0, none⟩)] 28) := F.Two.any (R := fun W => W.heap[Tb]? = some (Obj.cells #[.pointer (some ⟨S, 0, none⟩)] 28)) (fun W h => h.at' (p := (Tb, Obj.cells #[.pointer (some ⟨S, 0, none⟩)] 28)) HF.out.1) (fun W h => h.at' (p := (Tb, Obj.cells #[.pointer (some ⟨S, 0, none⟩)] 28)) HF.out.1) hP
      have qq := F.cell_of qb 0
      replace qq : W.cell? ⟨Tb, 0, none⟩ = some (.pointer (some ⟨S, 0, none⟩)) := qq
      go_simp
      exact hK _ _ rfl (hP.pure _ (by decide) _)
    refine ⟨?_, ?_⟩
    · intro done f W hP hdn hd K hK
      have d0 := (hd.1 rfl).2
      have e0 : done 0 = true := (hd.1 rfl).1
      clear hd
      replace d0 : f 0 = .pointer (some ⟨S, 0, none⟩) := d0
      generalize f 0 = x0 at *
      subst d0
      clear e0
      go_simp
      exact hK _ _ rfl (hP.pure _ (by decide) _)
    refine ⟨?_, ?_⟩
    · intro done f W hP hdn hd K hK
      have d1 := (hd.1 rfl).2
      have e1 : done 1 = true := (hd.1 rfl).1
      clear hd
      replace d1 : f 1 = .pointer (some ⟨S, 0, none⟩) := d1
      generalize f 1 = x1 at *
      subst d1
      clear e1
      go_simp
      exact hK _ _ rfl (hP.pure _ (by decide) _)
    refine ⟨?_, ?_⟩
    · intro done f W hP hdn hd K hK
      have d2 := (hd.1 rfl).2
      have e2 : done 2 = true := (hd.1 rfl).1
      clear hd
      replace d2 : f 2 = .pointer (some ⟨S, 0, none⟩) := d2
      generalize f 2 = x2 at *
      subst d2
      clear e2
      have qb : W.heap[S]? = some (Obj.cells s.cs 44) := F.Two.any (R := fun W => W.heap[S]? = some (Obj.cells s.cs 44)) (fun W h => h.at' (p := (S, Obj.cells s.cs 44)) HF.out.2.2.2) (fun W h => h.at' (p := (S, Obj.cells s.cs 44)) HF.out.2.2.2) hP
      have qq := F.cell_of qb 0
      replace qq : W.cell? ⟨S, 0, none⟩ = some (.pointer (some ⟨s.M, 0, none⟩)) := qq
      rw [HSM.out] at qq
      go_simp
      exact hK _ _ rfl (hP.pure _ (by decide) _)
    refine ⟨?_, ?_⟩
    · intro done f W hP hdn hd K hK
      clear hd
      have qb : W.heap[Kb]? = some (Obj.cells #[.int .i64 (a : Nat)] 3) := F.Two.any (R := fun W => W.heap[Kb]? = some (Obj.cells #[.int .i64 (a : Nat)] 3)) (fun W h => h.at' (p := (Kb, Obj.cells #[.int .i64 (a : Nat)] 3)) HF.out.2.1) (fun W h => h.at' (p := (Kb, Obj.cells #[.int .i64 (a : Nat)] 3)) HF.out.2.1) hP
      have qq := F.cell_of qb 0
      replace qq : W.cell? ⟨Kb, 0, none⟩ = some (.int .i64 (a : Nat)) := qq
      go_simp
      exact hK _ _ rfl (hP.pure _ (by decide) _)
    refine ⟨?_, ?_⟩
    · intro done f W hP hdn hd K hK
      have d4 := (hd.1 rfl).2
      have e4 : done 4 = true := (hd.1 rfl).1
      clear hd
      replace d4 : f 4 = .int .i64 (a : Nat) := d4
      generalize f 4 = x4 at *
      subst d4
      clear e4
      have qw : IntKind.i64.wrap (4 + (a : Int)) = 4 + (a : Int) := by
        first | (show wrap64 (4 + (a : Int)) = _; unfold wrap64; omega) | (rw [IntKind.wrap_i64]; omega)
      go_simp
      first | exact hK _ _ rfl (hP.pure _ (by decide) _) | (rw [qw]; exact hK _ _ rfl (hP.pure _ (by decide) _))
    refine ⟨?_, ?_⟩
    · intro done f W hP hdn hd K hK
      clear hd
      have qb : W.heap[Xb]? = some (Obj.cells #[.int .u64 3, .int .u64 2, .int .u64 5, .int .i64 (a : Nat), .int .i64 1, .int .u32 77] 55) := F.Two.any (R := fun W => W.heap[Xb]? = some (Obj.cells #[.int .u64 3, .int .u64 2, .int .u64 5, .int .i64 (a : Nat), .int .i64 1, .int .u32 77] 55)) (fun W h => h.at' (p := (Xb, Obj.cells #[.int .u64 3, .int .u64 2, .int .u64 5, .int .i64 (a : Nat), .int .i64 1, .int .u32 77] 55)) HF.out.2.2.1) (fun W h => h.at' (p := (Xb, Obj.cells #[.int .u64 3, .int .u64 2, .int .u64 5, .int .i64 (a : Nat), .int .i64 1, .int .u32 77] 55)) HF.out.2.2.1) hP
      have q0 := F.cell_of qb 0
      replace q0 : W.cell? ⟨Xb, 0, none⟩ = some (.int .u64 3) := q0
      have q1 := F.cell_of qb 1
      replace q1 : W.cell? ⟨Xb, 1, none⟩ = some (.int .u64 2) := q1
      have q2 := F.cell_of qb 2
      replace q2 : W.cell? ⟨Xb, 2, none⟩ = some (.int .u64 5) := q2
      have q3 := F.cell_of qb 3
      replace q3 : W.cell? ⟨Xb, 3, none⟩ = some (.int .i64 (a : Nat)) := q3
      have q4 := F.cell_of qb 4
      replace q4 : W.cell? ⟨Xb, 4, none⟩ = some (.int .i64 1) := q4
      have q5 := F.cell_of qb 5
      replace q5 : W.cell? ⟨Xb, 5, none⟩ = some (.int .u32 77) := q5
      go_simp
      exact hK _ _ rfl (hP.pure _ (by decide) _)
    refine ⟨?_, ?_⟩
    · intro done f W hP hdn hd K hK
      have d6 := (hd.1 rfl).2
      have e6 : done 6 = true := (hd.1 rfl).1
      clear hd
      replace d6 : f 6 = .agg #[.int .u64 3, .int .u64 2, .int .u64 5, .int .i64 (a : Nat), .int .i64 1, .int .u32 77] := d6
      generalize f 6 = x6 at *
      subst d6
      clear e6
      have hpk := HP.out W
      go_simp
      refine Calls.mono hpk ?_
      rintro er W' ⟨rfl, hb⟩
      exact hK _ _ rfl (hP.below (by decide) (fun h => h.below hb) (fun h => h.below hb) _)
    refine ⟨?_, ?_⟩
    · intro done f W hP hdn hd K hK
      have d3 := (hd.1 rfl).2
      have e3 : done 3 = true := (hd.1 rfl).1
      have d5 := (hd.2.1 rfl).2
      have e5 : done 5 = true := (hd.2.1 rfl).1
      have d7 := (hd.2.2.1 rfl).2
      have e7 : done 7 = true := (hd.2.2.1 rfl).1
      clear hd
      replace d3 : f 3 = .pointer (some ⟨M, 0, none⟩) := d3
      replace d5 : f 5 = .int .i64 (4 + (a : Int)) := d5
      replace d7 : f 7 = .string (Cm.mk 3 2 5 a 1 77).sec := d7
      generalize f 3 = x3 at *
      subst d3
      clear e3
      generalize f 5 = x5 at *
      subst d5
      clear e5
      generalize f 7 = x7 at *
      subst d7
      clear e7
      have hap := HW.out W (hP.a hdn)
      go_simp
      refine Calls.mono hap ?_
      rintro er W' ⟨rfl, hB⟩
      exact hK _ _ trivial (hP.turn hB _)
    trivial
theorem alone_guard {T : Nat} {w : World} {L : F.Loc} {q : Int} {n : Nat} {oth : List (Nat × Obj)} {now su : Nat → ByteArray} {c : Int} {W : World} {S M Tb Kb Xb a : Nat} {s : Sg} (h : Dev T w L q n oth now su c W) (hsM : s.M = M)
    (ptm : (Tb, Obj.cells #[.pointer (some ⟨S, 0, none⟩)] 28) ∈ oth) (pkm : (Kb, Obj.cells #[.int .i64 (a : Nat)] 3) ∈ oth) (pxm : (Xb, Obj.cells #[.int .u64 3, .int .u64 2, .int .u64 5, .int .i64 (a : Nat), .int .i64 1, .int .u32 77] 55) ∈ oth) (hS : (S, Obj.cells s.cs 44) ∈ oth) (hM : (M, F.med L.P 1 q) ∈ oth)
    (ha : 1 ≤ a ∧ a ≤ 62) (hf : 4 + a < n) (hn1 : n ≤ 1000) (hc : c ≤ 600000) :
    Calls Tryz.prog 15 #[.func (.func 27) #[] #[.pointer (some ⟨Tb, 0, none⟩), .pointer (some ⟨Kb, 0, none⟩), .pointer (some ⟨Xb, 0, none⟩)]] W fun e w' => e = .returned (.tuple #[.agg #[.int .i64 0, .int .i64 0], .bool false]) ∧ Dev T w L q n oth (F.lay now (4 + a) (Cm.mk 3 2 5 a 1 77).sec 1) su (c + 1) w' := by
  have hlt := h.lts
  refine dev_guard (oth2 := F.gob W.heap.size oth) 27 _ ent27 h (fun hg => op27 (S := S) (Tb := Tb) (Kb := Kb) (Xb := Xb) (oth := F.gob W.heap.size oth) hg hsM (by simp [F.gob, ptm]) (by simp [F.gob, pkm]) (by simp [F.gob, pxm]) (by simp [F.gob, hS]) (by simp [F.gob, hM]) ha hf hn1 hc) (fun p hp => hp) (fun p hp => ?_)
  have := hlt p hp
  exact ⟨by omega, by omega⟩
end Go.Proofs.YtncfbocbigdhiaaGreat.U

/- GroupApart's walk. -/
namespace Go.Proofs.YtncfbocbigdhiaaGreat.V
open Go Go.RowKit
theorem AI.start {T : Nat} {w : World} {L : F.Loc} {rest : List (Nat × Obj)} {per M Sb Ib : Nat} {W : World} (hper : 8 ≤ per) (hd : Dev T w L 1 70 ((Sb, .cells (sg0 M per).cs 44) :: (Ib, .cells #[.int .i64 0] 3) :: rest) (fun _ => F.pad ⟨#[]⟩) 0 W) (hI : Ib ≠ Sb) (hr : ∀ p ∈ rest, p.1 ≠ Ib ∧ p.1 ≠ Sb) : AI T w L rest per M Sb 0 1 Ib W :=
  ⟨Nat.le_refl _, by omega, fun _ => F.pad ⟨#[]⟩, [], Chn.nil, Nat.le_refl _, fun j _ => ksec0, fun j _ => rfl, hd, hI, hr⟩
theorem AI.cnt {T : Nat} {w : World} {L : F.Loc} {rest : List (Nat × Obj)} {per M Sb i a Ib : Nat} {W : World} (h : AI T w L rest per M Sb i a Ib W) : cnt32 Ib W = i := by
  have := F.cell_of h.box 0
  unfold cnt32
  rw [this]
  simp [intOf]
end Go.Proofs.YtncfbocbigdhiaaGreat.V
namespace Go.Proofs.YtncfbocbigdhiaaGreat.U
open Go Go.RowKit
theorem and_four (m : Int) : bits BinOp.and IntKind.i64 m 3 = 0 ∨ bits BinOp.and IntKind.i64 m 3 = 1 ∨ bits BinOp.and IntKind.i64 m 3 = 2 ∨ bits BinOp.and IntKind.i64 m 3 = 3 := by
  obtain ⟨j, hj, e⟩ : ∃ j : Nat, j ≤ 3 ∧ (BitVec.ofInt 64 m &&& BitVec.ofInt 64 3).toNat = j := ⟨_, by rw [BitVec.toNat_and]; exact Nat.le_trans Nat.and_le_right (by decide), rfl⟩
  have hb : bits BinOp.and IntKind.i64 m 3 = (j : Int) := by
    show IntKind.i64.wrap (((BitVec.ofInt 64 m &&& BitVec.ofInt 64 3).toNat : Nat) : Int) = _
    rw [e]
    have : j = 0 ∨ j = 1 ∨ j = 2 ∨ j = 3 := by omega
    rcases this with rfl | rfl | rfl | rfl <;> decide
  rw [hb]
  omega
theorem Dev.sego {T : Nat} {w : World} {L : F.Loc} {q : Int} {n : Nat} {oth : List (Nat × Obj)} {now su : Nat → ByteArray} {c : Int} {W : World} {S : Nat} {s : Sg} (h : Dev T w L q n ((S, .cells s.cs 44) :: oth) now su c W) (hne : ∀ p ∈ oth, p.1 ≠ S) (i : Nat) (v : Value) (s' : Sg) (he : s.cs.setIfInBounds i v = s'.cs) : Dev T w L q n ((S, .cells s'.cs 44) :: oth) now su c (W.setCell ⟨S, i, none⟩ v) := by
  have hb := h.at' (p := (S, .cells s.cs 44)) (List.mem_cons_self ..)
  replace hb : W.heap[S]? = some (.cells s.cs 44) := hb
  refine h.one7 hne ⟨rfl, rfl, rfl, Nat.le_of_eq (by simp [World.setCell]), fun j hj hn => Below.heap_setCell _ _ _ _ hn⟩ ?_
  rw [F.block_set hb, ← he]
theorem last_scan {T : Nat} {w : World} {L : F.Loc} {oth : List (Nat × Obj)} {now su : Nat → ByteArray} {c : Int} {W : World} {S2 M2 per a : Nat} {l : List (Nat × ByteArray)} (hD : Dev T w L 1 70 ((S2, .cells (sg0 M2 per).cs 44) :: oth) now su c W) (hM : (M2, F.med L.P 1 1) ∈ oth) (h5 : ∀ p ∈ oth, ∀ c fz, p.2 ≠ .cells c 5 fz) (hne : ∀ p ∈ oth, p.1 ≠ S2) (hp : 8 ≤ per ∧ per ≤ 64)
    (hk : ∀ i, i < 70 → Ksec (now i)) (hch : Chn now (sg0 M2 per) l a) (he : Ends now 70 (sg0 M2 per) a) (hc : c ≤ 40000) :
    Calls Tryz.prog 20 #[.pointer (some ⟨S2, 0, none⟩)] W fun r w' => ∃ ao k cp, r = .returned (.tuple #[.slice ao k cp, .bool true]) ∧ w'.heap[S2]? = some (.cells (Sg.cs { sg0 M2 per with a := a }) 44) ∧ Below T w w' ∧ (∀ p ∈ oth, w'.heap[p.1]? = some p.2) := by
  refine (scanned_all (Sb := S2) (sg0 M2 per) hD hM h5 hne ⟨(by decide : (3 : Nat) < _), (by decide : (2 : Nat) < _), (by decide : (5 : Nat) < _)⟩ ⟨(by decide : (4 : Nat) ≤ _), by show 1 ≤ per; omega, hp.2⟩ (by show 4 + per ≤ 70; omega) (by decide) hc hk hch he).mono ?_
  rintro r w' ⟨v, ol, rfl, htx, hap, hd⟩
  obtain ⟨ao, cp, hv⟩ := htx.sl
  exact ⟨ao, _, cp, by rw [hv], hd.at' (p := (S2, .cells (Sg.cs { sg0 M2 per with a := a }) 44)) (by simp), hd.bel, fun p hp => hd.at' (by simp [hp])⟩
theorem alone_facts {now : Nat → ByteArray} {M M2 per a : Nat} {l : List (Nat × ByteArray)} (hp : 8 ≤ per ∧ per ≤ 64) (ha : 1 ≤ a) (h : Chn now ⟨M, 3, 2, 5, 4, per, a⟩ l a) (hk : ∀ j, j < 70 → Ksec (now j)) (hz : ∀ j, 4 + a ≤ j → now j = F.pad ⟨#[]⟩) (hwp : a + 1 < per) :
    Chn (F.lay now (4 + a) (Cm.mk 3 2 5 a 1 77).sec 1) (sg0 M2 per) l a ∧ (∀ i, i < 70 → Ksec (F.lay now (4 + a) (Cm.mk 3 2 5 a 1 77).sec 1 i)) ∧ Ends (F.lay now (4 + a) (Cm.mk 3 2 5 a 1 77).sec 1) 70 (sg0 M2 per) a := by
  have hok : (Cm.mk 3 2 5 a 1 77).Ok := ⟨(by decide : (3 : Nat) < _), (by decide : (2 : Nat) < _), (by decide : (5 : Nat) < _), ha, Nat.le_refl _, by show a + 1 ≤ 63; omega, (by decide : (77 : Nat) < _)⟩
  refine ⟨?_, fun i hi => ?_, ?_⟩
  · have := h.of (now' := F.lay now (4 + a) (Cm.mk 3 2 5 a 1 77).sec 1) (fun i hi => lay1_ne _ _ _ _ (by have : i < 4 + a := hi; omega))
    exact Chn.segM this M2 1
  · by_cases e : i = 4 + a
    · rw [e, lay1_eq _ _ _ (Cm.sec_size _)]
      exact ⟨Cm.sec_size _, Or.inr ⟨_, hok, rfl⟩⟩
    · rw [lay1_ne _ _ _ _ e]; exact hk i hi
  · exact ends_alone (s := sg0 M2 per) ha ⟨(by decide : (3 : Nat) < _), (by decide : (2 : Nat) < _), (by decide : (5 : Nat) < _), hp.2, rfl⟩ hwp 77 (by decide) (lay1_eq _ _ _ (Cm.sec_size _)) (by rw [lay1_ne _ _ _ _ (by omega)]; exact hz _ (by omega))
theorem none_facts {now : Nat → ByteArray} {M M2 per a : Nat} {l : List (Nat × ByteArray)} (hp : 8 ≤ per ∧ per ≤ 64) (ha : 1 ≤ a) (h : Chn now ⟨M, 3, 2, 5, 4, per, a⟩ l a) (hk : ∀ j, j < 70 → Ksec (now j)) (hz : ∀ j, 4 + a ≤ j → now j = F.pad ⟨#[]⟩) :
    Chn now (sg0 M2 per) l a ∧ Ends now 70 (sg0 M2 per) a := by
  refine ⟨Chn.segM h M2 1, ?_⟩
  rcases Nat.lt_or_ge a per with h1 | h1
  · have e : now (4 + a) = F.pad ⟨#[]⟩ := hz _ (by omega)
    exact ends_other (s := sg0 M2 per) ha (hk _ (show 4 + a < 70 by omega)) (by show ¬ (now (4 + a))[0]? = some 67; rw [e]; exact pad0_ne)
  · exact ends_out (s := sg0 M2 per) h1
set_option maxHeartbeats 16000000 in
set_option maxRecDepth 100000 in
theorem apart_walk (p0 : Int) (ao : Option Addr) (ln lc Kb O : Nat) (hao : 0 < ln → ao = some ⟨Kb, O, none⟩) (xs : Nat → ByteArray) (ns : Nat → Int) (wh : Int) (w : World)
    (hS : ∀ W, Below w.heap.size w W → ∀ j, j < ln → W.cell? ⟨Kb, O + j * 6, none⟩ = some (.string (xs j))) (hN : ∀ W, Below w.heap.size w W → ∀ j, j < ln → W.cell? ⟨Kb, O + j * 6 + 1, none⟩ = some (.int .i64 (ns j))) :
    Calls Tryz.prog 5 #[.int .i64 p0, .slice ao ln lc, .int .i64 wh] w fun e w' => e = .returned (.bool true) ∧ Below w.heap.size w w' := by
  have haw := awake11 (w.alloc (.cells #[.slice ao ln lc] 22))
  obtain ⟨per, hper⟩ : ∃ m : Nat, max 8 (min p0 64) = (m : Int) := ⟨(max 8 (min p0 64)).toNat, by omega⟩
  have HP : Hid (8 ≤ per ∧ per ≤ 64) := ⟨by omega, by omega⟩
  have c0 : (w.alloc (.cells #[.slice ao ln lc] 22)).heap[w.heap.size]? = some (.cells #[.slice ao ln lc] 22) := F.heap_new _ _
  have HS : Hid _ := hS
  have HNN : Hid _ := hN
  have HAO : Hid _ := hao
  clear hS hN hao
  go_enter Tryz.func5, Tryz.ntmps5
  go_wp2_with fail
  go_call haw as e w1 ⟨rfl, hb1⟩
  have hlt0 : w.heap.size < (w.alloc (.cells #[.slice ao ln lc] 22)).heap.size := F.getElem?_lt c0
  have c1 : w1.heap[w.heap.size]? = some (.cells #[.slice ao ln lc] 22) := (hb1.block _ hlt0).trans c0
  have HB1 : Hid (Below w.heap.size w w1) := ((Below.refl _ _).alloc (Nat.le_refl _) _).trans (hb1.mono (Nat.le_of_lt hlt0))
  have hmk := F.made_any w.heap.size w w1 [(w.heap.size, .cells #[.slice ao ln lc] 22)] HB1.out HB1.out.size (by
    intro p hp
    rw [List.mem_singleton.1 hp]
    exact ⟨c1, F.apart_of (by decide), Nat.le_refl _⟩) 1 (by decide) (by decide) 70 (by decide) (by decide)
  clear haw hb1 c0 hlt0 c1 HB1
  go_wp2_with fail
  go_call hmk as e w2 ⟨L, M0, rfl, o1⟩
  have hd1 := V.dev0 o1
  have hof := V.dev_of hd1 per
  clear hmk o1 hd1
  go_wp2_with fail
  go_call hof as e w3 ⟨S, M, rfl, hd2, hSM, hne2⟩
  have hl2 := hd2.lts
  have lS : S < w3.heap.size := hl2 (S, .cells (sg0 M per).cs 44) (by simp)
  have lM : M < w3.heap.size := hl2 (M, F.med L.P 1 1) (by simp)
  have lM0 : M0 < w3.heap.size := hl2 (M0, F.med L.P 1 1) (by simp)
  have lN : w.heap.size < w3.heap.size := hl2 (w.heap.size, .cells #[.slice ao ln lc] 22) (by simp)
  have nM0 : M0 ≠ S := hne2 (M0, F.med L.P 1 1) (by simp)
  have nN : w.heap.size ≠ S := hne2 (w.heap.size, .cells #[.slice ao ln lc] 22) (by simp)
  have hd3 := (hd2.alloc (.cells #[.pointer (some ⟨S, 0, none⟩)] 28) (F.apart_of (by decide))).alloc (.cells #[.int .i64 0] 3) (F.apart_of (by decide))
  have e5 : (w3.alloc (.cells #[.pointer (some ⟨S, 0, none⟩)] 28)).heap.size = w3.heap.size + 1 := by simp
  rw [e5] at hd3
  have hbi : V.AI w.heap.size w L [(w3.heap.size, .cells #[.pointer (some ⟨S, 0, none⟩)] 28), (M, F.med L.P 1 1), (M0, F.med L.P 1 1), (w.heap.size, .cells #[.slice ao ln lc] 22)] per M S 0 1 (w3.heap.size + 1) ((w3.alloc (.cells #[.pointer (some ⟨S, 0, none⟩)] 28)).alloc (.cells #[.int .i64 0] 3)) := by
    refine V.AI.start HP.out.1 (hd3.forget ?_) (by omega) ?_
    · intro p hp
      simp only [List.mem_cons, List.not_mem_nil, or_false] at hp ⊢
      rcases hp with hp | hp | hp | hp | hp | hp <;> simp [hp]
    · intro p hp
      simp only [List.mem_cons, List.not_mem_nil, or_false] at hp
      rcases hp with rfl | rfl | rfl | rfl
      · exact ⟨by show w3.heap.size ≠ _; omega, by show w3.heap.size ≠ S; omega⟩
      · exact ⟨by show M ≠ _; omega, Ne.symm hSM⟩
      · exact ⟨by show M0 ≠ _; omega, nM0⟩
      · exact ⟨by show w.heap.size ≠ _; omega, nN⟩
  obtain ⟨rest, hrest⟩ : ∃ rest, rest = [(w3.heap.size, Obj.cells #[.pointer (some ⟨S, 0, none⟩)] 28), (M, F.med L.P 1 1), (M0, F.med L.P 1 1), (w.heap.size, Obj.cells #[.slice ao ln lc] 22)] := ⟨_, rfl⟩
  rw [← hrest] at hbi
  have HM : Hid ((w3.heap.size, Obj.cells #[.pointer (some ⟨S, 0, none⟩)] 28) ∈ rest ∧ (w.heap.size, Obj.cells #[.slice ao ln lc] 22) ∈ rest ∧ (M, F.med L.P 1 1) ∈ rest ∧ (∀ q ∈ rest, ∀ c fz, q.2 ≠ .cells c 5 fz)) := by
    rw [hrest]
    refine ⟨by simp, by simp, by simp, ?_⟩
    intro q hq c fz e
    simp only [List.mem_cons, List.not_mem_nil, or_false] at hq
    rcases hq with rfl | rfl | rfl | rfl <;> (try unfold F.med at e) <;> (injection e with _ e _; exact absurd e (by decide))
  have HBI : Hid (V.AI w.heap.size w L rest per M S 0 1 (w3.heap.size + 1) ((w3.alloc (.cells #[.pointer (some ⟨S, 0, none⟩)] 28)).alloc (.cells #[.int .i64 0] 3))) := hbi
  clear hof hd2 hl2 hne2 hd3 hSM lM lM0 nM0 nN lN hbi hrest hper e5
  go_wp2
  go_loopw [10] (fun iv wr => ∃ (i a Ib : Nat), iv = .pointer (some ⟨Ib, 0, none⟩) ∧ i ≤ 10 ∧ i ≤ ln ∧ Hid (V.AI w.heap.size w L rest per M S i a Ib wr)) (fun iv wr => 11 - cnt32 (match iv with | .pointer (some p) => p.block | _ => 0) wr)
  case atStart => exact ⟨0, 1, w3.heap.size + 1, rfl, by decide, Nat.zero_le _, HBI.out⟩
  case round =>
    obtain ⟨i, a, Ib, rfl, hi10, hiln, HI⟩ := hrel
    clear HBI
    have ci : wr.cell? ⟨Ib, 0, none⟩ = some (.int .i64 (i : Nat)) := F.cell_of HI.out.box 0
    have cl : wr.cell? ⟨w.heap.size, 0, none⟩ = some (.slice ao ln lc) := F.cell_of (HI.out.at' HM.out.2.1) 0
    by_cases hlt : i < ln ∧ i < 10
    · obtain ⟨hlt, h10⟩ := hlt
      obtain rfl := HAO.out (by omega)
      obtain ⟨hp8, hp64⟩ := HP.out
      have hap : a ≤ per := HI.out.2.1
      have cn : wr.cell? ⟨Kb, O + i * 6 + 1, none⟩ = some (.int .i64 (ns i)) := HNN.out wr HI.out.bel i hlt
      obtain ⟨n, hn⟩ : ∃ n : Nat, max 1 (min (ns i) 9) = (n : Int) := ⟨(max 1 (min (ns i) 9)).toNat, by omega⟩
      have hn1 : 1 ≤ n := by omega
      have hn64 : n ≤ 64 := by omega
      have HI1 : Hid (V.AI w.heap.size w L ((wr.heap.size, .cells #[.int .i64 (n : Nat)] 3) :: rest) per M S i a Ib (wr.alloc (.cells #[.int .i64 (n : Nat)] 3))) := HI.out.hold _ (F.apart_of (by decide))
      have HC0 : Hid (cnt32 Ib wr = i) := HI.out.cnt
      have cs : (wr.alloc (.cells #[.int .i64 (n : Nat)] 3)).cell? ⟨w3.heap.size, 0, none⟩ = some (.pointer (some ⟨S, 0, none⟩)) := F.cell_of (HI1.out.at' (List.mem_cons_of_mem _ HM.out.1)) 0
      by_cases hroom : a + n < per
      · have hrc := HI1.out.room ⟨hp8, hp64⟩ n true (decide_eq_true ⟨by omega, by omega⟩)
        clear HI
        go_wp2_with fail
        go_call hrc as e w5 ⟨rfl, hd5⟩
        have hput := V.AI.put (x := xs i) (lc := lc) ⟨hp8, hp64⟩ ⟨hn1, hn64⟩ hd5 HM.out.1 HM.out.2.1 HM.out.2.2.1 hlt (by omega) (fun W' hb => HS.out W' hb i hlt) hroom
        clear hrc hd5 HI1 ci cl cn cs
        go_wp2_with fail
        go_call hput as e w6 ⟨rfl, hbx, hnx⟩
        have cI2 : w6.cell? ⟨Ib, 0, none⟩ = some (.int .i64 (i : Nat)) := F.cell_of hbx 0
        have HT2 : Hid (V.AI w.heap.size w L rest per M S (i + 1) (a + 1 + n) w6.heap.size (w6.alloc (.cells #[.int .i64 ((i + 1 : Nat) : Int)] 3))) := hnx w6 (Below.refl _ _)
        have HC1 : Hid (cnt32 w6.heap.size (w6.alloc (.cells #[.int .i64 ((i + 1 : Nat) : Int)] 3)) = i + 1) := HT2.out.cnt
        clear hput hnx hbx
        go_wp2
        go_roundw
        case rel => exact ⟨i + 1, a + 1 + n, w6.heap.size, rfl, by omega, by omega, HT2.out⟩
        case measure =>
          have h0 := HC0.out
          have h1 := HC1.out
          show 11 - cnt32 w6.heap.size (w6.alloc (.cells #[.int .i64 ((i + 1 : Nat) : Int)] 3)) < 11 - cnt32 Ib wr
          omega
      · have hrc := HI1.out.room ⟨hp8, hp64⟩ n false (decide_eq_false (by omega))
        clear HI
        go_wp2_with fail
        go_call hrc as e w5 ⟨rfl, hd5⟩
        have cI2 : w5.cell? ⟨Ib, 0, none⟩ = some (.int .i64 (i : Nat)) := F.cell_of hd5.box 0
        have HT2 : Hid (V.AI w.heap.size w L rest per M S (i + 1) a w5.heap.size (w5.alloc (.cells #[.int .i64 ((i + 1 : Nat) : Int)] 3))) := (hd5.turn).drop (fun p hp => List.mem_cons_of_mem _ hp)
        have HC1 : Hid (cnt32 w5.heap.size (w5.alloc (.cells #[.int .i64 ((i + 1 : Nat) : Int)] 3)) = i + 1) := HT2.out.cnt
        clear hrc hd5 HI1 ci cl cn cs
        go_wp2
        go_roundw
        case rel => exact ⟨i + 1, a, w5.heap.size, rfl, by omega, by omega, HT2.out⟩
        case measure =>
          have h0 := HC0.out
          have h1 := HC1.out
          show 11 - cnt32 w5.heap.size (w5.alloc (.cells #[.int .i64 ((i + 1 : Nat) : Int)] 3)) < 11 - cnt32 Ib wr
          omega
    · obtain ⟨hp8, hp64⟩ := HP.out
      obtain ⟨ha1, hap, now, l, h2, h3, h4, h5, h6, h7, h8⟩ := HI.out
      have hc : (100 * i : Int) ≤ 1000 := by omega
      have hu := (Dev.ofV h6).alloc (.cells #[.int .i64 (a : Nat)] 3) (F.apart_of (by decide))
      have hl6 := h6.lts
      have lS : S < wr.heap.size := hl6 (S, .cells (Sg.cs ⟨M, 3, 2, 5, 4, per, a⟩) 44) (by simp)
      have hne : ∀ p ∈ (wr.heap.size, Obj.cells #[.int .i64 (a : Nat)] 3) :: rest, p.1 ≠ S := by
        intro p hp
        rcases List.mem_cons.1 hp with rfl | hp
        · show wr.heap.size ≠ S; omega
        · exact (h8 p hp).2
      have hu2 := hu.forget (oth' := (S, .cells (Sg.cs ⟨M, 3, 2, 5, 4, per, a⟩) 44) :: (wr.heap.size, .cells #[.int .i64 (a : Nat)] 3) :: rest) (by
        intro p hp
        simp only [List.mem_cons] at hp ⊢
        rcases hp with hp | hp | hp <;> simp [hp])
      have hsg : (wr.alloc (.cells #[.int .i64 (a : Nat)] 3)).heap[S]? = some (.cells (Sg.cs ⟨M, 3, 2, 5, 4, per, a⟩) 44) := hu2.at' (p := (S, .cells (Sg.cs ⟨M, 3, 2, 5, 4, per, a⟩) 44)) (by simp)
      have hsg0 : wr.heap[S]? = some (.cells (Sg.cs ⟨M, 3, 2, 5, 4, per, a⟩) 44) := h6.at' (p := (S, .cells (Sg.cs ⟨M, 3, 2, 5, 4, per, a⟩) 44)) (by simp)
      have z6 : wr.cell? ⟨S, 6, none⟩ = some (.int .i64 (a : Nat)) := F.cell_of hsg0 6
      have z1 : (wr.alloc (.cells #[.int .i64 (a : Nat)] 3)).cell? ⟨S, 1, none⟩ = some (.int .u64 3) := F.cell_of hsg 1
      have z2 : (wr.alloc (.cells #[.int .i64 (a : Nat)] 3)).cell? ⟨S, 2, none⟩ = some (.int .u64 2) := F.cell_of hsg 2
      have z3 : (wr.alloc (.cells #[.int .i64 (a : Nat)] 3)).cell? ⟨S, 3, none⟩ = some (.int .u64 5) := F.cell_of hsg 3
      have z4 : (wr.alloc (.cells #[.int .i64 (a : Nat)] 3)).cell? ⟨S, 4, none⟩ = some (.int .i64 4) := F.cell_of hsg 4
      have f1 := F.frz_of hsg 1
      have f2 := F.frz_of hsg 2
      have f3 := F.frz_of hsg 3
      have f4 := F.frz_of hsg 4
      have cs0 : wr.cell? ⟨w3.heap.size, 0, none⟩ = some (.pointer (some ⟨S, 0, none⟩)) := F.cell_of (HI.out.at' HM.out.1) 0
      have cs1 : (wr.alloc (.cells #[.int .i64 (a : Nat)] 3)).cell? ⟨w3.heap.size, 0, none⟩ = some (.pointer (some ⟨S, 0, none⟩)) := F.cell_of (hu2.at' (List.mem_cons_of_mem _ (List.mem_cons_of_mem _ HM.out.1))) 0
      have hMo : (M, F.med L.P 1 1) ∈ (wr.heap.size, Obj.cells #[.int .i64 (a : Nat)] 3) :: rest := List.mem_cons_of_mem _ HM.out.2.2.1
      have h5o : ∀ p ∈ (wr.heap.size, Obj.cells #[.int .i64 (a : Nat)] 3) :: rest, ∀ c fz, p.2 ≠ .cells c 5 fz := by
        intro p hp c fz e
        rcases List.mem_cons.1 hp with rfl | hp
        · injection e with _ e _; exact absurd e (by decide)
        · exact HM.out.2.2.2 p hp c fz e
      have HFACT : Hid (1 ≤ a ∧ a ≤ per ∧ Chn now ⟨M, 3, 2, 5, 4, per, a⟩ l a ∧ l.length ≤ 10 ∧ (∀ j, j < 70 → Ksec (now j)) ∧ (∀ j, 4 + a ≤ j → now j = F.pad ⟨#[]⟩)) := ⟨ha1, hap, h2, by omega, h4, h5⟩
      have HNE : Hid (∀ p ∈ (wr.heap.size, Obj.cells #[.int .i64 (a : Nat)] 3) :: rest, p.1 ≠ S) := hne
      have H5O : Hid (∀ p ∈ (wr.heap.size, Obj.cells #[.int .i64 (a : Nat)] 3) :: rest, ∀ c fz, p.2 ≠ .cells c 5 fz) := h5o
      have key : ∀ (j : Nat) (v : Value) (s' : Sg), (Sg.cs ⟨M, 3, 2, 5, 4, per, a⟩).setIfInBounds j v = s'.cs → (∃ c' j' n' b', s' = ⟨M, c', j', n', b', per, a⟩ ∧ c' < 10 ∧ j' < 10 ∧ n' < 10 ∧ ((c' ≠ 3 ∨ j' ≠ 2 ∨ n' ≠ 5) ∧ b' = 4 ∨ b' = 5)) →
          Calls Tryz.prog 20 #[.pointer (some ⟨S, 0, none⟩)] ((wr.alloc (.cells #[.int .i64 (a : Nat)] 3)).setCell ⟨S, j, none⟩ v) fun r w' => ∃ v cs6, r = .returned (.tuple #[v, .bool true]) ∧ (∃ ao cp, v = .slice ao 0 cp) ∧ cs6[6]? = some (.int .i64 1) ∧ Dev w.heap.size w L 1 70 ((S, .cells cs6 44) :: (wr.heap.size, .cells #[.int .i64 (a : Nat)] 3) :: rest) now now 3000 w' := by
        rintro j v s' he ⟨c', j', n', b', rfl, k1, k2, k3, k4⟩
        have hX := Dev.sego hu2 hne j v ⟨M, c', j', n', b', per, a⟩ he
        have hb : b' = 4 ∨ b' = 5 := by omega
        refine (scanned_all (Sb := S) ⟨M, c', j', n', b', per, a⟩ hX hMo h5o hne ⟨by show c' < _; omega, by show j' < _; omega, by show n' < _; omega⟩ ⟨by show b' ≤ _; omega, by show 1 ≤ per; omega, hp64⟩ (by show b' + per ≤ 70; omega) (by decide) (by omega) h4 (l := []) (e := 1) Chn.nil (ends_foreign ⟨hp8, hp64⟩ h2 h4 h5 c' j' n' b' a k4)).mono ?_
        rintro r w' ⟨v2, ol, rfl, htx, hap2, hd4⟩
        obtain ⟨ao2, cp2, hv2⟩ := htx.sl
        refine ⟨v2, _, rfl, ⟨ao2, cp2, hv2⟩, ?_, (hd4.forget (oth' := (S, .cells (Sg.cs ⟨M, c', j', n', b', per, 1⟩) 44) :: (wr.heap.size, .cells #[.int .i64 (a : Nat)] 3) :: rest) (fun p hp => List.mem_append_right _ hp)).more ?_⟩
        · rfl
        · simp only [List.length_nil]; omega
      have k1 := key 1 (.int .u64 4) ⟨M, 4, 2, 5, 4, per, a⟩ rfl ⟨4, 2, 5, 4, rfl, by decide, by decide, by decide, by decide⟩
      have k2 := key 2 (.int .u64 3) ⟨M, 3, 3, 5, 4, per, a⟩ rfl ⟨3, 3, 5, 4, rfl, by decide, by decide, by decide, by decide⟩
      have k3 := key 3 (.int .u64 6) ⟨M, 3, 2, 6, 4, per, a⟩ rfl ⟨3, 2, 6, 4, rfl, by decide, by decide, by decide, by decide⟩
      have k4 := key 4 (.int .i64 5) ⟨M, 3, 2, 5, 5, per, a⟩ rfl ⟨3, 2, 5, 5, rfl, by decide, by decide, by decide, by decide⟩
      have hcase : (ln ≤ i) ∨ (i < ln ∧ 10 ≤ i) := by omega
      clear hlt key hu hu2 hl6 lS hne hMo h5o ha1 h2 h3 h4 h5 h6 h7 h8 hsg hsg0 HI hc
      rcases hcase with hc | ⟨hc, hc'⟩
      all_goals (rcases and_four wh with hw | hw | hw | hw)
      all_goals (go_wp2_with fail)
      all_goals (first | go_call k1 as er w4 ⟨v, cs6, rfl, ⟨ao2, cp2, rfl⟩, hcs6, hd4⟩ | go_call k2 as er w4 ⟨v, cs6, rfl, ⟨ao2, cp2, rfl⟩, hcs6, hd4⟩ | go_call k3 as er w4 ⟨v, cs6, rfl, ⟨ao2, cp2, rfl⟩, hcs6, hd4⟩ | go_call k4 as er w4 ⟨v, cs6, rfl, ⟨ao2, cp2, rfl⟩, hcs6, hd4⟩)
      all_goals
        (have y6 : w4.cell? ⟨S, 6, none⟩ = some (.int .i64 1) := (F.cell_of (hd4.at' (p := (S, .cells cs6 44)) (by simp)) 6).trans hcs6
         have cs4 : w4.cell? ⟨w3.heap.size, 0, none⟩ = some (.pointer (some ⟨S, 0, none⟩)) := F.cell_of (hd4.at' (List.mem_cons_of_mem _ (List.mem_cons_of_mem _ HM.out.1))) 0
         have hof := dev_of hd4 per
         clear k1 k2 k3 k4 hd4 hcs6 z1 z2 z3 z4 z6 f1 f2 f3 f4 cs0 cs1 ci cl
         go_wp2_with fail
         go_call hof as er w5 ⟨S2, M2, rfl, hd5, hSM5, hne5⟩
         obtain ⟨hf1, hf2, hf3, hf4, hf5, hf6⟩ := HFACT.out
         have hl5 := hd5.lts
         have lS2 : S2 < w5.heap.size := hl5 (S2, .cells (sg0 M2 per).cs 44) (by simp)
         have e6 : (w5.alloc (.cells #[.pointer (some ⟨S2, 0, none⟩)] 28)).heap.size = w5.heap.size + 1 := by simp
         have hd6 := (hd5.alloc (.cells #[.pointer (some ⟨S2, 0, none⟩)] 28) (F.apart_of (by decide))).alloc (.cells #[.int .u64 3, .int .u64 2, .int .u64 5, .int .i64 (a : Nat), .int .i64 1, .int .u32 77] 55) (F.apart_of (by decide))
         rw [e6] at hd6
         have ca5 : (w5.alloc (.cells #[.pointer (some ⟨S2, 0, none⟩)] 28)).cell? ⟨wr.heap.size, 0, none⟩ = some (.int .i64 (a : Nat)) := F.cell_of ((hd5.alloc (.cells #[.pointer (some ⟨S2, 0, none⟩)] 28) (F.apart_of (by decide))).at' (p := (wr.heap.size, .cells #[.int .i64 (a : Nat)] 3)) (by simp)) 0
         have ca6 : ((w5.alloc (.cells #[.pointer (some ⟨S2, 0, none⟩)] 28)).alloc (.cells #[.int .u64 3, .int .u64 2, .int .u64 5, .int .i64 (a : Nat), .int .i64 1, .int .u32 77] 55)).cell? ⟨wr.heap.size, 0, none⟩ = some (.int .i64 (a : Nat)) := F.cell_of (hd6.at' (p := (wr.heap.size, .cells #[.int .i64 (a : Nat)] 3)) (by simp)) 0
         have ct6 : ((w5.alloc (.cells #[.pointer (some ⟨S2, 0, none⟩)] 28)).alloc (.cells #[.int .u64 3, .int .u64 2, .int .u64 5, .int .i64 (a : Nat), .int .i64 1, .int .u32 77] 55)).cell? ⟨w5.heap.size, 0, none⟩ = some (.pointer (some ⟨S2, 0, none⟩)) := F.cell_of (hd6.at' (p := (w5.heap.size, .cells #[.pointer (some ⟨S2, 0, none⟩)] 28)) (by simp)) 0
         obtain ⟨oth, hoth⟩ : ∃ oth, oth = (w5.heap.size + 1, Obj.cells #[.int .u64 3, .int .u64 2, .int .u64 5, .int .i64 (a : Nat), .int .i64 1, .int .u32 77] 55) :: (w5.heap.size, Obj.cells #[.pointer (some ⟨S2, 0, none⟩)] 28) :: (M2, F.med L.P 1 1) :: (wr.heap.size, Obj.cells #[.int .i64 (a : Nat)] 3) :: rest := ⟨_, rfl⟩
         have hd7 := hd6.forget (oth' := (S2, .cells (sg0 M2 per).cs 44) :: oth) (by
           intro p hp
           rw [hoth] at hp
           simp only [List.mem_cons] at hp ⊢
           rcases hp with hp | hp | hp | hp | hp | hp <;> simp [hp])
         have hMo : (M2, F.med L.P 1 1) ∈ oth := by rw [hoth]; simp
         have hTo : (w5.heap.size, Obj.cells #[.pointer (some ⟨S2, 0, none⟩)] 28) ∈ oth := by rw [hoth]; simp
         have hXo : (w5.heap.size + 1, Obj.cells #[.int .u64 3, .int .u64 2, .int .u64 5, .int .i64 (a : Nat), .int .i64 1, .int .u32 77] 55) ∈ oth := by rw [hoth]; simp
         have hKo : (wr.heap.size, Obj.cells #[.int .i64 (a : Nat)] 3) ∈ oth := by rw [hoth]; simp
         have hneo : ∀ p ∈ oth, p.1 ≠ S2 := by
           intro p hp
           rw [hoth] at hp
           rcases List.mem_cons.1 hp with rfl | hp
           · show w5.heap.size + 1 ≠ S2; omega
           · rcases List.mem_cons.1 hp with rfl | hp
             · show w5.heap.size ≠ S2; omega
             · rcases List.mem_cons.1 hp with rfl | hp
               · exact fun e => hSM5 e.symm
               · exact hne5 p (List.mem_cons_of_mem _ hp)
         have h5o : ∀ p ∈ oth, ∀ c fz, p.2 ≠ .cells c 5 fz := by
           intro p hp c fz e
           rw [hoth] at hp
           rcases List.mem_cons.1 hp with rfl | hp
           · injection e with _ e _; exact absurd e (by decide)
           · rcases List.mem_cons.1 hp with rfl | hp
             · injection e with _ e _; exact absurd e (by decide)
             · rcases List.mem_cons.1 hp with rfl | hp
               · unfold F.med at e; injection e with _ e _; exact absurd e (by decide)
               · exact H5O.out p hp c fz e
         clear hof hd5 hne5 hSM5 hl5 hd6 y6 cs4
         by_cases hwp : a + 1 < per
         · have hgd := alone_guard (Tb := w5.heap.size) (Kb := wr.heap.size) (Xb := w5.heap.size + 1) (s := sg0 M2 per) (M := M2) hd7 rfl (List.mem_cons_of_mem _ hTo) (List.mem_cons_of_mem _ hKo) (List.mem_cons_of_mem _ hXo) (List.mem_cons_self ..) (List.mem_cons_of_mem _ hMo) ⟨hf1, by omega⟩ (by omega) (by decide) (by decide)
           obtain ⟨g1, g2, g3⟩ := alone_facts (M2 := M2) ⟨hp8, hp64⟩ hf1 hf3 hf5 hf6 hwp
           clear hd7
           go_wp2_with fail
           go_call hgd as er w7 ⟨rfl, hd8⟩
           have ct7 : w7.cell? ⟨w5.heap.size, 0, none⟩ = some (.pointer (some ⟨S2, 0, none⟩)) := F.cell_of (hd8.at' (List.mem_cons_of_mem _ hTo)) 0
           have hls := last_scan hd8 hMo h5o hneo ⟨hp8, hp64⟩ g2 g1 g3 (by decide)
           clear hgd hd8 g1 g2 g3
           go_wp2_with fail
           go_call hls as er w8 ⟨ao8, k8, cp8, rfl, j1, j2, j3⟩
           have qT : ∀ z, (w8.drewN z).cell? ⟨w5.heap.size, 0, none⟩ = some (.pointer (some ⟨S2, 0, none⟩)) := fun z => F.cell_of (w := w8.drewN z) (j3 _ hTo) 0
           have qK : ∀ z, (w8.drewN z).cell? ⟨wr.heap.size, 0, none⟩ = some (.int .i64 (a : Nat)) := fun z => F.cell_of (w := w8.drewN z) (j3 _ hKo) 0
           have q6 : ∀ z, (w8.drewN z).cell? ⟨S2, 6, none⟩ = some (.int .i64 (a : Nat)) := fun z => F.cell_of (w := w8.drewN z) j1 6
           have HB8 : Hid (Below w.heap.size w w8) := j2
           clear hls j1 j2 j3
           go_wp2_with fail
           go_quiet (fail)
           go_wp2
           go_returns
           exact ⟨rfl, HB8.out.trans ⟨rfl, rfl, rfl, Nat.le_refl _, fun _ _ => rfl⟩⟩
         · obtain ⟨g1, g3⟩ := none_facts (M2 := M2) ⟨hp8, hp64⟩ hf1 hf3 hf5 hf6
           have hls := last_scan hd7 hMo h5o hneo ⟨hp8, hp64⟩ hf5 g1 g3 (by decide)
           clear hd7 g1 g3
           go_wp2_with fail
           go_call hls as er w8 ⟨ao8, k8, cp8, rfl, j1, j2, j3⟩
           have qT : ∀ z, (w8.drewN z).cell? ⟨w5.heap.size, 0, none⟩ = some (.pointer (some ⟨S2, 0, none⟩)) := fun z => F.cell_of (w := w8.drewN z) (j3 _ hTo) 0
           have qK : ∀ z, (w8.drewN z).cell? ⟨wr.heap.size, 0, none⟩ = some (.int .i64 (a : Nat)) := fun z => F.cell_of (w := w8.drewN z) (j3 _ hKo) 0
           have q6 : ∀ z, (w8.drewN z).cell? ⟨S2, 6, none⟩ = some (.int .i64 (a : Nat)) := fun z => F.cell_of (w := w8.drewN z) j1 6
           have HB8 : Hid (Below w.heap.size w w8) := j2
           clear hls j1 j2 j3
           go_wp2_with fail
           go_quiet (fail)
           go_wp2
           go_returns
           exact ⟨rfl, HB8.out.trans ⟨rfl, rfl, rfl, Nat.le_refl _, fun _ _ => rfl⟩⟩)
end Go.Proofs.YtncfbocbigdhiaaGreat.U
