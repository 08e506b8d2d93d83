/- Remove, as a call. -/
import Derived.Test.YtknmipbjkkeebaaRJ
import Derived.Test.YtknmipbjkkeebaaOR
namespace Go.Proofs.Ytknmipbjkkeebaa
open Go.RowKit
def Ro.remove (r : Ro) (p : Nat) : Ro := { r with e := r.e + 1, ms := r.ms.take p ++ r.ms.drop (p + 1) }
structure Sm (w W : World) : Prop where
  heap : W.heap = w.heap
  os : W.os = w.os
  tape : W.tape = w.tape
  output : W.output = w.output
def RmV (w w2 : World) (g n cp p : Nat) (A2 : Addr) : Nat → Value → Prop
  | 0, v => v = .pointer (some ⟨w.heap.size, 4, none⟩)
  | 1, v => v = .slice (some ⟨g, 0, none⟩) n cp
  | 2, v => v = .int .i64 (p : Nat)
  | 3, v => v = .slice (some ⟨g, 0, none⟩) p cp
  | 4, v => v = .pointer (some ⟨w.heap.size, 4, none⟩)
  | 5, v => v = .slice (some ⟨g, 0, none⟩) n cp
  | 6, v => v = .int .i64 (p : Nat)
  | 7, v => v = .int .i64 ((p : Int) + 1)
  | 8, v => v = .slice (some A2) (n - (p + 1)) (cp - (p + 1))
  | 9, v => v = .slice (some ⟨w2.heap.size + 1, 0, none⟩) 2 2
  | 11, v => v = .pointer (some ⟨w2.heap.size, 4, none⟩)
  | _, _ => True
/-- Phases of the last but one statement of Remove. -/
structure RmPh (T : Nat) (w3 : World) (bx : Array Value) (s1 s2 : Value) (l : List Mb) (B8 : Nat) (done : Nat → Bool) (f : Nat → Value) (W : World) : Prop where
  k1 : W.heap[T]? = some (.cells bx 72)
  lt : T < w3.heap.size
  ne : T ≠ B8
  o9 : done 9 = false → done 10 = false
  o10 : done 10 = false → done 12 = false
  a : done 9 = false → Sm w3 W
  b : done 9 = true → done 10 = false → Sm (w3.alloc (.cells #[s1, s2] 70)) W
  c : done 10 = true → done 12 = false → Below w3.heap.size w3 W ∧ MIs W T (f 10) l
  d : done 12 = true → ∃ W0, Below w3.heap.size w3 W0 ∧ MIs W0 T (f 10) l ∧ W = W0.setCell ⟨B8, 4, none⟩ (f 10)
section
variable {T : Nat} {w3 : World} {bx : Array Value} {s1 s2 : Value} {l : List Mb} {B8 : Nat} {done : Nat → Bool} {f : Nat → Value} {W : World}
theorem RmPh.pure (h : RmPh T w3 bx s1 s2 l B8 done f W) (k : Nat) (hk : k ≠ 9 ∧ k ≠ 10 ∧ k ≠ 12) (v : Value) : RmPh T w3 bx s1 s2 l B8 (O.updB done k) (O.upd f k v) W := by
  have a9 : O.updB done k 9 = done 9 := if_neg (Ne.symm hk.1)
  have a10 : O.updB done k 10 = done 10 := if_neg (Ne.symm hk.2.1)
  have a12 : O.updB done k 12 = done 12 := if_neg (Ne.symm hk.2.2)
  have f10 : O.upd f k v 10 = f 10 := if_neg (Ne.symm hk.2.1)
  exact ⟨h.k1, h.lt, h.ne, by rw [a9, a10]; exact h.o9, by rw [a10, a12]; exact h.o10, by rw [a9]; exact h.a, by rw [a9, a10]; exact h.b, by rw [a10, a12, f10]; exact h.c, by rw [a12, f10]; exact h.d⟩
theorem RmPh.laid (h : RmPh T w3 bx s1 s2 l B8 done f W) (h9 : done 9 = false) (v : Value) : RmPh T w3 bx s1 s2 l B8 (O.updB done 9) (O.upd f 9 v) (W.alloc (.cells #[s1, s2] 70)) := by
  have a9 : O.updB done 9 9 = true := if_pos rfl
  have a10 : O.updB done 9 10 = done 10 := if_neg (by decide)
  have a12 : O.updB done 9 12 = done 12 := if_neg (by decide)
  have h10 := h.o9 h9
  have h12 := h.o10 h10
  have hsm := h.a h9
  refine ⟨(Below.heap_alloc _ _ _ (getElem?_lt h.k1)).trans h.k1, h.lt, h.ne, by rw [a9]; exact (fun e => by cases e), by rw [a10, a12]; exact h.o10, by rw [a9]; exact (fun e => by cases e), fun _ _ => ?_, by rw [a10, h10]; exact (fun e => by cases e), by rw [a12, h12]; exact (fun e => by cases e)⟩
  exact ⟨by show W.heap.push _ = w3.heap.push _; rw [hsm.heap], hsm.os, hsm.tape, hsm.output⟩
theorem RmPh.called (h : RmPh T w3 bx s1 s2 l B8 done f W) (h10 : done 10 = false) (h9 : done 9 = true) {v : Value} {W' : World} (hm : MIs W' T v l) (hb : Below W.heap.size W W') (_ : True) : RmPh T w3 bx s1 s2 l B8 (O.updB done 10) (O.upd f 10 v) W' := by
  have a9 : O.updB done 10 9 = done 9 := if_neg (by decide)
  have a10 : O.updB done 10 10 = true := if_pos rfl
  have a12 : O.updB done 10 12 = done 12 := if_neg (by decide)
  have f10 : O.upd f 10 v 10 = v := if_pos rfl
  have h12 := h.o10 h10
  have hsm := h.b h9 h10
  have hbw : Below w3.heap.size w3 W := by
    have b : Below w3.heap.size w3 (w3.alloc (.cells #[s1, s2] 70)) := (Below.refl _ _).alloc (Nat.le_refl _) _
    exact ⟨hsm.os.trans b.os, hsm.tape.trans b.tape, hsm.output.trans b.output, by rw [hsm.heap]; exact b.size, fun k hk => by rw [hsm.heap]; exact b.block k hk⟩
  refine ⟨(hb.block _ (getElem?_lt h.k1)).trans h.k1, h.lt, h.ne, by rw [a9, h9]; exact (fun e => by cases e), by rw [a10]; exact (fun e => by cases e), by rw [a9, h9]; exact (fun e => by cases e), by rw [a10]; exact (fun _ e => by cases e), fun _ _ => ?_, by rw [a12, h12]; exact (fun e => by cases e)⟩
  rw [f10]
  exact ⟨hbw.trans (hb.mono hbw.size), hm⟩
theorem RmPh.stored (h : RmPh T w3 bx s1 s2 l B8 done f W) (h12 : done 12 = false) (h10 : done 10 = true) {x : Value} (hx : f 10 = x) (v : Value) : RmPh T w3 bx s1 s2 l B8 (O.updB done 12) (O.upd f 12 v) (W.setCell ⟨B8, 4, none⟩ x) := by
  subst hx
  have a9 : O.updB done 12 9 = done 9 := if_neg (by decide)
  have a10 : O.updB done 12 10 = done 10 := if_neg (by decide)
  have a12 : O.updB done 12 12 = true := if_pos rfl
  have f10 : O.upd f 12 v 10 = f 10 := if_neg (by decide)
  have h9 : done 9 = true := by
    cases hq : done 9 with
    | true => rfl
    | false => rw [h.o9 hq] at h10; cases h10
  have hc := h.c h10 h12
  exact ⟨(Below.heap_setCell _ _ _ _ (by exact h.ne)).trans h.k1, h.lt, h.ne, by rw [a9, h9]; exact (fun e => by cases e), by rw [a10, h10]; exact (fun e => by cases e), by rw [a9, h9]; exact (fun e => by cases e), by rw [a10, h10]; exact (fun _ e => by cases e), by rw [a12]; exact (fun _ e => by cases e), fun _ => ⟨W, hc.1, by rw [f10]; exact hc.2, by rw [f10]⟩⟩
end
set_option maxHeartbeats 4000000 in
set_option maxRecDepth 100000 in
theorem rremove_ok (r : Ro) (v : Value) (p : Nat) (w : World) (h : MIs w 0 v r.ms) (hn : r.ms.length ≤ 400) (he : r.e < 9223372036854775807) (hp : p < r.ms.length) (h1 : ∀ j, j < p → (mbAt r.ms j).s < (mbAt r.ms p).s) (h2 : ∀ j, p ≤ j → j < r.ms.length → (mbAt r.ms p).s ≤ (mbAt r.ms j).s) :
    Calls Try.prog 33 #[r.val v, .int .i64 (mbAt r.ms p).s] w fun e w' => ∃ v', e = .returned (.tuple #[(r.remove p).val v', .int .i64 0]) ∧ MIs w' w.heap.size v' (r.remove p).ms ∧ Below w.heap.size w w' := by
  have hpl := fun W (hW : Below w.heap.size w W) => rplace_any r v (mbAt r.ms p).s p W (h.below hW) (by omega) (by omega) h1 h2
  rw [decide_eq_true ⟨hp, rfl⟩] at hpl
  have hnx := fun W (hW : Below w.heap.size w W) => next_any r v W (h.below hW) (by omega) he
  obtain ⟨ao, cp, hv⟩ := own_slice h
  have HM : Hid (MIs w 0 v r.ms) := h
  obtain ⟨g, rfl, hcp1, hcp2⟩ : ∃ g, ao = some ⟨g, 0, none⟩ ∧ r.ms.length ≤ cp ∧ cp ≤ 9223372036854775807 := by
    rcases h.2 with ⟨_, h0⟩ | ⟨g, cap, cur, e0, _, _, h3, h4, _⟩
    · omega
    · rw [hv] at e0; injection e0 with e0 _ e2; subst e2; exact ⟨g, e0, h3, h4⟩
  subst hv
  have hgT : g < w.heap.size := (h.lt g rfl).2
  have HPL : Hid _ := hpl
  have HNX : Hid _ := hnx
  have HP : Hid (p < r.ms.length) := hp
  clear hpl hnx h1 h2 h
  unfold Ro.val Ro.arr at *
  obtain ⟨n, hnn⟩ : ∃ n, n = r.ms.length := ⟨_, rfl⟩
  rw [← hnn] at hn hp hcp1 HPL HNX ⊢
  have HN : Hid _ := hnn
  rw [← hnn] at HM
  clear hnn
  obtain ⟨m, hm⟩ : ∃ m, m = mbAt r.ms p := ⟨_, rfl⟩
  rw [← hm] at HPL ⊢
  clear hm
  have HB2 : Hid (∀ o1 o2, Below w.heap.size w ((w.alloc o1).alloc o2)) := fun o1 o2 => ((Below.refl _ w).alloc (Nat.le_refl _) _).alloc (by simp) _
  go_enter Try.func33, Try.ntmps33
  go_wp2_with fail
  go_call (HPL.out _ (HB2.out _ _)) as e w1 ⟨rfl, hb1⟩
  clear HPL
  obtain ⟨k1, k2, k3⟩ := below_two hb1
  have a0 := cell_of k1 0
  have a1 := cell_of k1 1
  have a2 := cell_of k1 2
  have a3 := cell_of k1 3
  have a4 := cell_of k1 4
  simp at a0 a1 a2 a3 a4
  have hw1 : w.heap.size + 2 ≤ w1.heap.size := by have := hb1.size; simp at this; omega
  have hnx := HNX.out w1 k3
  have K1 : Hid _ := k1
  have K2 : Hid _ := k2
  have K3 : Hid _ := k3
  clear hb1 k1 k2 k3 HNX
  go_wp2_with fail
  go_call hnx as e w2 ⟨v2, rfl, hm2, hb2⟩
  clear hnx a0 a1 a2 a3 a4
  obtain ⟨ao2, cp2, rfl⟩ := own_slice hm2
  have q1 := (hb2.block _ (by omega)).trans K1.out
  have q2 := (hb2.block _ (by omega)).trans K2.out
  have hw2 := hb2.size
  have HBW : Hid (Below w.heap.size w w2) := K3.out.trans (hb2.mono (by omega))
  have Q1 : Hid _ := q1
  have Q2 : Hid _ := q2
  clear hm2 hb2 q1 q2 K1 K2 K3
  go_wp2
  obtain ⟨A2, hA2⟩ : ∃ A2 : Addr, (p + 1 = cp ∧ A2 = ⟨g, 0, none⟩) ∨ (¬ p + 1 = cp ∧ A2 = ⟨g, (p + 1) * 3, none⟩) := by
    by_cases hq : p + 1 = cp
    · exact ⟨_, Or.inl ⟨hq, rfl⟩⟩
    · exact ⟨_, Or.inr ⟨hq, rfl⟩⟩
  have HCALL : Hid (∀ W, Sm ((w2.alloc (.cells #[.int .u64 (r.c : Nat), .int .u64 ((r.e : Int) + 1), .int .u64 (r.l : Nat), .int .u64 (r.j : Nat), .slice ao2 r.ms.length cp2] 72)).alloc (.cells #[.slice (some ⟨g, 0, none⟩) p cp, .slice (some A2) (n - (p + 1)) (cp - (p + 1))] 70)) W → Calls Try.prog 80 #[.slice (some ⟨w2.heap.size + 1, 0, none⟩) 2 2] W fun e W' => ∃ v', e = .returned v' ∧ MIs W' w.heap.size v' (r.remove p).ms ∧ Below W.heap.size W W') := fun W hsm => by
    have hWs : W.heap.size = w2.heap.size + 2 := by rw [hsm.heap]; simp
    have kQ : W.heap[w2.heap.size + 1]? = some (.cells #[.slice (some ⟨g, 0, none⟩) p cp, .slice (some A2) (n - (p + 1)) (cp - (p + 1))] 70) := by rw [hsm.heap]; exact heap_alloc2_new w2 _ _
    have hwW : ∀ k, k < w.heap.size → W.heap[k]? = w.heap[k]? := fun k hk => by
      rw [hsm.heap, Below.heap_alloc _ _ _ (by simp; omega), Below.heap_alloc _ _ _ (by omega)]; exact HBW.out.block k hk
    have hlen1 : (r.ms.take p).length = p := by rw [List.length_take]; have := HP.out; omega
    have hlen2 : (r.ms.drop (p + 1)).length = n - (p + 1) := by rw [List.length_drop, ← HN.out]
    have hMW : MIs w 0 (.slice (some ⟨g, 0, none⟩) r.ms.length cp) r.ms := by have q := HM.out; rw [HN.out] at q; exact q
    have hcl : ∀ j u, (mcs r.ms)[j]? = some u → W.cell? ⟨g, j, none⟩ = some u := fun j u hj => by
      have q := hMW.cells (g := g) rfl j u hj
      rw [Addr.add_lit, Nat.zero_add] at q
      rw [World.cell?_of_block (w := w) (hwW g hgT)]; exact q
    refine (concat_any (w2.heap.size + 1) (fun k => if k = 0 then ⟨g, 0, none⟩ else A2) (fun k => if k = 0 then p else n - (p + 1)) (fun k => if k = 0 then cp else cp - (p + 1)) (fun k => if k = 0 then mcs (r.ms.take p) else mcs (r.ms.drop (p + 1))) W ?_ (by show p + (n - (p + 1)) ≤ 500; omega) ?_ ?_ ?_ (by omega)).mono ?_
    · intro k hk
      rw [cell_of kQ]
      rcases Nat.lt_or_ge k 1 with h0 | h0
      · obtain rfl : k = 0 := by omega
        rfl
      · obtain rfl : k = 1 := by omega
        rfl
    · intro k hk
      rcases Nat.lt_or_ge k 1 with h0 | h0
      · obtain rfl : k = 0 := by omega
        show (mcs (r.ms.take p)).length = p * 3
        rw [mcs_length, hlen1]
      · obtain rfl : k = 1 := by omega
        show (mcs (r.ms.drop (p + 1))).length = (n - (p + 1)) * 3
        rw [mcs_length, hlen2]
    · intro k hk
      rcases Nat.lt_or_ge k 1 with h0 | h0
      · obtain rfl : k = 0 := by omega
        exact mcs_one _
      · obtain rfl : k = 1 := by omega
        exact mcs_one _
    · intro k hk j u hj
      rcases Nat.lt_or_ge k 1 with h0 | h0
      · obtain rfl : k = 0 := by omega
        have hj' : (mcs (r.ms.take p))[j]? = some u := hj
        rw [← mcs_take, List.getElem?_take] at hj'
        split at hj'
        · refine ⟨?_, by show g < _; omega⟩
          show W.cell? ((⟨g, 0, none⟩ : Addr).add j) = some u
          rw [Addr.add_lit, Nat.zero_add]; exact hcl j u hj'
        · cases hj'
      · obtain rfl : k = 1 := by omega
        have hj' : (mcs (r.ms.drop (p + 1)))[j]? = some u := hj
        rcases hA2 with ⟨hq, rfl⟩ | ⟨hq, rfl⟩
        · have hz : r.ms.drop (p + 1) = [] := List.drop_eq_nil_of_le (by rw [← HN.out]; omega)
          rw [hz] at hj'
          cases hj'
        · rw [← mcs_drop, List.getElem?_drop] at hj'
          refine ⟨?_, by show g < _; omega⟩
          show W.cell? ((⟨g, (p + 1) * 3, none⟩ : Addr).add j) = some u
          rw [Addr.add_lit]; exact hcl _ u hj'
    · rintro e W' ⟨v', rfl, ho, hb⟩
      refine ⟨v', rfl, ?_, hb⟩
      have hle : (r.remove p).ms.length = p + (n - (p + 1)) := by show (r.ms.take p ++ r.ms.drop (p + 1)).length = _; rw [List.length_append, hlen1, hlen2]
      refine MIs.least (b := W.heap.size) ?_ (by have := HBW.out.size; omega)
      unfold MIs
      rw [hle]
      have hmc : mcs (r.remove p).ms = mcs (r.ms.take p) ++ mcs (r.ms.drop (p + 1)) := mcs_append _ _
      rw [hmc]
      exact ho
  refine O.wp_region_ph (fun f => ⟨#[.agg #[.int .u64 (r.c : Int), .int .u64 (r.e : Int), .int .u64 (r.l : Int), .int .u64 (r.j : Int), .slice (some ⟨g, 0, none⟩) n cp], .int .i64 m.s, .pointer (some ⟨w.heap.size, 0, none⟩), undef, .pointer (some ⟨w.heap.size + 1, 0, none⟩), .int .i64 0, .int .i64 (p : Int), .bool true, .pointer (some ⟨w2.heap.size, 0, none⟩), .tuple #[.int .i64 (p : Int), .bool true], .agg #[.int .u64 (r.c : Int), .int .u64 (r.e : Int), .int .u64 (r.l : Int), .int .u64 (r.j : Int), .slice (some ⟨g, 0, none⟩) n cp], .int .i64 m.s, .tuple #[.int .i64 (p : Int), .bool true], .int .i64 (p : Int), .bool true, .bool true, .bool false, undef, .agg #[.int .u64 (r.c : Int), .int .u64 (r.e : Int), .int .u64 (r.l : Int), .int .u64 (r.j : Int), .slice (some ⟨g, 0, none⟩) n cp], .agg #[.int .u64 (r.c : Int), .int .u64 ((r.e : Int) + 1), .int .u64 (r.l : Int), .int .u64 (r.j : Int), .slice ao2 r.ms.length cp2], f 0, f 1, f 2, f 3, f 4, f 5, f 6, f 7, f 8, f 9, f 10, f 11, undef], []⟩) (RmV w w2 g n cp p A2) (RmPh w.heap.size (w2.alloc (.cells #[.int .u64 (r.c : Nat), .int .u64 ((r.e : Int) + 1), .int .u64 (r.l : Nat), .int .u64 (r.j : Nat), .slice ao2 r.ms.length cp2] 72)) #[.int .u64 (r.c : Nat), .int .u64 (r.e : Nat), .int .u64 (r.l : Nat), .int .u64 (r.j : Nat), .slice (some ⟨g, 0, none⟩) n cp] (.slice (some ⟨g, 0, none⟩) p cp) (.slice (some A2) (n - (p + 1)) (cp - (p + 1))) (r.remove p).ms w2.heap.size) (fun i => [undef, undef, undef, undef, undef, undef, undef, undef, undef, undef, undef, undef, undef].getD i undef) (by kernel_rfl) rfl rfl ?hIm ?hputm ?stepm ?finm
  case hIm => exact ⟨(Below.heap_alloc _ _ _ (by omega)).trans Q1.out, by simp; omega, by omega, fun _ => rfl, fun _ => rfl, fun _ => ⟨rfl, rfl, rfl, rfl⟩, (fun e => by cases e), (fun e => by cases e), (fun e => by cases e)⟩
  case finm =>
    intro f W hP hV
    have v0 : f 0 = .pointer (some ⟨w.heap.size, 4, none⟩) := hV 0 (by decide)
    have v1 : f 1 = .slice (some ⟨g, 0, none⟩) n cp := hV 1 (by decide)
    have v2 : f 2 = .int .i64 (p : Nat) := hV 2 (by decide)
    have v3 : f 3 = .slice (some ⟨g, 0, none⟩) p cp := hV 3 (by decide)
    have v4 : f 4 = .pointer (some ⟨w.heap.size, 4, none⟩) := hV 4 (by decide)
    have v5 : f 5 = .slice (some ⟨g, 0, none⟩) n cp := hV 5 (by decide)
    have v6 : f 6 = .int .i64 (p : Nat) := hV 6 (by decide)
    have v7 : f 7 = .int .i64 ((p : Int) + 1) := hV 7 (by decide)
    have v8 : f 8 = .slice (some A2) (n - (p + 1)) (cp - (p + 1)) := hV 8 (by decide)
    have v9 : f 9 = .slice (some ⟨w2.heap.size + 1, 0, none⟩) 2 2 := hV 9 (by decide)
    have v11 : f 11 = .pointer (some ⟨w2.heap.size, 4, none⟩) := hV 11 (by decide)
    obtain ⟨W0, hb0, hm0, rfl⟩ := hP.d rfl
    obtain ⟨ao3, cp3, v10⟩ := own_slice hm0
    clear hP hV
    generalize f 0 = x0 at *
    subst v0
    generalize f 1 = x1 at *
    subst v1
    generalize f 2 = x2 at *
    subst v2
    generalize f 3 = x3 at *
    subst v3
    generalize f 4 = x4 at *
    subst v4
    generalize f 5 = x5 at *
    subst v5
    generalize f 6 = x6 at *
    subst v6
    generalize f 7 = x7 at *
    subst v7
    generalize f 8 = x8 at *
    subst v8
    generalize f 9 = x9 at *
    subst v9
    generalize f 10 = x10 at *
    subst v10
    generalize f 11 = x11 at *
    subst v11
    have k8 : W0.heap[w2.heap.size]? = some (.cells #[.int .u64 (r.c : Nat), .int .u64 ((r.e : Int) + 1), .int .u64 (r.l : Nat), .int .u64 (r.j : Nat), .slice ao2 r.ms.length cp2] 72) := (hb0.block _ (by simp)).trans (heap_new _ _)
    have kT : W0.heap[w.heap.size + 1]? = _ := (hb0.block _ (by simp; omega)).trans ((Below.heap_alloc _ _ _ (by omega)).trans Q2.out)
    have c0 := cell_of k8 0
    have c1 := cell_of k8 1
    have c2 := cell_of k8 2
    have c3 := cell_of k8 3
    have c4 := cell_of k8 4
    have d0 := cell_of kT 0
    have d1 := cell_of kT 1
    have d2 := cell_of kT 2
    have d3 := cell_of kT 3
    have d4 := cell_of kT 4
    have f0 := frz_of kT 0
    have f1 := frz_of kT 1
    have f2 := frz_of kT 2
    have f3 := frz_of kT 3
    have f4 := frz_of kT 4
    simp at c0 c1 c2 c3 c4 d0 d1 d2 d3 d4
    have hne : ¬ w2.heap.size = w.heap.size + 1 := by omega
    have hB0 : Below w.heap.size w W0 := (HBW.out.alloc (by omega) _).trans (hb0.mono (by simp; omega))
    have K8 : Hid _ := k8
    have KT : Hid _ := kT
    have HM0 : Hid _ := hm0
    have H0 : Hid _ := hB0
    clear k8 kT hm0 hB0 hb0 HCALL Q1 Q2
    go_wp2
    have hO := ((((((Off.refl w2.heap.size (w.heap.size + 1) W0).set (a := ⟨w2.heap.size, 4, none⟩) (by simp) (.slice ao3 (r.remove p).ms.length cp3)).set (a := ⟨w.heap.size + 1, 0, none⟩) (by simp) (.int .u64 (r.c : Nat))).set (a := ⟨w.heap.size + 1, 1, none⟩) (by simp) (.int .u64 ((r.e : Int) + 1))).set (a := ⟨w.heap.size + 1, 2, none⟩) (by simp) (.int .u64 (r.l : Nat))).set (a := ⟨w.heap.size + 1, 3, none⟩) (by simp) (.int .u64 (r.j : Nat))).set (a := ⟨w.heap.size + 1, 4, none⟩) (by simp) (.slice ao3 (r.remove p).ms.length cp3)
    have hB : (W0.setCell ⟨w2.heap.size, 4, none⟩ (.slice ao3 (r.remove p).ms.length cp3)).heap[w.heap.size + 1]? = _ := (Below.heap_setCell _ _ _ _ (by exact fun e => hne e.symm)).trans KT.out
    refine bodyPost_ret (ret2 Try.results33 _ _ (w.heap.size + 1) _ _ ?_ rfl (store5 hB _ _ _ _ _) rfl) rfl ⟨.slice ao3 (r.remove p).ms.length cp3, rfl, MIs.off HM0.out hO K8.out KT.out (by decide) (by decide), hO.below H0.out (by omega) (by omega)⟩
    rfl
  case hputm =>
    repeat (refine ⟨fun f v => rfl, ?_⟩)
    trivial
  case stepm =>
    refine ⟨?_, ?_⟩
    · intro done f W hP hdn hd K hK
      clear hd
      go_simp
      exact hK _ _ rfl (hP.pure _ (by decide) _)
    refine ⟨?_, ?_⟩
    · intro done f W hP hdn hd K hK
      have d0 := (hd.1 rfl).2
      have e0 : done 0 = true := (hd.1 rfl).1
      clear hd
      replace d0 : f 0 = .pointer (some ⟨w.heap.size, 4, none⟩) := d0
      generalize f 0 = x0 at *
      subst d0
      clear e0
      have q := cell_of hP.k1 4
      simp at q
      go_simp
      exact hK _ _ rfl (hP.pure _ (by decide) _)
    refine ⟨?_, ?_⟩
    · intro done f W hP hdn hd K hK
      clear hd
      go_simp
      exact hK _ _ rfl (hP.pure _ (by decide) _)
    refine ⟨?_, ?_⟩
    · intro done f W hP hdn hd K hK
      have d1 := (hd.1 rfl).2
      have e1 : done 1 = true := (hd.1 rfl).1
      have d2 := (hd.2.1 rfl).2
      have e2 : done 2 = true := (hd.2.1 rfl).1
      clear hd
      replace d1 : f 1 = .slice (some ⟨g, 0, none⟩) n cp := d1
      replace d2 : f 2 = .int .i64 (p : Nat) := d2
      generalize f 1 = x1 at *
      subst d1
      clear e1
      generalize f 2 = x2 at *
      subst d2
      clear e2
      have q1 : p ≤ cp := by omega
      have q2 : (p : Int) ≤ (cp : Int) := by omega
      go_simp
      exact hK _ _ rfl (hP.pure _ (by decide) _)
    refine ⟨?_, ?_⟩
    · intro done f W hP hdn hd K hK
      clear hd
      go_simp
      exact hK _ _ rfl (hP.pure _ (by decide) _)
    refine ⟨?_, ?_⟩
    · intro done f W hP hdn hd K hK
      have d4 := (hd.1 rfl).2
      have e4 : done 4 = true := (hd.1 rfl).1
      clear hd
      replace d4 : f 4 = .pointer (some ⟨w.heap.size, 4, none⟩) := d4
      generalize f 4 = x4 at *
      subst d4
      clear e4
      have q := cell_of hP.k1 4
      simp at q
      go_simp
      exact hK _ _ rfl (hP.pure _ (by decide) _)
    refine ⟨?_, ?_⟩
    · intro done f W hP hdn hd K hK
      clear hd
      go_simp
      exact hK _ _ rfl (hP.pure _ (by decide) _)
    refine ⟨?_, ?_⟩
    · intro done f W hP hdn hd K hK
      have d6 := (hd.1 rfl).2
      have e6 : done 6 = true := (hd.1 rfl).1
      clear hd
      replace d6 : f 6 = .int .i64 (p : Nat) := d6
      generalize f 6 = x6 at *
      subst d6
      clear e6
      have q1 : IntKind.i64.wrap ((p : Int) + 1) = (p : Int) + 1 := by rw [IntKind.wrap_i64]; omega
      go_simp
      exact hK _ _ rfl (hP.pure _ (by decide) _)
    refine ⟨?_, ?_⟩
    · intro done f W hP hdn hd K hK
      have d5 := (hd.1 rfl).2
      have e5 : done 5 = true := (hd.1 rfl).1
      have d7 := (hd.2.1 rfl).2
      have e7 : done 7 = true := (hd.2.1 rfl).1
      clear hd
      replace d5 : f 5 = .slice (some ⟨g, 0, none⟩) n cp := d5
      replace d7 : f 7 = .int .i64 ((p : Int) + 1) := d7
      generalize f 5 = x5 at *
      subst d5
      clear e5
      generalize f 7 = x7 at *
      subst d7
      clear e7
      rcases hA2 with ⟨hA, hA3⟩ | ⟨hA, hA3⟩
      · have hn1 : n = p + 1 := by omega
        subst hA
        subst hn1
        subst hA3
        have hx2 : ((p : Int) + 1).toNat = p + 1 := by omega
        have hx3 : (0 : Int) ≤ (p : Int) + 1 := by omega
        go_simp
        exact hK _ _ (by show Value.slice _ _ _ = _; simp) (hP.pure _ (by decide) _)
      · subst hA3
        have hx1 : ¬ cp = p + 1 := fun e => hA e.symm
        have hx2 : ((p : Int) + 1).toNat = p + 1 := by omega
        have hx3 : (0 : Int) ≤ (p : Int) + 1 := by omega
        have hx4 : (p : Int) + 1 ≤ (n : Int) := by omega
        have hx5 : p + 1 ≤ n := by omega
        clear hA
        go_simp
        exact hK _ _ rfl (hP.pure _ (by decide) _)
    refine ⟨?_, ?_⟩
    · intro done f W hP hdn hd K hK
      have d3 := (hd.1 rfl).2
      have e3 : done 3 = true := (hd.1 rfl).1
      have d8 := (hd.2.1 rfl).2
      have e8 : done 8 = true := (hd.2.1 rfl).1
      clear hd
      replace d3 : f 3 = .slice (some ⟨g, 0, none⟩) p cp := d3
      replace d8 : f 8 = .slice (some A2) (n - (p + 1)) (cp - (p + 1)) := d8
      generalize f 3 = x3 at *
      subst d3
      clear e3
      generalize f 8 = x8 at *
      subst d8
      clear e8
      have hdn9 : done 9 = false := hdn
      have hsm := hP.a hdn9
      go_simp
      exact hK _ _ (by show Value.slice _ _ _ = _; rw [hsm.heap]; simp) (hP.laid hdn9 _)
    refine ⟨?_, ?_⟩
    · intro done f W hP hdn hd K hK
      have d9 := (hd.1 rfl).2
      have e9 : done 9 = true := (hd.1 rfl).1
      clear hd
      replace d9 : f 9 = .slice (some ⟨w2.heap.size + 1, 0, none⟩) 2 2 := d9
      generalize f 9 = x9 at *
      subst d9
      have hdn10 : done 10 = false := hdn
      have u9 := e9
      have hsm := hP.b e9 hdn10
      go_simp
      refine (HCALL.out W hsm).mono ?_
      rintro e W' ⟨v', rfl, hm', hb'⟩
      exact hK _ _ trivial (hP.called hdn10 u9 hm' hb' (by simp))
    refine ⟨?_, ?_⟩
    · intro done f W hP hdn hd K hK
      clear hd
      go_simp
      exact hK _ _ rfl (hP.pure _ (by decide) _)
    refine ⟨?_, ?_⟩
    · intro done f W hP hdn hd K hK
      have d11 := (hd.1 rfl).2
      have e11 : done 11 = true := (hd.1 rfl).1
      have d10 := (hd.2.1 rfl).2
      have e10 : done 10 = true := (hd.2.1 rfl).1
      clear hd
      replace d11 : f 11 = .pointer (some ⟨w2.heap.size, 4, none⟩) := d11
      have hdn12 : done 12 = false := hdn
      have hc := hP.c e10 hdn12
      obtain ⟨ao3, cp3, hv10⟩ := own_slice hc.2
      have k8 : W.heap[w2.heap.size]? = _ := (hc.1.block _ (by simp)).trans (heap_new _ _)
      have q := cell_of k8 4
      have fq := frz_of k8 4
      simp at q
      have hst := hP.stored hdn12 e10 hv10
      generalize f 11 = x11 at *
      subst d11
      have hK2 := hK
      generalize f 10 = x10 at hv10 hK2 ⊢
      subst hv10
      go_simp
      exact hK2 undef _ trivial (hst undef)
    trivial
end Go.Proofs.Ytknmipbjkkeebaa
