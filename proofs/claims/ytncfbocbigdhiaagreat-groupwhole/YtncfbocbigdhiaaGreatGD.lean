/- What a Commit's fields are taken of, as a call. -/
import Derived.Test.YtncfbocbigdhiaaGreatGC
namespace Go.Proofs.YtncfbocbigdhiaaGreat
set_option maxRecDepth 100000
open Go.RowKit
theorem tx_head (d : ByteArray) (r : List UInt8) : (O.tx (d.data.toList ++ r)).extract 0 d.size = d := by
  apply ByteArray.ext
  unfold O.tx
  rw [ByteArray.data_extract]
  apply Array.ext'
  rw [Array.toList_extract, List.extract_eq_take_drop]
  simp
theorem tx_drop (d : ByteArray) (r : List UInt8) : (O.tx (d.data.toList ++ r)).extract d.size (O.tx (d.data.toList ++ r)).size = O.tx r := by
  rw [O.extract_tx]
  congr 1
  have := List.drop_left (l₁ := d.data.toList) (l₂ := r)
  rwa [← O.size_list] at this
/-- A box beside an In. -/
structure Bx (I B : Nat) (w0 : World) (c : Array Value) (s : ByteArray) (W : World) : Prop where
  b : W.heap[B]? = some (.cells c 55)
  i : O.InIs W I s 0
  k : O.KI I w0 W
theorem Bx.call {I B : Nat} {w0 : World} {c : Array Value} {s t : ByteArray} {W W' : World} (h : Bx I B w0 c s W) (hne : B ≠ I) (hi : O.InIs W' I t 0) (hk : O.KI I W W') : Bx I B w0 c t W' :=
  ⟨(hk.block B (Array.getElem?_eq_some_iff.1 h.b).1 hne).trans h.b, hi, h.k.trans hk⟩
theorem Bx.set {I B : Nat} {w0 : World} {c : Array Value} {s : ByteArray} {W : World} (h : Bx I B w0 c s W) (hne : I ≠ B) (hB : w0.heap.size ≤ B) (o : Nat) (v : Value) : Bx I B w0 (c.setIfInBounds o v) s (W.setCell ⟨B, o, none⟩ v) :=
  ⟨F.block_set h.b v, InIs.off h.i ((Off.refl B W).set o v) hne, KI.off h.k ((Off.refl B W).set o v) hB⟩
set_option maxHeartbeats 2000000 in
set_option maxRecDepth 100000 in
theorem tocm_ok (p : Cm) (hp : p.Ok) (I : Nat) (r : List UInt8) (w : World) (hl : r.length ≤ 900) (h : O.InIs w I (O.tx (p.fl ++ r)) 0) :
    Calls Tryz.prog 151 #[.pointer (some ⟨I, 0, none⟩)] w fun e w' => e = .returned (.agg p.cs) ∧ O.InIs w' I (O.tx r) 0 ∧ O.KI I w w' := by
  obtain ⟨c, j, n, a, m, s⟩ := p
  have hc1 : c < 18446744073709551616 := hp.c
  have hj1 : j < 18446744073709551616 := hp.j
  have hn1 : n < 18446744073709551616 := hp.n
  have ha1 : 1 ≤ a := hp.a0
  have hk1 : 1 ≤ m := hp.k0
  have hm1 : a + m ≤ 63 := hp.ak
  have hs1 : s < 4294967296 := hp.s
  have hfl : (Cm.mk c j n a m s).fl ++ r = O.numB c 8 ++ (O.numB j 8 ++ (O.numB n 8 ++ (O.numB a 1 ++ (O.numB m 1 ++ (O.numB s 4 ++ r))))) := by
    show ((O.numB c 8 ++ O.numB j 8) ++ O.numB n 8) ++ ((O.numB a 1 ++ O.numB m 1) ++ O.numB s 4) ++ r = _
    simp only [List.append_assoc]
  rw [hfl] at h
  have hIl := h.lt
  have L5 : Hid ((O.numB s 4 ++ r).length ≤ 904) := by show _ ≤ _; rw [List.length_append, O.numB_length]; omega
  have L4 : Hid ((O.numB m 1 ++ (O.numB s 4 ++ r)).length ≤ 905) := by show _ ≤ _; rw [List.length_append, O.numB_length]; have := L5.out; omega
  have L3 : Hid ((O.numB a 1 ++ (O.numB m 1 ++ (O.numB s 4 ++ r))).length ≤ 906) := by show _ ≤ _; rw [List.length_append, O.numB_length]; have := L4.out; omega
  have L2 : Hid ((O.numB n 8 ++ (O.numB a 1 ++ (O.numB m 1 ++ (O.numB s 4 ++ r)))).length ≤ 914) := by show _ ≤ _; rw [List.length_append, O.numB_length]; have := L3.out; omega
  have L1 : Hid ((O.numB j 8 ++ (O.numB n 8 ++ (O.numB a 1 ++ (O.numB m 1 ++ (O.numB s 4 ++ r))))).length ≤ 922) := by show _ ≤ _; rw [List.length_append, O.numB_length]; have := L2.out; omega
  have hb0 : Below w.heap.size w (w.alloc (.cells #[.int .u64 0, .int .u64 0, .int .u64 0, .int .i64 0, .int .i64 0, .int .u32 0] 55)) := Below.alloc (Below.refl _ _) (Nat.le_refl _) _
  have X0 : Hid (Bx I w.heap.size w #[.int .u64 0, .int .u64 0, .int .u64 0, .int .i64 0, .int .i64 0, .int .u32 0] _ (w.alloc (.cells #[.int .u64 0, .int .u64 0, .int .u64 0, .int .i64 0, .int .i64 0, .int .u32 0] 55))) := ⟨F.heap_new _ _, h.below hb0, O.KI.ofBelow hb0⟩
  have hne : w.heap.size ≠ I := by omega
  have HNE : Hid _ := hne
  clear h hfl hb0 hp hIl hne
  go_enter Tryz.func151, Tryz.ntmps151
  go_wp2_with fail
  go_call (num_step I c 8 _ _ (by decide) hc1 (by have := L1.out; omega) X0.out.i) as e w2 ⟨rfl, i2, k2⟩
  have X2 : Hid _ := (X0.out.call HNE.out i2 k2).set (Ne.symm HNE.out) (Nat.le_refl _) 0 (.int .u64 (c : Nat))
  have b2 := F.cell_of (X0.out.call HNE.out i2 k2).b 0
  have f2 := F.frz_of (X0.out.call HNE.out i2 k2).b 0
  simp at b2
  clear i2 k2 X0 L1
  go_wp2_with fail
  generalize w2.setCell ⟨w.heap.size, 0, none⟩ (.int .u64 (c : Nat)) = w3 at *
  clear b2 f2
  go_call (num_step I j 8 _ _ (by decide) hj1 (by have := L2.out; omega) X2.out.i) as e w4 ⟨rfl, i4, k4⟩
  have X4 : Hid _ := (X2.out.call HNE.out i4 k4).set (Ne.symm HNE.out) (Nat.le_refl _) 1 (.int .u64 (j : Nat))
  have b4 := F.cell_of (X2.out.call HNE.out i4 k4).b 1
  have f4 := F.frz_of (X2.out.call HNE.out i4 k4).b 1
  simp at b4
  clear i4 k4 X2 L2
  go_wp2_with fail
  generalize w4.setCell ⟨w.heap.size, 1, none⟩ (.int .u64 (j : Nat)) = w5 at *
  clear b4 f4
  go_call (num_step I n 8 _ _ (by decide) hn1 (by have := L3.out; omega) X4.out.i) as e w6 ⟨rfl, i6, k6⟩
  have X6 : Hid _ := (X4.out.call HNE.out i6 k6).set (Ne.symm HNE.out) (Nat.le_refl _) 2 (.int .u64 (n : Nat))
  have b6 := F.cell_of (X4.out.call HNE.out i6 k6).b 2
  have f6 := F.frz_of (X4.out.call HNE.out i6 k6).b 2
  simp at b6
  clear i6 k6 X4 L3
  go_wp2_with fail
  generalize w6.setCell ⟨w.heap.size, 2, none⟩ (.int .u64 (n : Nat)) = w7 at *
  clear b6 f6
  go_call (among_ok I a 1 63 _ _ (by omega) (by omega) (by omega) (by have := L4.out; omega) X6.out.i) as e w8 ⟨rfl, i8, k8⟩
  have X8 : Hid _ := (X6.out.call HNE.out i8 k8).set (Ne.symm HNE.out) (Nat.le_refl _) 3 (.int .i64 (a : Nat))
  have b8 := F.cell_of (X6.out.call HNE.out i8 k8).b 3
  have f8 := F.frz_of (X6.out.call HNE.out i8 k8).b 3
  have c8 := F.cell_of X8.out.b 3
  simp at b8 c8
  clear i8 k8 X6 L4
  go_wp2_with fail
  generalize w8.setCell ⟨w.heap.size, 3, none⟩ (.int .i64 (a : Nat)) = w9 at *
  clear b8 f8
  go_call (among_ok I m 1 (63 - (a : Nat)) _ _ (by omega) (by omega) (by omega) (by have := L5.out; omega) X8.out.i) as e w10 ⟨rfl, i10, k10⟩
  have X10 : Hid _ := (X8.out.call HNE.out i10 k10).set (Ne.symm HNE.out) (Nat.le_refl _) 4 (.int .i64 (m : Nat))
  have b10 := F.cell_of (X8.out.call HNE.out i10 k10).b 4
  have f10 := F.frz_of (X8.out.call HNE.out i10 k10).b 4
  simp at b10
  clear i10 k10 X8 L5 c8
  go_wp2_with fail
  generalize w10.setCell ⟨w.heap.size, 4, none⟩ (.int .i64 (m : Nat)) = w11 at *
  clear b10 f10
  go_call (num_step I s 4 r _ (by decide) hs1 (by omega) X10.out.i) as e w12 ⟨rfl, i12, k12⟩
  have X12 : Hid _ := (X10.out.call HNE.out i12 k12).set (Ne.symm HNE.out) (Nat.le_refl _) 5 (.int .u32 (s : Nat))
  have b12 := F.cell_of (X10.out.call HNE.out i12 k12).b 5
  have f12 := F.frz_of (X10.out.call HNE.out i12 k12).b 5
  simp at b12
  have hcv : IntKind.u32.wrap ((s : Nat) : Int) = ((s : Nat) : Int) := by rw [IntKind.wrap_u32]; omega
  clear i12 k12 X10
  have Y9 : Hid (Bx I w.heap.size w (Cm.mk c j n a m s).cs (O.tx r) (w12.setCell ⟨w.heap.size, 5, none⟩ (.int .u32 (s : Nat)))) := X12.out
  clear X12
  go_wp2_with (first | (refine pld rfl _ rfl _ _ (Cm.cs_size _) rfl Y9.out.b ?_) | (refine pldp _ rfl _ _ (Cm.cs_size _) rfl Y9.out.b ?_) | (refine cst6 rfl _ _ rfl _ _ (Cm.cs_size _) rfl rfl (Cm.cs_size _) Y9.out.b (Cm.cs_one _) ?c9) | (refine cst6p _ _ rfl _ _ (Cm.cs_size _) rfl rfl (Cm.cs_size _) Y9.out.b (Cm.cs_one _) ?c9))
  intro wz hoz hkz
  have IZ : Hid _ := InIs.off Y9.out.i hoz (Ne.symm HNE.out)
  have KZ : Hid _ := KI.off Y9.out.k hoz (Nat.le_refl _)
  have BZ : Hid _ := hkz
  clear hoz hkz
  go_wp2
  refine bodyPost_ret (pret1 Tryz.results151 _ _ w.heap.size _ (Cm.cs_size _) rfl BZ.out) rfl ⟨rfl, IZ.out, KZ.out⟩
end Go.Proofs.YtncfbocbigdhiaaGreat
