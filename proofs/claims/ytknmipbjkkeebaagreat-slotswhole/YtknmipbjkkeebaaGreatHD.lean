/- What a Page's fields are taken of, as a call. -/
import Derived.Test.YtknmipbjkkeebaaGreatHC
namespace Go.Proofs.YtknmipbjkkeebaaGreat
open Go.RowKit
theorem tx_head (d : ByteArray) (r : List UInt8) : (O.tx (d.data.toList ++ r)).extract 0 d.size = d := by
  apply ByteArray.ext
  unfold O.tx
  rw [ByteArray.data_extract]
  apply Array.ext'
  rw [Array.toList_extract, List.extract_eq_take_drop]
  simp
theorem tx_drop (d : ByteArray) (r : List UInt8) : (O.tx (d.data.toList ++ r)).extract d.size (O.tx (d.data.toList ++ r)).size = O.tx r := by
  rw [O.extract_tx]
  congr 1
  have := List.drop_left (l₁ := d.data.toList) (l₂ := r)
  rwa [← O.size_list] at this
/-- A box beside an In. -/
structure Bx (I B : Nat) (w0 : World) (c : Array Value) (s : ByteArray) (W : World) : Prop where
  b : W.heap[B]? = some (.cells c 75)
  i : O.InIs W I s 0
  k : O.KI I w0 W
theorem Bx.call {I B : Nat} {w0 : World} {c : Array Value} {s t : ByteArray} {W W' : World} (h : Bx I B w0 c s W) (hne : B ≠ I) (hi : O.InIs W' I t 0) (hk : O.KI I W W') : Bx I B w0 c t W' :=
  ⟨(hk.block B (Array.getElem?_eq_some_iff.1 h.b).1 hne).trans h.b, hi, h.k.trans hk⟩
theorem Bx.set {I B : Nat} {w0 : World} {c : Array Value} {s : ByteArray} {W : World} (h : Bx I B w0 c s W) (hne : I ≠ B) (hB : w0.heap.size ≤ B) (o : Nat) (v : Value) : Bx I B w0 (c.setIfInBounds o v) s (W.setCell ⟨B, o, none⟩ v) :=
  ⟨F.block_set h.b v, InIs.off h.i ((Off.refl B W).set o v) hne, KI.off h.k ((Off.refl B W).set o v) hB⟩
set_option maxHeartbeats 2000000 in
set_option maxRecDepth 100000 in
theorem topg_ok (p : Pg) (hp : p.Ok) (I : Nat) (r : List UInt8) (w : World) (hl : r.length ≤ 900) (h : O.InIs w I (O.tx (p.fl ++ r)) 0) :
    Calls Tryz.prog 109 #[.pointer (some ⟨I, 0, none⟩)] w fun e w' => e = .returned (.agg p.cs) ∧ O.InIs w' I (O.tx r) 0 ∧ O.KI I w w' := by
  obtain ⟨q, i, n, d⟩ := p
  have hq1 : q < 18446744073709551616 := hp.q1
  have hq0 : q ≠ 0 := hp.q0
  have hn1 : n ≤ 16 := hp.n
  have hi1 : i < n := hp.i
  have hd1 : d.size ≤ 40 := hp.d
  have hfl : (Pg.mk q i n d).fl ++ r = O.numB q 8 ++ (O.numB i 1 ++ (O.numB n 1 ++ (O.numB d.size 1 ++ (d.data.toList ++ r)))) := by
    show ((O.numB q 8 ++ O.numB i 1) ++ O.numB n 1) ++ (O.numB d.size 1 ++ d.data.toList) ++ r = _
    simp only [List.append_assoc]
  rw [hfl] at h
  have hIl := h.lt
  have hdl : d.data.toList.length = d.size := by rw [← O.size_list]
  have L4 : Hid ((d.data.toList ++ r).length ≤ 940) := by show _ ≤ _; rw [List.length_append]; omega
  have L3 : Hid ((O.numB d.size 1 ++ (d.data.toList ++ r)).length ≤ 941) := by show _ ≤ _; rw [List.length_append, O.numB_length]; have := L4.out; omega
  have L2 : Hid ((O.numB n 1 ++ (O.numB d.size 1 ++ (d.data.toList ++ r))).length ≤ 942) := by show _ ≤ _; rw [List.length_append, O.numB_length]; have := L3.out; omega
  have L1 : Hid ((O.numB i 1 ++ (O.numB n 1 ++ (O.numB d.size 1 ++ (d.data.toList ++ r)))).length ≤ 943) := by show _ ≤ _; rw [List.length_append, O.numB_length]; have := L2.out; omega
  have hb0 : Below w.heap.size w (w.alloc (.cells #[.int .u64 0, .int .i64 0, .int .i64 0, .string ⟨#[]⟩] 75)) := Below.alloc (Below.refl _ _) (Nat.le_refl _) _
  have X0 : Hid (Bx I w.heap.size w #[.int .u64 0, .int .i64 0, .int .i64 0, .string ⟨#[]⟩] _ (w.alloc (.cells #[.int .u64 0, .int .i64 0, .int .i64 0, .string ⟨#[]⟩] 75))) := ⟨F.heap_new _ _, h.below hb0, O.KI.ofBelow hb0⟩
  have HTH : Hid ((O.tx (d.data.toList ++ r)).extract 0 d.size = d) := tx_head d r
  have HTD : Hid _ := tx_drop d r
  have HTS : Hid ((O.tx (d.data.toList ++ r)).size = d.size + r.length) := by show _ = _; rw [tx_size, List.length_append, hdl]
  have hne : w.heap.size ≠ I := by omega
  have HNE : Hid _ := hne
  clear h hfl hb0 hp hIl hdl hne
  go_enter Tryz.func109, Tryz.ntmps109
  go_wp2_with fail
  go_call (fromone_ok I q _ _ hq1 hq0 (by have := L1.out; omega) X0.out.i) as e w2 ⟨rfl, i2, k2⟩
  have X2 : Hid _ := (X0.out.call HNE.out i2 k2).set (Ne.symm HNE.out) (Nat.le_refl _) 0 (.int .u64 (q : Nat))
  have b2 := F.cell_of (X0.out.call HNE.out i2 k2).b 0
  have f2 := F.frz_of (X0.out.call HNE.out i2 k2).b 0
  simp at b2
  clear i2 k2 X0 L1
  go_wp2_with fail
  generalize w2.setCell ⟨w.heap.size, 0, none⟩ (.int .u64 (q : Nat)) = w3 at *
  clear b2 f2
  go_call (among_ok I i 0 15 _ _ (by omega) (by omega) (by omega) (by have := L2.out; omega) X2.out.i) as e w4 ⟨rfl, i4, k4⟩
  have X4 : Hid _ := (X2.out.call HNE.out i4 k4).set (Ne.symm HNE.out) (Nat.le_refl _) 1 (.int .i64 (i : Nat))
  have b4 := F.cell_of (X2.out.call HNE.out i4 k4).b 1
  have f4 := F.frz_of (X2.out.call HNE.out i4 k4).b 1
  have c4 := F.cell_of X4.out.b 1
  simp at b4 c4
  clear i4 k4 X2 L2
  go_wp2_with fail
  generalize w4.setCell ⟨w.heap.size, 1, none⟩ (.int .i64 (i : Nat)) = w5 at *
  clear b4 f4
  go_call (among_ok I n ((i : Nat) + 1) 16 _ _ (by omega) (by omega) (by omega) (by have := L3.out; omega) X4.out.i) as e w6 ⟨rfl, i6, k6⟩
  have X6 : Hid _ := (X4.out.call HNE.out i6 k6).set (Ne.symm HNE.out) (Nat.le_refl _) 2 (.int .i64 (n : Nat))
  have b6 := F.cell_of (X4.out.call HNE.out i6 k6).b 2
  have f6 := F.frz_of (X4.out.call HNE.out i6 k6).b 2
  simp at b6
  clear i6 k6 X4 L3 c4
  go_wp2_with fail
  generalize w6.setCell ⟨w.heap.size, 2, none⟩ (.int .i64 (n : Nat)) = w7 at *
  clear b6 f6
  go_call (among_ok I d.size 0 40 _ _ (by omega) (by omega) (by omega) (by have := L4.out; omega) X6.out.i) as e w8 ⟨rfl, i8, k8⟩
  have X8 : Hid _ := X6.out.call HNE.out i8 k8
  clear i8 k8 X6 L4
  have hraw := O.raw_in I _ (d.size : Nat) d.size (by omega) (by rw [HTS.out]; omega) (by rw [HTS.out]; omega) w8 X8.out.i
  rw [HTH.out, HTD.out] at hraw
  clear HTH HTD HTS
  go_wp2_with fail
  go_call hraw as e w9 ⟨rfl, i9, k9⟩
  have X9 : Hid _ := (X8.out.call HNE.out i9 k9).set (Ne.symm HNE.out) (Nat.le_refl _) 3 (.string d)
  have b9 := F.cell_of (X8.out.call HNE.out i9 k9).b 3
  have f9 := F.frz_of (X8.out.call HNE.out i9 k9).b 3
  simp at b9
  clear i9 k9 X8 hraw
  have Y9 : Hid (Bx I w.heap.size w (Pg.mk q i n d).cs (O.tx r) (w9.setCell ⟨w.heap.size, 3, none⟩ (.string d))) := X9.out
  clear X9
  go_wp2_with (first | (refine pld rfl _ rfl _ _ (Pg.cs_size _) rfl Y9.out.b ?_) | (refine pldp _ rfl _ _ (Pg.cs_size _) rfl Y9.out.b ?_) | (refine pst4 rfl _ _ rfl _ _ (Pg.cs_size _) rfl rfl (Pg.cs_size _) Y9.out.b (Pg.cs_one _) ?c9) | (refine pst4p _ _ rfl _ _ (Pg.cs_size _) rfl rfl (Pg.cs_size _) Y9.out.b (Pg.cs_one _) ?c9))
  intro wz hoz hkz
  have IZ : Hid _ := InIs.off Y9.out.i hoz (Ne.symm HNE.out)
  have KZ : Hid _ := KI.off Y9.out.k hoz (Nat.le_refl _)
  have BZ : Hid _ := hkz
  clear hoz hkz
  go_wp2
  refine bodyPost_ret (pret1 Tryz.results109 _ _ w.heap.size _ (Pg.cs_size _) rfl BZ.out) rfl ⟨rfl, IZ.out, KZ.out⟩
end Go.Proofs.YtknmipbjkkeebaaGreat
