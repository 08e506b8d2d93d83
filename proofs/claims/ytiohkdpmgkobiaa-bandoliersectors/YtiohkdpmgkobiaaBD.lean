/- What BandolierSectors hands to Take, as a call. -/
import Derived.Test.YtiohkdpmgkobiaaBC
import Derived.Test.YtiohkdpmgkobiaaOV2
namespace Go.Proofs.Ytiohkdpmgkobiaa
open Go.RowKit
/-- Blocks ahead of B are as they were, but two. -/
structure KQ (B I Gd : Nat) (w W : World) : Prop where
  os : W.os = w.os
  tape : W.tape = w.tape
  output : W.output = w.output
  size : w.heap.size ≤ W.heap.size
  block : ∀ k, k < B → k ≠ I → k ≠ Gd → W.heap[k]? = w.heap[k]?
structure TPh (w : World) (I Gd : Nat) (r0 r1 : ByteArray) (l : List UInt8) (x : ByteArray) (done : Nat → Bool) (f : Nat → Value) (W : World) : Prop where
  kq : KQ w.heap.size I Gd w W
  gd : W.heap[Gd]? = some (.cells #[.bool (done 9)] 4)
  inp : O.InIs W I (if done 1 = true then r1 else r0) 0
  out0 : done 3 = false → O.OutIs W w.heap.size (.slice none 0 0) []
  out1 : done 3 = true → done 9 = false → ∃ v, O.OutIs W w.heap.size v l
  row : done 5 = true → done 9 = false → ∃ k, f 5 = .slice (some ⟨k, 0, none⟩) 1 1 ∧ W.cell? ⟨k, 0, none⟩ = some (.string x)
  o13 : done 1 = false → done 3 = false
  o35 : done 3 = false → done 5 = false
  o34 : done 3 = false → done 4 = false
  o39 : done 3 = false → done 9 = false
  o49 : done 4 = false → done 9 = false
  o69 : done 6 = false → done 9 = false
theorem upd_no {done : Nat → Bool} {i p : Nat} (h : updB done i p = false) : done p = false := by
  unfold updB at h
  split at h
  · cases h
  · exact h
section
variable {w : World} {I Gd : Nat} {r0 r1 : ByteArray} {l : List UInt8} {x : ByteArray} {done : Nat → Bool} {f : Nat → Value} {W : World}
theorem TPh.pure (h : TPh w I Gd r0 r1 l x done f W) (i : Nat) (hi : i ≠ 1 ∧ i ≠ 3 ∧ i ≠ 5 ∧ i ≠ 9) (v : Value) (h43 : i = 4 → done 3 = true := by intro e; first | (cases e; assumption) | exact absurd e (by decide)) : TPh w I Gd r0 r1 l x (updB done i) (upd f i v) W := by
  have e1 : updB done i 1 = done 1 := if_neg (Ne.symm hi.1)
  have e3 : updB done i 3 = done 3 := if_neg (Ne.symm hi.2.1)
  have e5 : updB done i 5 = done 5 := if_neg (Ne.symm hi.2.2.1)
  have e9 : updB done i 9 = done 9 := if_neg (Ne.symm hi.2.2.2)
  have f5 : upd f i v 5 = f 5 := if_neg (Ne.symm hi.2.2.1)
  refine ⟨h.kq, by rw [e9]; exact h.gd, by rw [e1]; exact h.inp, by rw [e3]; exact h.out0, by rw [e3, e9]; exact h.out1, by rw [e5, e9, f5]; exact h.row, by rw [e1, e3]; exact h.o13, by rw [e3, e5]; exact h.o35, fun h0 => ?_, by rw [e3, e9]; exact h.o39, fun h0 => by rw [e9]; exact h.o49 (upd_no h0), fun h0 => by rw [e9]; exact h.o69 (upd_no h0)⟩
  rw [e3] at h0
  by_cases h4 : i = 4
  · rw [h43 h4] at h0; cases h0
  · rw [show updB done i 4 = done 4 from if_neg (Ne.symm h4)]; exact h.o34 h0
theorem TPh.numbered {W' : World} (h : TPh w I Gd r0 r1 l x done f W) (hd : done 1 = false) (hi : O.InIs W' I r1 0) (hk : O.KI I W W') (hlt : I < w.heap.size ∧ Gd < w.heap.size ∧ I ≠ Gd) (v : Value) : TPh w I Gd r0 r1 l x (updB done 1) (upd f 1 v) W' := by
  have n3 := h.o13 hd
  have n5 := h.o35 n3
  have e1 : updB done 1 1 = true := if_pos rfl
  have e3 : updB done 1 3 = done 3 := if_neg (by decide)
  have e5 : updB done 1 5 = done 5 := if_neg (by decide)
  have e9 : updB done 1 9 = done 9 := if_neg (by decide)
  have hsz := h.kq.size
  refine ⟨⟨hk.os.trans h.kq.os, hk.tape.trans h.kq.tape, hk.output.trans h.kq.output, Nat.le_trans hsz hk.size, fun k hk1 hk2 hk3 => by rw [hk.block k (by omega) hk2]; exact h.kq.block k hk1 hk2 hk3⟩, ?_, by rw [e1, if_pos rfl]; exact hi, fun _ => ?_, by rw [e3, n3]; exact (fun e => by cases e), by rw [e5, n5]; exact (fun e => by cases e), by rw [e1]; exact (fun e => by cases e), by rw [e3, e5]; exact h.o35, by rw [e3]; exact (fun h0 => by show updB done 1 4 = false; rw [show updB done 1 4 = done 4 from if_neg (by decide)]; exact h.o34 h0), by rw [e3, e9]; exact h.o39, fun h0 => by rw [e9]; exact h.o49 (upd_no h0), fun h0 => by rw [e9]; exact h.o69 (upd_no h0)⟩
  · rw [e9, hk.block Gd (by omega) (Ne.symm hlt.2.2)]; exact h.gd
  · have ho := h.out0 n3
    exact ho.of_blocks (hk.block _ ho.lt (by omega)) (fun k hk1 => hk.block k (ho.own.lt k hk1).2 (by have := (ho.own.lt k hk1).1; omega))
theorem TPh.texted {W' : World} {v' : Value} (h : TPh w I Gd r0 r1 l x done f W) (hd : done 3 = false) (h1 : done 1 = true) (hw : O.Wr w.heap.size (.slice none 0 0) [] l W v' W') (hlt : I < w.heap.size ∧ Gd < w.heap.size ∧ I ≠ Gd) (v : Value) : TPh w I Gd r0 r1 l x (updB done 3) (upd f 3 v) W' := by
  have ho := h.out0 hd
  have hb := hw.below ho
  have n5 := h.o35 hd
  have e1 : updB done 3 1 = done 1 := if_neg (by decide)
  have e3 : updB done 3 3 = true := if_pos rfl
  have e5 : updB done 3 5 = done 5 := if_neg (by decide)
  have e9 : updB done 3 9 = done 9 := if_neg (by decide)
  have hI : ∀ o, W'.cell? ⟨I, o, none⟩ = W.cell? ⟨I, o, none⟩ ∧ W'.frozen? ⟨I, o, none⟩ = W.frozen? ⟨I, o, none⟩ := fun o => ⟨hb.cell (by exact hlt.1), hb.frozen (by exact hlt.1)⟩
  have hin := h.inp
  refine ⟨⟨hb.os.trans h.kq.os, hb.tape.trans h.kq.tape, hb.output.trans h.kq.output, Nat.le_trans h.kq.size hb.size, fun k hk1 hk2 hk3 => by rw [hb.block k hk1]; exact h.kq.block k hk1 hk2 hk3⟩, by rw [e9, hb.block Gd hlt.2.1]; exact h.gd, ?_, by rw [e3]; exact (fun e => by cases e), fun _ _ => ⟨v', by have := hw.out; rwa [List.nil_append] at this⟩, by rw [e5, n5]; exact (fun e => by cases e), by rw [e1, h1]; exact (fun e => by cases e), by rw [e3]; exact (fun e => by cases e), by rw [e3]; exact (fun e => by cases e), by rw [e3]; exact (fun e => by cases e), fun h0 => by rw [e9]; exact h.o49 (upd_no h0), fun h0 => by rw [e9]; exact h.o69 (upd_no h0)⟩
  rw [e1]
  exact ⟨(hI 0).1.trans hin.c0, (hI 1).1.trans hin.c1, (hI 0).2.trans hin.f0, (hI 1).2.trans hin.f1⟩
theorem TPh.built (h : TPh w I Gd r0 r1 l x done f W) (_ : done 5 = false) (h4 : done 4 = true) : TPh w I Gd r0 r1 l x (updB done 5) (upd f 5 (.slice (some ⟨W.heap.size, 0, none⟩) 1 1)) (W.alloc (.cells #[.string x] 9)) := by
  have n3 : done 3 = true := by
    cases h3 : done 3 with
    | true => rfl
    | false => have := h.o34 h3; rw [h4] at this; cases this
  have hb : Below W.heap.size W (W.alloc (.cells #[.string x] 9)) := Below.alloc (Below.refl _ _) (Nat.le_refl _) _
  have e1 : updB done 5 1 = done 1 := if_neg (by decide)
  have e3 : updB done 5 3 = done 3 := if_neg (by decide)
  have e9 : updB done 5 9 = done 9 := if_neg (by decide)
  have hsz := h.kq.size
  refine ⟨⟨h.kq.os, h.kq.tape, h.kq.output, Nat.le_trans hsz hb.size, fun k hk1 hk2 hk3 => by rw [hb.block k (by omega)]; exact h.kq.block k hk1 hk2 hk3⟩, by rw [e9, hb.block Gd (getElem?_lt h.gd)]; exact h.gd, by rw [e1]; exact h.inp.below hb, by rw [e3, n3]; exact (fun e => by cases e), by rw [e3, e9]; exact (fun a b => (h.out1 a b).imp (fun v ho => ho.below hb)), fun _ _ => ⟨W.heap.size, rfl, (cell_of (heap_new _ _) 0).trans rfl⟩, by rw [e1, e3]; exact h.o13, by rw [e3, n3]; exact (fun e => by cases e), by rw [e3, n3]; exact (fun e => by cases e), by rw [e3, e9]; exact h.o39, fun h0 => by rw [e9]; exact h.o49 (upd_no h0), fun h0 => by rw [e9]; exact h.o69 (upd_no h0)⟩
theorem TPh.stored (h : TPh w I Gd r0 r1 l x done f W) (_ : done 9 = false) (h1 : done 1 = true) (h3 : done 3 = true) (h4 : done 4 = true) (h5 : done 5 = true) (h6 : done 6 = true) (hlt : I < w.heap.size ∧ Gd < w.heap.size ∧ I ≠ Gd) : TPh w I Gd r0 r1 l x (updB done 9) (upd f 9 undef) (W.setCell ⟨Gd, 0, none⟩ (.bool true)) := by
  have e1 : updB done 9 1 = done 1 := if_neg (by decide)
  have e3 : updB done 9 3 = done 3 := if_neg (by decide)
  have e4 : updB done 9 4 = done 4 := if_neg (by decide)
  have e6 : updB done 9 6 = done 6 := if_neg (by decide)
  have e5 : updB done 9 5 = done 5 := if_neg (by decide)
  have e9 : updB done 9 9 = true := if_pos rfl
  have ne : ∀ o, (⟨Gd, 0, none⟩ : Addr) ≠ ⟨I, o, none⟩ := fun o e => hlt.2.2 (congrArg Addr.block e).symm
  have hin := h.inp
  refine ⟨⟨h.kq.os, h.kq.tape, h.kq.output, by have := h.kq.size; simpa [World.setCell] using this, fun k hk1 hk2 hk3 => by rw [Below.heap_setCell _ _ _ _ (by exact hk3)]; exact h.kq.block k hk1 hk2 hk3⟩, by rw [e9, block_set h.gd]; rfl, ?_, by rw [e3, h3]; exact (fun e => by cases e), by rw [e9]; exact (fun _ e => by cases e), by rw [e9]; exact (fun _ e => by cases e), by rw [e1, h1]; exact (fun e => by cases e), by rw [e3, h3]; exact (fun e => by cases e), by rw [e3, h3]; exact (fun e => by cases e), by rw [e3, h3]; exact (fun e => by cases e), by rw [e4, h4]; exact (fun e => by cases e), by rw [e6, h6]; exact (fun e => by cases e)⟩
  rw [e1]
  exact ⟨(World.cell?_setCell_other _ _ _ _ (ne 0)).trans hin.c0, (World.cell?_setCell_other _ _ _ _ (ne 1)).trans hin.c1, (World.frozen?_setCell ..).trans hin.f0, (World.frozen?_setCell ..).trans hin.f1⟩
theorem TPh.text {Sv : Nat} {s : ByteArray} (h : TPh w I Gd r0 r1 l x done f W) (hs : Sv < w.heap.size ∧ Sv ≠ I ∧ Sv ≠ Gd ∧ w.heap[Sv]? = some (.cells #[.string s] 9)) : W.cell? ⟨Sv, 0, none⟩ = some (.string s) :=
  cell_of ((h.kq.block Sv hs.1 hs.2.1 hs.2.2.1).trans hs.2.2.2) 0
end
/-- How what was taken is left. -/
structure TQ (I Sv Gd : Nat) (s : ByteArray) (w W : World) : Prop where
  os : W.os = w.os
  tape : W.tape = w.tape
  output : W.output = w.output
  size : w.heap.size ≤ W.heap.size
  sv : W.heap[Sv]? = some (.cells #[.string s] 9)
  gd : W.heap[Gd]? = some (.cells #[.bool true] 4)
  block : ∀ k, k < w.heap.size → k ≠ I → k ≠ Sv → k ≠ Gd → W.heap[k]? = w.heap[k]?
theorem extract0_tx (l : List UInt8) (k : Nat) : (O.tx l).extract 0 k = O.tx (l.take k) := by
  apply ByteArray.ext
  rw [ByteArray.data_extract]
  unfold O.tx
  simp
def TV (w3 : World) (I q : Nat) (s x : ByteArray) : Nat → Value → Prop
  | 0, v => v = .pointer (some ⟨I, 0, none⟩)
  | 1, v => v = .int .u64 (q : Nat)
  | 2, v => v = .string s
  | 3, v => v = .pointer (some ⟨w3.heap.size, 0, none⟩)
  | 4, v => v = .string x
  | 6, v => v = .int .u32 (q : Nat)
  | 7, v => v = .int .u64 (q : Nat)
  | 8, v => v = .bool true
  | _, _ => True
set_option maxHeartbeats 1000000 in
set_option maxRecDepth 100000 in
theorem sec_take (I Sv Gd : Nat) (s : ByteArray) (hs : s.size ≤ 50) (w : World) (hin : O.InIs w I (O.tx (pk s)) 0) (s0 : ByteArray) (hsv : w.heap[Sv]? = some (.cells #[.string s0] 9)) (hgd : w.heap[Gd]? = some (.cells #[.bool false] 4)) (hne : I ≠ Sv ∧ I ≠ Gd ∧ Sv ≠ Gd) :
    Calls Try.prog 59 #[.pointer (some ⟨I, 0, none⟩), .pointer (some ⟨Sv, 0, none⟩), .pointer (some ⟨Gd, 0, none⟩)] w fun e w' => e = .returned (.tuple #[]) ∧ O.InIs w' I ⟨#[]⟩ 0 ∧ TQ I Sv Gd s w w' := by
  obtain ⟨q, hq⟩ : ∃ q, q = sm (O.tx (txt s)) := ⟨_, rfl⟩
  have hq32 : q < 4294967296 := by rw [hq]; exact sm_lt _
  obtain ⟨z, hz⟩ : ∃ z : List UInt8, z = List.replicate (64 - (pkL s).length) 0 := ⟨_, rfl⟩
  have hpk : pk s = O.numB s.size 2 ++ (s.data.toList ++ (O.numB q 4 ++ z)) := by
    unfold pk; rw [← hz]; unfold pkL; rw [← hq]; unfold txt; simp only [List.append_assoc]
  have hlen := pk_length s hs
  have hsl : s.data.toList.length = s.size := (O.size_list s).symm
  have hps : (O.tx (pk s)).size = 64 := by rw [O.tx_size, hlen]
  have hti := O.text_in I (O.tx (pk s)) s.size (by rw [hpk, O.nv_all, Nat.mod_eq_of_lt (by show s.size < 65536; omega)]) (by omega) (by omega) (by omega) w hin
  have ex1 : (O.tx (pk s)).extract 2 (O.tx (pk s)).size = O.tx (s.data.toList ++ (O.numB q 4 ++ z)) := by
    rw [O.extract_tx, hpk, List.drop_left' (O.numB_length _ _)]
  have ex2 : (O.tx (s.data.toList ++ (O.numB q 4 ++ z))).extract 0 s.size = s := by
    rw [extract0_tx, List.take_left' hsl, O.tx_toList]
  have ex3 : (O.tx (s.data.toList ++ (O.numB q 4 ++ z))).extract s.size (O.tx (s.data.toList ++ (O.numB q 4 ++ z))).size = O.tx (O.numB q 4 ++ z) := by
    rw [O.extract_tx, List.drop_left' hsl]
  rw [ex1, ex2, ex3] at hti
  obtain ⟨r0, hr0⟩ : ∃ r0, r0 = O.tx (O.numB q 4 ++ z) := ⟨_, rfl⟩
  obtain ⟨r1, hr1⟩ : ∃ r1, r1 = O.tx z := ⟨_, rfl⟩
  have hzl : z.length ≤ 64 := by rw [hz, List.length_replicate]; omega
  have HN : Hid (∀ W, O.InIs W I r0 0 → Calls Try.prog 61 #[.pointer (some ⟨I, 0, none⟩), .int .i64 4] W fun e w' => e = .returned (.int .u64 (q : Nat)) ∧ O.InIs w' I r1 0 ∧ O.KI I W w') := fun W hW => by
    have hsz : r0.size = 4 + z.length := by rw [hr0, O.tx_size, List.length_append, O.numB_length]
    have h1 := O.num_in I r0 4 (by rw [show O.wd 4 = 4 by decide, hsz]; omega) (by omega) W hW
    rw [show O.wd 4 = 4 by decide] at h1
    have e1 : O.nv r0 4 = q := by rw [hr0, O.nv_all, Nat.mod_eq_of_lt (by show q < 4294967296; omega)]
    have e2 : r0.extract 4 r0.size = r1 := by rw [hr0, O.extract_tx, List.drop_left' (O.numB_length _ _), hr1]
    rw [e1, e2] at h1
    exact h1
  have HZ : Hid (∀ W, O.InIs W I r1 0 → Calls Try.prog 62 #[.pointer (some ⟨I, 0, none⟩)] W fun e w' => e = .returned (.tuple #[]) ∧ O.InIs w' I ⟨#[]⟩ 0 ∧ O.KI I W w') := fun W hW =>
    (O.zero_any I r1 (by rw [hr1, O.tx_size]; omega) W hW).mono (fun e w' ⟨q1, _, q3⟩ => by
      have hzz : O.zeros r1 := by rw [hr1, hz]; exact O.zeros_rep _
      exact ⟨(q1 hzz).1, (q1 hzz).2, q3⟩)
  rw [← hr0] at hti
  obtain ⟨x, hx⟩ : ∃ x, x = O.tx (txt s) := ⟨_, rfl⟩
  obtain ⟨l, hl⟩ : ∃ l, l = txt s := ⟨_, rfl⟩
  have hxs : x.size ≤ 1000 := by rw [hx, O.tx_size, txt_length]; omega
  have HSM : Hid (∀ b W, W.cell? ⟨b, 0, none⟩ = some (.string x) → Calls Try.prog 54 #[.slice (some ⟨b, 0, none⟩) 1 1] W fun e w' => e = .returned (.int .u32 (q : Nat)) ∧ w' = W) := fun b W h => by
    have := sum_one x hxs b W h
    rw [hx, ← hq] at this
    exact this
  have HS50 : Hid (s.size ≤ 1000 ∧ l = O.numB s.size 2 ++ s.data.toList ∧ x = O.tx l) := ⟨by omega, hl, by rw [hx, hl]⟩
  have HV : Hid _ := And.intro hsv hgd
  have hIw := hin.lt
  have hSw := getElem?_lt hsv
  have hGw := getElem?_lt hgd
  have csv : w.cell? ⟨Sv, 0, none⟩ = some (.string s0) := cell_of hsv 0
  have HNE : Hid _ := hne
  clear hin hsv hgd hne ex1 ex2 ex3 hpk hlen hps hsl hq hz hr0 hr1 hx hl hzl
  go_enter Try.func59, Try.ntmps59
  go_wp2_with fail
  go_call hti as e w1 ⟨rfl, i1, k1⟩
  have s1 : w1.heap[Sv]? = some (.cells #[.string s0] 9) := (k1.block Sv hSw (Ne.symm HNE.out.1)).trans HV.out.1
  have g1 : w1.heap[Gd]? = some (.cells #[.bool false] 4) := (k1.block Gd hGw (Ne.symm HNE.out.2.1)).trans HV.out.2
  have cs1 : w1.cell? ⟨Sv, 0, none⟩ = some (.string s0) := cell_of s1 0
  have fs1 : w1.frozen? ⟨Sv, 0, none⟩ = false := frz_of s1 0
  have ne : ∀ o, (⟨Sv, 0, none⟩ : Addr) ≠ ⟨I, o, none⟩ := fun o e => HNE.out.1 (congrArg Addr.block e).symm
  obtain ⟨w3, hw3⟩ : ∃ w3, w3 = w1.setCell ⟨Sv, 0, none⟩ (.string s) := ⟨_, rfl⟩
  have h3s : w3.heap.size = w1.heap.size := by rw [hw3]; simp [World.setCell]
  have h1s := k1.size
  have hba : Below w3.heap.size w3 (w3.alloc (.cells #[.slice none 0 0] 77)) := Below.alloc (Below.refl _ _) (Nat.le_refl _) _
  have HI3 : Hid (O.InIs w3 I r0 0) := by
    show O.InIs w3 I r0 0
    rw [hw3]
    exact ⟨(World.cell?_setCell_other _ _ _ _ (ne 0)).trans i1.c0, (World.cell?_setCell_other _ _ _ _ (ne 1)).trans i1.c1, (World.frozen?_setCell ..).trans i1.f0, (World.frozen?_setCell ..).trans i1.f1⟩
  have HS3 : Hid (w3.heap[Sv]? = some (.cells #[.string s] 9)) := by show _ = _; rw [hw3, block_set s1]; rfl
  have HG3 : Hid (w3.heap[Gd]? = some (.cells #[.bool false] 4)) := by show _ = _; rw [hw3, Below.heap_setCell _ _ _ _ (by exact Ne.symm HNE.out.2.2)]; exact g1
  have HK3 : Hid (w3.os = w.os ∧ w3.tape = w.tape ∧ w3.output = w.output ∧ w.heap.size ≤ w3.heap.size ∧ ∀ k, k < w.heap.size → k ≠ I → k ≠ Sv → w3.heap[k]? = w.heap[k]?) := by
    refine ⟨by rw [hw3]; exact k1.os, by rw [hw3]; exact k1.tape, by rw [hw3]; exact k1.output, by omega, fun k hk1 hk2 hk3 => ?_⟩
    rw [hw3, Below.heap_setCell _ _ _ _ (by exact hk3)]
    exact k1.block k hk1 hk2
  have HLT : Hid (I < w3.heap.size ∧ Gd < w3.heap.size ∧ I ≠ Gd) := ⟨by omega, by omega, HNE.out.2.1⟩
  have HSV : Hid (Sv < w3.heap.size ∧ Sv ≠ I ∧ Sv ≠ Gd ∧ w3.heap[Sv]? = some (.cells #[.string s] 9)) := ⟨by omega, Ne.symm HNE.out.1, HNE.out.2.2, HS3.out⟩
  have HI0 : Hid (O.InIs (w3.alloc (.cells #[.slice none 0 0] 77)).drew I (if (fun _ => false : Nat → Bool) 1 = true then r1 else r0) 0) := by
    have := HI3.out.below hba
    exact ⟨this.c0, this.c1, this.f0, this.f1⟩
  have HG0 : Hid ((w3.alloc (.cells #[.slice none 0 0] 77)).drew.heap[Gd]? = some (.cells #[.bool false] 4)) := (hba.block Gd (by omega)).trans HG3.out
  have HK0 : Hid (KQ w3.heap.size I Gd w3 (w3.alloc (.cells #[.slice none 0 0] 77)).drew) := ⟨rfl, rfl, rfl, hba.size, fun k hk _ _ => hba.block k hk⟩
  have HO0 : Hid (O.OutIs (w3.alloc (.cells #[.slice none 0 0] 77)).drew w3.heap.size (.slice none 0 0) []) := by
    have := O.out_new w3
    exact ⟨this.cell, this.frz, this.own⟩
  have HT : Hid (∀ W, O.OutIs W w3.heap.size (.slice none 0 0) [] → Calls Try.prog 50 #[.pointer (some ⟨w3.heap.size, 0, none⟩), .string s] W fun e w' => e = .returned (.pointer (some ⟨w3.heap.size, 0, none⟩)) ∧ ∃ v', O.Wr w3.heap.size (.slice none 0 0) [] l W v' w') := fun W hW => by
    have := O.text_any w3.heap.size _ [] s W hW HS50.out.1 (by simp)
    rw [← HS50.out.2.1] at this
    exact this
  have HBY : Hid (∀ W v, O.OutIs W w3.heap.size v l → Calls Try.prog 51 #[.pointer (some ⟨w3.heap.size, 0, none⟩)] W fun e w' => e = .returned (.string x) ∧ w' = W) := fun W v hW => by
    have := O.bytes_any w3.heap.size v l W hW
    have e : (⟨l.toArray⟩ : ByteArray) = x := by rw [HS50.out.2.2]; rfl
    rw [e] at this
    exact this
  have HTQ : Hid (∀ W w4, (KQ w3.heap.size I Gd w3 W ∧ O.InIs W I r1 0 ∧ W.heap[Gd]? = some (.cells #[.bool true] 4)) → O.KI I W w4 → TQ I Sv Gd s w w4) := fun W w4 ⟨a1, _, a3⟩ k4 => by
    obtain ⟨c1, c2, c3, c4, c5⟩ := HK3.out
    have z1 := a1.size
    refine ⟨k4.os.trans (a1.os.trans c1), k4.tape.trans (a1.tape.trans c2), k4.output.trans (a1.output.trans c3), by have := k4.size; omega, ?_, ?_, fun k hk1 hk2 hk3 hk4 => ?_⟩
    · rw [k4.block Sv (by omega) (Ne.symm HNE.out.1), a1.block Sv (by omega) (Ne.symm HNE.out.1) HNE.out.2.2]; exact HS3.out
    · rw [k4.block Gd (by omega) (Ne.symm HNE.out.2.1)]; exact a3
    · rw [k4.block k (by omega) hk2, a1.block k (by omega) hk2 hk4]; exact c5 k hk1 hk2 hk3
  have H3S : Hid _ := h3s
  have HW3 : Hid _ := hw3
  clear hti i1 k1 s1 g1 ne hba h3s h1s HI3 HG3 csv hw3
  go_wp2_with fail
  rw [← HW3.out, ← H3S.out]
  refine wp_region_pb (fun f => ⟨#[.pointer (some ⟨I, 0, none⟩), .pointer (some ⟨Sv, 0, none⟩), .pointer (some ⟨Gd, 0, none⟩), undef, .pointer (some ⟨w3.heap.size, 0, none⟩), .pointer (some ⟨I, 0, none⟩), .string s, f 0, f 1, f 2, f 3, f 4, f 5, f 6, f 7, f 8, undef, undef], []⟩) (TV w3 I q s x) (TPh w3 I Gd r0 r1 l x) (fun i => [undef, undef, undef, undef, undef, undef, undef, undef, undef, undef].getD i undef) (by kernel_rfl) rfl rfl ?hI ?hput ?step ?fin
  case hI => exact ⟨HK0.out, HG0.out, HI0.out, fun _ => HO0.out, (fun e => by cases e), (fun e => by cases e), fun _ => rfl, fun _ => rfl, fun _ => rfl, fun _ => rfl, fun _ => rfl, fun _ => rfl⟩
  case fin =>
    intro f W hP hV
    have hend : KQ w3.heap.size I Gd w3 W ∧ O.InIs W I r1 0 ∧ W.heap[Gd]? = some (.cells #[.bool true] 4) := ⟨hP.kq, hP.inp, hP.gd⟩
    have hz := HZ.out W hend.2.1
    have HE : Hid _ := hend
    clear hP hV hend HN HT HBY HSM
    go_wp2_with fail
    go_call hz as e w4 ⟨rfl, i4, k4⟩
    have HF : Hid (O.InIs w4 I ⟨#[]⟩ 0 ∧ TQ I Sv Gd s w w4) := ⟨i4, HTQ.out W w4 HE.out k4⟩
    clear hz i4 k4
    go_wp2
    go_returns
    exact ⟨rfl, HF.out⟩
  case hput =>
    repeat (refine ⟨fun f v => rfl, ?_⟩)
    trivial
  case step =>
    refine ⟨?_, ?_⟩
    · intro done f W hP hdn hd K hK
      clear hd
      go_simp
      exact hK _ _ rfl (hP.pure _ (by decide) _)
    refine ⟨?_, ?_⟩
    · intro done f W hP hdn hd K hK
      have d0 := (hd.1 rfl).2
      have e0 : done 0 = true := (hd.1 rfl).1
      clear hd
      replace d0 : f 0 = .pointer (some ⟨I, 0, none⟩) := d0
      generalize f 0 = x0 at *
      subst d0
      clear e0
      have hx0 := hP.inp
      rw [hdn] at hx0
      go_simp
      refine Calls.mono (HN.out W hx0) ?_
      rintro e W' ⟨rfl, hi, hk⟩
      exact hK _ _ rfl (hP.numbered hdn hi hk HLT.out _)
    refine ⟨?_, ?_⟩
    · intro done f W hP hdn hd K hK
      clear hd
      have q1 := hP.text HSV.out
      go_simp
      exact hK _ _ rfl (hP.pure _ (by decide) _)
    refine ⟨?_, ?_⟩
    · intro done f W hP hdn hd K hK
      have d2 := (hd.1 rfl).2
      have e2 : done 2 = true := (hd.1 rfl).1
      have e1 : done 1 = true := (hd.2.1 rfl).1
      clear hd
      replace d2 : f 2 = .string s := d2
      generalize f 2 = x2 at *
      subst d2
      clear e2
      have hx0 := hP.out0 hdn
      go_simp
      refine Calls.mono (HT.out W hx0) ?_
      rintro e W' ⟨rfl, v', hw⟩
      exact hK _ _ rfl (hP.texted hdn e1 hw HLT.out _)
    refine ⟨?_, ?_⟩
    · intro done f W hP hdn hd K hK
      have d3 := (hd.1 rfl).2
      have e3 : done 3 = true := (hd.1 rfl).1
      clear hd
      replace d3 : f 3 = .pointer (some ⟨w3.heap.size, 0, none⟩) := d3
      generalize f 3 = x3 at *
      subst d3
      have hd4 : done 4 = false := hdn
      have hd9 : done 9 = false := hP.o49 hd4
      have hou := hP.out1 e3 hd9
      obtain ⟨v', ho⟩ := hou
      have hby := HBY.out W v' ho
      go_simp
      refine Calls.mono hby ?_
      rintro e W' ⟨rfl, rfl⟩
      exact hK _ _ rfl (hP.pure _ (by decide) _)
    refine ⟨?_, ?_⟩
    · intro done f W hP hdn hd K hK
      have d4 := (hd.1 rfl).2
      have e4 : done 4 = true := (hd.1 rfl).1
      clear hd
      replace d4 : f 4 = .string x := d4
      generalize f 4 = x4 at *
      subst d4
      go_simp
      exact hK _ _ trivial (hP.built hdn e4)
    refine ⟨?_, ?_⟩
    · intro done f W hP hdn hd K hK
      have d5 := (hd.1 rfl).2
      have e5 : done 5 = true := (hd.1 rfl).1
      clear hd
      have hd6 : done 6 = false := hdn
      have hd9 : done 9 = false := hP.o69 hd6
      have hou := hP.row e5 hd9
      obtain ⟨kk, hf5, hck⟩ := hou
      clear d5
      generalize f 5 = x5 at *
      subst hf5
      have hsum := HSM.out kk W hck
      go_simp
      refine Calls.mono hsum ?_
      rintro e W' ⟨rfl, rfl⟩
      exact hK _ _ rfl (hP.pure _ (by decide) _)
    refine ⟨?_, ?_⟩
    · intro done f W hP hdn hd K hK
      have d6 := (hd.1 rfl).2
      have e6 : done 6 = true := (hd.1 rfl).1
      clear hd
      replace d6 : f 6 = .int .u32 (q : Nat) := d6
      generalize f 6 = x6 at *
      subst d6
      clear e6
      go_simp
      exact hK _ _ (by show Value.int _ _ = Value.int _ _; first | rfl | (congr 1; rw [IntKind.wrap_u64]; omega)) (hP.pure _ (by decide) _)
    refine ⟨?_, ?_⟩
    · intro done f W hP hdn hd K hK
      have d1 := (hd.1 rfl).2
      have e1 : done 1 = true := (hd.1 rfl).1
      have d7 := (hd.2.1 rfl).2
      have e7 : done 7 = true := (hd.2.1 rfl).1
      clear hd
      replace d1 : f 1 = .int .u64 (q : Nat) := d1
      replace d7 : f 7 = .int .u64 (q : Nat) := d7
      generalize f 1 = x1 at *
      subst d1
      clear e1
      generalize f 7 = x7 at *
      subst d7
      clear e7
      go_simp
      exact hK _ _ rfl (hP.pure _ (by decide) _)
    refine ⟨?_, ?_⟩
    · intro done f W hP hdn hd K hK
      have d8 := (hd.1 rfl).2
      have e8 : done 8 = true := (hd.1 rfl).1
      have e6 : done 6 = true := (hd.2.1 rfl).1
      have e1 : done 1 = true := (hd.2.2.2.1 rfl).1
      have e3 : done 3 = true := (hd.2.2.2.2.2.1 rfl).1
      have e4 : done 4 = true := (hd.2.2.2.2.2.2.1 rfl).1
      have e5 : done 5 = true := (hd.2.2.2.2.2.2.2.1 rfl).1
      clear hd
      replace d8 : f 8 = .bool true := d8
      generalize f 8 = x8 at *
      subst d8
      clear e8
      have q1 := cell_of hP.gd 0
      have q2 := frz_of hP.gd 0
      have HP : Hid _ := hP
      clear hP
      go_simp
      exact hK undef _ trivial (HP.out.stored hdn e1 e3 e4 e5 e6 HLT.out)
    trivial
end Go.Proofs.Ytiohkdpmgkobiaa
