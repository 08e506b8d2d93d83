/- Open of slots, over any reading, as a call. -/
import Derived.Test.YtknmipbjkkeebaaGreatIJ
namespace Go.Proofs.YtknmipbjkkeebaaGreat
open Go.RowKit
structure Sc where
  sl : Sl
  text : ByteArray
  found : Nat
open Classical in
/-- What is known behind k slots. -/
noncomputable def scan (G : Nat → Nat → Pg) : Nat → Sc
  | 0 => ⟨⟨0, 0, 0, false⟩, ⟨#[]⟩, 0⟩
  | k + 1 =>
    if Whl (G k) then
      if (scan G k).sl.seq < (G k 0).q then ⟨⟨k, (G k 0).q, max (scan G k).sl.most (mostN (G k) 16), false⟩, O.tx (datL (G k) (G k 0).n), (scan G k).found + 1⟩
      else ⟨⟨(scan G k).sl.slot, (scan G k).sl.seq, max (scan G k).sl.most (mostN (G k) 16), false⟩, (scan G k).text, (scan G k).found + 1⟩
    else ⟨⟨(scan G k).sl.slot, (scan G k).sl.seq, max (scan G k).sl.most (mostN (G k) 16), false⟩, (scan G k).text, (scan G k).found⟩
theorem scan_no (G : Nat → Nat → Pg) (k : Nat) (h : ¬ Whl (G k)) : scan G (k + 1) = ⟨⟨(scan G k).sl.slot, (scan G k).sl.seq, max (scan G k).sl.most (mostN (G k) 16), false⟩, (scan G k).text, (scan G k).found⟩ := by
  rw [scan, if_neg h]
theorem scan_new (G : Nat → Nat → Pg) (k : Nat) (h : Whl (G k)) (h2 : (scan G k).sl.seq < (G k 0).q) : scan G (k + 1) = ⟨⟨k, (G k 0).q, max (scan G k).sl.most (mostN (G k) 16), false⟩, O.tx (datL (G k) (G k 0).n), (scan G k).found + 1⟩ := by
  rw [scan, if_pos h, if_pos h2]
theorem scan_old (G : Nat → Nat → Pg) (k : Nat) (h : Whl (G k)) (h2 : ¬ (scan G k).sl.seq < (G k 0).q) : scan G (k + 1) = ⟨⟨(scan G k).sl.slot, (scan G k).sl.seq, max (scan G k).sl.most (mostN (G k) 16), false⟩, (scan G k).text, (scan G k).found + 1⟩ := by
  rw [scan, if_pos h, if_neg h2]
theorem scan_found (G : Nat → Nat → Pg) : ∀ k, (scan G k).found ≤ k
  | 0 => Nat.le_refl _
  | k + 1 => by
    have := scan_found G k
    by_cases h : Whl (G k)
    · by_cases h2 : (scan G k).sl.seq < (G k 0).q
      · rw [scan_new G k h h2]; show _ + 1 ≤ _; omega
      · rw [scan_old G k h h2]; show _ + 1 ≤ _; omega
    · rw [scan_no G k h]; show (scan G k).found ≤ _; omega
theorem scan_sure (G : Nat → Nat → Pg) : ∀ k, (scan G k).sl.unsure = false
  | 0 => rfl
  | k + 1 => by
    by_cases h : Whl (G k)
    · by_cases h2 : (scan G k).sl.seq < (G k 0).q
      · rw [scan_new G k h h2]
      · rw [scan_old G k h h2]
    · rw [scan_no G k h]
/-- One block apart nothing that was there was written. -/
structure KS (S : Nat) (w w' : World) : Prop where
  os : w'.os = w.os
  tape : w'.tape = w.tape
  output : w'.output = w.output
  size : w.heap.size ≤ w'.heap.size
  block : ∀ k, k < w.heap.size → k ≠ S → w'.heap[k]? = w.heap[k]?
theorem KS.refl (S : Nat) (w : World) : KS S w w := ⟨rfl, rfl, rfl, Nat.le_refl _, fun _ _ _ => rfl⟩
theorem KS.below {S : Nat} {w W W' : World} (h : KS S w W) (hb : Below W.heap.size W W') : KS S w W' :=
  ⟨hb.os.trans h.os, hb.tape.trans h.tape, hb.output.trans h.output, Nat.le_trans h.size hb.size, fun k a b => (hb.block k (Nat.lt_of_lt_of_le a h.size)).trans (h.block k a b)⟩
theorem KS.off {S B : Nat} {w W W' : World} (h : KS S w W) (ho : Off B W W') (hB : B = S ∨ w.heap.size ≤ B) : KS S w W' :=
  ⟨ho.os.trans h.os, ho.tape.trans h.tape, ho.output.trans h.output, Nat.le_trans h.size ho.size, fun k a b => (ho.block k (by omega)).trans (h.block k a b)⟩
/-- A Slots' box beside what was read. -/
structure SB (S M : Nat) (s : Sl) (w W : World) : Prop where
  k : KS S w W
  b : W.heap[S]? = some (.cells (s.cs M) 72)
theorem SB.below {S M : Nat} {s : Sl} {w W W' : World} (h : SB S M s w W) (hb : Below W.heap.size W W') : SB S M s w W' :=
  ⟨h.k.below hb, (hb.block _ (Array.getElem?_eq_some_iff.1 h.b).1).trans h.b⟩
theorem SB.off {S M B : Nat} {s : Sl} {w W W' : World} (h : SB S M s w W) (ho : Off B W W') (hne : B ≠ S) (hB : w.heap.size ≤ B) : SB S M s w W' :=
  ⟨h.k.off ho (Or.inr hB), (ho.block _ (Ne.symm hne)).trans h.b⟩
theorem SB.set {S M : Nat} {s s' : Sl} {w W : World} (h : SB S M s w W) (o : Nat) (v : Value) (he : (s.cs M).setIfInBounds o v = s'.cs M) : SB S M s' w (W.setCell ⟨S, o, none⟩ v) :=
  ⟨h.k.off ((Off.refl S W).set o v) (Or.inl rfl), by rw [F.block_set h.b, he]⟩
/-- Phases of 's.most = max(s.most, p.most())'. -/
structure MPh (S M Pb : Nat) (pb : Array Value) (s s' : Sl) (w : World) (done : Nat → Bool) (W : World) : Prop where
  a : done 10 = false → SB S M s w W
  z : done 10 = true → SB S M s' w W
  p : W.heap[Pb]? = some (.cells pb 77)
  o : done 10 = true → done 4 = true
theorem MPh.pure {S M Pb : Nat} {pb : Array Value} {s s' : Sl} {w : World} {done : Nat → Bool} {W : World} (h : MPh S M Pb pb s s' w done W) (k : Nat) (hk : k ≠ 10) : MPh S M Pb pb s s' w (O.updB done k) W := by
  have e : O.updB done k 10 = done 10 := if_neg (Ne.symm hk)
  exact ⟨by rw [e]; exact h.a, by rw [e]; exact h.z, h.p, fun q => by
    rw [e] at q
    unfold O.updB
    split
    · rfl
    · exact h.o q⟩
theorem MPh.call {S M Pb : Nat} {pb : Array Value} {s s' : Sl} {w : World} {done : Nat → Bool} {W W' : World} (h : MPh S M Pb pb s s' w done W) (hb : Below W.heap.size W W') : MPh S M Pb pb s s' w (O.updB done 6) W' :=
  ⟨fun e => (h.a e).below hb, fun e => (h.z e).below hb, (hb.block _ (Array.getElem?_eq_some_iff.1 h.p).1).trans h.p, fun e => h.o e⟩
def OpV (S mm : Nat) (s0 : Sl) (pb : Array Value) : Nat → Value → Prop
  | 0, v => v = .pointer (some ⟨S, 0, none⟩)
  | 1, v => v = .pointer (some ⟨S, 0, none⟩)
  | 2, v => v = .pointer (some ⟨S, 0, none⟩)
  | 3, v => v = .pointer (some ⟨S, 3, none⟩)
  | 4, v => v = .int .u64 (s0.most : Nat)
  | 5, v => v = .agg pb
  | 6, v => v = .int .u64 (mm : Nat)
  | 7, v => v = .int .u64 ((max s0.most mm : Nat) : Int)
  | 8, v => v = .pointer (some ⟨S, 0, none⟩)
  | 9, v => v = .pointer (some ⟨S, 3, none⟩)
  | _, _ => True
set_option maxHeartbeats 8000000 in
set_option maxRecDepth 100000 in
theorem open_any (M : Nat) (x : ByteArray) (hx : x.size = 2048) (G : Nat → Nat → Pg) (Rd : World → Prop) (w : World)
    (hrd : Calls Tryz.prog 50 #[.pointer (some ⟨M, 0, none⟩), .int .i64 0, .int .i64 32] (w.alloc (.cells #[.pointer (some ⟨M, 0, none⟩), .int .i64 0, .int .u64 0, .int .u64 0, .bool false] 72)) fun e w' => e = .returned (.string x) ∧ Rd w' ∧ w'.heap[w.heap.size]? = some (.cells #[.pointer (some ⟨M, 0, none⟩), .int .i64 0, .int .u64 0, .int .u64 0, .bool false] 72))
    (hG : ∀ k, k < 2 → ∀ j, j < 16 → Tells ((x.extract (k * 1024) (k * 1024 + 1024)).extract (j * 64) (j * 64 + 64)) (G k j))
    (hn : ∀ k, k < 2 → (G k 0).n ≤ 16) (hd : ∀ k, k < 2 → ∀ j, j < (G k 0).n → (G k j).d.size ≤ 40) :
    Calls Tryz.prog 27 #[.pointer (some ⟨M, 0, none⟩)] w fun e w' => ∃ w2, Rd w2 ∧ e = .returned (.tuple #[.pointer (some ⟨w.heap.size, 0, none⟩), .string (scan G 2).text, .bool (decide (0 < (scan G 2).found))]) ∧ SB w.heap.size M { (scan G 2).sl with unsure := decide ((scan G 2).found = 2) } w2 w' := by
  have HG : Hid _ := hG
  have HN : Hid _ := hn
  have HD : Hid _ := hd
  clear hG hn hd
  go_enter Tryz.func27, Tryz.ntmps27
  go_wp2_with fail
  go_call hrd as e w2 ⟨rfl, hr2, hb2⟩
  have HR2 : Hid _ := hr2
  have S0 : Hid (SB w.heap.size M (scan G 0).sl w2 w2) := ⟨KS.refl _ _, hb2⟩
  have hwl : w.heap.size < w2.heap.size := (Array.getElem?_eq_some_iff.1 hb2).1
  have HWL : Hid _ := hwl
  clear hrd hr2 hb2 hwl
  go_wp2
  generalize hS : w.heap.size = S at *
  go_loopw [7, 8, 19] (fun tv fv i wr => ∃ k : Nat, k ≤ 2 ∧ tv = .string (scan G k).text ∧ fv = .int .i64 ((scan G k).found : Nat) ∧ i = .int .i64 (k : Nat) ∧ Hid (SB S M (scan G k).sl w2 wr)) (fun _ _ i _ => 2 - (intOf i).toNat)
  case atStart => exact ⟨0, by omega, rfl, rfl, rfl, S0.out⟩
  case round =>
    clear S0
    obtain ⟨k, hk, rfl, rfl, rfl, HI⟩ := hrel
    have hfd := scan_found G k
    rcases Nat.lt_or_ge k 2 with hk2 | hk2
    · have hex : (x.extract (k * 1024) 2048).extract 0 1024 = x.extract (k * 1024) (k * 1024 + 1024) := by
        rw [ByteArray.extract_extract]; congr 1; omega
      have hq1 : ((k : Int) * 1024).toNat = k * 1024 := by omega
      have hq2 : k * 1024 + 1024 ≤ 2048 := by omega
      have hpg := pagesof_any (x.extract (k * 1024) (k * 1024 + 1024)) (by rw [ByteArray.size_extract]; omega) (G k) (HG.out k hk2) wr
      have HTX : Hid _ := fun W => text_any (G k) (G k 0).n rfl (HN.out k hk2) (HD.out k hk2) W
      have HMS : Hid _ := fun W => most_any (G k) W
      have HNO : Hid _ := scan_no G k
      have HNW : Hid _ := scan_new G k
      have HOL : Hid _ := scan_old G k
      obtain ⟨pb, hpb⟩ : ∃ pb, pb = parr (G k) := ⟨_, rfl⟩
      have HPB : Hid _ := hpb
      have hps : pb.size = 64 := by rw [hpb]; exact parr_size _
      have HPS : Hid _ := hps
      have HQ0 : Hid (pb[0]? = some (.int .u64 ((G k 0).q : Nat))) := by
        rw [hpb]
        have q := parr_get (G k) 0 0 (by omega) (by omega)
        rw [Nat.zero_mul] at q; exact q
      rw [← hpb, ← hex] at hpg
      rw [← hpb] at HTX HMS
      have HPG : Hid _ := hpg
      clear hpb hps hex hpg
      go_wp2_with fail
      go_call HPG.out as e w3 ⟨rfl, hb3⟩
      have I3 : Hid _ := HI.out.below hb3
      have HS3 : Hid (w2.heap.size ≤ w3.heap.size) := Nat.le_trans HI.out.k.size hb3.size
      clear hb3 HI hq1 hq2 HPG
      have HST : Hid (∀ {op : Oper} {act : Act} {W : World} {Q : Exit → Act → World → Prop} {K : Act → World → Prop} (x y : Operand) (ho : op.op = .store 77 x y) (hx : act.eval x = .pointer (some ⟨w3.heap.size, 0, none⟩)) (hy : act.eval y = .agg pb) (c0 : Array Value) (hc0 : c0.size = 64) (h : W.heap[w3.heap.size]? = some (.cells c0 77)) (k : ∀ W', Off w3.heap.size W W' → W'.heap[w3.heap.size]? = some (.cells pb 77) → K (act.put op.dst undef) W'), op.wp Tryz.prog act W K Q) := by
        intro op act W Q K x y ho hx hy c0 hc0 h k'
        refine ast77p x y ho w3.heap.size (G k) hx (by rw [← HPB.out]; exact hy) hc0 h (fun W' a b => k' W' a (by rw [← HPB.out] at b; exact b))
      have HAL : Hid (∀ o : Obj, Below w3.heap.size w3 (w3.alloc o)) := fun o => Below.alloc (Below.refl _ _) (Nat.le_refl _) _
      go_wp2_with (first | (refine wpList_plain rfl fun _ hK => HST.out _ _ rfl rfl rfl _ (by rfl) (F.heap_new _ _) (fun w4 ho4 hr4 => hK _ _ ?_)) | (refine HST.out _ _ rfl rfl rfl _ (by rfl) (F.heap_new _ _) (fun w4 ho4 hr4 => ?_)))
      have I4 : Hid (SB S M (scan G k).sl w2 w4) := (I3.out.below (HAL.out _)).off ho4 (by have := HWL.out; have := HS3.out; omega) HS3.out
      have P4 : Hid _ := hr4
      clear ho4 hr4 HAL HST I3
      obtain ⟨mm, hmm⟩ : ∃ mm, mm = mostN (G k) 16 := ⟨_, rfl⟩
      obtain ⟨s0, hs0⟩ : ∃ s0, s0 = (scan G k).sl := ⟨_, rfl⟩
      obtain ⟨s1, hs1⟩ : ∃ s1 : Sl, s1 = { s0 with most := max s0.most mm } := ⟨_, rfl⟩
      have HS1 : Hid ((s0.cs M).setIfInBounds 3 (.int .u64 ((max s0.most mm : Nat) : Int)) = s1.cs M) := by rw [hs1]; rfl
      have HSU : Hid (s0.unsure = false) := by rw [hs0]; exact scan_sure G k
      rw [← hs0] at I4 HNO HNW HOL
      rw [← hmm] at HMS HNO HNW HOL
      have HSS : Hid _ := hs1
      clear hs0 hmm hs1
      refine O.wp_region_ph (fun f => ⟨#[.pointer (some ⟨M, 0, none⟩), undef, .pointer none, .string ⟨#[]⟩, .bool false, .pointer (some ⟨S, 0, none⟩), .string x, .string (scan G k).text, .int .i64 ↑(scan G k).found, .int .i64 (k : Int), .pointer (some ⟨w3.heap.size, 0, none⟩), u11, u12, u13, .pointer (some ⟨M, 0, none⟩), .agg #[.pointer (some ⟨M, 0, none⟩), .int .i64 0, .int .u64 0, .int .u64 0, .bool false], .pointer (some ⟨S, 0, none⟩), .pointer (some ⟨M, 0, none⟩), .string x, .int .i64 (k : Int), .bool true, .int .i64 (k : Int), .string x, .int .i64 (k : Int), .int .i64 ((k : Int) * 1024), .string (x.extract (k * 1024) 2048), .string ((x.extract (k * 1024) 2048).extract 0 1024), .agg pb, f 0, f 1, f 2, f 3, f 4, f 5, f 6, f 7, f 8, f 9, u38, u39, u40, u41, u42, u43, u44, u45, u46, u47, u48, u49, u50, u51, u52, u53, u54, u55, u56, u57, u58, u59, u60, u61, u62, u63, u64, u65, undef, undef, undef, undef, undef, undef, undef, undef, undef], []⟩) (OpV S mm s0 pb) (fun done _ W => MPh S M w3.heap.size pb s0 s1 w2 done W) (fun i => [u28, u29, u30, u31, u32, u33, u34, u35, u36, u37, undef].getD i undef) (by kernel_rfl) rfl rfl ?hI8 ?hput8 ?step8 ?fin8
      case hI8 => exact ⟨fun _ => I4.out.below (Below.refl _ _).drew, (fun e => by cases e), P4.out, (fun e => by cases e)⟩
      case fin8 =>
        intro f w5 hP hV
        replace hP : MPh S M w3.heap.size pb s0 s1 w2 (fun i => decide (i < 11)) w5 := hP
        have u0 : f 0 = .pointer (some ⟨S, 0, none⟩) := hV 0 (by decide)
        have u1 : f 1 = .pointer (some ⟨S, 0, none⟩) := hV 1 (by decide)
        have u2 : f 2 = .pointer (some ⟨S, 0, none⟩) := hV 2 (by decide)
        have u3 : f 3 = .pointer (some ⟨S, 3, none⟩) := hV 3 (by decide)
        have u4 : f 4 = .int .u64 (s0.most : Nat) := hV 4 (by decide)
        have u5 : f 5 = .agg pb := hV 5 (by decide)
        have u6 : f 6 = .int .u64 (mm : Nat) := hV 6 (by decide)
        have u7 : f 7 = .int .u64 ((max s0.most mm : Nat) : Int) := hV 7 (by decide)
        have u8 : f 8 = .pointer (some ⟨S, 0, none⟩) := hV 8 (by decide)
        have u9 : f 9 = .pointer (some ⟨S, 3, none⟩) := hV 9 (by decide)
        clear hV
        generalize f 0 = x0 at *
        subst u0
        generalize f 1 = x1 at *
        subst u1
        generalize f 2 = x2 at *
        subst u2
        generalize f 3 = x3 at *
        subst u3
        generalize f 4 = x4 at *
        subst u4
        generalize f 5 = x5 at *
        subst u5
        generalize f 6 = x6 at *
        subst u6
        generalize f 7 = x7 at *
        subst u7
        generalize f 8 = x8 at *
        subst u8
        generalize f 9 = x9 at *
        subst u9
        have I5 : Hid _ := hP.z rfl
        have P5 : Hid _ := hP.p
        clear hP f I4 P4 HMS HS1
        have HLD : Hid (∀ {op : Oper} {act : Act} {W : World} {Q : Exit → Act → World → Prop} {K : Act → World → Prop} (x : Operand) (ho : op.op = .load 77 x) (hx : act.eval x = .pointer (some ⟨w3.heap.size, 0, none⟩)) (h : W.heap[w3.heap.size]? = some (.cells pb 77)) (k : K (act.put op.dst (.agg pb)) W), op.wp Tryz.prog act W K Q) := by
          intro op act W Q K x ho hx h k'
          refine wp_load_row 77 x ho _ hx 77 pb (0, 0) _ h Tryz.underlying77 rfl (by rw [size77, HPS.out]) k'
        go_wp2_with (first | (refine wpList_plain rfl fun _ hK => HLD.out _ rfl rfl P5.out (hK _ _ ?_)) | (refine HLD.out _ rfl rfl P5.out ?_))
        go_call (HTX.out w5) as e w6 ⟨b, hb, rfl, hb6⟩
        have I6 : Hid _ := I5.out.below hb6
        have P6 : Hid _ := (hb6.block _ (Array.getElem?_eq_some_iff.1 P5.out).1).trans P5.out
        have HBI : Hid _ := hb
        clear hb hb6 I5 P5 HTX HLD
        cases b with
        | false =>
          have hno : ¬ Whl (G k) := fun h => by have := HBI.out.2 h; cases this
          have hsc := HNO.out hno
          have HSC : Hid _ := hsc
          have hs1 : s1 = (scan G (k + 1)).sl := by rw [hsc, HSS.out]; show Sl.mk _ _ _ s0.unsure = _; rw [HSU.out]
          rw [hs1] at I6
          clear hsc hs1 hno
          go_wp2
          go_roundw
          case rel => exact ⟨k + 1, by omega, by rw [HSC.out], by rw [HSC.out], rfl, I6.out⟩
          case measure => simp only [intOf]; omega
        | true =>
          have hyes : Whl (G k) := HBI.out.1 (by first | rfl | trivial)
          have q0 : w6.cell? ⟨w3.heap.size, 0, none⟩ = some (.int .u64 ((G k 0).q : Nat)) := (F.cell_of P6.out 0).trans HQ0.out
          have s2 : w6.cell? ⟨S, 2, none⟩ = some (.int .u64 (s0.seq : Nat)) := by have := F.cell_of I6.out.b 2; rw [HSS.out] at this; exact this
          by_cases hlt : s0.seq < (G k 0).q
          · have hsc := HNW.out hyes hlt
            have HSC : Hid _ := hsc
            have hsl := congrArg Sc.sl hsc
            have hI7 : SB S M (scan G (k + 1)).sl w2 ((w6.setCell ⟨S, 1, none⟩ (.int .i64 (k : Nat))).setCell ⟨S, 2, none⟩ (.int .u64 ((G k 0).q : Nat))) := by
              rw [hsl]
              refine (I6.out.set (s' := ⟨k, s1.seq, s1.most, s1.unsure⟩) 1 _ rfl).set 2 _ ?_
              rw [HSS.out, ← HSU.out]; rfl
            have I7 : Hid _ := hI7
            have s1c : w6.cell? ⟨S, 1, none⟩ = some (.int .i64 (s0.slot : Nat)) := by have := F.cell_of I6.out.b 1; rw [HSS.out] at this; exact this
            have f1 := F.frz_of I6.out.b 1
            have f2 := F.frz_of I6.out.b 2
            have hlt' : ((s0.seq : Nat) : Int) < (((G k 0).q : Nat) : Int) := by omega
            clear hsc hsl hI7 hyes
            go_wp2
            go_roundw
            case rel => exact ⟨k + 1, by omega, by first | (rw [HSC.out]; done) | (rw [HSC.out]; rfl), by first | (rw [HSC.out]; done) | (rw [HSC.out]; rfl), rfl, I7.out⟩
            case measure => simp only [intOf]; omega
          · have hsc := HOL.out hyes hlt
            have HSC : Hid _ := hsc
            have hs1 : s1 = (scan G (k + 1)).sl := by rw [hsc, HSS.out]; show Sl.mk _ _ _ s0.unsure = _; rw [HSU.out]
            rw [hs1] at I6
            have hlt' : ¬ ((s0.seq : Nat) : Int) < (((G k 0).q : Nat) : Int) := by omega
            clear hsc hs1 hyes
            go_wp2
            go_roundw
            case rel => exact ⟨k + 1, by omega, by rw [HSC.out], by first | (rw [HSC.out]; done) | (rw [HSC.out]; rfl), rfl, I6.out⟩
            case measure => simp only [intOf]; omega
      case hput8 =>
        repeat (refine ⟨fun f v => rfl, ?_⟩)
        trivial
      case step8 =>
        refine ⟨?_, ?_⟩
        · intro done f W hP hdn hd K hK
          clear hd
          replace hP : MPh S M w3.heap.size pb s0 s1 w2 done W := hP
          go_simp
          exact hK _ _ rfl (hP.pure _ (by decide))
        refine ⟨?_, ?_⟩
        · intro done f W hP hdn hd K hK
          clear hd
          replace hP : MPh S M w3.heap.size pb s0 s1 w2 done W := hP
          go_simp
          exact hK _ _ rfl (hP.pure _ (by decide))
        refine ⟨?_, ?_⟩
        · intro done f W hP hdn hd K hK
          have d1 := (hd.1 rfl).2
          have e1 : done 1 = true := (hd.1 rfl).1
          clear hd
          replace d1 : f 1 = .pointer (some ⟨S, 0, none⟩) := d1
          replace hP : MPh S M w3.heap.size pb s0 s1 w2 done W := hP
          generalize f 1 = x1 at *
          subst d1
          clear e1
          go_simp
          exact hK _ _ rfl (hP.pure _ (by decide))
        refine ⟨?_, ?_⟩
        · intro done f W hP hdn hd K hK
          have d2 := (hd.1 rfl).2
          have e2 : done 2 = true := (hd.1 rfl).1
          clear hd
          replace d2 : f 2 = .pointer (some ⟨S, 0, none⟩) := d2
          replace hP : MPh S M w3.heap.size pb s0 s1 w2 done W := hP
          generalize f 2 = x2 at *
          subst d2
          clear e2
          go_simp
          exact hK _ _ rfl (hP.pure _ (by decide))
        refine ⟨?_, ?_⟩
        · intro done f W hP hdn hd K hK
          have d3 := (hd.1 rfl).2
          have e3 : done 3 = true := (hd.1 rfl).1
          clear hd
          replace d3 : f 3 = .pointer (some ⟨S, 3, none⟩) := d3
          replace hP : MPh S M w3.heap.size pb s0 s1 w2 done W := hP
          generalize f 3 = x3 at *
          subst d3
          clear e3
          by_cases hdn10 : done 10 = false
          · have c := F.cell_of (hP.a hdn10).b 3
            replace c : W.cell? ⟨S, 3, none⟩ = some (.int .u64 (s0.most : Nat)) := c
            go_simp
            exact hK _ _ rfl (hP.pure _ (by decide))
          · exact absurd (hP.o (by simpa using hdn10)) (by have h4 : done 4 = false := hdn; rw [h4]; decide)
        refine ⟨?_, ?_⟩
        · intro done f W hP hdn hd K hK
          clear hd
          replace hP : MPh S M w3.heap.size pb s0 s1 w2 done W := hP
          rw [if_pos (by rfl)]
          refine wp_load_row 77 _ rfl _ rfl 77 pb (0, 0) _ hP.p Tryz.underlying77 rfl (by rw [size77, HPS.out]) ?_
          exact hK _ _ rfl (hP.pure _ (by decide))
        refine ⟨?_, ?_⟩
        · intro done f W hP hdn hd K hK
          have d5 := (hd.1 rfl).2
          have e5 : done 5 = true := (hd.1 rfl).1
          clear hd
          replace d5 : f 5 = .agg pb := d5
          replace hP : MPh S M w3.heap.size pb s0 s1 w2 done W := hP
          generalize f 5 = x5 at *
          subst d5
          clear e5
          go_simp
          refine (HMS.out W).mono ?_
          rintro e W' ⟨rfl, hb⟩
          exact hK _ _ rfl (hP.call hb)
        refine ⟨?_, ?_⟩
        · intro done f W hP hdn hd K hK
          have d4 := (hd.1 rfl).2
          have e4 : done 4 = true := (hd.1 rfl).1
          have d6 := (hd.2.1 rfl).2
          have e6 : done 6 = true := (hd.2.1 rfl).1
          clear hd
          replace d4 : f 4 = .int .u64 (s0.most : Nat) := d4
          replace d6 : f 6 = .int .u64 (mm : Nat) := d6
          replace hP : MPh S M w3.heap.size pb s0 s1 w2 done W := hP
          generalize f 4 = x4 at *
          subst d4
          clear e4
          generalize f 6 = x6 at *
          subst d6
          clear e6
          have hmx : max ((s0.most : Nat) : Int) ((mm : Nat) : Int) = ((max s0.most mm : Nat) : Int) := by omega
          go_simp
          exact hK _ _ rfl (hP.pure _ (by decide))
        refine ⟨?_, ?_⟩
        · intro done f W hP hdn hd K hK
          have d0 := (hd.1 rfl).2
          have e0 : done 0 = true := (hd.1 rfl).1
          clear hd
          replace d0 : f 0 = .pointer (some ⟨S, 0, none⟩) := d0
          replace hP : MPh S M w3.heap.size pb s0 s1 w2 done W := hP
          generalize f 0 = x0 at *
          subst d0
          clear e0
          go_simp
          exact hK _ _ rfl (hP.pure _ (by decide))
        refine ⟨?_, ?_⟩
        · intro done f W hP hdn hd K hK
          have d8 := (hd.1 rfl).2
          have e8 : done 8 = true := (hd.1 rfl).1
          clear hd
          replace d8 : f 8 = .pointer (some ⟨S, 0, none⟩) := d8
          replace hP : MPh S M w3.heap.size pb s0 s1 w2 done W := hP
          generalize f 8 = x8 at *
          subst d8
          clear e8
          go_simp
          exact hK _ _ rfl (hP.pure _ (by decide))
        refine ⟨?_, ?_⟩
        · intro done f W hP hdn hd K hK
          have d9 := (hd.1 rfl).2
          have e9 : done 9 = true := (hd.1 rfl).1
          have d7 := (hd.2.1 rfl).2
          have e7 : done 7 = true := (hd.2.1 rfl).1
          have e4 : done 4 = true := (hd.2.2.2.2.2.2.2.1 rfl).1
          clear hd
          replace d9 : f 9 = .pointer (some ⟨S, 3, none⟩) := d9
          replace d7 : f 7 = .int .u64 ((max s0.most mm : Nat) : Int) := d7
          replace hP : MPh S M w3.heap.size pb s0 s1 w2 done W := hP
          generalize f 9 = x9 at *
          subst d9
          clear e9
          generalize f 7 = x7 at *
          subst d7
          clear e7
          have hdn10 : done 10 = false := hdn
          have c := F.cell_of (hP.a hdn10).b 3
          replace c : W.cell? ⟨S, 3, none⟩ = some (.int .u64 (s0.most : Nat)) := c
          have cf := F.frz_of (hP.a hdn10).b 3
          have hset := (hP.a hdn10).set 3 (.int .u64 ((max s0.most mm : Nat) : Int)) HS1.out
          have hp2 := (Below.heap_setCell W ⟨S, 3, none⟩ (.int .u64 ((max s0.most mm : Nat) : Int)) w3.heap.size (by show w3.heap.size ≠ S; have := HWL.out; have := HS3.out; omega)).trans hP.p
          go_simp
          exact hK undef _ trivial ⟨(fun e => by cases e), fun _ => hset, hp2, fun _ => e4⟩
        trivial
    · obtain rfl : k = 2 := by omega
      have s4 : wr.cell? ⟨S, 4, none⟩ = some (.bool (scan G 2).sl.unsure) := F.cell_of HI.out.b 4
      have f4 := F.frz_of HI.out.b 4
      have I7 : Hid (∀ v : Bool, v = decide ((scan G 2).found = 2) → SB S M { (scan G 2).sl with unsure := decide ((scan G 2).found = 2) } w2 (wr.setCell ⟨S, 4, none⟩ (.bool v))) := fun v hv => HI.out.set 4 _ (by rw [hv]; rfl)
      generalize hf : (scan G 2).found = fd at *
      clear HI
      have hcase : fd = 0 ∨ fd = 1 ∨ fd = 2 := by omega
      rcases hcase with rfl | rfl | rfl
      all_goals
        go_wp2
        go_returns
        exact ⟨w2, HR2.out, rfl, I7.out _ (by rfl)⟩
end Go.Proofs.YtknmipbjkkeebaaGreat
