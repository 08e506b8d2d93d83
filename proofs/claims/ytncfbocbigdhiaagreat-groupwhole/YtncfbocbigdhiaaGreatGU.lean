/- A sector with another mark: read fails. -/
import Derived.Test.YtncfbocbigdhiaaGreatGT
namespace Go.Proofs.YtncfbocbigdhiaaGreat
open Go.RowKit
structure RdN (I m : Nat) (w : World) (r : List UInt8) (done : Nat → Bool) (W : World) : Prop where
  k : O.KI I w W
  a : done 1 = false → O.InIs W I (O.tx (O.numB m 1 ++ r)) 0
  b : done 1 = true → O.InIs W I (O.tx r) 0
theorem RdN.pure {I m : Nat} {w : World} {r : List UInt8} {done : Nat → Bool} {W : World} (h : RdN I m w r done W) (k : Nat) (hk : k ≠ 1) : RdN I m w r (O.updB done k) W := by
  have e : O.updB done k 1 = done 1 := if_neg (Ne.symm hk)
  exact ⟨h.k, by rw [e]; exact h.a, by rw [e]; exact h.b⟩
def RnV (I m : Nat) : Nat → Value → Prop
  | 0, v => v = .pointer (some ⟨I, 0, none⟩)
  | 1, v => v = .int .u64 (m : Nat)
  | 2, v => v = .int .u64 67
  | 3, v => v = .bool true
  | _, _ => True
set_option maxHeartbeats 2000000 in
set_option maxRecDepth 100000 in
theorem rdin_no (m : Nat) (hm : m ≠ 67) (hm2 : m < 256) (r : List UInt8) (hr : r.length ≤ 900) (I M F1 X : Nat) (w : World) (h : O.InIs w I (O.tx (O.numB m 1 ++ r)) 0)
    (hM : w.heap[M]? = some (.cells #[.int .u64 67] 42)) (nM : M ≠ I) :
    Calls Tryz.prog 170 #[.pointer (some ⟨I, 0, none⟩), .pointer (some ⟨M, 0, none⟩), .pointer (some ⟨F1, 0, none⟩), .pointer (some ⟨X, 0, none⟩)] w fun e w' => e = .panicked [O.brk I] ∧ O.InIs w' I (O.tx r) 4 ∧ O.KI I w w' := by
  have HI : Hid _ := h
  have HM : Hid _ := hM
  have HMB : Hid _ := hm2
  have HMI : Hid (¬ (m : Int) = 67) := by show ¬ _; omega
  have HLN : Hid _ := hr
  have HNM : Hid _ := nM
  have lM : M < w.heap.size := (Array.getElem?_eq_some_iff.1 hM).1
  have HLM : Hid _ := lM
  clear h hM nM lM hm hm2 hr
  go_enter Tryz.func170, Tryz.ntmps170
  go_wp2
  refine O.wp_region_ph (fun f => ⟨#[.pointer (some ⟨I, 0, none⟩), .pointer (some ⟨M, 0, none⟩), .pointer (some ⟨F1, 0, none⟩), .pointer (some ⟨X, 0, none⟩), undef, undef, f 0, f 1, f 2, f 3, undef, undef, undef, undef, undef, undef, undef, undef], []⟩) (RnV I m) (fun done _ W => RdN I m w r done W) (fun i => [undef, undef, undef, undef].getD i undef) (by kernel_rfl) rfl rfl ?hIa ?hputa ?stepa ?fina
  case hIa => exact ⟨O.KI.ofBelow (Below.refl _ _).drew, fun _ => HI.out.below (Below.refl _ _).drew, (fun e => by cases e)⟩
  case fina =>
    intro f w1 hP hV
    replace hP : RdN I m w r (fun i => decide (i < 4)) w1 := hP
    have u0 : f 0 = .pointer (some ⟨I, 0, none⟩) := hV 0 (by decide)
    have u1 : f 1 = .int .u64 (m : Nat) := hV 1 (by decide)
    have u2 : f 2 = .int .u64 67 := hV 2 (by decide)
    have u3 : f 3 = .bool true := hV 3 (by decide)
    clear hV
    generalize f 0 = x0 at *
    subst u0
    generalize f 1 = x1 at *
    subst u1
    generalize f 2 = x2 at *
    subst u2
    generalize f 3 = x3 at *
    subst u3
    have I1 : Hid _ := hP.b rfl
    have K1 : Hid _ := hP.k
    have hfl := O.fail_any I (O.tx r) 4 (by decide) w1 I1.out
    clear hP
    go_wp2_with fail
    go_call hfl as e w2 ⟨rfl, q1, q2⟩
    exact ⟨rfl, rfl, q1, K1.out.trans q2⟩
  case hputa =>
    repeat (refine ⟨fun f v => rfl, ?_⟩)
    trivial
  case stepa =>
    refine ⟨?_, ?_⟩
    · intro done f W hP hdn hd K hK
      clear hd
      replace hP : RdN I m w r done W := hP
      go_simp
      exact hK _ _ rfl (hP.pure _ (by decide))
    refine ⟨?_, ?_⟩
    · intro done f W hP hdn hd K hK
      have d0 := (hd.1 rfl).2
      have e0 : done 0 = true := (hd.1 rfl).1
      clear hd
      replace d0 : f 0 = .pointer (some ⟨I, 0, none⟩) := d0
      replace hP : RdN I m w r done W := hP
      generalize f 0 = x0 at *
      subst d0
      clear e0
      have hdn1 : done 1 = false := hdn
      go_simp
      refine (num_step I m 1 r W (by decide) (by have := HMB.out; omega) (by have := HLN.out; omega) (hP.a hdn1)).mono ?_
      rintro e W' ⟨rfl, h1, h2⟩
      exact hK _ _ rfl ⟨hP.k.trans h2, (fun e => by cases e), fun _ => h1⟩
    refine ⟨?_, ?_⟩
    · intro done f W hP hdn hd K hK
      clear hd
      replace hP : RdN I m w r done W := hP
      have kb := (hP.k.block M HLM.out HNM.out).trans HM.out
      have qc := F.cell_of kb 0
      simp at qc
      go_simp
      exact hK _ _ rfl (hP.pure _ (by decide))
    refine ⟨?_, ?_⟩
    · intro done f W hP hdn hd K hK
      have d1 := (hd.1 rfl).2
      have e1 : done 1 = true := (hd.1 rfl).1
      have d2 := (hd.2.1 rfl).2
      have e2 : done 2 = true := (hd.2.1 rfl).1
      clear hd
      replace d1 : f 1 = .int .u64 (m : Nat) := d1
      replace d2 : f 2 = .int .u64 67 := d2
      replace hP : RdN I m w r done W := hP
      generalize f 1 = x1 at *
      subst d1
      clear e1
      generalize f 2 = x2 at *
      subst d2
      clear e2
      have hmi : ((m : Int) != 67) = true := bne_iff_ne.2 HMI.out
      go_simp
      exact hK _ _ (by first | rfl | (show Value.bool _ = Value.bool _; rw [hmi])) (hP.pure _ (by decide))
    trivial
set_option maxHeartbeats 2000000 in
set_option maxRecDepth 100000 in
theorem read_mark (s bd tl : ByteArray) (m : Nat) (hm : m ≠ 67) (hm2 : m < 256) (r : List UInt8) (w : World) (hs : s.size = 64) (h1 : s.extract 0 60 = bd) (h2 : s.extract 60 64 = tl) (hbd : bd.size = 60) (hb : bd = O.tx (O.numB m 1 ++ r)) (ht : tl = O.tx (tailL bd)) :
    Calls Tryz.prog 150 #[.string s, .int .u64 67, .func (.func 151) #[] #[]] w fun e w' => e = .returned (.tuple #[.agg cmz, .int .i64 4]) ∧ Below w.heap.size w w' := by
  have HRL : Hid (r.length ≤ 900) := by
    show _ ≤ _
    have := hbd
    rw [hb, tx_size, List.length_append] at this
    omega
  have HTA : Hid _ := fun W => tail_any bd (by omega) W
  obtain ⟨U, hU⟩ : ∃ U : World, U = (((w.alloc (.cells #[.int .u64 67] 42)).alloc (.cells #[.func (.func 151) #[] #[]] 195)).alloc (.cells cmz 55)).alloc (.cells cmz 55) := ⟨_, rfl⟩
  have HU : Hid (_ = (((w.alloc (.cells #[.int .u64 67] 42)).alloc (.cells #[.func (.func 151) #[] #[]] 195)).alloc (.cells #[.int .u64 0, .int .u64 0, .int .u64 0, .int .i64 0, .int .i64 0, .int .u32 0] 55)).alloc (.cells #[.int .u64 0, .int .u64 0, .int .u64 0, .int .i64 0, .int .i64 0, .int .u32 0] 55)) := hU
  have HR0 : Hid (Rd w cmz cmz U) := by rw [hU]; exact rd_start w
  have HS : Hid _ := hs
  have H1 : Hid _ := h1
  have H2 : Hid _ := h2
  have HBD : Hid _ := hbd
  have HM67 : Hid _ := hm
  have HM256 : Hid _ := hm2
  have HBB : Hid _ := hb
  rw [← ht] at HTA
  clear hm hm2 hb ht
  clear hU
  go_enter Tryz.func150, Tryz.ntmps150
  go_wp2
  rw [← HU.out]
  refine O.wp_region_ph (fun f => ⟨#[.string s, .int .u64 67, .func (.func 151) #[] #[], undef, .pointer (some ⟨w.heap.size, 0, none⟩), .pointer (some ⟨w.heap.size + 1, 0, none⟩), .pointer (some ⟨w.heap.size + 1 + 1, 0, none⟩), .int .i64 0, .pointer (some ⟨w.heap.size + 1 + 1 + 1, 0, none⟩), .string bd, undef, undef, .string s, .int .i64 64, .bool false, undef, .string s, .string bd, f 0, f 1, f 2, f 3, f 4, undef, undef, undef, undef, undef, undef, undef, undef, undef], []⟩) (RgV s tl bd) (fun _ _ W => Rd w cmz cmz W) (fun i => [undef, undef, undef, undef, undef].getD i undef) (by kernel_rfl) rfl rfl ?hIa ?hputa ?stepa ?fina
  case hIa => exact HR0.out.below (Below.refl _ _).drew
  case fina =>
    intro f w1 hP hV
    have u0 : f 0 = .string s := hV 0 (by decide)
    have u1 : f 1 = .string tl := hV 1 (by decide)
    have u2 : f 2 = .string bd := hV 2 (by decide)
    have u3 : f 3 = .string tl := hV 3 (by decide)
    have u4 : f 4 = .bool false := hV 4 (by decide)
    clear hV
    generalize f 0 = x0 at *
    subst u0
    generalize f 1 = x1 at *
    subst u1
    generalize f 2 = x2 at *
    subst u2
    generalize f 3 = x3 at *
    subst u3
    generalize f 4 = x4 at *
    subst u4
    replace hP : Rd w cmz cmz w1 := hP
    have R1 : Hid _ := hP
    clear hP f
    have hl1 := R1.out.lt
    have hW := O.W0_below w1 bd
    have hsz := O.W0_size w1 bd
    have hin := O.W0_in w1 bd
    have htk0 := O.W0_tk w1 bd
    have hRW := R1.out.below hW
    have htk := O.take_no 170 #[.pointer (some ⟨w.heap.size, 0, none⟩), .pointer (some ⟨w.heap.size + 1, 0, none⟩), .pointer (some ⟨w.heap.size + 3, 0, none⟩)] bd (O.tx r) 4 (fun W => W.heap[w.heap.size + 3]? = some (.cells cmz 55) ∧ W.heap[w.heap.size + 2]? = some (.cells cmz 55) ∧ Below w.heap.size w W) w1 ent170 (by
      have hin2 := hin
      conv at hin2 => arg 3; rw [HBB.out]
      refine (rdin_no m HM67.out HM256.out r HRL.out (w1.heap.size + 2) w.heap.size (w.heap.size + 1) (w.heap.size + 3) (O.W0 w1 bd) hin2 hRW.m (by omega)).mono ?_
      rintro e W ⟨rfl, hi, hkx⟩
      exact ⟨rfl, hi, htk0.keep (fun k hk => hkx.block k (by omega) (by omega)), (hkx.block (w.heap.size + 3) (by omega) (by omega)).trans hRW.x, (hkx.block (w.heap.size + 2) (by omega) (by omega)).trans hRW.r, hRW.bel.trans ⟨hkx.os, hkx.tape, hkx.output, hkx.size, fun k hk => hkx.block k (by omega) (by omega)⟩⟩)
    clear hW hsz hin htk0 hRW
    go_wp2_with fail
    go_call htk as e w2 ⟨rfl, W, ⟨hx, hr, hbl⟩, hkt⟩
    have hWs : w.heap.size + 4 ≤ W.heap.size := by have := (Array.getElem?_eq_some_iff.1 hx).1; omega
    have X2 : Hid _ := (hkt.block (w.heap.size + 3) (by omega) (by omega) (by omega)).trans hx
    have R2 : Hid _ := (hkt.block (w.heap.size + 2) (by omega) (by omega) (by omega)).trans hr
    have B2 : Hid (Below w.heap.size w w2) := hbl.trans ⟨hkt.os, hkt.tape, hkt.output, hkt.size, fun k hk => hkt.block k (by omega) (by omega) (by omega)⟩
    clear htk hx hr hbl hkt hWs R1 hl1
    go_wp2_with (first | (refine pld rfl _ rfl _ _ (by rfl) rfl X2.out ?_) | (refine pldp _ rfl _ _ (by rfl) rfl X2.out ?_) | (refine cst6 rfl _ _ rfl _ _ (by rfl) rfl rfl (by rfl) R2.out (by simp [cmz, Value.oneCell']) ?c6) | (refine cst6p _ _ rfl _ _ (by rfl) rfl rfl (by rfl) R2.out (by simp [cmz, Value.oneCell']) ?c6))
    intro w6 ho6 hk6
    have B6 : Hid _ := ho6.below B2.out (by omega)
    have R6 : Hid _ := hk6
    clear ho6 hk6
    go_wp2
    refine bodyPost_ret (pret2 Tryz.results150 _ _ (w.heap.size + 2) _ _ (by rfl) rfl R6.out rfl) rfl ⟨rfl, B6.out⟩
  case hputa =>
    repeat (refine ⟨fun f v => rfl, ?_⟩)
    trivial
  case stepa =>
    refine ⟨?_, ?_⟩
    · intro done f W hP hdn hd K hK
      clear hd
      replace hP : Rd w cmz cmz W := hP
      go_simp
      exact hK _ _ rfl hP
    refine ⟨?_, ?_⟩
    · intro done f W hP hdn hd K hK
      have d0 := (hd.1 rfl).2
      have e0 : done 0 = true := (hd.1 rfl).1
      clear hd
      replace d0 : f 0 = .string s := d0
      replace hP : Rd w cmz cmz W := hP
      generalize f 0 = x0 at *
      subst d0
      clear e0
      go_simp
      exact hK _ _ (by first | rfl | (show Value.string _ = _; rw [H2.out]) | (show Value.string _ = _; rw [HS.out, H2.out])) hP
    refine ⟨?_, ?_⟩
    · intro done f W hP hdn hd K hK
      clear hd
      replace hP : Rd w cmz cmz W := hP
      go_simp
      exact hK _ _ rfl hP
    refine ⟨?_, ?_⟩
    · intro done f W hP hdn hd K hK
      have d2 := (hd.1 rfl).2
      have e2 : done 2 = true := (hd.1 rfl).1
      clear hd
      replace d2 : f 2 = .string bd := d2
      replace hP : Rd w cmz cmz W := hP
      generalize f 2 = x2 at *
      subst d2
      clear e2
      go_simp
      refine (HTA.out W).mono ?_
      rintro e W' ⟨rfl, hb⟩
      exact hK _ _ rfl (hP.below hb)
    refine ⟨?_, ?_⟩
    · intro done f W hP hdn hd K hK
      have d1 := (hd.1 rfl).2
      have e1 : done 1 = true := (hd.1 rfl).1
      have d3 := (hd.2.1 rfl).2
      have e3 : done 3 = true := (hd.2.1 rfl).1
      clear hd
      replace d1 : f 1 = .string tl := d1
      replace d3 : f 3 = .string tl := d3
      replace hP : Rd w cmz cmz W := hP
      generalize f 1 = x1 at *
      subst d1
      clear e1
      generalize f 3 = x3 at *
      subst d3
      clear e3
      go_simp
      exact hK _ _ (by first | rfl | (show Value.bool _ = _; simp)) hP
    trivial
end Go.Proofs.YtncfbocbigdhiaaGreat
