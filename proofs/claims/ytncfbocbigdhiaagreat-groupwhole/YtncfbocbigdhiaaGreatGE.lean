/- What is taken of a sector, within Take, as a call. -/
import Derived.Test.YtncfbocbigdhiaaGreatGD
namespace Go.Proofs.YtncfbocbigdhiaaGreat
set_option maxRecDepth 100000
open Go.RowKit
theorem ent151 (args : Array Value) (W : World) : (callFunc 151 args).run Tryz.prog W = .ok (.enter 151 args) W := O.enter_of Tryz.func151 (by kernel_rfl) (by kernel_rfl) args W
theorem ent170 (args : Array Value) (W : World) : (callFunc 170 args).run Tryz.prog W = .ok (.enter 170 args) W := O.enter_of Tryz.func170 (by kernel_rfl) (by kernel_rfl) args W
/-- Two blocks apart nothing that was there was written. -/
structure KX (I X : Nat) (w w' : World) : Prop where
  os : w'.os = w.os
  tape : w'.tape = w.tape
  output : w'.output = w.output
  size : w.heap.size ≤ w'.heap.size
  block : ∀ k, k < w.heap.size → k ≠ I → k ≠ X → w'.heap[k]? = w.heap[k]?
theorem KX.ofKI {I X : Nat} {w w' : World} (h : O.KI I w w') : KX I X w w' := ⟨h.os, h.tape, h.output, h.size, fun k a b _ => h.block k a b⟩
theorem KX.off {I X : Nat} {w W W' : World} (h : KX I X w W) (ho : Off X W W') : KX I X w W' :=
  ⟨ho.os.trans h.os, ho.tape.trans h.tape, ho.output.trans h.output, Nat.le_trans h.size ho.size, fun k a b c => (ho.block k c).trans (h.block k a b c)⟩
/-- Phases of the first statement. -/
structure RdPh (I : Nat) (w : World) (r : List UInt8) (done : Nat → Bool) (W : World) : Prop where
  k : O.KI I w W
  a : done 1 = false → O.InIs W I (O.tx (O.numB 67 1 ++ r)) 0
  b : done 1 = true → O.InIs W I (O.tx r) 0
theorem RdPh.pure {I : Nat} {w : World} {r : List UInt8} {done : Nat → Bool} {W : World} (h : RdPh I w r done W) (k : Nat) (hk : k ≠ 1) : RdPh I w r (O.updB done k) W := by
  have e : O.updB done k 1 = done 1 := if_neg (Ne.symm hk)
  exact ⟨h.k, by rw [e]; exact h.a, by rw [e]; exact h.b⟩
def RdV (I : Nat) : Nat → Value → Prop
  | 0, v => v = .pointer (some ⟨I, 0, none⟩)
  | 1, v => v = .int .u64 67
  | 2, v => v = .int .u64 67
  | 3, v => v = .bool false
  | _, _ => True
set_option maxHeartbeats 2000000 in
set_option maxRecDepth 100000 in
theorem rdin_ok (p : Cm) (hp : p.Ok) (I M F1 X : Nat) (z : Nat) (cx : Array Value) (hcx : cx.size = 6) (w : World) (hz : z ≤ 900) (h : O.InIs w I (O.tx (O.numB 67 1 ++ (p.fl ++ List.replicate z 0))) 0)
    (hM : w.heap[M]? = some (.cells #[.int .u64 67] 42)) (hF : w.heap[F1]? = some (.cells #[.func (.func 151) #[] #[]] 195)) (hX : w.heap[X]? = some (.cells cx 55)) (nM : M ≠ I) (nF : F1 ≠ I) (nX : X ≠ I) :
    Calls Tryz.prog 170 #[.pointer (some ⟨I, 0, none⟩), .pointer (some ⟨M, 0, none⟩), .pointer (some ⟨F1, 0, none⟩), .pointer (some ⟨X, 0, none⟩)] w fun e w' => e = .returned (.tuple #[]) ∧ O.InIs w' I ⟨#[]⟩ 0 ∧ w'.heap[X]? = some (.cells p.cs 55) ∧ KX I X w w' := by
  have hpl : p.fl.length ≤ 51 := by rw [Cm.fl_length]; decide
  have HI : Hid _ := h
  have HM : Hid _ := hM
  have HF : Hid _ := hF
  have HX : Hid _ := hX
  have HP : Hid _ := hp
  have HCX : Hid _ := hcx
  have HLN : Hid ((p.fl ++ List.replicate z 0).length ≤ 951) := by show _ ≤ _; simp; omega
  have HNX : Hid _ := nX
  have HNM : Hid _ := nM
  have HNF : Hid _ := nF
  have lX : X < w.heap.size := (Array.getElem?_eq_some_iff.1 hX).1
  have HLX : Hid _ := lX
  have lM : M < w.heap.size := (Array.getElem?_eq_some_iff.1 hM).1
  have HLM : Hid _ := lM
  have lF : F1 < w.heap.size := (Array.getElem?_eq_some_iff.1 hF).1
  have HLF : Hid _ := lF
  clear h hM hF hX hp hcx hpl nX nM nF lX lM lF
  go_enter Tryz.func170, Tryz.ntmps170
  go_wp2
  refine O.wp_region_ph (fun f => ⟨#[.pointer (some ⟨I, 0, none⟩), .pointer (some ⟨M, 0, none⟩), .pointer (some ⟨F1, 0, none⟩), .pointer (some ⟨X, 0, none⟩), undef, undef, f 0, f 1, f 2, f 3, undef, undef, undef, undef, undef, undef, undef, undef], []⟩) (RdV I) (fun done _ W => RdPh I w (p.fl ++ List.replicate z 0) done W) (fun i => [undef, undef, undef, undef].getD i undef) (by kernel_rfl) rfl rfl ?hIa ?hputa ?stepa ?fina
  case hIa => exact ⟨O.KI.ofBelow (Below.refl _ _).drew, fun _ => HI.out.below (Below.refl _ _).drew, (fun e => by cases e)⟩
  case fina =>
    intro f w1 hP hV
    replace hP : RdPh I w (p.fl ++ List.replicate z 0) (fun i => decide (i < 4)) w1 := hP
    have u0 : f 0 = .pointer (some ⟨I, 0, none⟩) := hV 0 (by decide)
    have u1 : f 1 = .int .u64 67 := hV 1 (by decide)
    have u2 : f 2 = .int .u64 67 := hV 2 (by decide)
    have u3 : f 3 = .bool false := hV 3 (by decide)
    clear hV
    generalize f 0 = x0 at *
    subst u0
    generalize f 1 = x1 at *
    subst u1
    generalize f 2 = x2 at *
    subst u2
    generalize f 3 = x3 at *
    subst u3
    have I1 : Hid _ := hP.b rfl
    have K1 : Hid _ := hP.k
    have qf := F.cell_of ((hP.k.block F1 HLF.out HNF.out).trans HF.out) 0
    simp at qf
    clear hP f
    have hq := ent151
    go_wp2_with fail
    go_call (tocm_ok p HP.out I (List.replicate z 0) w1 (by simp; omega) I1.out) as e w2 ⟨rfl, i2, k2⟩
    have hb3 : Below w2.heap.size w2 (w2.alloc (.cells #[.int .u64 0, .int .u64 0, .int .u64 0, .int .i64 0, .int .i64 0, .int .u32 0] 55)) := Below.alloc (Below.refl _ _) (Nat.le_refl _) _
    have hIl : I < w2.heap.size := i2.lt
    have HIL : Hid _ := hIl
    have I3 : Hid _ := i2.below hb3
    have K3 : Hid _ := (K1.out.trans k2).trans (O.KI.ofBelow hb3)
    have B3 : Hid ((w2.alloc (.cells #[.int .u64 0, .int .u64 0, .int .u64 0, .int .i64 0, .int .i64 0, .int .u32 0] 55)).heap[w2.heap.size]? = _) := F.heap_new _ _
    have HS2 : Hid (w.heap.size ≤ w2.heap.size) := Nat.le_trans K1.out.size k2.size
    clear i2 k2 hb3 hIl I1 K1 qf hq
    go_wp2_with (first | (refine cst6 rfl _ _ rfl _ _ (Cm.cs_size _) rfl rfl (by decide) B3.out (Cm.cs_one _) ?c3) | (refine cst6p _ _ rfl _ _ (Cm.cs_size _) rfl rfl (by decide) B3.out (Cm.cs_one _) ?c3))
    intro w4 ho4 hk4
    have I4 : Hid _ := InIs.off I3.out ho4 (by have := HIL.out; omega)
    have K4 : Hid _ := KI.off K3.out ho4 HS2.out
    have B4 : Hid _ := hk4
    have hz := O.zero_any I (O.tx (List.replicate z 0)) (by rw [tx_size]; simp; omega) w4 I4.out
    clear ho4 hk4 I3 K3 B3
    go_wp2_with fail
    go_call hz as e w5 ⟨hyes, hno, hk5⟩
    obtain ⟨rfl, i5⟩ := hyes (O.zeros_rep z)
    have I5 : Hid _ := i5
    have K5 : Hid _ := K4.out.trans hk5
    have B5 : Hid _ := (hk5.block _ (Array.getElem?_eq_some_iff.1 B4.out).1 (by have := HIL.out; omega)).trans B4.out
    have X5 : Hid _ := (K5.out.block X HLX.out HNX.out).trans HX.out
    clear hyes hno hk5 i5 hz I4 K4 B4
    go_wp2_with (first | (refine pld rfl _ rfl _ _ (Cm.cs_size _) rfl B5.out ?_) | (refine pldp _ rfl _ _ (Cm.cs_size _) rfl B5.out ?_) | (refine cst6 rfl _ _ rfl _ _ (Cm.cs_size _) rfl rfl HCX.out X5.out (Cm.cs_one _) ?c6) | (refine cst6p _ _ rfl _ _ (Cm.cs_size _) rfl rfl HCX.out X5.out (Cm.cs_one _) ?c6))
    intro w6 ho6 hk6
    have I6 : Hid _ := InIs.off I5.out ho6 (Ne.symm HNX.out)
    have K6 : Hid _ := (KX.ofKI K5.out).off ho6
    have X6 : Hid _ := hk6
    clear ho6 hk6
    go_wp2
    go_returns
    exact ⟨rfl, I6.out, X6.out, K6.out⟩
  case hputa =>
    repeat (refine ⟨fun f v => rfl, ?_⟩)
    trivial
  case stepa =>
    refine ⟨?_, ?_⟩
    · intro done f W hP hdn hd K hK
      clear hd
      replace hP : RdPh I w (p.fl ++ List.replicate z 0) done W := hP
      go_simp
      exact hK _ _ rfl (hP.pure _ (by decide))
    refine ⟨?_, ?_⟩
    · intro done f W hP hdn hd K hK
      have d0 := (hd.1 rfl).2
      have e0 : done 0 = true := (hd.1 rfl).1
      clear hd
      replace d0 : f 0 = .pointer (some ⟨I, 0, none⟩) := d0
      replace hP : RdPh I w (p.fl ++ List.replicate z 0) done W := hP
      generalize f 0 = x0 at *
      subst d0
      clear e0
      have hdn1 : done 1 = false := hdn
      go_simp
      refine (num_step I 67 1 _ W (by decide) (by decide) (by have := HLN.out; omega) (hP.a hdn1)).mono ?_
      rintro e W' ⟨rfl, h1, h2⟩
      exact hK _ _ rfl ⟨hP.k.trans h2, (fun e => by cases e), fun _ => h1⟩
    refine ⟨?_, ?_⟩
    · intro done f W hP hdn hd K hK
      clear hd
      replace hP : RdPh I w (p.fl ++ List.replicate z 0) done W := hP
      have kb := (hP.k.block M HLM.out HNM.out).trans HM.out
      have qc := F.cell_of kb 0
      simp at qc
      go_simp
      exact hK _ _ rfl (hP.pure _ (by decide))
    refine ⟨?_, ?_⟩
    · intro done f W hP hdn hd K hK
      have d1 := (hd.1 rfl).2
      have e1 : done 1 = true := (hd.1 rfl).1
      have d2 := (hd.2.1 rfl).2
      have e2 : done 2 = true := (hd.2.1 rfl).1
      clear hd
      replace d1 : f 1 = .int .u64 67 := d1
      replace d2 : f 2 = .int .u64 67 := d2
      replace hP : RdPh I w (p.fl ++ List.replicate z 0) done W := hP
      generalize f 1 = x1 at *
      subst d1
      clear e1
      generalize f 2 = x2 at *
      subst d2
      clear e2
      go_simp
      exact hK _ _ rfl (hP.pure _ (by decide))
    trivial
end Go.Proofs.YtncfbocbigdhiaaGreat
