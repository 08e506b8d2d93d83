/- Put of a table, as a call: of any table in memory whose places hold the list's entries. -/
import Derived.Test.YtcgmngafodmfcaaDoorG
import Derived.Test.YtcgmngafodmfcaaDoorK
namespace Go.Proofs.YtcgmngafodmfcaaDoor
open Go.RowKit
theorem SPh.step {i j : Nat} {A B : World → Prop} {done : Nat → Bool} {f g : Nat → Value} {W W' : World} (h : SPh i A B done f W) (hj : j < i) (hd : done j = false) (hA : A W → A W') : SPh i A B (O.updB done j) g W' := by
  have h0 := h.no hj hd
  have h1 : O.updB done j i = false := by unfold O.updB; rw [if_neg (by omega)]; exact h0
  exact ⟨fun _ => hA (h.a h0), (fun e => by rw [h1] at e; cases e), (fun e => by rw [h1] at e; cases e)⟩
theorem clone_any (s : ByteArray) (w : World) (hlim : s.size ≤ 281474976710656) : Calls Tryd.prog 23 #[.string s] w fun e w' => e = .returned (.string s) ∧ Below w.heap.size w w' := by
  have hc := Tryd.clone s w hlim
  go_enter Tryd.func23, Tryd.ntmps23
  go_wp2_with fail
  go_call hc as e w1 ⟨rfl, hb⟩
  have HB : Hid _ := hb
  clear hc hb
  go_wp2
  go_returns
  exact ⟨rfl, HB.out⟩
section
variable {w : World} {tb pb sd n cnt : Nat} {L : Nat → Option Ent}
theorem tm_over (h : Tm w tb pb sd n cnt L) {a : Nat} (ha : a < n) {k : ByteArray} {v0 : Int} (e : L a = some (k, v0)) (v : Int) : Tm (w.setCell ⟨pb, a * 3 + 2, none⟩ (.int .i64 v)) tb pb sd n cnt (up L a (some (k, v))) ∧ Kp tb pb w (w.setCell ⟨pb, a * 3 + 2, none⟩ (.int .i64 v)) := by
  obtain ⟨C, h1, h2⟩ := h.p
  have ho := (Off.refl pb pb w).set (a := ⟨pb, a * 3 + 2, none⟩) (Or.inl rfl) (.int .i64 v)
  refine ⟨h.up ho ⟨_, block_set h1 _, by simpa using h2.sz, fun j hj i x hk => ?_⟩ (fun p hp => by cases hp; exact h.kz a ha (k, v0) e), ⟨ho.os, ho.tape, ho.output, ho.size, fun k _ _ b => ho.block k b b⟩⟩
  have hi3 : i < 3 := by
    have := (List.getElem?_eq_some_iff.1 hk).1
    rwa [pl_len] at this
  have hs := h2.sz
  by_cases e1 : j = a
  · subst e1
    have h3 := h2.at' j ha
    rw [e] at h3
    rw [up_at] at hk
    match i, hi3 with
    | 0, _ => rw [Array.getElem?_setIfInBounds, if_neg (by omega)]; exact h3 0 x hk
    | 1, _ => rw [Array.getElem?_setIfInBounds, if_neg (by omega)]; exact h3 1 x hk
    | 2, _ =>
      rw [Array.getElem?_setIfInBounds, if_pos rfl, if_pos (by omega)]
      simpa [pl] using hk
  · rw [up_ne _ _ e1] at hk
    rw [Array.getElem?_setIfInBounds, if_neg (by omega)]
    exact h2.at' j hj i x hk
def PV (tb pb2 n2 a2 : Nat) (k : ByteArray) (vv : Int) : Nat → Value → Prop
  | 0, v => v = .pointer (some ⟨tb, 0, none⟩)
  | 1, v => v = .pointer (some ⟨tb, 0, none⟩)
  | 2, v => v = .pointer (some ⟨tb, 1, none⟩)
  | 3, v => v = .slice (some ⟨pb2, 0, none⟩) n2 n2
  | 4, v => v = .int .i64 (a2 : Nat)
  | 5, v => v = .string k
  | 6, v => v = .string k
  | 7, v => v = .int .i64 vv
  | 8, v => v = .agg #[.bool true, .string k, .int .i64 vv]
  | 9, v => v = .pointer (some ⟨pb2, a2 * 3, none⟩)
  | _, _ => True
set_option maxHeartbeats 2000000 in
theorem put_any {E : List Ent} (h : Tb w tb pb E) (k : ByteArray) (hk : k.size ≤ 4096) (v : Int) (hN : E.length ≤ 1500) :
    Calls Tryd.prog 14 #[.pointer (some ⟨tb, 0, none⟩), .string k, .int .i64 v] w fun e w' => e = .returned (.bool (lk E k).isSome) ∧ ∃ pb', Tb w' tb pb' ((k, v) :: wo E k) ∧ Kp tb pb w w' ∧ (pb' = pb ∨ w.heap.size ≤ pb') := by
  have hkey := h.keys
  obtain ⟨sd, n, L, hT, hG, hE, hq⟩ := h.ex
  have n4 := hT.n4
  have nb := hT.nb
  have hlen := hE.length_eq
  have hf := find_any hT (by omega) k hk
  have HK : Hid _ := hkey
  have HT : Hid _ := hT
  have HG : Hid _ := hG
  have HE : Hid _ := hE
  have HLN : Hid ((ents n L).length = E.length) := hlen
  clear h hT hG hE hkey hlen
  go_enter Tryd.func14, Tryd.ntmps14
  go_wp2_with fail
  go_call hf as e w1 ⟨a, s, is, rfl, hF, hb1⟩
  have HF : Hid _ := hF
  have HB1 : Hid _ := hb1
  have han := hF.f.lt
  clear hf hF hb1
  cases hL : L a with
  | some p0 =>
    have his : is = true := by rw [HF.out.tk, hL]; rfl
    subst his
    obtain ⟨k0, v0⟩ := p0
    obtain rfl : k0 = k := HF.out.ky _ hL
    have hin : (k0, v0) ∈ E := HE.out.mem_iff.1 (mem_ents.2 ⟨a, han, hL⟩)
    have HL1 : Hid _ := lk_some HK.out hin
    have HL : Hid (L a = some (k0, v0)) := hL
    have hT1 := HT.out.below HB1.out
    obtain ⟨-, t1, -⟩ := hT1.tc
    obtain ⟨-, -, c2⟩ := hT1.lits han
    have fz : w1.frozen? ⟨pb, a * 3 + 2, none⟩ = false := by
      obtain ⟨C, h1, _⟩ := hT1.p
      exact frz_of h1 _
    have HOV : Hid _ := tm_over hT1 han hL v
    clear hin hL hT1
    go_wp2
    go_returns
    obtain ⟨g1, g2, g3⟩ := HG.out.over han HL.out v
    have h5 := wo_cons HK.out (HE.out.symm.trans g3)
    refine ⟨by rw [HL1.out]; rfl, pb, ⟨sd, n, _, ?_, g1, g2.trans (h5.symm.cons _), ?_⟩, ?_, Or.inl rfl⟩
    · have h6 := h5.length_eq
      have h7 := g3.length_eq
      rw [List.length_cons] at h7 ⊢
      rw [show (wo E k0).length + 1 = E.length by have := HLN.out; omega]
      exact HOV.out.1
    · have h6 := h5.length_eq
      have h7 := g3.length_eq
      have := HLN.out
      rw [List.length_cons] at h7 ⊢
      omega
    · exact (Kp.ofBelow HB1.out (Nat.le_refl _) : Kp tb pb w w1).trans HOV.out.2 (Or.inl rfl)
  | none =>
    have his : is = false := by rw [HF.out.tk, hL]; rfl
    subst his
    have hno : ∀ p ∈ E, p.1 ≠ k := fun p hp => HF.out.f.none HG.out hL p (HE.out.mem_iff.2 hp)
    have HNO : Hid _ := hno
    have HL0 : Hid _ := lk_none hno
    have HW0 : Hid _ := wo_same hno
    have hT1 := HT.out.below HB1.out
    obtain ⟨-, t1, c2⟩ := hT1.tc
    have HT1 : Hid _ := hT1
    clear hno hL hT1
    go_wp2_with fail
    rename_i K1 hK1 K2 hK2
    have HR : Hid (∀ (n2 pb2 a2 s2 : Nat) (M : Nat → Option Ent) (x8 x10 x11 x12 x13 x14 x15 x16 x17 x18 x19 x20 x21 x22 x23 x24 x25 x26 x27 x28 x29 x30 x31 x32 x33 x34 x35 x36 x37 x38 x39 x40 x41 x42 x43 x44 x45 x46 x47 x48 x49 x50 x51 x52 x53 : Value) (W : World), Hid (Tm W tb pb2 sd n2 E.length M) → Hid (Good n2 (hm sd n2) M) → Hid ((ents n2 M).Perm E) → E.length + 1 ≤ n2 * 3 / 4 → Hid (Fd n2 sd M k a2 s2 false) → Hid (Kp tb pb w W ∧ (pb2 = pb ∨ w.heap.size ≤ pb2)) → K1 ⟨#[.pointer (some ⟨tb, 0, none⟩), .string k, .int .i64 v, undef, undef, undef, .bool false, .int .i64 (a2 : Nat), x8, .bool false, x10, x11, x12, x13, x14, x15, x16, x17, x18, x19, x20, x21, x22, x23, x24, x25, x26, x27, x28, x29, x30, x31, x32, x33, x34, x35, x36, x37, x38, x39, x40, x41, x42, x43, x44, x45, x46, x47, x48, x49, x50, x51, x52, x53, undef, undef, undef, undef, undef, undef, undef, undef, undef, undef, undef, undef, undef, undef, undef, undef, undef], []⟩ W) := by
      intro n2 pb2 a2 s2 M x8 x10 x11 x12 x13 x14 x15 x16 x17 x18 x19 x20 x21 x22 x23 x24 x25 x26 x27 x28 x29 x30 x31 x32 x33 x34 x35 x36 x37 x38 x39 x40 x41 x42 x43 x44 x45 x46 x47 x48 x49 x50 x51 x52 x53 W HT2 HG2 HE2 hn2 HF2 HK2
      have ha2 : a2 < n2 := HF2.out.f.lt
      have HMa : Hid (M a2 = none) := by
        have := HF2.out.tk
        cases e : M a2 with
        | none => rfl
        | some q => rw [e] at this; cases this
      refine hK1 _ _ ?_
      clear hK1 hK2
      refine wp_seq_k (fun K9 hK9 => ?_)
      refine O.wp_region_pb (fun f => ⟨#[.pointer (some ⟨tb, 0, none⟩), .string k, .int .i64 v, undef, undef, undef, .bool false, .int .i64 (a2 : Nat), x8, .bool false, x10, x11, x12, x13, x14, x15, x16, x17, x18, x19, x20, x21, x22, x23, x24, x25, x26, x27, x28, x29, x30, x31, x32, x33, x34, x35, x36, x37, x38, x39, x40, x41, x42, x43, x44, x45, x46, x47, x48, x49, x50, x51, x52, x53, f 0, f 1, f 2, f 3, f 4, f 5, f 6, f 7, f 8, f 9, undef, undef, undef, undef, undef, undef, undef], []⟩) (PV tb pb2 n2 a2 k v) (SPh 10 (fun W' => Tm W' tb pb2 sd n2 E.length M ∧ Kp tb pb2 W W') (fun W' => Tm W' tb pb2 sd n2 E.length (up M a2 (some (k, v))) ∧ Kp tb pb2 W W')) (fun i => [undef, undef, undef, undef, undef, undef, undef, undef, undef, undef, undef].getD i undef) (by kernel_rfl) rfl rfl ?hIq ?hputq ?stepq ?finq
      case hIq => exact SPh.start ⟨HT2.out.below (Below.refl _ _).drew, Kp.ofBelow (Below.refl _ _).drew (Nat.le_refl _)⟩
      case finq =>
        intro f W' hP hV
        have v0 : f 0 = .pointer (some ⟨tb, 0, none⟩) := hV 0 (by decide)
        have v1 : f 1 = .pointer (some ⟨tb, 0, none⟩) := hV 1 (by decide)
        have v2 : f 2 = .pointer (some ⟨tb, 1, none⟩) := hV 2 (by decide)
        have v3 : f 3 = .slice (some ⟨pb2, 0, none⟩) n2 n2 := hV 3 (by decide)
        have v4 : f 4 = .int .i64 (a2 : Nat) := hV 4 (by decide)
        have v5 : f 5 = .string k := hV 5 (by decide)
        have v6 : f 6 = .string k := hV 6 (by decide)
        have v7 : f 7 = .int .i64 v := hV 7 (by decide)
        have v8 : f 8 = .agg #[.bool true, .string k, .int .i64 v] := hV 8 (by decide)
        have v9 : f 9 = .pointer (some ⟨pb2, a2 * 3, none⟩) := hV 9 (by decide)
        clear hV
        have HB : Hid _ := hP.b rfl
        clear hP
        generalize f 0 = z0 at *
        subst v0
        generalize f 1 = z1 at *
        subst v1
        generalize f 2 = z2 at *
        subst v2
        generalize f 3 = z3 at *
        subst v3
        generalize f 4 = z4 at *
        subst v4
        generalize f 5 = z5 at *
        subst v5
        generalize f 6 = z6 at *
        subst v6
        generalize f 7 = z7 at *
        subst v7
        generalize f 8 = z8 at *
        subst v8
        generalize f 9 = z9 at *
        subst v9
        obtain ⟨-, -, c3⟩ := HB.out.1.tc
        have fz := frz_of HB.out.1.t 2
        obtain ⟨hrc1, hrc2⟩ := HB.out.1.recount (E.length + 1)
        have e1 : ((E.length + 1 : Nat) : Int) = (E.length : Int) + 1 := by omega
        rw [e1] at hrc1 hrc2
        have HRC1 : Hid _ := hrc1
        have HRC2 : Hid _ := hrc2
        clear hrc1 hrc2 e1
        go_wp2
        go_returns
        refine ⟨by rw [HL0.out]; rfl, pb2, ⟨sd, n2, up M a2 (some (k, v)), by rw [HW0.out]; exact HRC1.out, HG2.out.put HF2.out.f HMa.out v, ?_, by rw [HW0.out]; exact hn2⟩, ?_, HK2.out.2⟩
        · rw [HW0.out]
          exact (ents_put M (k, v) ha2 HMa.out).trans (HE2.out.cons _)
        · exact (HK2.out.1.trans HB.out.2 HK2.out.2).trans HRC2.out HK2.out.2
      case hputq =>
        repeat (refine ⟨fun f v => rfl, ?_⟩)
        trivial
      case stepq =>
        refine ⟨?_, ?_⟩
        · intro done f W'' hP hdn hd K hK
          clear hd
          have hdn0 := hdn
          go_simp
          exact hK _ _ rfl (hP.pure (by decide) hdn0)
        refine ⟨?_, ?_⟩
        · intro done f W'' hP hdn hd K hK
          have d0 := (hd.1 rfl).2
          have e0 : done 0 = true := (hd.1 rfl).1
          clear hd
          replace d0 : f 0 = .pointer (some ⟨tb, 0, none⟩) := d0
          have hdn0 := hdn
          generalize f 0 = x0 at *
          subst d0
          clear e0
          go_simp
          exact hK _ _ rfl (hP.pure (by decide) hdn0)
        refine ⟨?_, ?_⟩
        · intro done f W'' hP hdn hd K hK
          have d1 := (hd.1 rfl).2
          have e1 : done 1 = true := (hd.1 rfl).1
          clear hd
          replace d1 : f 1 = .pointer (some ⟨tb, 0, none⟩) := d1
          have hdn0 := hdn
          generalize f 1 = x1 at *
          subst d1
          clear e1
          go_simp
          exact hK _ _ rfl (hP.pure (by decide) hdn0)
        refine ⟨?_, ?_⟩
        · intro done f W'' hP hdn hd K hK
          have d2 := (hd.1 rfl).2
          have e2 : done 2 = true := (hd.1 rfl).1
          clear hd
          replace d2 : f 2 = .pointer (some ⟨tb, 1, none⟩) := d2
          have hdn0 := hdn
          generalize f 2 = x2 at *
          subst d2
          clear e2
          have hno := hP.no (j := 3) (by decide) hdn0
          obtain ⟨-, q, -⟩ := (hP.a hno).1.tc
          go_simp
          exact hK _ _ rfl (hP.pure (by decide) hdn0)
        refine ⟨?_, ?_⟩
        · intro done f W'' hP hdn hd K hK
          clear hd
          have hdn0 := hdn
          go_simp
          exact hK _ _ rfl (hP.pure (by decide) hdn0)
        refine ⟨?_, ?_⟩
        · intro done f W'' hP hdn hd K hK
          clear hd
          have hdn0 := hdn
          go_simp
          exact hK _ _ rfl (hP.pure (by decide) hdn0)
        refine ⟨?_, ?_⟩
        · intro done f W'' hP hdn hd K hK
          have d5 := (hd.1 rfl).2
          have e5 : done 5 = true := (hd.1 rfl).1
          clear hd
          replace d5 : f 5 = .string k := d5
          have hdn0 := hdn
          generalize f 5 = x5 at *
          subst d5
          clear e5
          go_simp
          refine Calls.mono (clone_any k W'' (by omega)) ?_
          rintro e W' ⟨rfl, hb⟩
          exact hK _ _ rfl (hP.step (by decide) hdn0 (fun h => ⟨h.1.below hb, h.2.thenBelow hb (Nat.le_refl _)⟩))
        refine ⟨?_, ?_⟩
        · intro done f W'' hP hdn hd K hK
          clear hd
          have hdn0 := hdn
          go_simp
          exact hK _ _ rfl (hP.pure (by decide) hdn0)
        refine ⟨?_, ?_⟩
        · intro done f W'' hP hdn hd K hK
          have d6 := (hd.1 rfl).2
          have e6 : done 6 = true := (hd.1 rfl).1
          have d7 := (hd.2.1 rfl).2
          have e7 : done 7 = true := (hd.2.1 rfl).1
          clear hd
          replace d6 : f 6 = .string k := d6
          replace d7 : f 7 = .int .i64 v := d7
          have hdn0 := hdn
          generalize f 6 = x6 at *
          subst d6
          clear e6
          generalize f 7 = x7 at *
          subst d7
          clear e7
          go_simp
          exact hK _ _ rfl (hP.pure (by decide) hdn0)
        refine ⟨?_, ?_⟩
        · intro done f W'' hP hdn hd K hK
          have d3 := (hd.1 rfl).2
          have e3 : done 3 = true := (hd.1 rfl).1
          have d4 := (hd.2.1 rfl).2
          have e4 : done 4 = true := (hd.2.1 rfl).1
          clear hd
          replace d3 : f 3 = .slice (some ⟨pb2, 0, none⟩) n2 n2 := d3
          replace d4 : f 4 = .int .i64 (a2 : Nat) := d4
          have hdn0 := hdn
          generalize f 3 = x3 at *
          subst d3
          clear e3
          generalize f 4 = x4 at *
          subst d4
          clear e4
          have q := ha2
          go_simp
          exact hK _ _ rfl (hP.pure (by decide) hdn0)
        refine ⟨?_, ?_⟩
        · intro done f W'' hP hdn hd K hK
          have d9 := (hd.1 rfl).2
          have e9 : done 9 = true := (hd.1 rfl).1
          have d8 := (hd.2.1 rfl).2
          have e8 : done 8 = true := (hd.2.1 rfl).1
          have e6 : done 6 = true := (hd.2.2.1 rfl).1
          have e0 : done 0 = true := (hd.2.2.2.1 rfl).1
          have e1 : done 1 = true := (hd.2.2.2.2.1 rfl).1
          have e2 : done 2 = true := (hd.2.2.2.2.2.1 rfl).1
          have e3 : done 3 = true := (hd.2.2.2.2.2.2.1 rfl).1
          have e4 : done 4 = true := (hd.2.2.2.2.2.2.2.1 rfl).1
          have e5 : done 5 = true := (hd.2.2.2.2.2.2.2.2.1 rfl).1
          have e7 : done 7 = true := (hd.2.2.2.2.2.2.2.2.2.2.1 rfl).1
          clear hd
          replace d9 : f 9 = .pointer (some ⟨pb2, a2 * 3, none⟩) := d9
          replace d8 : f 8 = .agg #[.bool true, .string k, .int .i64 v] := d8
          have hdn0 := hdn
          generalize f 9 = x9 at *
          subst d9
          generalize f 8 = x8 at *
          subst d8
          -- e8 e9
          obtain ⟨C, h1, h2⟩ := (hP.a hdn0).1.here
          have HA0 : Hid _ := hP.a hdn0
          refine go_if_pos rfl ?_
          refine st55 _ _ rfl h1 h2 ha2 (some (k, v)) rfl rfl fun W2 ho hC => hK _ _ trivial (SPh.last ?_ ⟨HA0.out.1.up ho hC (fun q e => by cases e; exact hk), HA0.out.2.trans (Kp.ofOff ⟨ho.os, ho.tape, ho.output, ho.size, fun k _ h2 => ho.block k h2 h2⟩) (Or.inl rfl)⟩)
          intro j hj
          have : j = 0 ∨ j = 1 ∨ j = 2 ∨ j = 3 ∨ j = 4 ∨ j = 5 ∨ j = 6 ∨ j = 7 ∨ j = 8 ∨ j = 9 := by omega
          rcases this with rfl | rfl | rfl | rfl | rfl | rfl | rfl | rfl | rfl | rfl
          · exact e0
          · exact e1
          · exact e2
          · exact e3
          · exact e4
          · exact e5
          · exact e6
          · exact e7
          · exact e8
          · exact e9
        trivial
    clear hK1
    go_quiet (fail)
    obtain ⟨W3, hW3⟩ : ∃ W, W = w1.drewN nq := ⟨_, rfl⟩
    rw [← hW3]
    have hbd : Below w1.heap.size w1 W3 := by rw [hW3]; exact ⟨rfl, rfl, rfl, Nat.le_refl _, fun _ _ => rfl⟩
    have HT3 : Hid _ := HT1.out.below hbd
    have HK3 : Hid (Kp tb pb w W3) := (Kp.ofBelow HB1.out (Nat.le_refl _) : Kp tb pb w w1).thenBelow hbd (Nat.le_refl _)
    clear hbd hW3 t1 c2
    obtain ⟨-, t3, -⟩ := HT3.out.tc
    by_cases hgr : (n : Int) * 3 / 4 < (E.length : Int) + 1
    · have hln := HLN.out
      have hrz := resize_any HT3.out HG.out (n * 2) (by omega) (by omega) (by omega)
      rw [show ((n * 2 : Nat) : Int) = (n : Int) * 2 by omega] at hrz
      clear hln
      go_wp2_with fail
      go_call hrz as e w4 ⟨rfl, pb', M, hT4, hG4, hE4, hK4, hp4⟩
      have hf2 := find_any hT4 (by rw [hE4.length_eq, HLN.out]; omega) k hk
      have HT4 : Hid _ := hT4
      have HG4 : Hid _ := hG4
      have HE4 : Hid _ := hE4
      have HK4 : Hid (Kp tb pb' W3 w4 ∧ W3.heap.size ≤ pb') := ⟨hK4, hp4⟩
      clear hrz hT4 hG4 hE4 hK4 hp4
      go_wp2_with fail
      go_call hf2 as e w5 ⟨a2, s2, is2, rfl, hF2, hb5⟩
      have his2 : is2 = false := by
        rw [hF2.tk]
        cases e : M a2 with
        | none => rfl
        | some q => exact absurd (hF2.ky q e) (HNO.out q (HE.out.mem_iff.1 (HE4.out.mem_iff.1 (mem_ents.2 ⟨a2, hF2.f.lt, e⟩))))
      subst his2
      have HF2 : Hid _ := hF2
      have HB5 : Hid _ := hb5
      clear hf2 hF2 hb5
      go_wp2
      have hle : w.heap.size ≤ pb' := Nat.le_trans HK3.out.size HK4.out.2
      exact HR.out (n * 2) pb' a2 s2 M _ _ _ _ _ _ _ _ _ _ _ _ _ _ _ _ _ _ _ _ _ _ _ _ _ _ _ _ _ _ _ _ _ _ _ _ _ _ _ _ _ _ _ _ _ w5 (HT4.out.below HB5.out) HG4.out (HE4.out.trans HE.out) (by have := HLN.out; omega) HF2.out ⟨(HK3.out.trans HK4.out.1 (Or.inr hle)).thenBelow HB5.out (Nat.le_refl _), Or.inr hle⟩
    · go_wp2
      exact HR.out n pb a s L _ _ _ _ _ _ _ _ _ _ _ _ _ _ _ _ _ _ _ _ _ _ _ _ _ _ _ _ _ _ _ _ _ _ _ _ _ _ _ _ _ _ _ _ _ W3 HT3.out HG.out HE.out (by have := HLN.out; omega) HF.out ⟨HK3.out, Or.inl rfl⟩
end
end Go.Proofs.YtcgmngafodmfcaaDoor
