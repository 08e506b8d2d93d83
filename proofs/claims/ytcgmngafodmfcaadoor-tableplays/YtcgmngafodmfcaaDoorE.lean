/- A place is let go: those behind it move up, as a call. -/
import Derived.Test.YtcgmngafodmfcaaDoorD
namespace Go.Proofs.YtcgmngafodmfcaaDoor
open Go.RowKit
theorem wy_mod {n a b : Nat} (ha : a < n) (hb : b < n) : (b + n - a) % n = wy n a b := by
  unfold wy
  split
  · rw [show b + n - a = (b - a) + n by omega, Nat.add_mod_right, Nat.mod_eq_of_lt (by omega)]
  · exact Nat.mod_eq_of_lt (by omega)
theorem up_up {K V : Type} (L : Nat → Option (K × V)) (i : Nat) (x y : Option (K × V)) : up (up L i x) i y = up L i y := by
  funext j
  unfold up
  split <;> rfl
theorem up_self {K V : Type} (L : Nat → Option (K × V)) (i : Nat) : up L i (L i) = L := by
  funext j
  unfold up
  split
  · rename_i h; rw [h]
  · rfl
/-- What one store did, when it was done last. -/
structure SPh (i : Nat) (A B : World → Prop) (done : Nat → Bool) (f : Nat → Value) (W : World) : Prop where
  a : done i = false → A W
  b : done i = true → B W
  c : done i = true → ∀ j, j < i → done j = true
theorem SPh.start {i : Nat} {A B : World → Prop} {W : World} {f : Nat → Value} (h : A W) : SPh i A B (fun _ => false) f W := ⟨fun _ => h, (fun e => by cases e), (fun e => by cases e)⟩
theorem SPh.no {i j : Nat} {A B : World → Prop} {done : Nat → Bool} {f : Nat → Value} {W : World} (h : SPh i A B done f W) (hj : j < i) (hd : done j = false) : done i = false := by
  cases e : done i with
  | false => rfl
  | true => exact absurd (h.c e j hj) (by rw [hd]; decide)
theorem SPh.pure {i j : Nat} {A B : World → Prop} {done : Nat → Bool} {f g : Nat → Value} {W : World} (h : SPh i A B done f W) (hj : j < i) (hd : done j = false) : SPh i A B (O.updB done j) g W := by
  have h0 := h.no hj hd
  have h1 : O.updB done j i = false := by unfold O.updB; rw [if_neg (by omega)]; exact h0
  exact ⟨fun _ => h.a h0, (fun e => by rw [h1] at e; cases e), (fun e => by rw [h1] at e; cases e)⟩
theorem SPh.last {i : Nat} {A B : World → Prop} {done : Nat → Bool} {g : Nat → Value} {W : World} (hd : ∀ j, j < i → done j = true) (h : B W) : SPh i A B (O.updB done i) g W := by
  have h1 : O.updB done i i = true := by unfold O.updB; rw [if_pos rfl]
  exact ⟨(fun e => by rw [h1] at e; cases e), fun _ => h, (fun _ j hj => by unfold O.updB; rw [if_neg (by omega)]; exact hd j hj)⟩
def EV (tb pb n a g : Nat) (p : Ent) : Nat → Value → Prop
  | 0, v => v = .pointer (some ⟨tb, 0, none⟩)
  | 1, v => v = .pointer (some ⟨tb, 0, none⟩)
  | 2, v => v = .pointer (some ⟨tb, 1, none⟩)
  | 3, v => v = .slice (some ⟨pb, 0, none⟩) n n
  | 4, v => v = .int .i64 (g : Int)
  | 5, v => v = .pointer (some ⟨tb, 0, none⟩)
  | 6, v => v = .pointer (some ⟨tb, 0, none⟩)
  | 7, v => v = .pointer (some ⟨tb, 1, none⟩)
  | 8, v => v = .slice (some ⟨pb, 0, none⟩) n n
  | 9, v => v = .int .i64 (a : Int)
  | 10, v => v = .pointer (some ⟨pb, a * 3, none⟩)
  | 11, v => v = .agg #[.bool true, .string p.1, .int .i64 p.2]
  | 12, v => v = .pointer (some ⟨pb, g * 3, none⟩)
  | _, _ => True
theorem go_if_pos {c : Prop} [Decidable c] {a b : Prop} (h : c) (k : a) : (if c then a else b) := by rw [if_pos h]; exact k
section
variable {w : World} {tb pb sd n cnt : Nat} {L : Nat → Option Ent}
theorem Tm.here (h : Tm w tb pb sd n cnt L) : ∃ C, w.heap[pb]? = some (.cells C 55) ∧ Row C n L := h.p
set_option maxHeartbeats 2000000 in
theorem empty_any (h : Tm w tb pb sd n cnt L) (hg : Good n (hm sd n) L) (hl : (ents n L).length < n) (g0 : Nat) (hg0 : g0 < n) (p0 : Ent) (hp0 : L g0 = some p0) :
    Calls Tryd.prog 21 #[.pointer (some ⟨tb, 0, none⟩), .int .i64 (g0 : Nat)] w fun e w' => e = .returned (.tuple #[]) ∧ ∃ L', Tm w' tb pb sd n cnt L' ∧ Good n (hm sd n) L' ∧ (ents n L').Perm (ents n (up L g0 none)) ∧ Kp tb pb w w' := by
  obtain ⟨e, hG⟩ := Gap.start hg hg0 hp0 hl
  have HT : Hid (Tm w tb pb sd n cnt L) := h
  have n4 := h.n4
  have nb := h.nb
  have hn := next_any h g0 hg0
  have HG : Hid (Gap n (hm sd n) (up L g0 none) e g0 (nx n g0)) := hG
  have HU : Hid (((ents n L).map Prod.fst).Nodup) := hg.uniq
  have HP0 : Hid (L g0 = some p0) := hp0
  clear h hg hl hG hp0
  go_enter Tryd.func21, Tryd.ntmps21
  go_wp2_with fail
  go_call hn as e w1 ⟨rfl, rfl⟩
  clear hn
  go_wp2
  rename_i K hK
  have HK : Hid _ := hK
  clear hK
  go_loopw [1, 4] (fun x y wr => ∃ (g a : Nat) (M : Nat → Option Ent), x = .int .i64 (g : Nat) ∧ y = .int .i64 (a : Nat) ∧ Hid (Tm wr tb pb sd n cnt M) ∧ Hid (Gap n (hm sd n) (up M g none) e g a) ∧ Hid (M g ≠ none) ∧ Hid ((ents n (up M g none)).Perm (ents n (up L g0 none))) ∧ Hid (Kp tb pb w1 wr)) (fun _ y _ => wy n (intOf y).toNat e)
  case atStart => exact ⟨g0, _, L, rfl, rfl, HT, HG, by show L g0 ≠ none; rw [HP0.out]; simp, List.Perm.refl _, Kp.refl _ _ _⟩
  case round =>
    obtain ⟨g, a, M, rfl, rfl, hT, hG, hM, hE, hKp⟩ := hrel
    have han : a < n := hG.out.an
    have hgn : g < n := hG.out.gn
    obtain ⟨-, t1, -⟩ := hT.out.tc
    obtain ⟨c0, c1, -⟩ := hT.out.lits han
    have hn := next_any hT.out a han
    have HA : Hid (up M g none a = M a) := up_ne _ _ hG.out.ne
    clear HT HG
    cases hL : M a with
    | none =>
      rw [hL] at c0 c1
      simp only [Option.isSome_none] at c0
      clear c1
      go_wp2
      refine HK.out _ _ ?_
      clear HK
      obtain ⟨C, h1, h2⟩ := hT.out.here
      have t1 := t1
      go_wp2_with (refine st55l rfl _ _ rfl h1 h2 hgn none rfl rfl ?k1)
      intro W' ho C' h3 h4
      have hC : ∃ C', W'.heap[pb]? = some (.cells C' 55) ∧ Row C' n (up M g none) := ⟨C', h3, h4⟩
      clear h3 h4
      have HTm : Hid (Tm W' tb pb sd n cnt (up M g none)) := hT.out.up ho hC (fun p e => by cases e)
      have HKp : Hid (Kp tb pb w1 W') := hKp.out.trans (Kp.ofOff ⟨ho.os, ho.tape, ho.output, ho.size, fun k _ h2 => ho.block k h2 h2⟩) (Or.inl rfl)
      have HGd : Hid (Good n (hm sd n) (up M g none)) := ⟨hG.out.hlt, hG.out.done (by rw [HA.out]; exact hL), by
        have h3 := ((hE.out.map Prod.fst).nodup_iff).2
        refine h3 ?_
        have h4 := (((ents_take L hg0 HP0.out).map Prod.fst).nodup_iff).1 HU.out
        rw [List.map_cons, List.nodup_cons] at h4
        exact h4.2⟩
      clear ho hC h1 h2 hL c0 t1
      go_wp2
      go_returns
      exact ⟨rfl, _, HTm.out, HGd.out, hE.out, HKp.out⟩
    | some p =>
      rw [hL] at c0 c1
      simp only [Option.isSome_some] at c0
      simp only [kyo] at c1
      have HL2 : Hid (M a = some p) := hL
      have hh := home_any hT.out p.1 (hT.out.kz a han p hL)
      have hml : hm sd n p.1 < n := hm_lt sd (by omega) p.1
      clear hL
      go_wp2_with fail
      go_call hh as e w2 ⟨rfl, hb2⟩
      have HT2 : Hid (Tm w2 tb pb sd n cnt M) := hT.out.below hb2
      have HKp2 : Hid (Kp tb pb w1 w2) := hKp.out.thenBelow hb2 (Nat.le_refl _)
      have hw1 := way_any HT2.out (hm sd n p.1) a (by omega) (by omega)
      have hw2 := way_any HT2.out g a (by omega) (by omega)
      rw [wy_mod hml han] at hw1
      rw [wy_mod hgn han] at hw2
      have hn2 := next_any HT2.out a han
      obtain ⟨-, t2, -⟩ := HT2.out.tc
      have hr2 := HT2.out.rng han
      rw [HL2.out] at hr2
      clear hh hb2 hT hKp hn t1 c0 c1
      go_wp2_with fail
      go_call hw1 as e w3 ⟨rfl, rfl⟩
      go_wp2_with fail
      go_call hw2 as e w4 ⟨rfl, rfl⟩
      clear hw1 hw2
      by_cases hcm : wy n g a ≤ wy n (hm sd n p.1) a
      · have hmv := hG.out.move (p := p) (by rw [HA.out]; exact HL2.out) hcm
        have HMV : Hid _ := hmv
        have HNE : Hid (a ≠ g) := hG.out.ne
        clear hmv
        generalize wy n g a = y1 at *
        generalize wy n (hm sd n p.1) a = y2 at *
        have hci : (y1 : Int) ≤ (y2 : Int) := by omega
        go_wp2_with fail
        refine O.wp_region_pb (fun f => ⟨#[.pointer (some ⟨tb, 0, none⟩), .int .i64 (g : Int), undef, undef, .int .i64 (a : Int), .pointer (some ⟨tb, 0, none⟩), .int .i64 (g0 : Int), .int .i64 (nx n g0 : Nat), .pointer (some ⟨tb, 0, none⟩), .pointer (some ⟨tb, 0, none⟩), .pointer (some ⟨tb, 1, none⟩), .slice (some ⟨pb, 0, none⟩) n n, .int .i64 (a : Int), .pointer (some ⟨pb, a * 3, none⟩), .pointer (some ⟨pb, a * 3, none⟩), .bool true, u16, u17, u18, .pointer (some ⟨tb, 0, none⟩), .pointer (some ⟨tb, 0, none⟩), .pointer (some ⟨tb, 0, none⟩), .pointer (some ⟨tb, 0, none⟩), .pointer (some ⟨tb, 1, none⟩), .slice (some ⟨pb, 0, none⟩) n n, .int .i64 (a : Int), .pointer (some ⟨pb, a * 3, none⟩), .pointer (some ⟨pb, a * 3 + 1, none⟩), .string p.1, .int .i64 (hm sd n p.1 : Nat), .int .i64 (a : Int), .int .i64 (y2 : Int), .pointer (some ⟨tb, 0, none⟩), .int .i64 (g : Int), .int .i64 (a : Int), .int .i64 (y1 : Int), .bool true, f 0, f 1, f 2, f 3, f 4, f 5, f 6, f 7, f 8, f 9, f 10, f 11, f 12, u50, undef, undef, undef, undef, undef, undef, undef], []⟩) (EV tb pb n a g p) (SPh 13 (fun W => Tm W tb pb sd n cnt M ∧ Kp tb pb w4 W) (fun W => Tm W tb pb sd n cnt (up M g (some p)) ∧ Kp tb pb w4 W)) (fun i => [u37, u38, u39, u40, u41, u42, u43, u44, u45, u46, u47, u48, u49, undef].getD i undef) (by kernel_rfl) rfl rfl ?hIq ?hputq ?stepq ?finq
        case hIq => exact SPh.start ⟨HT2.out.below (Below.refl _ _).drew, Kp.ofBelow (Below.refl _ _).drew (Nat.le_refl _)⟩
        case finq =>
          intro f W hP hV
          have v0 : f 0 = .pointer (some ⟨tb, 0, none⟩) := hV 0 (by decide)
          have v1 : f 1 = .pointer (some ⟨tb, 0, none⟩) := hV 1 (by decide)
          have v2 : f 2 = .pointer (some ⟨tb, 1, none⟩) := hV 2 (by decide)
          have v3 : f 3 = .slice (some ⟨pb, 0, none⟩) n n := hV 3 (by decide)
          have v4 : f 4 = .int .i64 (g : Int) := hV 4 (by decide)
          have v5 : f 5 = .pointer (some ⟨tb, 0, none⟩) := hV 5 (by decide)
          have v6 : f 6 = .pointer (some ⟨tb, 0, none⟩) := hV 6 (by decide)
          have v7 : f 7 = .pointer (some ⟨tb, 1, none⟩) := hV 7 (by decide)
          have v8 : f 8 = .slice (some ⟨pb, 0, none⟩) n n := hV 8 (by decide)
          have v9 : f 9 = .int .i64 (a : Int) := hV 9 (by decide)
          have v10 : f 10 = .pointer (some ⟨pb, a * 3, none⟩) := hV 10 (by decide)
          have v11 : f 11 = .agg #[.bool true, .string p.1, .int .i64 p.2] := hV 11 (by decide)
          have v12 : f 12 = .pointer (some ⟨pb, g * 3, none⟩) := hV 12 (by decide)
          clear hV
          have HB : Hid _ := hP.b rfl
          clear hP
          generalize f 0 = z0 at *
          subst v0
          generalize f 1 = z1 at *
          subst v1
          generalize f 2 = z2 at *
          subst v2
          generalize f 3 = z3 at *
          subst v3
          generalize f 4 = z4 at *
          subst v4
          generalize f 5 = z5 at *
          subst v5
          generalize f 6 = z6 at *
          subst v6
          generalize f 7 = z7 at *
          subst v7
          generalize f 8 = z8 at *
          subst v8
          generalize f 9 = z9 at *
          subst v9
          generalize f 10 = z10 at *
          subst v10
          generalize f 11 = z11 at *
          subst v11
          generalize f 12 = z12 at *
          subst v12
          have hn5 := next_any HB.out.1 a han
          go_wp2_with fail
          go_call hn5 as e w5 ⟨rfl, rfl⟩
          go_wp2
          go_roundw
          case rel =>
            refine ⟨a, _, up M g (some p), rfl, rfl, HB.out.1, ?_, ?_, ?_, HKp2.out.trans HB.out.2 (Or.inl rfl)⟩
            · have h5 := HMV.out.1
              rw [up_up] at h5
              exact h5
            · show up M g (some p) a ≠ none
              rw [up_ne _ _ HNE.out, HL2.out]; simp
            · have h5 := HMV.out.2.2
              rw [up_up] at h5
              exact h5.trans hE.out
          case measure => simpa [intOf] using HMV.out.2.1
        case hputq =>
          repeat (refine ⟨fun f v => rfl, ?_⟩)
          trivial
        case stepq =>
          refine ⟨?_, ?_⟩
          · intro done f W hP hdn hd K hK
            clear hd
            have hdn0 := hdn
            go_simp
            exact hK _ _ rfl (hP.pure (by decide) hdn0)
          refine ⟨?_, ?_⟩
          · intro done f W hP hdn hd K hK
            have d0 := (hd.1 rfl).2
            have e0 : done 0 = true := (hd.1 rfl).1
            clear hd
            replace d0 : f 0 = .pointer (some ⟨tb, 0, none⟩) := d0
            have hdn0 := hdn
            generalize f 0 = x0 at *
            subst d0
            clear e0
            go_simp
            exact hK _ _ rfl (hP.pure (by decide) hdn0)
          refine ⟨?_, ?_⟩
          · intro done f W hP hdn hd K hK
            have d1 := (hd.1 rfl).2
            have e1 : done 1 = true := (hd.1 rfl).1
            clear hd
            replace d1 : f 1 = .pointer (some ⟨tb, 0, none⟩) := d1
            have hdn0 := hdn
            generalize f 1 = x1 at *
            subst d1
            clear e1
            go_simp
            exact hK _ _ rfl (hP.pure (by decide) hdn0)
          refine ⟨?_, ?_⟩
          · intro done f W hP hdn hd K hK
            have d2 := (hd.1 rfl).2
            have e2 : done 2 = true := (hd.1 rfl).1
            clear hd
            replace d2 : f 2 = .pointer (some ⟨tb, 1, none⟩) := d2
            have hdn0 := hdn
            generalize f 2 = x2 at *
            subst d2
            clear e2
            have hno := hP.no (j := 3) (by decide) hdn0
            obtain ⟨-, q, -⟩ := (hP.a hno).1.tc
            go_simp
            exact hK _ _ rfl (hP.pure (by decide) hdn0)
          refine ⟨?_, ?_⟩
          · intro done f W hP hdn hd K hK
            clear hd
            have hdn0 := hdn
            go_simp
            exact hK _ _ rfl (hP.pure (by decide) hdn0)
          refine ⟨?_, ?_⟩
          · intro done f W hP hdn hd K hK
            clear hd
            have hdn0 := hdn
            go_simp
            exact hK _ _ rfl (hP.pure (by decide) hdn0)
          refine ⟨?_, ?_⟩
          · intro done f W hP hdn hd K hK
            have d5 := (hd.1 rfl).2
            have e5 : done 5 = true := (hd.1 rfl).1
            clear hd
            replace d5 : f 5 = .pointer (some ⟨tb, 0, none⟩) := d5
            have hdn0 := hdn
            generalize f 5 = x5 at *
            subst d5
            clear e5
            go_simp
            exact hK _ _ rfl (hP.pure (by decide) hdn0)
          refine ⟨?_, ?_⟩
          · intro done f W hP hdn hd K hK
            have d6 := (hd.1 rfl).2
            have e6 : done 6 = true := (hd.1 rfl).1
            clear hd
            replace d6 : f 6 = .pointer (some ⟨tb, 0, none⟩) := d6
            have hdn0 := hdn
            generalize f 6 = x6 at *
            subst d6
            clear e6
            go_simp
            exact hK _ _ rfl (hP.pure (by decide) hdn0)
          refine ⟨?_, ?_⟩
          · intro done f W hP hdn hd K hK
            have d7 := (hd.1 rfl).2
            have e7 : done 7 = true := (hd.1 rfl).1
            clear hd
            replace d7 : f 7 = .pointer (some ⟨tb, 1, none⟩) := d7
            have hdn0 := hdn
            generalize f 7 = x7 at *
            subst d7
            clear e7
            have hno := hP.no (j := 8) (by decide) hdn0
            obtain ⟨-, q, -⟩ := (hP.a hno).1.tc
            go_simp
            exact hK _ _ rfl (hP.pure (by decide) hdn0)
          refine ⟨?_, ?_⟩
          · intro done f W hP hdn hd K hK
            clear hd
            have hdn0 := hdn
            go_simp
            exact hK _ _ rfl (hP.pure (by decide) hdn0)
          refine ⟨?_, ?_⟩
          · intro done f W hP hdn hd K hK
            have d8 := (hd.1 rfl).2
            have e8 : done 8 = true := (hd.1 rfl).1
            have d9 := (hd.2.1 rfl).2
            have e9 : done 9 = true := (hd.2.1 rfl).1
            clear hd
            replace d8 : f 8 = .slice (some ⟨pb, 0, none⟩) n n := d8
            replace d9 : f 9 = .int .i64 (a : Int) := d9
            have hdn0 := hdn
            generalize f 8 = x8 at *
            subst d8
            clear e8
            generalize f 9 = x9 at *
            subst d9
            clear e9
            have q := han
            go_simp
            exact hK _ _ rfl (hP.pure (by decide) hdn0)
          refine ⟨?_, ?_⟩
          · intro done f W hP hdn hd K hK
            have d10 := (hd.1 rfl).2
            have e10 : done 10 = true := (hd.1 rfl).1
            clear hd
            replace d10 : f 10 = .pointer (some ⟨pb, a * 3, none⟩) := d10
            have hdn0 := hdn
            generalize f 10 = x10 at *
            subst d10
            clear e10
            have hno := hP.no (j := 11) (by decide) hdn0
            have q := (hP.a hno).1.rng han
            rw [HL2.out] at q
            refine go_if_pos rfl ?_
            exact ld55 _ rfl (some p) rfl q (hK _ _ rfl (hP.pure (by decide) hdn0))
          refine ⟨?_, ?_⟩
          · intro done f W hP hdn hd K hK
            have d3 := (hd.1 rfl).2
            have e3 : done 3 = true := (hd.1 rfl).1
            have d4 := (hd.2.1 rfl).2
            have e4 : done 4 = true := (hd.2.1 rfl).1
            clear hd
            replace d3 : f 3 = .slice (some ⟨pb, 0, none⟩) n n := d3
            replace d4 : f 4 = .int .i64 (g : Int) := d4
            have hdn0 := hdn
            generalize f 3 = x3 at *
            subst d3
            clear e3
            generalize f 4 = x4 at *
            subst d4
            clear e4
            have q := hgn
            go_simp
            exact hK _ _ rfl (hP.pure (by decide) hdn0)
          refine ⟨?_, ?_⟩
          · intro done f W hP hdn hd K hK
            have d12 := (hd.1 rfl).2
            have e12 : done 12 = true := (hd.1 rfl).1
            have d11 := (hd.2.1 rfl).2
            have e11 : done 11 = true := (hd.2.1 rfl).1
            have e0 : done 0 = true := (hd.2.2.1 rfl).1
            have e1 : done 1 = true := (hd.2.2.2.1 rfl).1
            have e2 : done 2 = true := (hd.2.2.2.2.1 rfl).1
            have e3 : done 3 = true := (hd.2.2.2.2.2.1 rfl).1
            have e4 : done 4 = true := (hd.2.2.2.2.2.2.1 rfl).1
            have e5 : done 5 = true := (hd.2.2.2.2.2.2.2.1 rfl).1
            have e6 : done 6 = true := (hd.2.2.2.2.2.2.2.2.1 rfl).1
            have e7 : done 7 = true := (hd.2.2.2.2.2.2.2.2.2.1 rfl).1
            have e8 : done 8 = true := (hd.2.2.2.2.2.2.2.2.2.2.1 rfl).1
            have e9 : done 9 = true := (hd.2.2.2.2.2.2.2.2.2.2.2.1 rfl).1
            have e10 : done 10 = true := (hd.2.2.2.2.2.2.2.2.2.2.2.2.1 rfl).1
            clear hd
            replace d12 : f 12 = .pointer (some ⟨pb, g * 3, none⟩) := d12
            replace d11 : f 11 = .agg #[.bool true, .string p.1, .int .i64 p.2] := d11
            have hdn0 := hdn
            generalize f 12 = x12 at *
            subst d12
            generalize f 11 = x11 at *
            subst d11
            -- e11 e12
            obtain ⟨C, h1, h2⟩ := (hP.a hdn0).1.here
            have HA0 : Hid _ := hP.a hdn0
            refine go_if_pos rfl ?_
            refine st55 _ _ rfl h1 h2 hgn (some p) rfl rfl fun W2 ho hC => hK _ _ trivial (SPh.last ?_ ⟨HA0.out.1.up ho hC (fun q e => by cases e; exact HA0.out.1.kz a han p HL2.out), HA0.out.2.trans (Kp.ofOff ⟨ho.os, ho.tape, ho.output, ho.size, fun k _ h2 => ho.block k h2 h2⟩) (Or.inl rfl)⟩)
            intro j hj
            have : j = 0 ∨ j = 1 ∨ j = 2 ∨ j = 3 ∨ j = 4 ∨ j = 5 ∨ j = 6 ∨ j = 7 ∨ j = 8 ∨ j = 9 ∨ j = 10 ∨ j = 11 ∨ j = 12 := by omega
            rcases this with rfl | rfl | rfl | rfl | rfl | rfl | rfl | rfl | rfl | rfl | rfl | rfl | rfl
            · exact e0
            · exact e1
            · exact e2
            · exact e3
            · exact e4
            · exact e5
            · exact e6
            · exact e7
            · exact e8
            · exact e9
            · exact e10
            · exact e11
            · exact e12
          trivial
      · have hnx := hG.out.next (p := p) (by rw [HA.out]; exact HL2.out) hcm
        have HNX : Hid _ := hnx
        clear hnx
        generalize wy n g a = y1 at *
        generalize wy n (hm sd n p.1) a = y2 at *
        have hci : ¬ (y1 : Int) ≤ (y2 : Int) := by omega
        go_wp2_with fail
        go_call hn2 as e w5 ⟨rfl, rfl⟩
        go_wp2
        go_roundw
        case rel => exact ⟨g, _, M, rfl, rfl, HT2, HNX.out.1, hM, hE, HKp2⟩
        case measure => simpa [intOf] using HNX.out.2
end
end Go.Proofs.YtcgmngafodmfcaaDoor
