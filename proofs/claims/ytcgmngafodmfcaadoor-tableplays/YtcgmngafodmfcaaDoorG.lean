/- Drop of a table, as a call: of any table in memory whose places hold the list's entries. -/
import Derived.Test.YtcgmngafodmfcaaDoorF
import Derived.Deep.QuietTactic
import Derived.BigQuiet
namespace Go.Proofs.YtcgmngafodmfcaaDoor
open Go.RowKit
/-- What a list knows of a key. -/
def lk : List Ent → ByteArray → Option Int
  | [], _ => none
  | p :: r, k => if p.1 = k then some p.2 else lk r k
theorem lk_none {E : List Ent} {k : ByteArray} (h : ∀ p ∈ E, p.1 ≠ k) : lk E k = none := by
  induction E with
  | nil => rfl
  | cons p r ih =>
    unfold lk
    rw [if_neg (h p (List.mem_cons_self ..))]
    exact ih fun q hq => h q (List.mem_cons_of_mem _ hq)
theorem lk_some {E : List Ent} {k : ByteArray} {v : Int} (hn : (E.map Prod.fst).Nodup) (h : (k, v) ∈ E) : lk E k = some v := by
  induction E with
  | nil => cases h
  | cons p r ih =>
    unfold lk
    rw [List.map_cons, List.nodup_cons] at hn
    rcases List.mem_cons.1 h with e | e
    · rw [← e, if_pos rfl]
    · rw [if_neg]
      · exact ih hn.2 e
      · intro e2
        exact hn.1 (List.mem_map.2 ⟨(k, v), e, e2.symm⟩)
theorem lk_of {E : List Ent} {k : ByteArray} (h : lk E k = none) : ∀ p ∈ E, p.1 ≠ k := by
  induction E with
  | nil => intro p hp; cases hp
  | cons q r ih =>
    unfold lk at h
    split at h
    · cases h
    · rename_i hq
      intro p hp
      rcases List.mem_cons.1 hp with e | e
      · rw [e]; exact hq
      · exact ih h p e
theorem lk_mem {E : List Ent} {k : ByteArray} {v : Int} (h : lk E k = some v) : (k, v) ∈ E := by
  induction E with
  | nil => cases h
  | cons q r ih =>
    unfold lk at h
    split at h
    · rename_i hq
      injection h with h
      subst hq h
      exact List.mem_cons_self ..
    · exact List.mem_cons_of_mem _ (ih h)
def wo (E : List Ent) (k : ByteArray) : List Ent := E.filter fun p => decide (p.1 ≠ k)
theorem wo_same {E : List Ent} {k : ByteArray} (h : ∀ p ∈ E, p.1 ≠ k) : wo E k = E := by
  unfold wo
  exact List.filter_eq_self.2 fun p hp => decide_eq_true (h p hp)
theorem wo_cons {R E : List Ent} {k : ByteArray} {v : Int} (hn : (E.map Prod.fst).Nodup) (h : E.Perm ((k, v) :: R)) : (wo E k).Perm R := by
  have h1 := h.filter fun p => decide (p.1 ≠ k)
  have h2 := ((h.map Prod.fst).nodup_iff).1 hn
  rw [List.map_cons, List.nodup_cons] at h2
  have h3 : ∀ p ∈ R, p.1 ≠ k := fun p hp e => h2.1 (List.mem_map.2 ⟨p, hp, e⟩)
  have h4 : ((k, v) :: R).filter (fun p => decide (p.1 ≠ k)) = R := by
    rw [List.filter_cons_of_neg (by simp)]
    exact wo_same h3
  rw [h4] at h1
  exact h1
/-- A table that knows just this. -/
structure Tb (w : World) (tb pb : Nat) (E : List Ent) : Prop where
  ex : ∃ sd n L, Tm w tb pb sd n E.length L ∧ Good n (hm sd n) L ∧ (ents n L).Perm E ∧ E.length ≤ n * 3 / 4
theorem Tb.below {w w' : World} {tb pb : Nat} {E : List Ent} (h : Tb w tb pb E) (hb : Below w.heap.size w w') : Tb w' tb pb E := by
  obtain ⟨sd, n, L, h1, h2⟩ := h.ex
  exact ⟨sd, n, L, h1.below hb, h2⟩
theorem Tb.keys {w : World} {tb pb : Nat} {E : List Ent} (h : Tb w tb pb E) : (E.map Prod.fst).Nodup := by
  obtain ⟨sd, n, L, h1, h2, h3, _⟩ := h.ex
  exact ((h3.map Prod.fst).nodup_iff).1 h2.uniq
theorem Tb.perm {w : World} {tb pb : Nat} {E E' : List Ent} (h : Tb w tb pb E) (he : E.Perm E') : Tb w tb pb E' := by
  obtain ⟨sd, n, L, h1, h2, h3, h4⟩ := h.ex
  rw [he.length_eq] at h1 h4
  exact ⟨sd, n, L, h1, h2, h3.trans he, h4⟩
section
variable {w : World} {tb pb sd n cnt : Nat} {L : Nat → Option Ent}
theorem Tm.recount (h : Tm w tb pb sd n cnt L) (c : Nat) : Tm (w.setCell ⟨tb, 2, none⟩ (.int .i64 (c : Nat))) tb pb sd n c L ∧ Kp tb pb w (w.setCell ⟨tb, 2, none⟩ (.int .i64 (c : Nat))) := by
  have ho := (Off.refl tb tb w).set (a := ⟨tb, 2, none⟩) (Or.inl rfl) (.int .i64 (c : Nat))
  obtain ⟨C, h1, h2⟩ := h.p
  exact ⟨⟨block_set (i := 2) h.t _, ⟨C, (ho.block _ (Ne.symm h.ne) (Ne.symm h.ne)).trans h1, h2⟩, h.n4, h.nb, h.sdb, h.kz, h.rt.off ho h.t0 h.t0, h.t0, h.p0⟩, ⟨ho.os, ho.tape, ho.output, ho.size, fun k _ a _ => ho.block k a a⟩⟩
set_option maxHeartbeats 2000000 in
theorem drop_any {E : List Ent} (h : Tb w tb pb E) (k : ByteArray) (hk : k.size ≤ 4096) :
    Calls Tryd.prog 12 #[.pointer (some ⟨tb, 0, none⟩), .string k] w fun e w' => e = .returned (.bool (lk E k).isSome) ∧ ∃ pb', Tb w' tb pb' (wo E k) ∧ Kp tb pb w w' ∧ (pb' = pb ∨ w.heap.size ≤ pb') := by
  have HTb : Hid (Tb w tb pb E) := h
  have hkey := h.keys
  obtain ⟨sd, n, L, hT, hG, hE, hq⟩ := h.ex
  have n4 := hT.n4
  have nb := hT.nb
  have hlen := hE.length_eq
  have hf := find_any hT (by omega) k hk
  have HK : Hid _ := hkey
  have HT : Hid _ := hT
  have HG : Hid _ := hG
  have HE : Hid _ := hE
  have HLN : Hid ((ents n L).length = E.length) := hlen
  clear h hT hG hE hkey hlen
  go_enter Tryd.func12, Tryd.ntmps12
  go_wp2_with fail
  go_call hf as e w1 ⟨a, s, is, rfl, hF, hb1⟩
  have HF : Hid _ := hF
  have HB1 : Hid _ := hb1
  have han := hF.f.lt
  clear hf hF hb1
  cases hL : L a with
  | none =>
    have his : is = false := by rw [HF.out.tk, hL]; rfl
    subst his
    have hno : ∀ p ∈ E, p.1 ≠ k := fun p hp => HF.out.f.none HG.out hL p (HE.out.mem_iff.2 hp)
    have hl0 := lk_none hno
    have hw0 := wo_same hno
    have HL0 : Hid _ := hl0
    have HW0 : Hid _ := hw0
    clear hno hl0 hw0 hL
    go_wp2
    go_returns
    exact ⟨by rw [HL0.out]; rfl, pb, by rw [HW0.out]; exact HTb.out.below HB1.out, Kp.ofBelow HB1.out (Nat.le_refl _), Or.inl rfl⟩
  | some p0 =>
    have his : is = true := by rw [HF.out.tk, hL]; rfl
    subst his
    obtain ⟨k0, v0⟩ := p0
    obtain rfl : k0 = k := HF.out.ky _ hL
    have HL : Hid (L a = some (k0, v0)) := hL
    have hin : (k0, v0) ∈ E := HE.out.mem_iff.1 (mem_ents.2 ⟨a, han, hL⟩)
    have hl1 := lk_some HK.out hin
    have HL1 : Hid _ := hl1
    clear hl1 hin
    have hT1 := HT.out.below HB1.out
    have hln2 := HLN.out
    have hem := empty_any hT1 HG.out (by omega) a han (k0, v0) hL
    clear hL hT1 hln2
    go_wp2_with fail
    go_call hem as e w2 ⟨rfl, M, hT2, hG2, hE2, hK2⟩
    obtain ⟨-, t2, c2⟩ := hT2.tc
    have fz := frz_of hT2.t 2
    have ht2 := hT2.t
    have HT2 : Hid _ := hT2
    have HG2 : Hid _ := hG2
    have HE2 : Hid _ := hE2
    have HK2 : Hid _ := hK2
    have hpos : 0 < E.length := by
      have := HLN.out
      have h5 := len_take L han (by rw [HL.out]; simp)
      omega
    obtain ⟨hrc1, hrc2⟩ := HT2.out.recount (E.length - 1)
    have e1 : ((E.length - 1 : Nat) : Int) = (E.length : Int) - 1 := by omega
    rw [e1] at hrc1 hrc2
    have HRC1 : Hid _ := hrc1
    have HRC2 : Hid _ := hrc2
    clear hem hT2 hG2 hE2 hK2 hrc1 hrc2
    have hWO : (wo E k0).Perm (ents n M) := (wo_cons HK.out (HE.out.symm.trans (ents_take L han HL.out))).trans HE2.out.symm
    have hWL : (wo E k0).length = E.length - 1 := by
      have h5 := (HE.out.symm.trans (ents_take L han HL.out)).length_eq
      have h6 := (wo_cons HK.out (HE.out.symm.trans (ents_take L han HL.out))).length_eq
      rw [List.length_cons] at h5
      omega
    have HWO : Hid _ := hWO
    have HWL : Hid _ := hWL
    clear hWO hWL
    by_cases h8 : 8 < n
    · have h8i : (8 : Int) < (n : Int) := by omega
      go_wp2_with fail
      go_quiet (fail)
      obtain ⟨W3, hW3⟩ : ∃ W, W = (w2.setCell ⟨tb, 2, none⟩ (.int .i64 ((E.length : Int) - 1))).drewN nq := ⟨_, rfl⟩
      rw [← hW3]
      have hbd : Below (w2.setCell ⟨tb, 2, none⟩ (.int .i64 ((E.length : Int) - 1))).heap.size (w2.setCell ⟨tb, 2, none⟩ (.int .i64 ((E.length : Int) - 1))) W3 := by rw [hW3]; exact ⟨rfl, rfl, rfl, Nat.le_refl _, fun _ _ => rfl⟩
      have HT3 : Hid (Tm W3 tb pb sd n (E.length - 1) M) := HRC1.out.below hbd
      have HK3 : Hid (Kp tb pb w W3) := (((Kp.ofBelow HB1.out (Nat.le_refl _) : Kp tb pb w w1).trans HK2.out (Or.inl rfl)).trans HRC2.out (Or.inl rfl)).thenBelow hbd (Nat.le_refl _)
      clear hbd hW3 t2 c2 fz ht2
      obtain ⟨-, t3, -⟩ := HT3.out.tc
      by_cases hsm : (E.length : Int) - 1 < (n : Int) / 8
      · have hrz := resize_any HT3.out HG2.out (n / 2) (by omega) (by omega) (by rw [← HWO.out.length_eq, HWL.out]; omega)
        rw [show ((n / 2 : Nat) : Int) = (n : Int) / 2 by omega] at hrz
        go_wp2_with fail
        go_call hrz as e w4 ⟨rfl, pb', M', hT4, hG4, hE4, hK4, hp4⟩
        have HT4 : Hid _ := hT4
        have HFIN : Hid (Good (n / 2) (hm sd (n / 2)) M' ∧ (ents (n / 2) M').Perm (ents n M) ∧ Kp tb pb' W3 w4 ∧ W3.heap.size ≤ pb') := ⟨hG4, hE4, hK4, hp4⟩
        clear hrz hT4 hG4 hE4 hK4 hp4
        go_wp2
        go_returns
        have hle : w.heap.size ≤ pb' := Nat.le_trans HK3.out.size HFIN.out.2.2.2
        refine ⟨by rw [HL1.out]; rfl, pb', ⟨sd, n / 2, M', by rw [HWL.out]; exact HT4.out, HFIN.out.1, HFIN.out.2.1.trans HWO.out.symm, by rw [HWL.out]; omega⟩, ?_, Or.inr hle⟩
        exact HK3.out.trans HFIN.out.2.2.1 (Or.inr hle)
      · go_wp2
        go_returns
        exact ⟨by rw [HL1.out]; rfl, pb, ⟨sd, n, M, by rw [HWL.out]; exact HT3.out, HG2.out, HWO.out.symm, by rw [HWL.out]; omega⟩, HK3.out, Or.inl rfl⟩
    · have h8i : decide ((8 : Int) < (n : Int)) = false := decide_eq_false (by omega)
      go_wp2_with fail
      go_quiet (fail)
      have hbd : ∀ nq, Below (w2.setCell ⟨tb, 2, none⟩ (.int .i64 ((E.length : Int) - 1))).heap.size (w2.setCell ⟨tb, 2, none⟩ (.int .i64 ((E.length : Int) - 1))) ((w2.setCell ⟨tb, 2, none⟩ (.int .i64 ((E.length : Int) - 1))).drewN nq) := fun _ => ⟨rfl, rfl, rfl, Nat.le_refl _, fun _ _ => rfl⟩
      have HBD : Hid _ := hbd
      clear hbd
      go_wp2
      go_returns
      have HK3 := fun q => (((Kp.ofBelow HB1.out (Nat.le_refl _) : Kp tb pb w w1).trans HK2.out (Or.inl rfl)).trans HRC2.out (Or.inl rfl)).thenBelow (HBD.out q) (Nat.le_refl _)
      exact ⟨by rw [HL1.out]; rfl, pb, ⟨sd, n, M, by rw [HWL.out]; exact HRC1.out.below (HBD.out _), HG2.out, HWO.out.symm, by rw [HWL.out]; omega⟩, HK3 _, Or.inl rfl⟩
end
end Go.Proofs.YtcgmngafodmfcaaDoor
