/- Write of slots on a device in any mode: it ends, or is broken off, and then each sector is what it was, or the new text's. -/
import Derived.Test.YtknmipbjkkeebaaGreatJE
namespace Go.Proofs.YtknmipbjkkeebaaGreat
open Go.RowKit
/-- Behind a Write that was broken off: each sector, and what is sure of it, is what it was, or the new text's. -/
def Brk (now : Nat → ByteArray) (frm : Nat) (y : ByteArray) (st' : F.St) : Prop := ∃ ats now2 sure2, F.Dv st' ats now2 sure2 ∧ ∀ i, F.Fr now frm y i (now2 i) ∧ F.Fr now frm y i (sure2 i)
set_option maxHeartbeats 1000000 in
theorem swrite_md {b0 : Nat} {w0 : World} {L : F.Loc} {st : F.St} {lv : Value} {oth : List (Nat × Obj)} {w : World} {S M : Nat} (s : Sl) (h : F.One b0 w0 L st lv ((S, .cells (s.cs M) 72) :: oth) w) (hm : (M, F.med L.P st.serial st.session) ∈ oth) (hne : ∀ p ∈ oth, p.1 ≠ S)
    (hs : s.slot ≤ 1) (hmost : s.most < 18446744073709551615) (x : ByteArray) (hx : x.size ≤ 640) {ats : Nat → Nat} {now : Nat → ByteArray} (hd : F.Dv st ats now now) (hn : 32 ≤ st.n) (hn1 : st.n ≤ 1000) (ht : st.there = true) (m : F.Mode) (hmd : m.is st) (hmo : m ≠ .over) (hc : 0 ≤ st.count ∧ st.count ≤ 700000) :
    Calls Tryz.prog 14 #[.pointer (some ⟨S, 0, none⟩), .string x] w fun e w' =>
      (e = .returned (.int .i64 0) ∧ ∃ st' lv', F.One b0 w0 L st' lv' ((S, .cells (Sl.cs ⟨s.other, s.most + 1, s.most + 1, false⟩ M) 72) :: oth) w' ∧ F.Kp st st' ∧ st.count ≤ st'.count ∧ st'.count ≤ st.count + 18 ∧ ∃ ats', F.Dv st' ats' (F.lay now (s.other * 16) (wrL x (s.most + 1)) (spT x.size)) (F.lay now (s.other * 16) (wrL x (s.most + 1)) (spT x.size))) ∨
      (∃ E, e = .panicked [F.fl st.serial E] ∧ ∃ st' lv', F.One b0 w0 L st' lv' oth w' ∧ F.Kp st st' ∧ st.count ≤ st'.count ∧ st'.count ≤ st.count + 18 ∧ Brk now (s.other * 16) (wrL x (s.most + 1)) st') := by
  have hq0 : s.most + 1 ≠ 0 := by omega
  have hq1 : s.most + 1 < 18446744073709551616 := by omega
  have hp := wr_parts x hx (s.most + 1) hq0 hq1
  have hsz := wr_size x hx (s.most + 1) hq0 hq1
  have ht16 := spT_le x.size hx
  have ho1 : s.other ≤ 1 := by unfold Sl.other; split <;> omega
  obtain ⟨y, hy⟩ : ∃ y, y = wrL x (s.most + 1) := ⟨_, rfl⟩
  obtain ⟨frm, hfrm⟩ : ∃ frm, frm = s.other * 16 := ⟨_, rfl⟩
  rw [← hy] at hp hsz ⊢
  rw [← hfrm]
  have hM' : (M, F.med L.P st.serial st.session) ∈ ((S, .cells (Sl.cs { s with unsure := false } M) 72) :: oth : List (Nat × Obj)) := List.mem_cons_of_mem _ hm
  let B : World → Prop := fun W => ∃ st' lv', F.One b0 w0 L st' lv' oth W ∧ F.Kp st st' ∧ st.count ≤ st'.count ∧ st'.count ≤ st.count + 18 ∧ Brk now frm y st'
  let R : Nat → World → Prop := fun k W => ∃ (st1 : F.St) (lv1 : Value), F.One b0 w0 L st1 lv1 ((S, .cells (Sl.cs { s with unsure := false } M) 72) :: oth) W ∧ F.Kp st st1 ∧ st.count ≤ st1.count ∧
    (if k = 0 then st1.count ≤ st.count + 1 ∧ (∃ m1 : F.Mode, m1.is st1 ∧ m1 ≠ .over) ∧ ∃ ats1, F.Dv st1 ats1 now now
     else if k = 1 then st1.count ≤ st.count + 17 ∧ (∃ m1 : F.Mode, m1.is st1 ∧ m1 ≠ .over) ∧ ∃ ats1, F.Dv st1 ats1 (F.lay now frm y (spT x.size)) now
     else st1.count ≤ st.count + 18 ∧ ∃ ats1, F.Dv st1 ats1 (F.lay now frm y (spT x.size)) (F.lay now frm y (spT x.size)))
  have hkS : ∀ {st1 : F.St}, F.Kp st st1 → (M, F.med L.P st1.serial st1.session) ∈ ((S, .cells (Sl.cs { s with unsure := false } M) 72) :: oth : List (Nat × Obj)) := fun k => by rw [k.serial, k.session]; exact hM'
  refine (swrite_brk st.serial B s hs hmost S M x hx R w ?_ ?_ ?_ ?_ ?_).mono ?_
  · rintro k W W' ⟨st1, lv1, ho, hk⟩ hb
    exact ⟨st1, lv1, ho.ofBelow hb, hk⟩
  · rintro k W ⟨st1, lv1, ho, _⟩
    exact (ho.oth _ (List.mem_cons_self ..)).1
  · have hb := (h.oth _ (List.mem_cons_self ..)).1
    cases hu : s.unsure with
    | false =>
      have es : ({ s with unsure := false } : Sl) = s := by rw [← hu]
      refine (sure_no s hu S M w hb).mono ?_
      rintro e w' ⟨rfl, rfl⟩
      exact Or.inl ⟨rfl, st, lv, by rw [es]; exact h, F.Kp.refl st, Int.le_refl _, by rw [if_pos rfl]; exact ⟨by omega, ⟨m, hmd, hmo⟩, ats, hd⟩⟩
    | true =>
      have hf := h.mflush_md M (List.mem_cons_of_mem _ hm) ht m hmd hmo ⟨hc.1, by omega⟩ hd
      refine (sure_brk st.serial B s hu S M w hb (fun w2 => ∃ st1 lv1, F.One b0 w0 L st1 lv1 ((S, .cells (s.cs M) 72) :: oth) w2 ∧ F.Kp st st1 ∧ st.count ≤ st1.count ∧ st1.count ≤ st.count + 1 ∧ (∃ m1 : F.Mode, m1.is st1 ∧ m1 ≠ .over) ∧ ∃ ats1, F.Dv st1 ats1 now now) (hf.mono ?_)).mono ?_
      · rintro e w' (⟨rfl, he, st1, lv1, ho, kp, c0, c1, hm1, hd1⟩ | ⟨E, rfl, he, st1, lv1, ho, kp, c0, c1, ats1, sure2, hd1, hor⟩)
        · exact Or.inl ⟨rfl, ⟨st1, lv1, ho, kp, c0, c1, ⟨_, hm1, F.Mode.next_ne m hmo he⟩, hd1⟩, (ho.oth _ (List.mem_cons_self ..)).1⟩
        · refine Or.inr ⟨E, rfl, st1, lv1, ho.forget (fun p hp => List.mem_cons_of_mem _ hp), kp, c0, by omega, ats1, now, sure2, hd1, fun i => ⟨Or.inl rfl, ?_⟩⟩
          rcases hor with rfl | rfl <;> exact Or.inl rfl
      · rintro e w' (⟨rfl, w2, ⟨st1, lv1, ho, kp, c0, c1, hm1, hd1⟩, hsb⟩ | hB)
        · exact Or.inl ⟨rfl, st1, lv1, ho.other hne hsb.k.os hsb.k.tape hsb.k.output hsb.k.size hsb.k.block hsb.b (F.apart_of (by decide)), kp, c0, by rw [if_pos rfl]; exact ⟨c1, hm1, hd1⟩⟩
        · exact Or.inr hB
  · rintro W ⟨st1, lv1, ho, kp, c0, hp0⟩
    rw [if_pos rfl] at hp0
    obtain ⟨c1, ⟨m1, hm1, hm1o⟩, ats1, hd1⟩ := hp0
    have hw := ho.mwrite_md M (hkS kp) (by rw [kp.there]; exact ht) m1 hm1 hm1o ⟨by omega, by omega⟩ hd1 (by rw [kp.n]; exact hn1) frm y (by rw [hsz]; omega) (by rw [hp, kp.n]; omega)
    rw [hp] at hw
    rw [← hfrm, ← hy]
    refine hw.mono ?_
    rintro e W' (⟨rfl, hz, st2, lv2, ho2, kp2, d0, d1, hm2, ats2, hd2⟩ | ⟨E, rfl, _, st2, lv2, ho2, kp2, d0, d1, ats2, now2, hd2, hfr⟩)
    · refine Or.inl ⟨rfl, st2, lv2, ho2, kp.trans kp2, by omega, ?_⟩
      rw [if_neg (by decide), if_pos rfl]
      exact ⟨by omega, ⟨_, hm2, F.Mode.iter_ne m1 hm1o _ hz⟩, ats2, hd2⟩
    · refine Or.inr ⟨E, by rw [kp.serial], st2, lv2, ho2.forget (fun p hp => List.mem_cons_of_mem _ hp), kp.trans kp2, by omega, by omega, ats2, now2, now, hd2, fun i => ⟨hfr i, Or.inl rfl⟩⟩
  · rintro W ⟨st1, lv1, ho, kp, c0, hp1⟩
    rw [if_neg (by decide), if_pos rfl] at hp1
    obtain ⟨c1, ⟨m1, hm1, hm1o⟩, ats1, hd1⟩ := hp1
    refine (ho.mflush_md M (hkS kp) (by rw [kp.there]; exact ht) m1 hm1 hm1o ⟨by omega, by omega⟩ hd1).mono ?_
    rintro e W' (⟨rfl, he, st2, lv2, ho2, kp2, d0, d1, hm2, ats2, hd2⟩ | ⟨E, rfl, _, st2, lv2, ho2, kp2, d0, d1, ats2, sure2, hd2, hor⟩)
    · refine Or.inl ⟨rfl, st2, lv2, ho2, kp.trans kp2, by omega, ?_⟩
      rw [if_neg (by decide), if_neg (by decide)]
      exact ⟨by omega, ats2, hd2⟩
    · refine Or.inr ⟨E, by rw [kp.serial], st2, lv2, ho2.forget (fun p hp => List.mem_cons_of_mem _ hp), kp.trans kp2, by omega, by omega, ats2, _, sure2, hd2, fun i => ⟨F.lay_fr now frm y _ (by omega) i, ?_⟩⟩
      rcases hor with rfl | rfl
      · exact Or.inl rfl
      · exact F.lay_fr now frm y _ (by omega) i
  · rintro e w' (⟨rfl, w2, ⟨st1, lv1, ho, kp, c0, hw⟩, hsb⟩ | hB)
    · rw [if_neg (by decide), if_neg (by decide)] at hw
      exact Or.inl ⟨rfl, st1, lv1, ho.other hne hsb.k.os hsb.k.tape hsb.k.output hsb.k.size hsb.k.block hsb.b (F.apart_of (by decide)), kp, c0, hw.1, hw.2⟩
    · exact Or.inr hB
end Go.Proofs.YtknmipbjkkeebaaGreat
