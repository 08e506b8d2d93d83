/- A round of SlotsRise and SlotsWhole in plain words: what lies on the anchor behind a Write, and a crash. -/
import Derived.Test.YtknmipbjkkeebaaGreatJI
import Derived.Test.YtknmipbjkkeebaaGreatJG
namespace Go.Proofs.YtknmipbjkkeebaaGreat
open Go.RowKit
theorem datL_congr (g g' : Nat → Pg) : ∀ n, (∀ j, j < n → g' j = g j) → datL g' n = datL g n
  | 0, _ => rfl
  | n + 1, h => by rw [datL, datL, datL_congr g g' n (fun j hj => h j (by omega)), h n (by omega)]
theorem whl_congr {g g' : Nat → Pg} (h : ∀ j, j < 16 → g' j = g j) (hn : (g 0).n ≤ 16) (hw : Whl g) : Whl g' := by
  have e0 := h 0 (by decide)
  have ed : datL g' (g 0).n = datL g (g 0).n := datL_congr g g' _ (fun j hj => h j (by omega))
  unfold Whl
  rw [e0, ed]
  exact ⟨hw.1, fun j hj => by rw [h j (by omega)]; exact hw.2 j hj⟩
/-- What was found, as the Slots that Open answers. -/
noncomputable def fnd (G : Nat → Nat → Pg) : Sl := { (scan G 2).sl with unsure := decide ((scan G 2).found = 2) }
section
variable {m : Nat} {T : Nat → Nat → ByteArray} {G : Nat → Nat → Pg} {st : F.St} {now : Nat → ByteArray} {ats : Nat → Nat}
theorem other_le (hf : Fnd G) : (fnd G).other ≤ 1 := by
  have := hf.slot
  unfold Sl.other; split <;> omega
theorem other_ne (hf : Fnd G) (h : (scan G 2).sl.seq ≠ 0) : (scan G 2).sl.slot ≠ (fnd G).other := by
  have := hf.slot
  show _ ≠ (if (scan G 2).sl.seq = 0 then 0 else 1 - (scan G 2).sl.slot)
  rw [if_neg h]; omega
/-- Behind a Write that ended, and a crash. -/
theorem Lies.wrote (h : Lies m T G st) (hbig : m + 1 < 1000000) (hd : F.Dv st ats now now) (x : ByteArray) (hx : x.size ≤ 640) {st2 : F.St} {ats2 : Nat → Nat} {now' now1 : Nat → ByteArray} (hn1 : now1 = F.lay now ((fnd G).other * 16) (wrL x ((fnd G).most + 1)) (spT x.size)) (hn : st2.n = st.n) (hd2 : F.Dv st2 ats2 now' now') (he : ∀ i, i < st.n → now' i = now1 i ∨ now' i = now1 i) :
    ∃ T' G', Lies (m + 1) T' G' st2 ∧ Whl (G' (fnd G).other) ∧ (G' (fnd G).other 0).q = (fnd G).most + 1 ∧ T' = updT T (fnd G).other ((fnd G).most + 1) x ∧ ∀ k j, k ≠ (fnd G).other → G' k j = G k j := by
  have hf := h.found
  have ho := other_le hf
  have hm := h.most
  have h32 := h.n
  have hq0 : (fnd G).most + 1 ≠ 0 := by omega
  have hml : (fnd G).most ≤ m := hm
  have hq1 : (fnd G).most + 1 < 18446744073709551616 := by omega
  have ht := spT_le x.size hx
  have hr : ∀ i, i < st.n → F.rd st2 i = now1 i := fun i hi => by
    rw [hd2.nw i (by omega)]
    rcases he i hi with e | e <;> exact e
  · obtain ⟨a, b, c⟩ := h.ended x hx (fnd G).other ho ((fnd G).most + 1) (m + 1) rfl (by omega) (by omega) hbig st2 hn hd2.ok (fun j hj => by
      rw [hr _ (by omega), hn1]
      unfold F.lay
      rw [if_pos (by omega), Nat.add_sub_cancel_left]
      exact wr_chunk x hx _ hq0 hq1 j hj) (fun j hj hjk => by
      rw [hr j hj, hn1, hd.nw j hj]
      unfold F.lay
      rw [if_neg (by omega)])
    exact ⟨_, _, a, whl_split _ x _ b, by rw [b 0 (spT_pos _)]; rfl, rfl, c⟩
/-- Behind a Write that was broken off, and a crash. -/
theorem Lies.broke (h : Lies m T G st) (hbig : m + 1 < 1000000) (hd : F.Dv st ats now now) (x : ByteArray) (hx : x.size ≤ 640) {st2 : F.St} {ats2 : Nat → Nat} {now' now2 sure2 : Nat → ByteArray} (hfr : ∀ i, F.Fr now ((fnd G).other * 16) (wrL x ((fnd G).most + 1)) i (now2 i) ∧ F.Fr now ((fnd G).other * 16) (wrL x ((fnd G).most + 1)) i (sure2 i)) (hn : st2.n = st.n) (hd2 : F.Dv st2 ats2 now' now') (he : ∀ i, i < st.n → now' i = now2 i ∨ now' i = sure2 i) :
    ∃ T' G', Lies (m + 1) T' G' st2 ∧ T' = updT T (fnd G).other ((fnd G).most + 1) x ∧ ∀ k j, k < 2 → k ≠ (fnd G).other → j < 16 → G' k j = G k j := by
  have hf := h.found
  have ho := other_le hf
  have hml : (fnd G).most ≤ m := h.most
  have hq0 : (fnd G).most + 1 ≠ 0 := by omega
  have hq1 : (fnd G).most + 1 < 18446744073709551616 := by omega
  have hp := wr_parts x hx _ hq0 hq1
  have hr : ∀ i, i < st.n → F.Fr now ((fnd G).other * 16) (wrL x ((fnd G).most + 1)) i (F.rd st2 i) := fun i hi => by
    rw [hd2.nw i (by omega)]
    rcases he i hi with e | e
    · rw [e]; exact (hfr i).1
    · rw [e]; exact (hfr i).2
  · obtain ⟨G', a, b⟩ := h.broken x hx (fnd G).other ho ((fnd G).most + 1) (m + 1) rfl (by omega) (by omega) hbig st2 hn hd2.ok (fun i hi => by
      rcases hr i hi with e | ⟨e1, e2, e3⟩
      · left; rw [e, hd.nw i hi]
      · right
        rw [hp] at e2
        refine ⟨i - (fnd G).other * 16, by omega, by omega, ?_⟩
        rw [e3]
        exact wr_chunk x hx _ hq0 hq1 _ (by omega))
    exact ⟨_, G', a, rfl, b⟩
end
/-- How the Seqs stand: the greatest one whose Write ended is on the anchor, or a greater one. -/
def RI (last k : Nat) (st : F.St) : Prop := ∃ T G, Lies k T G st ∧ (last = 0 ∨ ∃ c, c < 2 ∧ Whl (G c) ∧ last ≤ (G c 0).q)
theorem rise_seq {last k : Nat} {T : Nat → Nat → ByteArray} {G : Nat → Nat → Pg} {st : F.St} (h : Lies k T G st) (hl : last = 0 ∨ ∃ c, c < 2 ∧ Whl (G c) ∧ last ≤ (G c 0).q) : last ≤ (fnd G).seq ∧ decide (0 < (scan G 2).found) = decide (0 < (fnd G).seq) := by
  have hf := h.found
  refine ⟨?_, ?_⟩
  · rcases hl with e | ⟨c, hc, hw, hq⟩
    · omega
    · exact Nat.le_trans hq (hf.le c hc hw)
  · by_cases e : (scan G 2).sl.seq = 0
    · have h1 := (hf.none e).1
      rw [decide_eq_false (by omega), decide_eq_false (by show ¬ 0 < (scan G 2).sl.seq; omega)]
    · have h1 := (hf.some e).1
      rw [decide_eq_true h1, decide_eq_true (by show 0 < (scan G 2).sl.seq; omega)]
theorem rise_end {k : Nat} {T : Nat → Nat → ByteArray} {G : Nat → Nat → Pg} {st : F.St} {now : Nat → ByteArray} {ats : Nat → Nat} (h : Lies k T G st) (hbig : k + 1 < 1000000) (hd : F.Dv st ats now now) (x : ByteArray) (hx : x.size ≤ 640) {st2 : F.St} {ats2 : Nat → Nat} {now' now1 : Nat → ByteArray} (hn1 : now1 = F.lay now ((fnd G).other * 16) (wrL x ((fnd G).most + 1)) (spT x.size)) (hn : st2.n = st.n) (hd2 : F.Dv st2 ats2 now' now') (he : ∀ i, i < st.n → now' i = now1 i ∨ now' i = now1 i) : RI ((fnd G).most + 1) (k + 1) st2 := by
  obtain ⟨T', G', a, b, c, _⟩ := h.wrote hbig hd x hx hn1 hn hd2 he
  have := other_le h.found
  exact ⟨T', G', a, Or.inr ⟨_, by omega, b, by omega⟩⟩
theorem rise_brk {last k : Nat} {T : Nat → Nat → ByteArray} {G : Nat → Nat → Pg} {st : F.St} {now : Nat → ByteArray} {ats : Nat → Nat} (h : Lies k T G st) (hbig : k + 1 < 1000000) (hl : last = 0 ∨ ∃ c, c < 2 ∧ Whl (G c) ∧ last ≤ (G c 0).q) (hd : F.Dv st ats now now) (x : ByteArray) (hx : x.size ≤ 640) {st2 : F.St} {ats2 : Nat → Nat} {now' now2 sure2 : Nat → ByteArray} (hfr : ∀ i, F.Fr now ((fnd G).other * 16) (wrL x ((fnd G).most + 1)) i (now2 i) ∧ F.Fr now ((fnd G).other * 16) (wrL x ((fnd G).most + 1)) i (sure2 i)) (hn : st2.n = st.n) (hd2 : F.Dv st2 ats2 now' now') (he : ∀ i, i < st.n → now' i = now2 i ∨ now' i = sure2 i) : RI last (k + 1) st2 := by
  obtain ⟨T', G', a, _, b⟩ := h.broke hbig hd x hx hfr hn hd2 he
  have hf := h.found
  refine ⟨T', G', a, ?_⟩
  by_cases e : last = 0
  · exact Or.inl e
  · right
    have hs := (rise_seq h hl).1
    have hs' : last ≤ (scan G 2).sl.seq := hs
    have hne : (scan G 2).sl.seq ≠ 0 := by omega
    obtain ⟨h1, h2, h3, _⟩ := hf.some hne
    have hsl := hf.slot
    have ho := other_ne hf hne
    have hc : ∀ j, j < 16 → G' (scan G 2).sl.slot j = G (scan G 2).sl.slot j := fun j hj => b _ j (by omega) ho hj
    refine ⟨(scan G 2).sl.slot, by omega, whl_congr hc (h.size _ (by omega) 0 (by decide)).1 h2, ?_⟩
    rw [hc 0 (by decide), h3]; exact hs'
end Go.Proofs.YtknmipbjkkeebaaGreat
