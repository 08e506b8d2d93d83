/- What lies on the anchor behind Writes that ended well, and what is found there. -/
import Derived.Test.YtknmipbjkkeebaaGreatIS
namespace Go.Proofs.YtknmipbjkkeebaaGreat
open Go.RowKit
/-- The anchor has the text x, by Writes that ended well. -/
structure Cur (G : Nat → Nat → Pg) (st : F.St) (s : Sl) (x : ByteArray) : Prop where
  anc : Anc G st
  slot : s.slot ≤ 1
  same : s.seq = s.most
  pos : s.seq ≠ 0
  le : ∀ a, a < 2 → ∀ j, j < 16 → (G a j).q ≤ s.most
  few : x.size ≤ 640
  is : ∀ j, j < spT x.size → G s.slot j = spP x s.seq j
  els : (G (1 - s.slot) 0).q < s.seq
/-- It has nothing. -/
structure Emp (G : Nat → Nat → Pg) (st : F.St) : Prop where
  anc : Anc G st
  none : ∀ a, a < 2 → ∀ j, j < 16 → G a j = zp
theorem Cur.found {G : Nat → Nat → Pg} {st : F.St} {s : Sl} {x : ByteArray} (h : Cur G st s x) : (scan G 2).text = x ∧ (scan G 2).sl.slot = s.slot ∧ (scan G 2).sl.seq = s.seq ∧ (scan G 2).sl.most = s.most ∧ 0 < (scan G 2).found := by
  have h0 := h.is 0 (spT_pos _)
  have hq : (G s.slot 0).q = s.seq := by rw [h0]; rfl
  have hw := whl_split (G s.slot) x s.seq h.is
  have htx := text_split (G s.slot) x s.seq h.is
  have hpos := h.pos
  have hels := h.els
  have hm : mostN (G s.slot) 16 = s.most := mostN_is _ _ (h.le s.slot (by have := h.slot; omega)) (by rw [hq]; exact h.same)
  have hm2 : mostN (G (1 - s.slot)) 16 ≤ s.most := mostN_le _ _ (h.le (1 - s.slot) (by omega)) 16 (Nat.le_refl _)
  have hmost : (scan G 2).sl.most = s.most := by
    rw [scan_two]
    rcases Nat.lt_or_ge s.slot 1 with hs | hs
    · have e : s.slot = 0 := by omega
      rw [e] at hm hm2; rw [hm]; have : mostN (G 1) 16 ≤ s.most := hm2; omega
    · have e : s.slot = 1 := by have := h.slot; omega
      rw [e] at hm hm2; rw [hm]; have : mostN (G 0) 16 ≤ s.most := hm2; omega
  rcases Nat.lt_or_ge s.slot 1 with hs | hs
  · have e : s.slot = 0 := by omega
    rw [e] at hq hw htx hels
    have q := scan_first G hw (by rw [hq]; omega) (Or.inr (by rw [hq]; exact Nat.le_of_lt hels))
    exact ⟨q.1.trans htx, by rw [e]; exact q.2.1, q.2.2.1.trans hq, hmost, q.2.2.2⟩
  · have e : s.slot = 1 := by have := h.slot; omega
    rw [e] at hq hw htx hels
    have q := scan_second G hw (fun _ => by rw [hq]; exact hels) (by rw [hq]; omega)
    exact ⟨q.1.trans htx, by rw [e]; exact q.2.1, q.2.2.1.trans hq, hmost, q.2.2.2⟩
theorem Emp.found {G : Nat → Nat → Pg} {st : F.St} (h : Emp G st) : (scan G 2).text = ⟨#[]⟩ ∧ (scan G 2).sl.slot = 0 ∧ (scan G 2).sl.seq = 0 ∧ (scan G 2).sl.most = 0 ∧ (scan G 2).found = 0 := by
  have n0 : ¬ Whl (G 0) := whl_zero _ (by rw [h.none 0 (by decide) 0 (by decide)]; rfl)
  have n1 : ¬ Whl (G 1) := whl_zero _ (by rw [h.none 1 (by decide) 0 (by decide)]; rfl)
  have q := scan_none G n0 n1
  have m0 : mostN (G 0) 16 ≤ 0 := mostN_le _ _ (fun j hj => by rw [h.none 0 (by decide) j hj]; exact Nat.le_refl _) 16 (Nat.le_refl _)
  have m1 : mostN (G 1) 16 ≤ 0 := mostN_le _ _ (fun j hj => by rw [h.none 1 (by decide) j hj]; exact Nat.le_refl _) 16 (Nat.le_refl _)
  exact ⟨q.1, q.2.1, q.2.2.1, by rw [scan_two]; omega, q.2.2.2⟩
/-- The Pages behind a Write. -/
def wrG (G : Nat → Nat → Pg) (o : Nat) (x : ByteArray) (q : Nat) : Nat → Nat → Pg := fun a j => if a = o ∧ j < spT x.size then spP x q j else G a j
/-- Behind a Write the anchor has its text. -/
theorem cur_next {G : Nat → Nat → Pg} {st st' : F.St} {s : Sl} {x : ByteArray} (ha : Anc G st) (hle : ∀ a, a < 2 → ∀ j, j < 16 → (G a j).q ≤ s.most) (hs : s.slot ≤ 1) (hx : x.size ≤ 640) (hm : s.most < 18446744073709551615) (hw : Wrt st st' (s.other * 16) x (s.most + 1)) : Cur (wrG G s.other x (s.most + 1)) st' ⟨s.other, s.most + 1, s.most + 1, false⟩ x := by
  have ho : s.other ≤ 1 := by unfold Sl.other; split <;> omega
  have ht := spT_le x.size hx
  have ht1 := spT_pos x.size
  have hnew : ∀ j, j < spT x.size → wrG G s.other x (s.most + 1) s.other j = spP x (s.most + 1) j := fun j hj => if_pos ⟨rfl, hj⟩
  have hold : ∀ a j, ¬ a = s.other → wrG G s.other x (s.most + 1) a j = G a j := fun a j h => if_neg (fun e => h e.1)
  refine ⟨⟨by rw [hw.n]; exact ha.n, by rw [hw.n]; exact ha.n1, hw.ok, fun a hA j hj => ?_, fun a hA => ?_, fun a hA j hj => ?_⟩, ho, rfl, Nat.succ_ne_zero _, fun a hA j hj => ?_, hx, hnew, ?_⟩
  · have hn := ha.n
    by_cases h : a = s.other ∧ j < spT x.size
    · rw [show wrG G s.other x (s.most + 1) a j = spP x (s.most + 1) j from if_pos h, h.1, hw.new j h.2]
      exact tells_page _ (sp_ok x hx (s.most + 1) (by omega) (by omega) j h.2)
    · rw [show wrG G s.other x (s.most + 1) a j = G a j from if_neg h, hw.old (a * 16 + j) (by omega) (by
        by_cases e : a = s.other
        · subst e
          have : ¬ j < spT x.size := fun q => h ⟨rfl, q⟩
          right; omega
        · rcases Nat.lt_or_ge a s.other with l | l
          · left; omega
          · right; omega)]
      exact ha.tells a hA j hj
  · by_cases h : a = s.other
    · rw [h, hnew 0 ht1]; exact ht
    · rw [hold a 0 h]; exact ha.few a hA
  · by_cases h : a = s.other
    · subst h
      rw [hnew 0 ht1] at hj
      have hj' : j < spT x.size := hj
      rw [hnew j hj']
      exact (sp_ok x hx (s.most + 1) (by omega) (by omega) j hj').d
    · rw [hold a 0 h] at hj
      rw [hold a j h]; exact ha.dat a hA j hj
  · by_cases h : a = s.other ∧ j < spT x.size
    · rw [show wrG G s.other x (s.most + 1) a j = spP x (s.most + 1) j from if_pos h]; exact Nat.le_refl _
    · rw [show wrG G s.other x (s.most + 1) a j = G a j from if_neg h]
      have := hle a hA j hj
      show _ ≤ s.most + 1
      omega
  · show (wrG G s.other x (s.most + 1) (1 - s.other) 0).q < s.most + 1
    rw [hold (1 - s.other) 0 (by omega)]
    have := hle (1 - s.other) (by omega) 0 (by decide)
    omega
end Go.Proofs.YtknmipbjkkeebaaGreat
