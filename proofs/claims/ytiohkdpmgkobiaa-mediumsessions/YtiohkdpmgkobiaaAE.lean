/- Crash, of a pool of one device, whatever is loose, as a call. -/
import Derived.Test.YtiohkdpmgkobiaaAD
namespace Go.Proofs.Ytiohkdpmgkobiaa
open Go.RowKit
section
variable {b0 : Nat} {w0 : World} {L : Loc} {st : St} {lv : Value} {oth : List (Nat × Obj)} {w : World}
theorem One.crash_t (h : One b0 w0 L st lv oth w) (c : Value) (st2 : St) (ht : st2.there = true) (hq : 0 ≤ st2.session ∧ st2.session ≤ 1000000) (hs : Calls Try.prog 74 #[.pointer (some ⟨L.D, 0, none⟩), c] w fun e w' => (∃ c', e = .returned c') ∧ One b0 w0 L st2 (.slice none 0 0) oth w') :
    Calls Try.prog 19 #[.pointer (some ⟨L.P, 0, none⟩), c] w fun e w' => e = .returned (.tuple #[]) ∧ One b0 w0 L { st2 with aw := false, al := 0, session := st2.session + 1, hw := false, hl := 0, down := false } (.slice none 0 0) oth w' := by
  have c0 := h.pc.1
  have hr := h.row
  have HT : Hid (st2.there = true) := ht
  clear ht
  have H4 : ∀ w1, One b0 w0 L st2 (.slice none 0 0) oth w1 → One b0 w0 L { st2 with aw := false, al := 0, session := st2.session + 1 } (.slice none 0 0) oth (((w1.setCell ⟨L.D, 5, none⟩ (.bool false)).setCell ⟨L.D, 6, none⟩ (.int .i64 0)).setCell ⟨L.D, 1, none⟩ (.int .i64 (st2.session + 1))) := by
    intro w1 h1
    have h2 := h1.updD 5 (.bool false) { st2 with aw := false } (.slice none 0 0) ⟨rfl, rfl, rfl, rfl, rfl⟩ rfl (h1.ownD _ _)
    have h3 := h2.updD 6 (.int .i64 0) { st2 with aw := false, al := 0 } (.slice none 0 0) ⟨rfl, rfl, rfl, rfl, rfl⟩ rfl (h2.ownD _ _)
    have h4 := h3.updD 1 (.int .i64 (st2.session + 1)) { st2 with aw := false, al := 0, session := st2.session + 1 } (.slice none 0 0) ⟨rfl, rfl, rfl, rfl, rfl⟩ rfl (h3.ownD _ _)
    exact h4
  have H : ∀ w1, One b0 w0 L st2 (.slice none 0 0) oth w1 → One b0 w0 L { st2 with aw := false, al := 0, session := st2.session + 1, hw := false, hl := 0, down := false } (.slice none 0 0) oth ((((((w1.setCell ⟨L.D, 5, none⟩ (.bool false)).setCell ⟨L.D, 6, none⟩ (.int .i64 0)).setCell ⟨L.D, 1, none⟩ (.int .i64 (st2.session + 1))).setCell ⟨L.P, 1, none⟩ (.bool false)).setCell ⟨L.P, 2, none⟩ (.int .i64 0)).setCell ⟨L.P, 3, none⟩ (.bool false)) := by
    intro w1 h1
    have h4 := H4 w1 h1
    have h5 := h4.updP 1 (.bool false) { st2 with aw := false, al := 0, session := st2.session + 1, hw := false } ⟨rfl, rfl, rfl, rfl, rfl, rfl, rfl, rfl, rfl, rfl⟩ rfl
    have h6 := h5.updP 2 (.int .i64 0) { st2 with aw := false, al := 0, session := st2.session + 1, hw := false, hl := 0 } ⟨rfl, rfl, rfl, rfl, rfl, rfl, rfl, rfl, rfl, rfl⟩ rfl
    exact h6.updP 3 (.bool false) _ ⟨rfl, rfl, rfl, rfl, rfl, rfl, rfl, rfl, rfl, rfl⟩ rfl
  have HH : Hid _ := H
  have HH4 : Hid _ := H4
  clear h H H4
  go_enter Try.func19, Try.ntmps19
  go_wp2
  go_loopw [1, 11] (fun cv i wr => (cv = c ∧ i = .int .i64 0 ∧ wr = w) ∨ (i = .int .i64 1 ∧ Hid (∃ w1, One b0 w0 L st2 (.slice none 0 0) oth w1 ∧ wr = (((w1.setCell ⟨L.D, 5, none⟩ (.bool false)).setCell ⟨L.D, 6, none⟩ (.int .i64 0)).setCell ⟨L.D, 1, none⟩ (.int .i64 (st2.session + 1)))))) (fun _ i _ => 1 - (intOf i).toNat)
  case atStart => exact Or.inl ⟨rfl, rfl, rfl⟩
  case round =>
    rcases hrel with ⟨rfl, rfl, rfl⟩ | ⟨rfl, hz⟩
    · go_wp2_with fail
      go_call hs as e w1 ⟨⟨c', rfl⟩, h1⟩
      obtain ⟨d0, d1, d2, d3, d4, d5, d6, d7⟩ := h1.dc
      have f1 := h1.df 1
      have f5 := h1.df 5
      have f6 := h1.df 6
      rw [HT.out] at d2
      have H1 : Hid _ := h1
      clear hs h1 hr
      go_wp2
      go_roundw
      case rel => exact Or.inr ⟨rfl, ⟨w1, H1.out, rfl⟩⟩
      case measure => simp only [intOf]; omega
    · clear hs hr
      obtain ⟨w1, h1, hw⟩ := hz.out
      have hfin := HH.out w1 h1
      rw [← hw] at hfin
      have h4 := HH4.out w1 h1
      rw [← hw] at h4
      obtain ⟨p0, p1, p2, p3, p4⟩ := h4.pc
      have g1 := h4.pf 1
      have g2 := h4.pf 2
      have g3 := h4.pf 3
      have HF : Hid _ := hfin
      clear hz h1 hw hfin h4 HH HH4
      go_wp2
      go_returns
      exact ⟨rfl, HF.out⟩
theorem One.crash_f (h : One b0 w0 L st lv oth w) (c : Value) (st2 : St) (ht : st2.there = false) (hs : Calls Try.prog 74 #[.pointer (some ⟨L.D, 0, none⟩), c] w fun e w' => (∃ c', e = .returned c') ∧ One b0 w0 L st2 (.slice none 0 0) oth w') :
    Calls Try.prog 19 #[.pointer (some ⟨L.P, 0, none⟩), c] w fun e w' => e = .returned (.tuple #[]) ∧ One b0 w0 L { st2 with aw := false, al := 0, session := st2.session, hw := false, hl := 0, down := false } (.slice none 0 0) oth w' := by
  have c0 := h.pc.1
  have hr := h.row
  have HT : Hid (st2.there = false) := ht
  clear ht
  have H4 : ∀ w1, One b0 w0 L st2 (.slice none 0 0) oth w1 → One b0 w0 L { st2 with aw := false, al := 0, session := st2.session } (.slice none 0 0) oth (((w1.setCell ⟨L.D, 5, none⟩ (.bool false)).setCell ⟨L.D, 6, none⟩ (.int .i64 0))) := by
    intro w1 h1
    have h2 := h1.updD 5 (.bool false) { st2 with aw := false } (.slice none 0 0) ⟨rfl, rfl, rfl, rfl, rfl⟩ rfl (h1.ownD _ _)
    have h3 := h2.updD 6 (.int .i64 0) { st2 with aw := false, al := 0 } (.slice none 0 0) ⟨rfl, rfl, rfl, rfl, rfl⟩ rfl (h2.ownD _ _)
    have h4 : One b0 w0 L { st2 with aw := false, al := 0, session := st2.session } (.slice none 0 0) oth _ := h3
    exact h4
  have H : ∀ w1, One b0 w0 L st2 (.slice none 0 0) oth w1 → One b0 w0 L { st2 with aw := false, al := 0, session := st2.session, hw := false, hl := 0, down := false } (.slice none 0 0) oth ((((((w1.setCell ⟨L.D, 5, none⟩ (.bool false)).setCell ⟨L.D, 6, none⟩ (.int .i64 0))).setCell ⟨L.P, 1, none⟩ (.bool false)).setCell ⟨L.P, 2, none⟩ (.int .i64 0)).setCell ⟨L.P, 3, none⟩ (.bool false)) := by
    intro w1 h1
    have h4 := H4 w1 h1
    have h5 := h4.updP 1 (.bool false) { st2 with aw := false, al := 0, session := st2.session, hw := false } ⟨rfl, rfl, rfl, rfl, rfl, rfl, rfl, rfl, rfl, rfl⟩ rfl
    have h6 := h5.updP 2 (.int .i64 0) { st2 with aw := false, al := 0, session := st2.session, hw := false, hl := 0 } ⟨rfl, rfl, rfl, rfl, rfl, rfl, rfl, rfl, rfl, rfl⟩ rfl
    exact h6.updP 3 (.bool false) _ ⟨rfl, rfl, rfl, rfl, rfl, rfl, rfl, rfl, rfl, rfl⟩ rfl
  have HH : Hid _ := H
  have HH4 : Hid _ := H4
  clear h H H4
  go_enter Try.func19, Try.ntmps19
  go_wp2
  go_loopw [1, 11] (fun cv i wr => (cv = c ∧ i = .int .i64 0 ∧ wr = w) ∨ (i = .int .i64 1 ∧ Hid (∃ w1, One b0 w0 L st2 (.slice none 0 0) oth w1 ∧ wr = (((w1.setCell ⟨L.D, 5, none⟩ (.bool false)).setCell ⟨L.D, 6, none⟩ (.int .i64 0)))))) (fun _ i _ => 1 - (intOf i).toNat)
  case atStart => exact Or.inl ⟨rfl, rfl, rfl⟩
  case round =>
    rcases hrel with ⟨rfl, rfl, rfl⟩ | ⟨rfl, hz⟩
    · go_wp2_with fail
      go_call hs as e w1 ⟨⟨c', rfl⟩, h1⟩
      obtain ⟨d0, d1, d2, d3, d4, d5, d6, d7⟩ := h1.dc
      have f1 := h1.df 1
      have f5 := h1.df 5
      have f6 := h1.df 6
      rw [HT.out] at d2
      have H1 : Hid _ := h1
      clear hs h1 hr
      go_wp2
      go_roundw
      case rel => exact Or.inr ⟨rfl, ⟨w1, H1.out, rfl⟩⟩
      case measure => simp only [intOf]; omega
    · clear hs hr
      obtain ⟨w1, h1, hw⟩ := hz.out
      have hfin := HH.out w1 h1
      rw [← hw] at hfin
      have h4 := HH4.out w1 h1
      rw [← hw] at h4
      obtain ⟨p0, p1, p2, p3, p4⟩ := h4.pc
      have g1 := h4.pf 1
      have g2 := h4.pf 2
      have g3 := h4.pf 3
      have HF : Hid _ := hfin
      clear hz h1 hw hfin h4 HH HH4
      go_wp2
      go_returns
      exact ⟨rfl, HF.out⟩
end
end Go.Proofs.Ytiohkdpmgkobiaa
