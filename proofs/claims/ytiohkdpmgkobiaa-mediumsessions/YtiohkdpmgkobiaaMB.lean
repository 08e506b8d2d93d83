/- MediumSessions: Crash, Detach, Attach, Of and Few in a round, as calls; the work within a Guard. -/
import Derived.Test.YtiohkdpmgkobiaaMA
namespace Go.Proofs.Ytiohkdpmgkobiaa
open Go.RowKit
section
variable {b0 : Nat} {w0 : World} {L : Loc} {st : St} {lv : Value} {oth : List (Nat × Obj)} {w : World} {qm : Int} {al : Bool} {c d : Nat}
theorem One.detach_of (h : One b0 w0 L st lv oth w) (ch : Value) (ht : st.there = true) (st2 : St) (e1 : st2.there = true)
    (hs : Calls Try.prog 74 #[.pointer (some ⟨L.D, 0, none⟩), ch] w fun e w' => (∃ c', e = .returned c') ∧ One b0 w0 L st2 (.slice none 0 0) oth w') :
    Calls Try.prog 45 #[.pointer (some ⟨L.P, 0, none⟩), .int .i64 st.serial, ch] w fun e w' => e = .returned (.int .i64 0) ∧ One b0 w0 L { st2 with there := false } (.slice none 0 0) oth w' := by
  have hf := h.find
  have d2 := h.dc.2.2.1
  rw [ht] at d2
  clear h
  go_enter Try.func45, Try.ntmps45
  go_wp2_with fail
  go_call hf as e w1 ⟨rfl, rfl⟩
  go_wp2_with fail
  go_call hs as e w2 ⟨⟨c', rfl⟩, h2⟩
  have e2 := h2.dc.2.2.1
  have f2 := h2.df 2
  have HF : Hid (One b0 w0 L { st2 with there := false } (.slice none 0 0) oth (w2.setCell ⟨L.D, 2, none⟩ (.bool false))) := h2.updD 2 _ _ _ ⟨rfl, rfl, rfl, rfl, rfl⟩ rfl (h2.ownD _ _)
  clear h2 hs hf
  go_wp2
  go_returns
  exact ⟨rfl, HF.out⟩
theorem One.detach_no (h : One b0 w0 L st lv oth w) (ch : Value) (ht : st.there = false) :
    Calls Try.prog 45 #[.pointer (some ⟨L.P, 0, none⟩), .int .i64 st.serial, ch] w fun e w' => e = .returned (.int .i64 8) ∧ w' = w := by
  have hf := h.find
  have d2 := h.dc.2.2.1
  rw [ht] at d2
  clear h
  go_enter Try.func45, Try.ntmps45
  go_wp2_with fail
  go_call hf as e w1 ⟨rfl, rfl⟩
  go_wp2
  go_returns
  exact ⟨rfl, rfl⟩
theorem One.attach_no (h : One b0 w0 L st lv oth w) (ht : st.there = true) : Calls Try.prog 46 #[.pointer (some ⟨L.P, 0, none⟩), .int .i64 st.serial] w fun e w' => e = .returned (.int .i64 11) ∧ w' = w := by
  have hf := h.find
  have d2 := h.dc.2.2.1
  rw [ht] at d2
  clear h
  go_enter Try.func46, Try.ntmps46
  go_wp2_with fail
  go_call hf as e w1 ⟨rfl, rfl⟩
  go_wp2
  go_returns
  exact ⟨rfl, rfl⟩
theorem One.attach_ok (h : One b0 w0 L st lv oth w) (ht : st.there = false) (hq : 0 ≤ st.session ∧ st.session ≤ 1000000) : Calls Try.prog 46 #[.pointer (some ⟨L.P, 0, none⟩), .int .i64 st.serial] w fun e w' => e = .returned (.int .i64 0) ∧ One b0 w0 L { st with there := true, session := st.session + 1 } lv oth w' := by
  have hf := h.find
  have d2 := h.dc.2.2.1
  rw [ht] at d2
  have d1 := h.dc.2.1
  have f1 := h.df 1
  have f2 := h.df 2
  have h2 := h.updD 2 (.bool true) { st with there := true } lv ⟨rfl, rfl, rfl, rfl, rfl⟩ rfl (h.ownD _ _)
  have h3 := h2.updD 1 (.int .i64 (st.session + 1)) { st with there := true, session := st.session + 1 } lv ⟨rfl, rfl, rfl, rfl, rfl⟩ rfl (h2.ownD _ _)
  have HF : Hid _ := h3
  obtain ⟨hq1, hq2⟩ := hq
  clear h h2 h3
  go_enter Try.func46, Try.ntmps46
  go_wp2_with fail
  go_call hf as e w1 ⟨rfl, rfl⟩
  go_wp2
  go_returns
  exact ⟨rfl, HF.out⟩
theorem One.of_gone (h : One b0 w0 L st lv oth w) (ht : st.there = false) : Calls Try.prog 43 #[.pointer (some ⟨L.P, 0, none⟩), .int .i64 st.serial] w fun e w' => e = .returned (.tuple #[.pointer none, .int .i64 8]) ∧ One b0 w0 L st lv oth w' := by
  have ho := h.open_gone ht
  clear h
  go_enter Try.func43, Try.ntmps43
  go_wp2_with fail
  go_call ho as e w1 ⟨rfl, h1⟩
  have HF : Hid (∀ o, One b0 w0 L st lv oth (w1.alloc o)) := fun o => h1.laid o
  clear h1 ho
  go_wp2
  go_returns
  exact ⟨rfl, HF.out _⟩
/-- What is left of an invariant when sessions go on. -/
theorem SInv.crash (h : One b0 w0 L st lv oth w) (hi : SInv st qm al c d) (hd : d ≤ 1000) (K o N : Nat) (cv : Value) (ch : Nat → Int) (hc : ChL K o N 0 cv) (hch : ∀ W, Below b0 w0 W → ∀ j, j < N → W.cell? ⟨K, o + j, none⟩ = some (.int .i64 (ch j))) :
    Calls Try.prog 19 #[.pointer (some ⟨L.P, 0, none⟩), cv] w fun e w' => e = .returned (.tuple #[]) ∧ ∃ st2 lv2, One b0 w0 L st2 lv2 oth w' ∧ SInv st2 qm false c (d + 1) := by
  obtain ⟨ats, now, sure, hdv⟩ := hi.dv
  have e1 := hi.q1; have e2 := hi.qs; have e3 := hi.s2
  cases ht : st.there with
  | true =>
    refine (h.crash_dv hdv ht (by rw [hi.n]; decide) (by omega) K o N cv ch hc hch).mono ?_
    rintro e w' ⟨rfl, st2, now', g1, g2, g3, g4, g5, g6, g7, g8, g9, g10, g11, g12⟩
    exact ⟨rfl, st2, _, g1, by rw [g4, hi.serial], by rw [g7, hi.n], g8, g9, g10, hi.q1, by omega, by omega, by rw [g11]; exact hi.c0, by rw [g11]; exact hi.c1, by rw [decide_eq_false (fun hh => by have := hh.2; omega)], ats, now', now', g2⟩
  | false =>
    have hset := h.settle_any ats hdv.lis hdv.ok.size (by rw [hi.n]; decide) K o N cv ch hc (fun W st' lv' hW j hj => hch W hW.below j hj)
    refine (h.crash_f cv { st with secs := secsK st ats N ch st.ln, ln := 0, loose := [] } ht (hset.mono ?_)).mono ?_
    · rintro e w' ⟨c', rfl, _, h1⟩
      exact ⟨⟨c', rfl⟩, h1⟩
    · rintro e w' ⟨rfl, h1⟩
      obtain ⟨now', k1, k2⟩ := hdv.settled N ch { ({ st with secs := secsK st ats N ch st.ln, ln := 0, loose := [] } : St) with aw := false, al := 0, session := st.session, hw := false, hl := 0, down := false } rfl rfl rfl rfl
      exact ⟨rfl, _, _, h1, hi.serial, hi.n, rfl, rfl, rfl, hi.q1, hi.qs, by show st.session ≤ _; omega, hi.c0, hi.c1, by rw [decide_eq_false (fun hh => by have := hh.1; rw [show ({ ({ st with secs := secsK st ats N ch st.ln, ln := 0, loose := [] } : St) with aw := false, al := 0, session := st.session, hw := false, hl := 0, down := false } : St).there = st.there from rfl, ht] at this; cases this)], ats, now', now', k2⟩
theorem SInv.detach (h : One b0 w0 L st lv oth w) (hi : SInv st qm al c d) (K o N : Nat) (cv : Value) (ch : Nat → Int) (hc : ChL K o N 0 cv) (hch : ∀ W, Below b0 w0 W → ∀ j, j < N → W.cell? ⟨K, o + j, none⟩ = some (.int .i64 (ch j))) :
    Calls Try.prog 45 #[.pointer (some ⟨L.P, 0, none⟩), .int .i64 1, cv] w fun e w' => (e = .returned (.int .i64 0) ∧ ∃ st2 lv2, One b0 w0 L st2 lv2 oth w' ∧ SInv st2 qm false c d) ∨ (e = .returned (.int .i64 8) ∧ One b0 w0 L st lv oth w') := by
  obtain ⟨ats, now, sure, hdv⟩ := hi.dv
  rw [← hi.serial]
  cases ht : st.there with
  | true =>
    have hset := h.settle_any ats hdv.lis hdv.ok.size (by rw [hi.n]; decide) K o N cv ch hc (fun W st' lv' hW j hj => hch W hW.below j hj)
    refine (h.detach_of cv ht { st with secs := secsK st ats N ch st.ln, ln := 0, loose := [] } ht (hset.mono ?_)).mono ?_
    · rintro e w' ⟨c', rfl, _, h1⟩
      exact ⟨⟨c', rfl⟩, h1⟩
    · rintro e w' ⟨rfl, h1⟩
      obtain ⟨now', k1, k2⟩ := hdv.settled N ch { ({ st with secs := secsK st ats N ch st.ln, ln := 0, loose := [] } : St) with there := false } rfl rfl rfl rfl
      exact Or.inl ⟨rfl, _, _, h1, hi.serial, hi.n, hi.aw, hi.hw, hi.down, hi.q1, hi.qs, hi.s2, hi.c0, hi.c1, by rw [decide_eq_false (fun hh => by have := hh.1; cases this)], ats, now', now', k2⟩
  | false =>
    refine (h.detach_no cv ht).mono ?_
    rintro e w' ⟨rfl, rfl⟩
    exact Or.inr ⟨rfl, h⟩
theorem SInv.attach (h : One b0 w0 L st lv oth w) (hi : SInv st qm al c d) (hd : d ≤ 1000) :
    Calls Try.prog 46 #[.pointer (some ⟨L.P, 0, none⟩), .int .i64 1] w fun e w' => (∃ y, e = .returned (.int .i64 y)) ∧ ∃ st2 lv2, One b0 w0 L st2 lv2 oth w' ∧ SInv st2 qm al c (d + 1) := by
  obtain ⟨ats, now, sure, hdv⟩ := hi.dv
  have e1 := hi.q1; have e2 := hi.qs; have e3 := hi.s2
  rw [← hi.serial]
  cases ht : st.there with
  | true =>
    refine (h.attach_no ht).mono ?_
    rintro e w' ⟨rfl, rfl⟩
    exact ⟨⟨_, rfl⟩, st, lv, h, hi.serial, hi.n, hi.aw, hi.hw, hi.down, hi.q1, hi.qs, by omega, hi.c0, hi.c1, hi.al, hi.dv⟩
  | false =>
    refine (h.attach_ok ht (by omega)).mono ?_
    rintro e w' ⟨rfl, h1⟩
    have hal : al = false := by rw [hi.al]; exact decide_eq_false (fun hh => by rw [ht] at hh; cases hh.1)
    exact ⟨⟨_, rfl⟩, _, lv, h1, hi.serial, hi.n, hi.aw, hi.hw, hi.down, hi.q1, by show qm ≤ st.session + 1; omega, by show st.session + 1 ≤ _; omega, hi.c0, hi.c1, by rw [hal, decide_eq_false (fun hh => by have := hh.2; have h4 : st.session + 1 = qm := this; omega)], ats, now, sure, hdv.same rfl rfl rfl rfl⟩
theorem SInv.of (h : One b0 w0 L st lv oth w) (hi : SInv st qm al c d) :
    Calls Try.prog 43 #[.pointer (some ⟨L.P, 0, none⟩), .int .i64 1] w fun e w' => (∃ M q2, e = .returned (.tuple #[.pointer (some ⟨M, 0, none⟩), .int .i64 0]) ∧ One b0 w0 L st lv ((M, med L.P 1 q2) :: oth) w' ∧ SInv st q2 true c d) ∨ (e = .returned (.tuple #[.pointer none, .int .i64 8]) ∧ One b0 w0 L st lv oth w') := by
  rw [← hi.serial]
  cases ht : st.there with
  | true =>
    refine (h.of_any ht).mono ?_
    rintro e w' ⟨M, rfl, h1⟩
    have e1 := hi.q1; have e2 := hi.qs
    exact Or.inl ⟨M, st.session, rfl, h1, hi.serial, hi.n, hi.aw, hi.hw, hi.down, by omega, Int.le_refl _, hi.s2, hi.c0, hi.c1, by rw [decide_eq_true ⟨ht, rfl⟩], hi.dv⟩
  | false =>
    refine (h.of_gone ht).mono ?_
    rintro e w' ⟨rfl, h1⟩
    exact Or.inr ⟨rfl, h1⟩
end
/-- Few: at most twenty of them. -/
theorem few_any (ao : Option Addr) (n cp : Nat) (hn : n ≤ cp) (hcp : cp ≤ 9223372036854775807) (w : World) (i0 i1 i2 i3 : Int) (s4 : ByteArray) (b5 : Bool) :
    Calls Try.prog 44 #[.agg #[.int .i64 i0, .int .i64 i1, .int .i64 i2, .int .i64 i3, .string s4, .bool b5, .slice ao n cp]] w fun e w' => e = .returned (.slice ao (min n 20) cp) ∧ Below w.heap.size w w' := by
  have HB : Hid (∀ o, Below w.heap.size w (w.alloc o)) := fun o => (Below.refl _ w).alloc (Nat.le_refl _) o
  rcases Nat.lt_or_ge 20 n with h | h
  · rw [Nat.min_eq_right (by omega)]
    go_enter Try.func44, Try.ntmps44
    go_wp2
    go_returns
    exact ⟨rfl, HB.out _⟩
  · rw [Nat.min_eq_left h]
    have h' : ¬ 20 < n := by omega
    go_enter Try.func44, Try.ntmps44
    go_wp2
    go_returns
    exact ⟨rfl, HB.out _⟩
end Go.Proofs.Ytiohkdpmgkobiaa
