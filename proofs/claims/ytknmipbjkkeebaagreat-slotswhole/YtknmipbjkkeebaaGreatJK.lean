/- Guard and Crash of a round of SlotsRise, as calls. -/
import Derived.Test.YtknmipbjkkeebaaGreatJJ
import Derived.Test.YtknmipbjkkeebaaGreatIS
namespace Go.Proofs.YtknmipbjkkeebaaGreat
open Go.RowKit
section
variable {b0 : Nat} {w0 : World} {L : F.Loc} {st : F.St} {lv : Value} {oth : List (Nat × Obj)} {w : World} {S M : Nat} {s : Sl} {now : Nat → ByteArray} {x : ByteArray}
theorem WEnd.ofBelow {W W' : World} (h : WEnd b0 w0 L st S M s oth now x W) (hb : Below W.heap.size W W') : WEnd b0 w0 L st S M s oth now x W' := by
  obtain ⟨st', lv', o, r⟩ := h
  exact ⟨st', lv', o.ofBelow hb, r⟩
theorem WBrk.ofBelow {W W' : World} (h : WBrk b0 w0 L st s oth now x W) (hb : Below W.heap.size W W') : WBrk b0 w0 L st s oth now x W' := by
  obtain ⟨st', lv', o, r⟩ := h
  exact ⟨st', lv', o.ofBelow hb, r⟩
theorem WEnd.ones {W : World} (h : WEnd b0 w0 L st S M s oth now x W) : ∃ st' lv', F.One b0 w0 L st' lv' ((S, .cells (Sl.cs ⟨s.other, s.most + 1, s.most + 1, false⟩ M) 72) :: oth) W := by
  obtain ⟨st', lv', o, _⟩ := h
  exact ⟨st', lv', o⟩
theorem WBrk.ones {W : World} (h : WBrk b0 w0 L st s oth now x W) : ∃ st' lv', F.One b0 w0 L st' lv' oth W := by
  obtain ⟨st', lv', o, _⟩ := h
  exact ⟨st', lv', o⟩
/-- What a call that ends, or is broken off, does within Guard. -/
theorem wguard (f : Nat) (cap : Array Value) (hent : ∀ args W, (callFunc f args).run Tryz.prog W = .ok (.enter f args) W) (h : F.One b0 w0 L st lv ((S, .cells (s.cs M) 72) :: oth) w)
    (hdo : ∀ W oth2, (∀ p ∈ oth, p ∈ oth2) → (∀ p ∈ oth2, p ∈ oth ∨ w.heap.size ≤ p.1) → F.One b0 w0 L st lv ((S, .cells (s.cs M) 72) :: oth2) W → Calls Tryz.prog f cap W fun e w' => (e = .returned (.tuple #[]) ∧ ∃ x, x.size ≤ 640 ∧ WEnd b0 w0 L st S M s oth2 now x w') ∨ (∃ E, e = .panicked [F.fl st.serial E] ∧ ∃ x, x.size ≤ 640 ∧ WBrk b0 w0 L st s oth2 now x w')) :
    Calls Tryz.prog 12 #[.func (.func f) #[] cap] w fun e w' => (e = .returned (.tuple #[.agg #[.int .i64 0, .int .i64 0], .bool false]) ∧ ∃ x, x.size ≤ 640 ∧ WEnd b0 w0 L st S M s oth now x w') ∨ (∃ a b, e = .returned (.tuple #[.agg #[.int .i64 a, .int .i64 b], .bool true]) ∧ ∃ x, x.size ≤ 640 ∧ WBrk b0 w0 L st s oth now x w') := by
  have lS := h.lts (S, .cells (s.cs M) 72) (List.mem_cons_self ..)
  have lo : ∀ p ∈ oth, p.1 < w.heap.size := fun p hp => h.lts p (List.mem_cons_of_mem _ hp)
  have o1 := h.guarded.forget (oth' := (S, .cells (s.cs M) 72) :: (w.heap.size + 1, F.iob) :: (w.heap.size, F.bob) :: oth) (by
    intro p hp
    simp only [F.gob, List.mem_cons] at hp ⊢
    rcases hp with rfl | rfl | rfl | hp <;> simp [*])
  have hd := hdo _ _ (fun p hp => by simp [hp]) (fun p hp => by
    simp only [List.mem_cons] at hp
    rcases hp with rfl | rfl | hp
    · right; show w.heap.size ≤ w.heap.size + 1; omega
    · right; exact Nat.le_refl _
    · exact Or.inl hp) o1
  refine (F.guard_any f cap (fun W => ∃ x, x.size ≤ 640 ∧ WEnd b0 w0 L st S M s ((w.heap.size + 1, F.iob) :: (w.heap.size, F.bob) :: oth) now x W) (fun W => ∃ x, x.size ≤ 640 ∧ WBrk b0 w0 L st s ((w.heap.size + 1, F.iob) :: (w.heap.size, F.bob) :: oth) now x W) w hent (hd.mono ?_)).mono ?_
  · rintro e W (⟨rfl, x, hx, hE⟩ | ⟨E, rfl, x, hx, hB⟩)
    · obtain ⟨st', lv', o⟩ := hE.ones
      exact ⟨Or.inl ⟨rfl, x, hx, hE⟩, (o.oth (w.heap.size, F.bob) (by simp)).1, (o.oth (w.heap.size + 1, F.iob) (by simp)).1⟩
    · obtain ⟨st', lv', o⟩ := hB.ones
      exact ⟨Or.inr ⟨_, E, rfl, x, hx, hB⟩, (o.oth (w.heap.size, F.bob) (by simp)).1, (o.oth (w.heap.size + 1, F.iob) (by simp)).1⟩
  · rintro e w' (⟨rfl, W, ⟨x, hx, st', lv', o, r⟩, hk⟩ | ⟨a, b, rfl, W, ⟨x, hx, st', lv', o, r⟩, hk⟩)
    · refine Or.inl ⟨rfl, x, hx, st', lv', ?_, r⟩
      refine (o.forget (oth' := F.gob w.heap.size ((S, .cells (Sl.cs ⟨s.other, s.most + 1, s.most + 1, false⟩ M) 72) :: oth)) (by
        intro p hp
        simp only [F.gob, List.mem_cons] at hp ⊢
        rcases hp with rfl | rfl | rfl | hp <;> simp [*])).kt2 (by
        intro p hp
        rcases List.mem_cons.1 hp with rfl | hp
        · exact ⟨by show S ≠ _; omega, by show S ≠ _; omega⟩
        · have := lo p hp
          exact ⟨by omega, by omega⟩) hk
    · refine Or.inr ⟨a, b, rfl, x, hx, st', lv', ?_, r⟩
      exact F.One.kt2 (B := w.heap.size) o (by
        intro p hp
        have := lo p hp
        exact ⟨by omega, by omega⟩) hk
end
/-- A pool of one device that is idle, with nothing loose. -/
structure Rs (k : Nat) (st : F.St) : Prop where
  down : st.down = false
  aw : st.aw = false
  hw : st.hw = false
  serial : st.serial = 1
  there : st.there = true
  n : st.n = 32
  s0 : 0 ≤ st.session
  s1 : st.session ≤ 1 + (k : Int)
  c0 : 0 ≤ st.count
  c1 : st.count ≤ 60 * (k : Int)
  dv : ∃ ats now, F.Dv st ats now now
/-- The device as a Write meets it: opened, perhaps about to fail. -/
structure Rt (k : Nat) (st : F.St) : Prop where
  serial : st.serial = 1
  there : st.there = true
  n : st.n = 32
  s0 : 0 ≤ st.session
  s1 : st.session ≤ 1 + (k : Int)
  c0 : 0 ≤ st.count
  c1 : st.count ≤ 60 * (k : Int) + 32
section
variable {b0 : Nat} {w0 : World} {L : F.Loc} {st : F.St} {oth : List (Nat × Obj)} {w : World} {S M : Nat} {now : Nat → ByteArray} {x : ByteArray} {k : Nat} {T : Nat → Nat → ByteArray} {G : Nat → Nat → Pg} {ats : Nat → Nat}
/-- A crash behind a Write that ended. -/
theorem crash_end (hE : WEnd b0 w0 L st S M (fnd G) oth now x w) (hx : x.size ≤ 640) (hr : Rt k st) (hk : k ≤ 1000) (hl : Lies k T G st) (hd : F.Dv st ats now now) (K o N : Nat) (c : Value) (ch : Nat → Int) (hc : F.ChL K o N 0 c) (hch : ∀ W, Below b0 w0 W → ∀ j, j < N → W.cell? ⟨K, o + j, none⟩ = some (.int .i64 (ch j))) :
    Calls Tryz.prog 21 #[.pointer (some ⟨L.P, 0, none⟩), c] w fun e w' => e = .returned (.tuple #[]) ∧ ∃ st2 lv2, F.One b0 w0 L st2 lv2 oth w' ∧ Rs (k + 1) st2 ∧ ∃ T' G', Lies (k + 1) T' G' st2 ∧ Whl (G' (fnd G).other) ∧ (G' (fnd G).other 0).q = (fnd G).most + 1 ∧ T' = updT T (fnd G).other ((fnd G).most + 1) x ∧ ∀ k j, k ≠ (fnd G).other → G' k j = G k j := by
  obtain ⟨st', lv', o1, kp, c0, c1, ats1, hd1⟩ := hE
  have s0 := hr.s0; have s1 := hr.s1; have e0 := hr.c0; have e1 := hr.c1; have hn := hr.n
  refine (o1.crash_dv hd1 (by rw [kp.there]; exact hr.there) (by rw [kp.n]; omega) (by rw [kp.session]; omega) K o N c ch hc hch).mono ?_
  rintro e w' ⟨rfl, st2, now', o2, hd2, he, p1, p2, p3, p4, p5, p6, p7, p8, p9⟩
  refine ⟨rfl, st2, _, o2.forget (fun p hp => List.mem_cons_of_mem _ hp), ⟨p7, p5, p6, by rw [p1, kp.serial]; exact hr.serial, p3, by rw [p4, kp.n]; exact hn, by rw [p2, kp.session]; omega, by rw [p2, kp.session]; omega, by rw [p8]; omega, by rw [p8]; omega, ats1, now', hd2⟩, ?_⟩
  rw [kp.n] at he
  exact hl.wrote (by omega) hd x hx rfl (by rw [p4, kp.n]) hd2 he
/-- A crash behind a Write that was broken off. -/
theorem crash_brk (hE : WBrk b0 w0 L st (fnd G) oth now x w) (hx : x.size ≤ 640) (hr : Rt k st) (hk : k ≤ 1000) (hl : Lies k T G st) (hd : F.Dv st ats now now) (K o N : Nat) (c : Value) (ch : Nat → Int) (hc : F.ChL K o N 0 c) (hch : ∀ W, Below b0 w0 W → ∀ j, j < N → W.cell? ⟨K, o + j, none⟩ = some (.int .i64 (ch j))) :
    Calls Tryz.prog 21 #[.pointer (some ⟨L.P, 0, none⟩), c] w fun e w' => e = .returned (.tuple #[]) ∧ ∃ st2 lv2, F.One b0 w0 L st2 lv2 oth w' ∧ Rs (k + 1) st2 ∧ ∃ T' G', Lies (k + 1) T' G' st2 ∧ T' = updT T (fnd G).other ((fnd G).most + 1) x ∧ ∀ k j, k < 2 → k ≠ (fnd G).other → j < 16 → G' k j = G k j := by
  obtain ⟨st', lv', o1, kp, c0, c1, ats1, now2, sure2, hd1, hfr⟩ := hE
  have s0 := hr.s0; have s1 := hr.s1; have e0 := hr.c0; have e1 := hr.c1; have hn := hr.n
  refine (o1.crash_dv hd1 (by rw [kp.there]; exact hr.there) (by rw [kp.n]; omega) (by rw [kp.session]; omega) K o N c ch hc hch).mono ?_
  rintro e w' ⟨rfl, st2, now', o2, hd2, he, p1, p2, p3, p4, p5, p6, p7, p8, p9⟩
  refine ⟨rfl, st2, _, o2, ⟨p7, p5, p6, by rw [p1, kp.serial]; exact hr.serial, p3, by rw [p4, kp.n]; exact hn, by rw [p2, kp.session]; omega, by rw [p2, kp.session]; omega, by rw [p8]; omega, by rw [p8]; omega, ats1, now', hd2⟩, ?_⟩
  rw [kp.n] at he
  exact hl.broke (by omega) hd x hx hfr (by rw [p4, kp.n]) hd2 he
end
end Go.Proofs.YtknmipbjkkeebaaGreat
