/- Texts of this seat, one behind the other: JN, JM. -/
import Derived.Test.YtknmipbjkkeebaaGreatJK
import Derived.Maps.AppendAt
/- A round of SlotsWhole in plain words; Guard and Crash of it, as calls. -/
namespace Go.Proofs.YtknmipbjkkeebaaGreat
open Go.RowKit
section
variable {m : Nat} {T : Nat → Nat → ByteArray} {G : Nat → Nat → Pg} {st : F.St} {now : Nat → ByteArray} {ats : Nat → Nat}
open Classical in
/-- Behind a Write that was broken off, whatever stays. -/
theorem Lies.broken2 (h : Lies m T G st) (x : ByteArray) (hx : x.size ≤ 640) (o : Nat) (ho : o ≤ 1) (q m' : Nat) (hq : q = (scan G 2).sl.most + 1) (hm : m ≤ m') (hqm : q ≤ m') (hm' : m' < 1000000) (st' : F.St) (hn : st'.n = st.n) (hok : F.SecOk st')
    (hr : ∀ i, i < st.n → F.rd st' i = F.rd st i ∨ ∃ j, j < spT x.size ∧ i = o * 16 + j ∧ F.rd st' i = (spP x q j).sec) :
    ∃ G', Lies m' (updT T o q x) G' st' ∧ (∀ k j, k < 2 → k ≠ o → j < 16 → G' k j = G k j) ∧ ∀ j, j < 16 → G' o j = G o j ∨ G' o j = spP x q j := by
  have ht := spT_le x.size hx
  have h32 := h.n
  have hqs : ∀ k, k < 2 → ∀ j, j < 16 → (G k j).q ≠ q := fun k hk j hj => by have := page_most G k hk j hj; omega
  refine ⟨fun k j => if F.rd st' (k * 16 + j) = F.rd st (k * 16 + j) then G k j else spP x q j, ⟨by omega, by have := h.n1; omega, hok, hm', fun k hk j hj => ?_, fun k hk j hj => ?_⟩, fun k j hk hko hj => ?_, fun j hj => ?_⟩
  · show Tells _ (if _ then _ else _)
    split
    · rename_i e; rw [e]; exact h.tells k hk j hj
    · rename_i e
      rcases hr (k * 16 + j) (by omega) with e2 | ⟨j2, hj2, e2, e3⟩
      · exact absurd e2 e
      · obtain rfl : j2 = j := by omega
        rw [e3]
        exact tells_page _ (sp_ok x hx q (by omega) (by omega) j2 hj2)
  · show (if _ then _ else _) = zp ∨ Pt _ _ _ (if _ then _ else _)
    split
    · rcases h.pg k hk j hj with e | e
      · exact Or.inl e
      · exact Or.inr (e.keep hm (hqs k hk j hj))
    · rename_i e
      rcases hr (k * 16 + j) (by omega) with e2 | ⟨j2, hj2, e2, e3⟩
      · exact absurd e2 e
      · obtain rfl : j2 = j := by omega
        obtain rfl : k = o := by omega
        exact Or.inr (Pt.new hx (by omega) hqm hj2)
  · show (if _ then _ else _) = _
    split
    · rfl
    · rename_i e
      rcases hr (k * 16 + j) (by omega) with e2 | ⟨j2, hj2, e2, e3⟩
      · exact absurd e2 e
      · exact absurd (show k = o by omega) hko
  · show (if _ then _ else _) = _ ∨ (if _ then _ else _) = _
    split
    · exact Or.inl rfl
    · exact Or.inr rfl
/-- Behind a Write that was broken off, and a crash. -/
theorem Lies.broke2 (h : Lies m T G st) (hbig : m + 1 < 1000000) (hd : F.Dv st ats now now) (x : ByteArray) (hx : x.size ≤ 640) {st2 : F.St} {ats2 : Nat → Nat} {now' now2 sure2 : Nat → ByteArray} (hfr : ∀ i, F.Fr now ((fnd G).other * 16) (wrL x ((fnd G).most + 1)) i (now2 i) ∧ F.Fr now ((fnd G).other * 16) (wrL x ((fnd G).most + 1)) i (sure2 i)) (hn : st2.n = st.n) (hd2 : F.Dv st2 ats2 now' now') (he : ∀ i, i < st.n → now' i = now2 i ∨ now' i = sure2 i) :
    ∃ T' G', Lies (m + 1) T' G' st2 ∧ T' = updT T (fnd G).other ((fnd G).most + 1) x ∧ (∀ k j, k < 2 → k ≠ (fnd G).other → j < 16 → G' k j = G k j) ∧ ∀ j, j < 16 → G' (fnd G).other j = G (fnd G).other j ∨ G' (fnd G).other j = spP x ((fnd G).most + 1) j := by
  have hf := h.found
  have ho := other_le hf
  have hml : (fnd G).most ≤ m := h.most
  have hq0 : (fnd G).most + 1 ≠ 0 := by omega
  have hq1 : (fnd G).most + 1 < 18446744073709551616 := by omega
  have hp := wr_parts x hx _ hq0 hq1
  have hr : ∀ i, i < st.n → F.Fr now ((fnd G).other * 16) (wrL x ((fnd G).most + 1)) i (F.rd st2 i) := fun i hi => by
    rw [hd2.nw i (by omega)]
    rcases he i hi with e | e
    · rw [e]; exact (hfr i).1
    · rw [e]; exact (hfr i).2
  · obtain ⟨G', a, b⟩ := h.broken2 x hx (fnd G).other ho ((fnd G).most + 1) (m + 1) rfl (by omega) (by omega) hbig st2 hn hd2.ok (fun i hi => by
      rcases hr i hi with e | ⟨e1, e2, e3⟩
      · left; rw [e, hd.nw i hi]
      · right
        rw [hp] at e2
        refine ⟨i - (fnd G).other * 16, by omega, by omega, ?_⟩
        rw [e3]
        exact wr_chunk x hx _ hq0 hq1 _ (by omega))
    exact ⟨_, G', a, rfl, b⟩
end
section
variable {b0 : Nat} {w0 : World} {L : F.Loc} {st : F.St} {lv : Value} {oth : List (Nat × Obj)} {w : World} {S M : Nat} {s : Sl} {now : Nat → ByteArray} {x : ByteArray}
/-- What a call that ends, or is broken off, does within Guard. -/
theorem wguard2 (f : Nat) (cap : Array Value) (hent : ∀ args W, (callFunc f args).run Tryz.prog W = .ok (.enter f args) W) (h : F.One b0 w0 L st lv ((S, .cells (s.cs M) 72) :: oth) w)
    (hdo : ∀ W oth2, (∀ p ∈ oth, p ∈ oth2) → (∀ p ∈ oth2, p ∈ oth ∨ w.heap.size ≤ p.1) → F.One b0 w0 L st lv ((S, .cells (s.cs M) 72) :: oth2) W → Calls Tryz.prog f cap W fun e w' => (e = .returned (.tuple #[]) ∧ WEnd b0 w0 L st S M s oth2 now x w') ∨ (∃ E, e = .panicked [F.fl st.serial E] ∧ WBrk b0 w0 L st s oth2 now x w')) :
    Calls Tryz.prog 12 #[.func (.func f) #[] cap] w fun e w' => (e = .returned (.tuple #[.agg #[.int .i64 0, .int .i64 0], .bool false]) ∧ WEnd b0 w0 L st S M s oth now x w') ∨ (∃ a b, e = .returned (.tuple #[.agg #[.int .i64 a, .int .i64 b], .bool true]) ∧ WBrk b0 w0 L st s oth now x w') := by
  have lS := h.lts (S, .cells (s.cs M) 72) (List.mem_cons_self ..)
  have lo : ∀ p ∈ oth, p.1 < w.heap.size := fun p hp => h.lts p (List.mem_cons_of_mem _ hp)
  have o1 := h.guarded.forget (oth' := (S, .cells (s.cs M) 72) :: (w.heap.size + 1, F.iob) :: (w.heap.size, F.bob) :: oth) (by
    intro p hp
    simp only [F.gob, List.mem_cons] at hp ⊢
    rcases hp with rfl | rfl | rfl | hp <;> simp [*])
  have hd := hdo _ _ (fun p hp => by simp [hp]) (fun p hp => by
    simp only [List.mem_cons] at hp
    rcases hp with rfl | rfl | hp
    · right; show w.heap.size ≤ w.heap.size + 1; omega
    · right; exact Nat.le_refl _
    · exact Or.inl hp) o1
  refine (F.guard_any f cap (fun W => WEnd b0 w0 L st S M s ((w.heap.size + 1, F.iob) :: (w.heap.size, F.bob) :: oth) now x W) (fun W => WBrk b0 w0 L st s ((w.heap.size + 1, F.iob) :: (w.heap.size, F.bob) :: oth) now x W) w hent (hd.mono ?_)).mono ?_
  · rintro e W (⟨rfl, hE⟩ | ⟨E, rfl, hB⟩)
    · obtain ⟨st', lv', o⟩ := hE.ones
      exact ⟨Or.inl ⟨rfl, hE⟩, (o.oth (w.heap.size, F.bob) (by simp)).1, (o.oth (w.heap.size + 1, F.iob) (by simp)).1⟩
    · obtain ⟨st', lv', o⟩ := hB.ones
      exact ⟨Or.inr ⟨_, E, rfl, hB⟩, (o.oth (w.heap.size, F.bob) (by simp)).1, (o.oth (w.heap.size + 1, F.iob) (by simp)).1⟩
  · rintro e w' (⟨rfl, W, ⟨st', lv', o, r⟩, hk⟩ | ⟨a, b, rfl, W, ⟨st', lv', o, r⟩, hk⟩)
    · refine Or.inl ⟨rfl, st', lv', ?_, r⟩
      refine (o.forget (oth' := F.gob w.heap.size ((S, .cells (Sl.cs ⟨s.other, s.most + 1, s.most + 1, false⟩ M) 72) :: oth)) (by
        intro p hp
        simp only [F.gob, List.mem_cons] at hp ⊢
        rcases hp with rfl | rfl | rfl | hp <;> simp [*])).kt2 (by
        intro p hp
        rcases List.mem_cons.1 hp with rfl | hp
        · exact ⟨by show S ≠ _; omega, by show S ≠ _; omega⟩
        · have := lo p hp
          exact ⟨by omega, by omega⟩) hk
    · refine Or.inr ⟨a, b, rfl, st', lv', ?_, r⟩
      exact F.One.kt2 (B := w.heap.size) o (by
        intro p hp
        have := lo p hp
        exact ⟨by omega, by omega⟩) hk
end
section
variable {b0 : Nat} {w0 : World} {L : F.Loc} {st : F.St} {oth : List (Nat × Obj)} {w : World} {S M : Nat} {now : Nat → ByteArray} {x : ByteArray} {k : Nat} {T : Nat → Nat → ByteArray} {G : Nat → Nat → Pg} {ats : Nat → Nat}
/-- A crash behind a Write that was broken off. -/
theorem crash_brk2 (hE : WBrk b0 w0 L st (fnd G) oth now x w) (hx : x.size ≤ 640) (hr : Rt k st) (hk : k ≤ 1000) (hl : Lies k T G st) (hd : F.Dv st ats now now) (K o N : Nat) (c : Value) (ch : Nat → Int) (hc : F.ChL K o N 0 c) (hch : ∀ W, Below b0 w0 W → ∀ j, j < N → W.cell? ⟨K, o + j, none⟩ = some (.int .i64 (ch j))) :
    Calls Tryz.prog 21 #[.pointer (some ⟨L.P, 0, none⟩), c] w fun e w' => e = .returned (.tuple #[]) ∧ ∃ st2 lv2, F.One b0 w0 L st2 lv2 oth w' ∧ Rs (k + 1) st2 ∧ ∃ T' G', Lies (k + 1) T' G' st2 ∧ T' = updT T (fnd G).other ((fnd G).most + 1) x ∧ (∀ k j, k < 2 → k ≠ (fnd G).other → j < 16 → G' k j = G k j) ∧ ∀ j, j < 16 → G' (fnd G).other j = G (fnd G).other j ∨ G' (fnd G).other j = spP x ((fnd G).most + 1) j := by
  obtain ⟨st', lv', o1, kp, c0, c1, ats1, now2, sure2, hd1, hfr⟩ := hE
  have s0 := hr.s0; have s1 := hr.s1; have e0 := hr.c0; have e1 := hr.c1; have hn := hr.n
  refine (o1.crash_dv hd1 (by rw [kp.there]; exact hr.there) (by rw [kp.n]; omega) (by rw [kp.session]; omega) K o N c ch hc hch).mono ?_
  rintro e w' ⟨rfl, st2, now', o2, hd2, he, p1, p2, p3, p4, p5, p6, p7, p8, p9⟩
  refine ⟨rfl, st2, _, o2, ⟨p7, p5, p6, by rw [p1, kp.serial]; exact hr.serial, p3, by rw [p4, kp.n]; exact hn, by rw [p2, kp.session]; omega, by rw [p2, kp.session]; omega, by rw [p8]; omega, by rw [p8]; omega, ats1, now', hd2⟩, ?_⟩
  rw [kp.n] at he
  exact hl.broke2 (by omega) hd x hx hfr (by rw [p4, kp.n]) hd2 he
end
/-- How the texts stand: the one that is found is among those that may be; none is found only while none ended. -/
def WI (mays : List ByteArray) (none : Bool) (k : Nat) (st : F.St) : Prop :=
  ∃ T G, Lies k T G st ∧ (∀ c, c < 2 → Whl (G c) → (G c 0).q = (scan G 2).sl.seq → T c (G c 0).q ∈ mays) ∧ (none = true ∨ (scan G 2).sl.seq ≠ 0)
theorem wi0 (sr : Int) : WI [] true 0 (F.st0 sr 32) :=
  ⟨_, _, lies0 sr 32 (by decide) (by decide), fun c _ hw => absurd hw.1 (Nat.not_lt_zero _), Or.inl rfl⟩
/-- What Open tells. -/
theorem wi_open {mays : List ByteArray} {none : Bool} {k : Nat} {st : F.St} {T : Nat → Nat → ByteArray} {G : Nat → Nat → Pg} (h : Lies k T G st) (h1 : ∀ c, c < 2 → Whl (G c) → (G c 0).q = (scan G 2).sl.seq → T c (G c 0).q ∈ mays) (h2 : none = true ∨ (scan G 2).sl.seq ≠ 0) :
    (decide (0 < (scan G 2).found) = false ∧ none = true) ∨ (decide (0 < (scan G 2).found) = true ∧ (scan G 2).text ∈ mays) := by
  have hf := h.found
  by_cases e : (scan G 2).sl.seq = 0
  · left
    have := (hf.none e).1
    refine ⟨decide_eq_false (by omega), ?_⟩
    rcases h2 with h2 | h2
    · exact h2
    · exact absurd e h2
  · right
    obtain ⟨a, b, c, d⟩ := hf.some e
    have hs := hf.slot
    refine ⟨decide_eq_true a, ?_⟩
    rw [d, (h.whole _ (by omega) b).2]
    exact h1 _ (by omega) b c
theorem wi_end {k : Nat} {st st2 : F.St} {T T' : Nat → Nat → ByteArray} {G G' : Nat → Nat → Pg} {x : ByteArray} (h : Lies k T G st) (a : Lies (k + 1) T' G' st2) (b : Whl (G' (fnd G).other)) (c : (G' (fnd G).other 0).q = (fnd G).most + 1) (d : T' = updT T (fnd G).other ((fnd G).most + 1) x) (e : ∀ k j, k ≠ (fnd G).other → G' k j = G k j) : WI [x] false (k + 1) st2 := by
  have hf := h.found
  have hf' := a.found
  have ho := other_le hf
  have hle := hf'.le _ (by omega) b
  refine ⟨T', G', a, fun i hi hw hq => ?_, Or.inr (by omega)⟩
  by_cases hio : i = (fnd G).other
  · subst hio
    rw [c, d, show updT T (fnd G).other ((fnd G).most + 1) x (fnd G).other ((fnd G).most + 1) = x from if_pos ⟨rfl, rfl⟩]
    exact List.mem_singleton.2 rfl
  · have := page_most G i hi 0 (by decide)
    rw [e i 0 hio] at hq
    have hm : (fnd G).most = (scan G 2).sl.most := rfl
    omega
theorem wi_brk {mays : List ByteArray} {none : Bool} {k : Nat} {st st2 : F.St} {T T' : Nat → Nat → ByteArray} {G G' : Nat → Nat → Pg} {x : ByteArray} (h : Lies k T G st) (h1 : ∀ c, c < 2 → Whl (G c) → (G c 0).q = (scan G 2).sl.seq → T c (G c 0).q ∈ mays) (h2 : none = true ∨ (scan G 2).sl.seq ≠ 0)
    (a : Lies (k + 1) T' G' st2) (d : T' = updT T (fnd G).other ((fnd G).most + 1) x) (e : ∀ k j, k < 2 → k ≠ (fnd G).other → j < 16 → G' k j = G k j) (f : ∀ j, j < 16 → G' (fnd G).other j = G (fnd G).other j ∨ G' (fnd G).other j = spP x ((fnd G).most + 1) j) : WI (mays ++ [x]) none (k + 1) st2 := by
  have hf := h.found
  have hf' := a.found
  have ho := other_le hf
  have hm : (fnd G).most = (scan G 2).sl.most := rfl
  -- the slot of now is as it was
  have keep : (scan G 2).sl.seq ≠ 0 → (scan G 2).sl.seq ≤ (scan G' 2).sl.seq := fun hs => by
    obtain ⟨_, b2, b3, _⟩ := hf.some hs
    have hsl := hf.slot
    have hne := other_ne hf hs
    have hc : ∀ j, j < 16 → G' (scan G 2).sl.slot j = G (scan G 2).sl.slot j := fun j hj => e _ j (by omega) hne hj
    have hw := whl_congr hc (h.size _ (by omega) 0 (by decide)).1 b2
    have := hf'.le _ (by omega) hw
    rw [hc 0 (by decide), b3] at this
    exact this
  refine ⟨T', G', a, fun i hi hw hq => ?_, ?_⟩
  · -- its Seq of elder days
    have old : ∀ (hwi : Whl (G i)) (he : (G' i 0).q = (G i 0).q), T i (G i 0).q ∈ mays := fun hwi he => by
      have hle := hf.le i hi hwi
      by_cases hs : (scan G 2).sl.seq = 0
      · exact absurd hwi ((hf.none hs).2 i hi)
      · have := keep hs
        exact h1 i hi hwi (by omega)
    have oldT : (G i 0).q ≠ (fnd G).most + 1 → T' i (G i 0).q = T i (G i 0).q := fun hne => by rw [d]; exact updT_old (fun q => hne q.2)
    have hqm : (G i 0).q ≠ (fnd G).most + 1 := by have := page_most G i hi 0 (by decide); omega
    have hn16 := (a.size i hi 0 (by decide)).1
    by_cases hio : i = (fnd G).other
    · by_cases hnew : (G' i 0).q = (fnd G).most + 1
      · rw [hnew, d, hio, show updT T (fnd G).other ((fnd G).most + 1) x (fnd G).other ((fnd G).most + 1) = x from if_pos ⟨rfl, rfl⟩]
        exact List.mem_append_right _ (List.mem_singleton.2 rfl)
      · -- all its Pages are elder ones
        have hall : ∀ j, j < (G' i 0).n → G' i j = G i j := fun j hj => by
          rcases f j (by omega) with q | q
          · rw [hio]; exact q
          · exfalso
            have e1 := hw.2 j hj
            have hn := hw.1
            have hnX := hw.2 0 hn
            rw [gk_lt _ _ _ (spT_pos _)] at hnX
            have hnn : (G' i 0).n = spT (O.tx (datL (G' i) (G' i 0).n)).size := congrArg Pg.n hnX
            rw [gk_lt _ _ _ (by omega)] at e1
            have e2 : (G' i j).q = (G' i 0).q := by rw [e1]; rfl
            rw [hio, q] at e2
            rw [hio] at hnew
            exact hnew e2.symm
        have h0 := hall 0 hw.1
        have hwi : Whl (G i) := by
          have ed : datL (G i) (G' i 0).n = datL (G' i) (G' i 0).n := datL_congr (G' i) (G i) _ (fun j hj => (hall j hj).symm)
          unfold Whl
          rw [← h0, ed]
          exact ⟨hw.1, fun j hj => by rw [← hall j hj]; exact hw.2 j hj⟩
        rw [h0, oldT hqm]
        exact List.mem_append_left _ (old hwi (by rw [h0]))
    · have hc : ∀ j, j < 16 → G i j = G' i j := fun j hj => (e i j hi hio hj).symm
      have hwi : Whl (G i) := whl_congr hc hn16 hw
      rw [← hc 0 (by decide), oldT hqm]
      exact List.mem_append_left _ (old hwi (by rw [← hc 0 (by decide)]))
  · rcases h2 with h2 | h2
    · exact Or.inl h2
    · right; have := keep h2; omega
end Go.Proofs.YtknmipbjkkeebaaGreat

/- What SlotsWhole hands to Guard, as a call; long and Cut by their values; a row of texts that grows. -/
namespace Go.Proofs.YtknmipbjkkeebaaGreat
open Go.RowKit
/-- What long makes. -/
def lgo (s : ByteArray) (m : Nat) : Nat → ByteArray → ByteArray
  | 0, y => y.extract 0 m
  | f + 1, y => if y.size < m then lgo s m f (y ++ (s ++ ⟨#[46]⟩)) else y.extract 0 m
theorem lgo_end (s : ByteArray) (m : Nat) : ∀ f y, ¬ y.size < m → lgo s m f y = y.extract 0 m
  | 0, _, _ => rfl
  | f + 1, y, h => by rw [lgo, if_neg h]
theorem lgo_size (s : ByteArray) (m : Nat) : ∀ f y, m - y.size ≤ f → (lgo s m f y).size = m
  | 0, y, h => by rw [lgo, ByteArray.size_extract]; omega
  | f + 1, y, h => by
    rw [lgo]
    have hsz : (y ++ (s ++ ⟨#[46]⟩)).size = y.size + (s.size + 1) := by rw [ByteArray.size_append, ByteArray.size_append]; rfl
    split
    · exact lgo_size s m f _ (by rw [hsz]; omega)
    · rw [ByteArray.size_extract]; omega
set_option maxHeartbeats 1000000 in
set_option maxRecDepth 100000 in
theorem long_is (s : ByteArray) (hs : s.size ≤ 1000) (n : Int) : ∃ x : ByteArray, x.size ≤ 640 ∧ ∀ w, Calls Tryz.prog 10 #[.string s, .int .i64 n] w fun e w' => e = .returned (.string x) ∧ w' = w := by
  obtain ⟨m, hm⟩ : ∃ m : Nat, ((m : Nat) : Int) = max 0 (min n 640) := ⟨(max 0 (min n 640)).toNat, by omega⟩
  have hm6 : m ≤ 640 := by omega
  refine ⟨lgo s m m s, by rw [lgo_size s m m s (by omega)]; exact hm6, fun w => ?_⟩
  have HM : Hid _ := hm
  have hmx : max 0 (min n 640) = ((m : Nat) : Int) := hm.symm
  clear hm
  obtain ⟨X, hX⟩ : ∃ X, X = lgo s m m s := ⟨_, rfl⟩
  rw [← hX]
  have HX : Hid _ := hX
  clear hX
  go_enter Tryz.func10, Tryz.ntmps10
  go_wp2
  go_loopw [5] (fun o wr => ∃ (y : ByteArray) (f : Nat), o = .string y ∧ y.size ≤ 2000 ∧ m - y.size ≤ f ∧ Hid (X = lgo s m f y) ∧ wr = w) (fun o _ => match o with | .string b => m - b.size | _ => 0)
  case atStart => exact ⟨s, m, rfl, by omega, by omega, HX.out, rfl⟩
  case round =>
    obtain ⟨y, f, rfl, hy, hf, hL, rfl⟩ := hrel
    rcases Nat.lt_or_ge y.size m with h | h
    · have hsz : (y ++ (s ++ ⟨#[46]⟩)).size = y.size + (s.size + 1) := by rw [ByteArray.size_append, ByteArray.size_append]; rfl
      obtain ⟨g, rfl⟩ : ∃ g, f = g + 1 := ⟨f - 1, by omega⟩
      have hL2 : Hid (X = lgo s m g (y ++ (s ++ ⟨#[46]⟩))) := by have := hL.out; rw [lgo, if_pos h] at this; exact this
      go_wp2
      go_roundw
      case rel => exact ⟨y ++ (s ++ ⟨#[46]⟩), g, rfl, by rw [hsz]; omega, by rw [hsz]; omega, hL2, by first | rfl | trivial⟩
      case measure =>
        show m - (y ++ (s ++ ⟨#[46]⟩)).size < m - y.size
        rw [hsz]; omega
    · have hE : Hid (X = y.extract 0 m) := by rw [← lgo_end s m f y (by omega)]; exact hL.out
      go_wp2
      go_returns
      exact ⟨by rw [hE.out]; first | rfl | simp, rfl⟩
theorem ent20 (args : Array Value) (W : World) : (callFunc 20 args).run Tryz.prog W = .ok (.enter 20 args) W := O.enter_of Tryz.func20 (by kernel_rfl) (by kernel_rfl) args W
set_option maxHeartbeats 2000000 in
set_option maxRecDepth 100000 in
theorem op20 {b0 : Nat} {w0 : World} {L : F.Loc} {st : F.St} {lv : Value} {oth : List (Nat × Obj)} {w : World} {S M Sb Nb : Nat} {x : ByteArray} (s : Sl) (h : F.One b0 w0 L st lv ((S, .cells (s.cs M) 72) :: oth) w) (hm : (M, F.med L.P st.serial st.session) ∈ oth) (hne : ∀ p ∈ oth, p.1 ≠ S)
    (hSb : (Sb, .cells #[.pointer (some ⟨S, 0, none⟩)] 29) ∈ oth) (hNb : (Nb, .cells #[.string x] 9) ∈ oth) (hx : x.size ≤ 640)
    (hs : s.slot ≤ 1) (hmost : s.most < 18446744073709551615) {ats : Nat → Nat} {now : Nat → ByteArray} (hd : F.Dv st ats now now) (hn : 32 ≤ st.n) (hn1 : st.n ≤ 1000) (ht : st.there = true) (m : F.Mode) (hmd : m.is st) (hmo : m ≠ .over) (hc : 0 ≤ st.count ∧ st.count ≤ 700000) :
    Calls Tryz.prog 20 #[.pointer (some ⟨Sb, 0, none⟩), .pointer (some ⟨Nb, 0, none⟩)] w fun e w' => (e = .returned (.tuple #[]) ∧ WEnd b0 w0 L st S M s oth now x w') ∨ (∃ E, e = .panicked [F.fl st.serial E] ∧ WBrk b0 w0 L st s oth now x w') := by
  have hw : Calls Tryz.prog 14 #[.pointer (some ⟨S, 0, none⟩), .string x] w fun e w' => (e = .returned (.int .i64 0) ∧ WEnd b0 w0 L st S M s oth now x w') ∨ (∃ E, e = .panicked [F.fl st.serial E] ∧ WBrk b0 w0 L st s oth now x w') := swrite_md s h hm hne hs hmost x hx hd hn hn1 ht m hmd hmo hc
  have c1 : w.cell? ⟨Sb, 0, none⟩ = some (.pointer (some ⟨S, 0, none⟩)) := F.cell_of (h.oth _ (List.mem_cons_of_mem _ hSb)).1 0
  have c2 : w.cell? ⟨Nb, 0, none⟩ = some (.string x) := F.cell_of (h.oth _ (List.mem_cons_of_mem _ hNb)).1 0
  clear h hm hne hSb hNb hs hmost hd hn hn1 ht hmd hmo hc
  go_enter Tryz.func20, Tryz.ntmps20
  go_wp2_with fail
  go_call hw as e w2 (⟨rfl, hE⟩ | ⟨E, rfl, hB⟩)
  · have HE : Hid _ := hE
    clear hE hw
    go_wp2
    go_returns
    exact Or.inl ⟨rfl, HE.out⟩
  · have HB : Hid _ := hB
    clear hB hw
    go_wp2
    exact ⟨rfl, Or.inr ⟨E, rfl, HB.out⟩⟩
section
variable {b0 : Nat} {w0 : World} {L : F.Loc} {st : F.St} {lv : Value} {oth : List (Nat × Obj)} {w w' : World}
/-- A row of texts may grow. -/
theorem F.One.grownT {row : Option Nat} (h : F.One b0 w0 L st lv oth w) (hg : w.grownBy w' row) (hr : ∀ g, row = some g → b0 ≤ g ∧ ∃ c, w.heap[g]? = some (.cells c 9)) (ho : ∀ p ∈ oth, row ≠ some p.1) : F.One b0 w0 L st lv oth w' := by
  have tne : ∀ {i : Nat} {d : Array Value} {t : TypeId}, w.heap[i]? = some (.cells d t) → t ≠ 9 → some i ≠ row := fun {i d t} e ht er => by
    obtain ⟨_, c, hc⟩ := hr i er.symm
    rw [e] at hc
    injection hc with hc
    injection hc with _ hc _
    exact ht hc
  have same : ∀ {j : Nat} {o : Obj}, w.heap[j]? = some o → some j ≠ row → w'.heap[j]? = some o := fun e h1 => (hg.block _ (F.getElem?_lt e) h1).trans e
  refine ⟨?_, h.bP, h.bR, h.bD, h.bS, same h.pool (tne h.pool (by decide)), same h.rowb (tne h.rowb (by decide)), h.rc0, same h.dev (tne h.dev (by decide)), same h.sec (tne h.sec (by decide)), ⟨h.own.1, ?_⟩, ?_⟩
  · refine ⟨hg.os.trans h.below.os, hg.tape.trans h.below.tape, hg.output.trans h.below.output, Nat.le_trans h.below.size hg.size, fun j hj => ?_⟩
    rw [hg.block j (Nat.lt_of_lt_of_le hj (Nat.le_trans h.bP (Nat.le_of_lt (F.getElem?_lt h.pool)))) (fun e => by have := (hr j e.symm).1; omega)]
    exact h.below.block j hj
  · rcases h.own.2 with h1 | ⟨g, cap, cur, e, h2, h3, h4⟩
    · exact Or.inl h1
    · exact Or.inr ⟨g, cap, cur, e, h2, same h3 (tne h3 (by decide)), h4⟩
  · intro p hp
    obtain ⟨o1, o2, o3, o4⟩ := h.oth p hp
    exact ⟨same o1 (fun e => ho p hp e.symm), o2, o3, o4⟩
theorem F.One.addT {g : Nat} {c : Array Value} (h : F.One b0 w0 L st lv oth w) (hg : w.heap[g]? = some (.cells c 9)) (hb : b0 ≤ g) : F.One b0 w0 L st lv ((g, .cells c 9) :: oth) w := by
  have tne : ∀ {i : Nat} {d : Array Value} {t : TypeId}, w.heap[i]? = some (.cells d t) → t ≠ 9 → g ≠ i := fun e ht er => by
    subst er
    rw [hg] at e
    injection e with e
    injection e with _ e _
    exact ht e.symm
  refine { h with oth := ?_ }
  intro p hp
  rcases List.mem_cons.1 hp with rfl | hp
  · exact ⟨hg, ⟨tne h.pool (by decide), tne h.rowb (by decide), tne h.dev (by decide), tne h.sec (by decide)⟩, F.apart_of (by decide), hb⟩
  · exact h.oth p hp
end
/-- The texts that may be found, as they lie. -/
def May (v : Value) (mays : List ByteArray) (ol : List (Nat × Obj)) : Prop :=
  (v = .slice none 0 0 ∧ mays = [] ∧ ol = []) ∨ ∃ g cap cur, v = .slice (some ⟨g, 0, none⟩) mays.length cap ∧ ol = [(g, .cells cur 9)] ∧ mays.length ≤ cap ∧ cap ≤ maxLen ∧ cur.size = cap ∧ cur.toList.take mays.length = mays.map .string
theorem May.own {b0 : Nat} {w0 : World} {L : F.Loc} {st : F.St} {lv : Value} {oth : List (Nat × Obj)} {w : World} {v : Value} {mays : List ByteArray} {ol : List (Nat × Obj)} (h : May v mays ol) (ho : F.One b0 w0 L st lv oth w) (hs : ∀ p ∈ ol, p ∈ oth) : w.ownsRow b0 9 1 v mays.length (mays.map .string) := by
  rcases h with ⟨rfl, rfl, rfl⟩ | ⟨g, cap, cur, rfl, rfl, h1, h2, h3, h4⟩
  · exact ⟨rfl, Or.inl ⟨rfl, rfl⟩⟩
  · obtain ⟨o1, _, _, o4⟩ := ho.oth (g, .cells cur 9) (hs _ (List.mem_singleton.2 rfl))
    exact ⟨by simp, Or.inr ⟨g, cap, cur, rfl, o4, o1, h1, h2, by rw [Nat.mul_one]; exact h3, by rw [Nat.mul_one]; exact h4⟩⟩
theorem May.len {v : Value} {mays : List ByteArray} {ol : List (Nat × Obj)} (h : May v mays ol) : ∃ ao cp, v = .slice ao mays.length cp := by
  rcases h with ⟨rfl, rfl, rfl⟩ | ⟨g, cap, cur, rfl, rfl, h1, h2, h3, h4⟩
  · exact ⟨none, 0, rfl⟩
  · exact ⟨_, _, rfl⟩
theorem tinfo : (Tryz.prog.info? 9).map (fun i => (i.zero, i.size, i.bytes)) = some (some (.string ⟨#[]⟩), 1, 16) := by kernel_rfl
/-- One text is appended. -/
theorem tappend {ops : Array Oper} {rest : List Oper} {o : Oper} {a : Act} {w : World} {Q : Exit → Act → World → Prop} (hgd : o.guard = none) (s x : Operand) (ho : o.op = .call { callee := .builtin .append, args := #[s, x], argTypes := #[22, 22] })
    (base : Nat) (v : Value) (mays : List ByteArray) (hs : a.eval s = v) (hown : w.ownsRow base 9 1 v mays.length (mays.map .string)) (G : Nat) (hx : a.eval x = .slice (some ⟨G, 0, none⟩) 1 1) (t : ByteArray) (hG : w.heap[G]? = some (.cells #[.string t] 9)) (hl : mays.length ≤ 1001) (hb : base ≤ w.heap.size)
    (k : ∀ (v' : Value) (w' : World), w'.ownsRow base 9 1 v' (mays ++ [t]).length ((mays ++ [t]).map .string) → w.grownBy w' v.ownBlock → wpList Tryz.prog ops Q rest (a.put o.dst v') w') : wpList Tryz.prog ops Q (o :: rest) a w := by
  obtain ⟨i0, hi0, hz0, hs0, hby0⟩ := info_parts tinfo
  refine wpList_append_own w hgd s x 22 ho base 9 i0 (.string ⟨#[]⟩) 1 16 Tryz.underlying22 hi0 hz0 hs0 hby0 (by kernel_rfl) (by decide) v mays.length (mays.map .string) hs hown ⟨G, 0, none⟩ 1 1 [.string t] hx rfl ?_ ?_ (by unfold maxLen; omega) (by omega) hb ?_
  · intro j u hj
    rw [Addr.add_lit, Nat.zero_add, F.cell_of hG]
    simpa using hj
  · intro u hu
    simp at hu
    rcases hu with rfl; rfl
  · intro v' w' h1 h2 h3
    refine k v' w' ?_ h2
    rw [List.map_append, List.length_append]; exact h1
/-- What has grown is a row of texts, again. -/
theorem May.grown {b0 : Nat} {w0 : World} {L : F.Loc} {st : F.St} {lv : Value} {oth : List (Nat × Obj)} {w w' : World} {v v' : Value} {mays mays' : List ByteArray} {ol : List (Nat × Obj)} (h : May v mays ol) (ho : F.One b0 w0 L st lv (ol ++ oth) w) (hd : ∀ p ∈ ol, ∀ q ∈ oth, p.1 ≠ q.1) (hg : w.grownBy w' v.ownBlock) (hn : w'.ownsRow b0 9 1 v' mays'.length (mays'.map .string)) (hne : mays' ≠ []) :
    ∃ ol', May v' mays' ol' ∧ F.One b0 w0 L st lv (ol' ++ oth) w' := by
  have hr : ∀ g, v.ownBlock = some g → b0 ≤ g ∧ ∃ c, w.heap[g]? = some (.cells c 9) := by
    intro g e
    rcases h with ⟨rfl, rfl, rfl⟩ | ⟨g', cap, cur, rfl, rfl, _⟩
    · cases e
    · injection e with e
      subst e
      obtain ⟨o1, _, _, o4⟩ := ho.oth (g', .cells cur 9) (by simp)
      exact ⟨o4, cur, o1⟩
  have h1 : F.One b0 w0 L st lv oth w := ho.forget (fun p hp => List.mem_append_right _ hp)
  have h2 := h1.grownT hg hr (by
    intro p hp e
    rcases h with ⟨rfl, rfl, rfl⟩ | ⟨g', cap, cur, rfl, rfl, _⟩
    · cases e
    · injection e with e
      exact hd (g', .cells cur 9) (List.mem_singleton.2 rfl) p hp e)
  rcases hn.2 with ⟨_, e0⟩ | ⟨g, cap, cur, rfl, k1, k2, k3, k4, k5, k6⟩
  · exact absurd (List.eq_nil_of_length_eq_zero e0) hne
  · rw [Nat.mul_one] at k5 k6
    exact ⟨[(g, .cells cur 9)], Or.inr ⟨g, cap, cur, rfl, rfl, k3, k4, k5, k6⟩, h2.addT k2 k1⟩
theorem May.grown2 {b0 : Nat} {w w' : World} {v v' : Value} {mays mays' : List ByteArray} {ol : List (Nat × Obj)} (h : May v mays ol) (hown : w.ownsRow b0 9 1 v mays.length (mays.map .string)) (hg : w.grownBy w' v.ownBlock) (hn : w'.ownsRow b0 9 1 v' mays'.length (mays'.map .string)) (hne : mays' ≠ []) :
    ∃ ol', May v' mays' ol' ∧ ∀ w0 L st lv oth, (∀ p ∈ ol, ∀ q ∈ oth, p.1 ≠ q.1) → F.One b0 w0 L st lv (ol ++ oth) w → F.One b0 w0 L st lv (ol' ++ oth) w' := by
  have hr : ∀ g, v.ownBlock = some g → b0 ≤ g ∧ ∃ c, w.heap[g]? = some (.cells c 9) := by
    intro g e
    rcases hown.2 with ⟨rfl, _⟩ | ⟨g', cap, cur, rfl, k1, k2, _⟩
    · cases e
    · injection e with e
      subst e
      exact ⟨k1, cur, k2⟩
  rcases hn.2 with ⟨_, e0⟩ | ⟨g, cap, cur, rfl, k1, k2, k3, k4, k5, k6⟩
  · exact absurd (List.eq_nil_of_length_eq_zero e0) hne
  · rw [Nat.mul_one] at k5 k6
    refine ⟨[(g, .cells cur 9)], Or.inr ⟨g, cap, cur, rfl, rfl, k3, k4, k5, k6⟩, fun w0 L st lv oth hd ho => ?_⟩
    have h1 : F.One b0 w0 L st lv oth w := ho.forget (fun p hp => List.mem_append_right _ hp)
    refine (h1.grownT hg hr ?_).addT k2 k1
    intro p hp e
    rcases h with ⟨rfl, rfl, rfl⟩ | ⟨g', cap', cur', rfl, rfl, _⟩
    · cases e
    · injection e with e
      exact hd (g', .cells cur' 9) (List.mem_singleton.2 rfl) p hp e
/-- One text alone. -/
theorem May.one {g : Nat} (t : ByteArray) : May (.slice (some ⟨g, 0, none⟩) 1 1) [t] [(g, .cells #[.string t] 9)] :=
  Or.inr ⟨g, 1, #[.string t], rfl, rfl, Nat.le_refl _, by decide, rfl, rfl⟩
theorem May.cell {b0 : Nat} {w0 : World} {L : F.Loc} {st : F.St} {lv : Value} {oth : List (Nat × Obj)} {w : World} {v : Value} {mays : List ByteArray} {ol : List (Nat × Obj)} (h : May v mays ol) (ho : F.One b0 w0 L st lv oth w) (hs : ∀ p ∈ ol, p ∈ oth) :
    ∃ ao cp g, v = .slice ao mays.length cp ∧ (0 < mays.length → ao = some ⟨g, 0, none⟩) ∧ ∀ j (hj : j < mays.length), w.cell? ⟨g, j, none⟩ = some (.string mays[j]) := by
  rcases h with ⟨rfl, rfl, rfl⟩ | ⟨g, cap, cur, rfl, rfl, h1, h2, h3, h4⟩
  · exact ⟨none, 0, 0, rfl, fun h => absurd h (Nat.lt_irrefl _), fun j hj => absurd hj (Nat.not_lt_zero _)⟩
  · obtain ⟨o1, _, _, o4⟩ := ho.oth (g, .cells cur 9) (hs _ (List.mem_singleton.2 rfl))
    refine ⟨_, _, g, rfl, fun _ => rfl, fun j hj => ?_⟩
    rw [F.cell_of o1]
    have := congrArg (fun l => l[j]?) h4
    simp only [List.getElem?_take_of_lt hj, List.getElem?_map, Array.getElem?_toList, List.getElem?_eq_getElem hj] at this
    exact this
end Go.Proofs.YtknmipbjkkeebaaGreat
