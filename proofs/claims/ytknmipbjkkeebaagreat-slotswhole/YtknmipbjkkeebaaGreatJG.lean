/- What lies on an anchor whose Writes may have been broken off: each sector is nothing, or a Page of the text that its slot was to have under that Seq. -/
import Derived.Test.YtknmipbjkkeebaaGreatIU
namespace Go.Proofs.YtknmipbjkkeebaaGreat
open Go.RowKit
/-- A Page of the text that a slot was to have under its Seq. -/
structure Pt (m : Nat) (T : Nat → ByteArray) (j : Nat) (g : Pg) : Prop where
  q0 : g.q ≠ 0
  q1 : g.q ≤ m
  t : (T g.q).size ≤ 640
  lt : j < spT (T g.q).size
  is : g = spP (T g.q) g.q j
structure Lies (m : Nat) (T : Nat → Nat → ByteArray) (G : Nat → Nat → Pg) (st : F.St) : Prop where
  n : 32 ≤ st.n
  n1 : st.n ≤ 1000
  ok : F.SecOk st
  mx : m < 1000000
  tells : ∀ k, k < 2 → ∀ j, j < 16 → Tells (F.rd st (k * 16 + j)) (G k j)
  pg : ∀ k, k < 2 → ∀ j, j < 16 → G k j = zp ∨ Pt m (T k) j (G k j)
theorem Pt.few {m : Nat} {T : Nat → ByteArray} {j : Nat} {g : Pg} (h : Pt m T j g) : g.n ≤ 16 ∧ g.d.size ≤ 40 := by
  rw [h.is]
  refine ⟨spT_le _ h.t, ?_⟩
  show (ByteArray.extract _ _ _).size ≤ 40
  rw [ByteArray.size_extract]; omega
section
variable {m : Nat} {T : Nat → Nat → ByteArray} {G : Nat → Nat → Pg} {st : F.St}
theorem Lies.size (h : Lies m T G st) (k : Nat) (hk : k < 2) (j : Nat) (hj : j < 16) : (G k j).n ≤ 16 ∧ (G k j).d.size ≤ 40 := by
  rcases h.pg k hk j hj with e | e
  · rw [e]; exact ⟨Nat.zero_le _, by decide⟩
  · exact e.few
theorem Lies.anc (h : Lies m T G st) : Anc G st :=
  ⟨h.n, h.n1, h.ok, h.tells, fun k hk => (h.size k hk 0 (by decide)).1, fun k hk j hj => (h.size k hk j (by have := (h.size k hk 0 (by decide)).1; omega)).2⟩
theorem Lies.qle (h : Lies m T G st) (k : Nat) (hk : k < 2) (j : Nat) (hj : j < 16) : (G k j).q ≤ m := by
  rcases h.pg k hk j hj with e | e
  · rw [e]; exact Nat.zero_le _
  · exact e.q1
theorem Lies.most (h : Lies m T G st) : (scan G 2).sl.most ≤ m := by
  have a := mostN_le (G 0) m (h.qle 0 (by decide)) 16 (Nat.le_refl _)
  have b := mostN_le (G 1) m (h.qle 1 (by decide)) 16 (Nat.le_refl _)
  rw [scan_two]; omega
theorem page_most (G : Nat → Nat → Pg) (k : Nat) (hk : k < 2) (j : Nat) (hj : j < 16) : (G k j).q ≤ (scan G 2).sl.most := by
  have := mostN_ge (G k) j 16 hj
  rw [scan_two]
  rcases Nat.lt_or_ge k 1 with e | e
  · obtain rfl : k = 0 := by omega
    omega
  · obtain rfl : k = 1 := by omega
    omega
/-- What is whole is the text that the slot was to have. -/
theorem Lies.whole (h : Lies m T G st) (k : Nat) (hk : k < 2) (hw : Whl (G k)) : (G k 0).q ≠ 0 ∧ O.tx (datL (G k) (G k 0).n) = T k (G k 0).q := by
  have hn := hw.1
  rcases h.pg k hk 0 (by decide) with e | e
  · rw [e] at hn; exact absurd hn (Nat.not_lt_zero _)
  · have hq := e.q0
    refine ⟨hq, ?_⟩
    obtain ⟨t, ht⟩ : ∃ t, t = T k (G k 0).q := ⟨_, rfl⟩
    obtain ⟨q, hqq⟩ : ∃ q, q = (G k 0).q := ⟨_, rfl⟩
    have e0 := e.is
    have et := e.t
    rw [← ht] at e0 et ⊢
    have hn0 : (G k 0).n = spT t.size := by rw [e0]; rfl
    have hn16 := spT_le _ et
    have h0 := hw.2 0 hn
    obtain ⟨X, hX⟩ : ∃ X, X = O.tx (datL (G k) (G k 0).n) := ⟨_, rfl⟩
    have hall : ∀ j, j < (G k 0).n → G k j = gk (spP X (G k 0).q) (spT X.size) j := by rw [hX]; exact hw.2
    have hnX : (G k 0).n = spT X.size := by
      have := hall 0 hn
      rw [gk_lt _ _ _ (spT_pos _)] at this
      rw [this]; rfl
    have hpg : ∀ j, j < spT t.size → G k j = spP t (G k 0).q j := by
      intro j hj
      have hj0 : j < (G k 0).n := by omega
      have hj16 : j < 16 := by omega
      have e1 := hall j hj0
      rw [gk_lt _ _ _ (by omega)] at e1
      have eq : (G k j).q = (G k 0).q := by rw [e1]; rfl
      rcases h.pg k hk j hj16 with z | z
      · rw [z] at eq; exact absurd eq.symm hq
      · have := z.is
        rw [eq, ← ht] at this
        exact this
    rw [hn0]
    exact datL_text (G k) t (G k 0).q hpg
/-- What Open finds. -/
structure Fnd (G : Nat → Nat → Pg) : Prop where
  slot : (scan G 2).sl.slot ≤ 1
  le : ∀ c, c < 2 → Whl (G c) → (G c 0).q ≤ (scan G 2).sl.seq
  none : (scan G 2).sl.seq = 0 → (scan G 2).found = 0 ∧ ∀ c, c < 2 → ¬ Whl (G c)
  some : (scan G 2).sl.seq ≠ 0 → 0 < (scan G 2).found ∧ Whl (G (scan G 2).sl.slot) ∧ (G (scan G 2).sl.slot 0).q = (scan G 2).sl.seq ∧ (scan G 2).text = O.tx (datL (G (scan G 2).sl.slot) (G (scan G 2).sl.slot 0).n)
theorem Lies.found (h : Lies m T G st) : Fnd G := by
  have c2 : ∀ c, c < 2 → c = 0 ∨ c = 1 := fun c hc => by omega
  by_cases h0 : Whl (G 0)
  · have q0 := (h.whole 0 (by decide) h0).1
    by_cases h1 : Whl (G 1) ∧ (G 0 0).q < (G 1 0).q
    · obtain ⟨a, b, c, d⟩ := scan_second G h1.1 (fun _ => h1.2) (by omega)
      refine ⟨by omega, fun k hk hw => ?_, fun e => by omega, fun _ => ⟨d, by rw [b]; exact h1.1, by rw [b, c], by rw [b, a]⟩⟩
      rcases c2 k hk with rfl | rfl <;> omega
    · have h1' : ¬ Whl (G 1) ∨ (G 1 0).q ≤ (G 0 0).q := by
        by_cases hw : Whl (G 1)
        · right; exact Nat.le_of_not_lt fun q => h1 ⟨hw, q⟩
        · left; exact hw
      obtain ⟨a, b, c, d⟩ := scan_first G h0 (by omega) h1'
      refine ⟨by omega, fun k hk hw => ?_, fun e => by omega, fun _ => ⟨d, by rw [b]; exact h0, by rw [b, c], by rw [b, a]⟩⟩
      rcases c2 k hk with rfl | rfl
      · omega
      · rcases h1' with n | n
        · exact absurd hw n
        · omega
  · by_cases h1 : Whl (G 1)
    · have q1 := (h.whole 1 (by decide) h1).1
      obtain ⟨a, b, c, d⟩ := scan_second G h1 (fun e => absurd e h0) (by omega)
      refine ⟨by omega, fun k hk hw => ?_, fun e => by omega, fun _ => ⟨d, by rw [b]; exact h1, by rw [b, c], by rw [b, a]⟩⟩
      rcases c2 k hk with rfl | rfl
      · exact absurd hw h0
      · omega
    · obtain ⟨a, b, c, d⟩ := scan_none G h0 h1
      refine ⟨by omega, fun k hk hw => ?_, fun _ => ⟨d, fun k hk hw => ?_⟩, fun e => absurd c e⟩
      · rcases c2 k hk with rfl | rfl
        · exact absurd hw h0
        · exact absurd hw h1
      · rcases c2 k hk with rfl | rfl
        · exact h0 hw
        · exact h1 hw
/-- The texts, with one more. -/
def updT (T : Nat → Nat → ByteArray) (o q : Nat) (x : ByteArray) : Nat → Nat → ByteArray := fun k p => if k = o ∧ p = q then x else T k p
theorem updT_old {T : Nat → Nat → ByteArray} {o q k p : Nat} {x : ByteArray} (h : ¬ (k = o ∧ p = q)) : updT T o q x k p = T k p := if_neg h
theorem Pt.keep {T : Nat → Nat → ByteArray} {m m' j k o q : Nat} {x : ByteArray} {g : Pg} (h : Pt m (T k) j g) (hm : m ≤ m') (hq : g.q ≠ q) : Pt m' (updT T o q x k) j g := by
  have e : updT T o q x k g.q = T k g.q := updT_old (fun h => hq h.2)
  exact ⟨h.q0, Nat.le_trans h.q1 hm, by rw [e]; exact h.t, by rw [e]; exact h.lt, by rw [e]; exact h.is⟩
theorem Pt.new {T : Nat → Nat → ByteArray} {m j o q : Nat} {x : ByteArray} (hx : x.size ≤ 640) (h0 : q ≠ 0) (h1 : q ≤ m) (hj : j < spT x.size) : Pt m (updT T o q x o) j (spP x q j) := by
  have e : updT T o q x o q = x := if_pos ⟨rfl, rfl⟩
  exact ⟨h0, h1, by show (updT T o q x o q).size ≤ 640; rw [e]; exact hx, by show j < spT (updT T o q x o q).size; rw [e]; exact hj, by show _ = spP (updT T o q x o q) q j; rw [e]⟩
open Classical in
/-- Behind a Write that was broken off, whatever stays. -/
theorem Lies.broken (h : Lies m T G st) (x : ByteArray) (hx : x.size ≤ 640) (o : Nat) (ho : o ≤ 1) (q m' : Nat) (hq : q = (scan G 2).sl.most + 1) (hm : m ≤ m') (hqm : q ≤ m') (hm' : m' < 1000000) (st' : F.St) (hn : st'.n = st.n) (hok : F.SecOk st')
    (hr : ∀ i, i < st.n → F.rd st' i = F.rd st i ∨ ∃ j, j < spT x.size ∧ i = o * 16 + j ∧ F.rd st' i = (spP x q j).sec) :
    ∃ G', Lies m' (updT T o q x) G' st' ∧ ∀ k j, k < 2 → k ≠ o → j < 16 → G' k j = G k j := by
  have ht := spT_le x.size hx
  have h32 := h.n
  have hqs : ∀ k, k < 2 → ∀ j, j < 16 → (G k j).q ≠ q := fun k hk j hj => by have := page_most G k hk j hj; omega
  refine ⟨fun k j => if F.rd st' (k * 16 + j) = F.rd st (k * 16 + j) then G k j else spP x q j, ⟨by omega, by have := h.n1; omega, hok, hm', fun k hk j hj => ?_, fun k hk j hj => ?_⟩, fun k j hk hko hj => ?_⟩
  · show Tells _ (if _ then _ else _)
    split
    · rename_i e; rw [e]; exact h.tells k hk j hj
    · rename_i e
      rcases hr (k * 16 + j) (by omega) with e2 | ⟨j2, hj2, e2, e3⟩
      · exact absurd e2 e
      · obtain rfl : j2 = j := by omega
        rw [e3]
        exact tells_page _ (sp_ok x hx q (by omega) (by omega) j2 hj2)
  · show (if _ then _ else _) = zp ∨ Pt _ _ _ (if _ then _ else _)
    split
    · rcases h.pg k hk j hj with e | e
      · exact Or.inl e
      · exact Or.inr (e.keep hm (hqs k hk j hj))
    · rename_i e
      rcases hr (k * 16 + j) (by omega) with e2 | ⟨j2, hj2, e2, e3⟩
      · exact absurd e2 e
      · obtain rfl : j2 = j := by omega
        obtain rfl : k = o := by omega
        exact Or.inr (Pt.new hx (by omega) hqm hj2)
  · show (if _ then _ else _) = _
    split
    · rfl
    · rename_i e
      rcases hr (k * 16 + j) (by omega) with e2 | ⟨j2, hj2, e2, e3⟩
      · exact absurd e2 e
      · exact absurd (show k = o by omega) hko
/-- Behind a Write that ended. -/
theorem Lies.ended (h : Lies m T G st) (x : ByteArray) (hx : x.size ≤ 640) (o : Nat) (ho : o ≤ 1) (q m' : Nat) (hq : q = (scan G 2).sl.most + 1) (hm : m ≤ m') (hqm : q ≤ m') (hm' : m' < 1000000) (st' : F.St) (hn : st'.n = st.n) (hok : F.SecOk st')
    (hnew : ∀ j, j < spT x.size → F.rd st' (o * 16 + j) = (spP x q j).sec) (hold : ∀ j, j < st.n → (j < o * 16 ∨ o * 16 + spT x.size ≤ j) → F.rd st' j = F.rd st j) :
    Lies m' (updT T o q x) (wrG G o x q) st' ∧ (∀ j, j < spT x.size → wrG G o x q o j = spP x q j) ∧ ∀ k j, k ≠ o → wrG G o x q k j = G k j := by
  have ht := spT_le x.size hx
  have h32 := h.n
  have hqs : ∀ k, k < 2 → ∀ j, j < 16 → (G k j).q ≠ q := fun k hk j hj => by have := page_most G k hk j hj; omega
  refine ⟨⟨by omega, by have := h.n1; omega, hok, hm', fun k hk j hj => ?_, fun k hk j hj => ?_⟩, fun j hj => if_pos ⟨rfl, hj⟩, fun k j hk => if_neg (fun e => hk e.1)⟩
  · by_cases e : k = o ∧ j < spT x.size
    · rw [show wrG G o x q k j = spP x q j from if_pos e, e.1, hnew j e.2]
      exact tells_page _ (sp_ok x hx q (by omega) (by omega) j e.2)
    · rw [show wrG G o x q k j = G k j from if_neg e, hold (k * 16 + j) (by omega) (by
        by_cases e2 : k = o
        · subst e2
          have : ¬ j < spT x.size := fun q => e ⟨rfl, q⟩
          right; omega
        · rcases Nat.lt_or_ge k o with l | l
          · left; omega
          · right; omega)]
      exact h.tells k hk j hj
  · by_cases e : k = o ∧ j < spT x.size
    · rw [show wrG G o x q k j = spP x q j from if_pos e, e.1]
      exact Or.inr (Pt.new hx (by omega) hqm e.2)
    · rw [show wrG G o x q k j = G k j from if_neg e]
      rcases h.pg k hk j hj with z | z
      · exact Or.inl z
      · exact Or.inr (z.keep hm (hqs k hk j hj))
/-- Nothing lies there at first. -/
theorem lies0 (sr : Int) (n : Nat) (h : 32 ≤ n) (h1 : n ≤ 1000) : Lies 0 (fun _ _ => ⟨#[]⟩) (fun _ _ => zp) (F.st0 sr n) :=
  ⟨h, h1, F.st0_ok sr n, by decide, (emp0 sr n h h1).anc.tells, fun _ _ _ _ => Or.inl rfl⟩
/-- What has changed but for the sectors changes nothing. -/
theorem Lies.same (h : Lies m T G st) {st' : F.St} (hn : st'.n = st.n) (hok : F.SecOk st') (hr : ∀ i, i < st.n → F.rd st' i = F.rd st i) : Lies m T G st' :=
  ⟨by rw [hn]; exact h.n, by rw [hn]; exact h.n1, hok, h.mx, fun k hk j hj => by rw [hr _ (by have := h.n; omega)]; exact h.tells k hk j hj, h.pg⟩
end
end Go.Proofs.YtknmipbjkkeebaaGreat
