/- Plain facts on places in a circle: what is looked for is found, what is put is there, what is dropped leaves nothing behind; nothing of Go, no condition. -/
import Derived.WalkKit
namespace Go.Proofs.YtcgmngafodmfcaaDoor
section
variable {K V : Type}
/-- How many places it is from a to b. -/
def wy (n a b : Nat) : Nat := if a ≤ b then b - a else b + n - a
def nx (n a : Nat) : Nat := if a + 1 = n then 0 else a + 1
def up (L : Nat → Option (K × V)) (i : Nat) (x : Option (K × V)) : Nat → Option (K × V) := fun j => if j = i then x else L j
def ents (n : Nat) (L : Nat → Option (K × V)) : List (K × V) := (List.range n).filterMap L
theorem ents_zero (L : Nat → Option (K × V)) : ents 0 L = [] := rfl
theorem ents_succ (n : Nat) (L : Nat → Option (K × V)) : ents (n + 1) L = ents n L ++ (L n).toList := by
  unfold ents
  rw [List.range_succ, List.filterMap_append]
  cases h : L n <;> simp [h]
theorem up_at (L : Nat → Option (K × V)) (i : Nat) (x : Option (K × V)) : up L i x i = x := if_pos rfl
theorem up_ne (L : Nat → Option (K × V)) {i j : Nat} (x : Option (K × V)) (h : j ≠ i) : up L i x j = L j := if_neg h
theorem ents_congr {n : Nat} {L M : Nat → Option (K × V)} (h : ∀ i, i < n → L i = M i) : ents n L = ents n M := by
  induction n with
  | zero => rfl
  | succ n ih => rw [ents_succ, ents_succ, ih (fun i hi => h i (by omega)), h n (by omega)]
theorem ents_up_ge {n : Nat} (L : Nat → Option (K × V)) {i : Nat} (x : Option (K × V)) (h : n ≤ i) : ents n (up L i x) = ents n L :=
  ents_congr fun j hj => up_ne L x (by omega)
theorem mem_ents {n : Nat} {L : Nat → Option (K × V)} {p : K × V} : p ∈ ents n L ↔ ∃ i, i < n ∧ L i = some p := by
  unfold ents; simp
/-- What is put where nothing is comes to what is there. -/
theorem ents_put {n : Nat} (L : Nat → Option (K × V)) {i : Nat} (p : K × V) (hi : i < n) (h : L i = none) : (ents n (up L i (some p))).Perm (p :: ents n L) := by
  induction n with
  | zero => omega
  | succ n ih =>
    rw [ents_succ, ents_succ]
    by_cases e : i = n
    · subst e
      rw [ents_up_ge L _ (Nat.le_refl _), up_at, h]
      simp only [Option.toList_some, Option.toList_none, List.append_nil]
      exact List.perm_append_singleton _ _
    · rw [up_ne L _ (Ne.symm e)]
      exact ((ih (by omega)).append_right _)
/-- What is taken away goes from what is there. -/
theorem ents_take {n : Nat} (L : Nat → Option (K × V)) {i : Nat} {p : K × V} (hi : i < n) (h : L i = some p) : (ents n L).Perm (p :: ents n (up L i none)) := by
  have h1 := ents_put (up L i none) p hi (up_at L i none)
  have h2 : ents n (up (up L i none) i (some p)) = ents n L := ents_congr fun j hj => by
    by_cases e : j = i
    · subst e; rw [up_at, h]
    · rw [up_ne _ _ e, up_ne _ _ e]
  rw [h2] at h1
  exact h1
theorem len_take {n : Nat} (L : Nat → Option (K × V)) {i : Nat} (hi : i < n) (h : L i ≠ none) : (ents n L).length = (ents n (up L i none)).length + 1 := by
  obtain ⟨p, hp⟩ := Option.ne_none_iff_exists'.1 h
  rw [(ents_take L hi hp).length_eq, List.length_cons]
theorem wy_lt {n a b : Nat} (ha : a < n) (hb : b < n) : wy n a b < n := by unfold wy; split <;> omega
theorem wy_self (n a : Nat) : wy n a a = 0 := by unfold wy; simp
theorem wy_inj {n a b c : Nat} (ha : a < n) (hb : b < n) (hc : c < n) (h : wy n a b = wy n a c) : b = c := by
  unfold wy at h; split at h <;> split at h <;> omega
theorem nx_lt {n a : Nat} (ha : a < n) : nx n a < n := by unfold nx; split <;> omega
theorem wy_nx {n a b : Nat} (ha : a < n) (hb : b < n) (h : wy n a b + 1 < n) : wy n a (nx n b) = wy n a b + 1 := by
  unfold wy nx at *; split at h <;> split <;> split <;> omega
/-- The place that is s places behind a. -/
theorem wy_ex {n a s : Nat} (ha : a < n) (hs : s < n) : ∃ b, b < n ∧ wy n a b = s := by
  by_cases h : a + s < n
  · exact ⟨a + s, h, by unfold wy; split <;> omega⟩
  · exact ⟨a + s - n, by omega, by unfold wy; split <;> omega⟩
/-- So many places that are taken, so many are there. -/
theorem taken_le {n a : Nat} (ha : a < n) : ∀ (s : Nat) (L : Nat → Option (K × V)), s ≤ n → (∀ y, y < n → wy n a y < s → L y ≠ none) → s ≤ (ents n L).length
  | 0, _, _, _ => Nat.zero_le _
  | s + 1, L, hs, h => by
    obtain ⟨b, hb, he⟩ := wy_ex ha (show s < n by omega)
    have h1 := len_take L hb (h b hb (by omega))
    have h2 := taken_le ha s (up L b none) (by omega) fun y hy hw => by
      have : y ≠ b := fun e => by subst e; omega
      rw [up_ne _ _ this]; exact h y hy (by omega)
    omega
/-- A key stands at its home, or behind it with no place between that isn't taken; each stands once. -/
structure Good (n : Nat) (h : K → Nat) (L : Nat → Option (K × V)) : Prop where
  hlt : ∀ k, h k < n
  way : ∀ i, i < n → ∀ p, L i = some p → ∀ y, y < n → wy n (h p.1) y < wy n (h p.1) i → L y ≠ none
  uniq : ((ents n L).map Prod.fst).Nodup
theorem Good.one {n : Nat} {h : K → Nat} {L : Nat → Option (K × V)} (hg : Good n h L) {i j : Nat} (hi : i < n) (hj : j < n) {p q : K × V} (e1 : L i = some p) (e2 : L j = some q) (e : p.1 = q.1) : i = j := by
  by_cases hij : i = j
  · exact hij
  · exfalso
    have h1 := ents_take L hi e1
    have h2 := ents_take (up L i none) hj (p := q) (by rw [up_ne _ _ (Ne.symm hij), e2])
    have h3 := ((h1.trans (h2.cons p)).map Prod.fst).nodup_iff.1 hg.uniq
    simp [e] at h3
/-- Where a search for k has come: s places behind its home, with other keys at all ahead. -/
structure Fnd (n : Nat) (h : K → Nat) (L : Nat → Option (K × V)) (k : K) (at' s : Nat) : Prop where
  lt : at' < n
  wy : wy n (h k) at' = s
  pre : ∀ y, y < n → Go.Proofs.YtcgmngafodmfcaaDoor.wy n (h k) y < s → ∃ p, L y = some p ∧ p.1 ≠ k
theorem Fnd.start {n : Nat} {h : K → Nat} {L : Nat → Option (K × V)} (hl : ∀ k, h k < n) (k : K) : Fnd n h L k (h k) 0 :=
  ⟨hl k, wy_self _ _, fun y _ hy => absurd hy (Nat.not_lt_zero _)⟩
theorem Fnd.le {n : Nat} {h : K → Nat} {L : Nat → Option (K × V)} {k : K} {a s : Nat} (hl : ∀ k, h k < n) (hf : Fnd n h L k a s) : s ≤ (ents n L).length := by
  have := wy_lt (hl k) hf.lt
  rw [hf.wy] at this
  exact taken_le (hl k) s L (by omega) fun y hy hw => by
    obtain ⟨p, hp, _⟩ := hf.pre y hy hw
    rw [hp]; simp
theorem Fnd.lts {n : Nat} {h : K → Nat} {L : Nat → Option (K × V)} {k : K} {a s : Nat} (hl : ∀ k, h k < n) (hf : Fnd n h L k a s) : s < n := by
  have := wy_lt (hl k) hf.lt
  rw [hf.wy] at this; exact this
theorem Fnd.step {n : Nat} {h : K → Nat} {L : Nat → Option (K × V)} {k : K} {a s : Nat} (hl : ∀ k, h k < n) (hf : Fnd n h L k a s) {p : K × V} (hp : L a = some p) (hk : p.1 ≠ k) (hn : (ents n L).length < n) : Fnd n h L k (nx n a) (s + 1) := by
  have hs : s + 1 < n := by
    have h1 := hf.lts hl
    have h2 := taken_le (hl k) (s + 1) L (by omega) fun y hy hw => by
      by_cases e : Go.Proofs.YtcgmngafodmfcaaDoor.wy n (h k) y < s
      · obtain ⟨p, hp, _⟩ := hf.pre y hy e
        rw [hp]; simp
      · obtain rfl : y = a := wy_inj (hl k) hy hf.lt (by rw [hf.wy]; omega)
        rw [hp]; simp
    omega
  refine ⟨nx_lt hf.lt, by rw [wy_nx (hl k) hf.lt (by rw [hf.wy]; exact hs), hf.wy], fun y hy hw => ?_⟩
  by_cases e : Go.Proofs.YtcgmngafodmfcaaDoor.wy n (h k) y < s
  · exact hf.pre y hy e
  · obtain rfl : y = a := wy_inj (hl k) hy hf.lt (by rw [hf.wy]; omega)
    exact ⟨p, hp, hk⟩
/-- The search ended where nothing is: the key isn't there. -/
theorem Fnd.none {n : Nat} {h : K → Nat} {L : Nat → Option (K × V)} {k : K} {a s : Nat} (hg : Good n h L) (hf : Fnd n h L k a s) (e : L a = none) : ∀ p ∈ ents n L, p.1 ≠ k := by
  intro p hp hk
  obtain ⟨i, hi, e1⟩ := mem_ents.1 hp
  subst hk
  rcases Nat.lt_trichotomy (Go.Proofs.YtcgmngafodmfcaaDoor.wy n (h p.1) i) s with h1 | h1 | h1
  · obtain ⟨q, hq, h2⟩ := hf.pre i hi h1
    rw [e1] at hq; injection hq with hq; subst hq; exact h2 rfl
  · obtain rfl : i = a := wy_inj (hg.hlt _) hi hf.lt (by rw [hf.wy]; exact h1)
    rw [e] at e1; cases e1
  · exact hg.way i hi p e1 a hf.lt (by rw [hf.wy]; exact h1) e
/-- What is put where the search ended. -/
theorem Good.put {n : Nat} {h : K → Nat} {L : Nat → Option (K × V)} {k : K} {a s : Nat} (hg : Good n h L) (hf : Fnd n h L k a s) (e : L a = none) (v : V) : Good n h (up L a (some (k, v))) := by
  have hm : ∀ y, L y ≠ Option.none → up L a (some (k, v)) y ≠ Option.none := fun y hy => by
    by_cases e1 : y = a
    · rw [e1, up_at]; simp
    · rw [up_ne _ _ e1]; exact hy
  refine ⟨hg.hlt, fun i hi p hp y hy hw => ?_, ?_⟩
  · by_cases e1 : i = a
    · rw [e1, up_at] at hp
      injection hp with hp
      subst hp
      rw [e1] at hw
      simp only [hf.wy] at hw
      obtain ⟨q, hq, _⟩ := hf.pre y hy hw
      exact hm y (by rw [hq]; simp)
    · rw [up_ne _ _ e1] at hp
      exact hm y (hg.way i hi p hp y hy hw)
  · have h1 := ((ents_put L (k, v) hf.lt e).map Prod.fst).nodup_iff.2
    refine h1 ?_
    rw [List.map_cons, List.nodup_cons]
    refine ⟨fun hmem => ?_, hg.uniq⟩
    obtain ⟨p, hp, h2⟩ := List.mem_map.1 hmem
    exact hf.none hg e p hp h2
/-- What is put over. -/
theorem Good.over {n : Nat} {h : K → Nat} {L : Nat → Option (K × V)} {k : K} {v0 : V} {a : Nat} (hg : Good n h L) (ha : a < n) (e : L a = some (k, v0)) (v : V) :
    Good n h (up L a (some (k, v))) ∧ (ents n (up L a (some (k, v)))).Perm ((k, v) :: ents n (up L a none)) ∧ (ents n L).Perm ((k, v0) :: ents n (up L a none)) := by
  have h1 := ents_take L ha e
  have h2 := ents_take (up L a (some (k, v))) ha (p := (k, v)) (up_at _ _ _)
  have h3 : ents n (up (up L a (some (k, v))) a none) = ents n (up L a none) := ents_congr fun j hj => by
    by_cases e1 : j = a
    · rw [e1, up_at, up_at]
    · rw [up_ne _ _ e1, up_ne _ _ e1, up_ne _ _ e1]
  rw [h3] at h2
  refine ⟨⟨hg.hlt, fun i hi p hp y hy hw => ?_, ?_⟩, h2, h1⟩
  · have hL : ∃ q, L i = some q ∧ q.1 = p.1 := by
      by_cases e1 : i = a
      · rw [e1, up_at] at hp
        injection hp with hp
        subst hp
        exact ⟨(k, v0), by rw [e1, e], rfl⟩
      · rw [up_ne _ _ e1] at hp
        exact ⟨p, hp, rfl⟩
    obtain ⟨q, hq, h4⟩ := hL
    have h5 := hg.way i hi q hq y hy (by rw [h4]; exact hw)
    by_cases e1 : y = a
    · rw [e1, up_at]; simp
    · rw [up_ne _ _ e1]; exact h5
  · refine ((h2.map Prod.fst).nodup_iff).2 ?_
    have h4 := ((h1.map Prod.fst).nodup_iff).1 hg.uniq
    simpa using h4
/-- On the way of a dropping: g is the place that is left, at' the one that is looked at; L as it is in memory, but for g. -/
structure Gap (n : Nat) (h : K → Nat) (L : Nat → Option (K × V)) (e g a : Nat) : Prop where
  hlt : ∀ k, h k < n
  ge : e < n
  gn : g < n
  an : a < n
  ne : a ≠ g
  emp : L e = none
  gne : g ≠ e
  gap : L g = none
  far : wy n g a ≤ wy n g e
  full : ∀ y, y < n → 0 < wy n g y → wy n g y < wy n g a → L y ≠ none
  way : ∀ i, i < n → ∀ p, L i = some p → ∀ y, y < n → y ≠ g → wy n (h p.1) y < wy n (h p.1) i → L y ≠ none
  nog : ∀ i, i < n → 0 < wy n g i → wy n g i < wy n g a → ∀ p, L i = some p → wy n (h p.1) i ≤ wy n (h p.1) g
theorem Gap.done {n : Nat} {h : K → Nat} {L : Nat → Option (K × V)} {e g a : Nat} (hp : Gap n h L e g a) (ha : L a = none) : ∀ i, i < n → ∀ p, L i = some p → ∀ y, y < n → wy n (h p.1) y < wy n (h p.1) i → L y ≠ none := by
  intro i hi p h1 y hy hw
  by_cases e1 : y = g
  · exfalso
    subst e1
    have n1 : i ≠ y := fun e => by subst e; rw [hp.gap] at h1; cases h1
    have n2 : i ≠ a := fun e => by subst e; rw [ha] at h1; cases h1
    have l1 := hp.hlt p.1
    have l2 := hp.an
    by_cases c : wy n y i < wy n y a
    · have h2 := hp.nog i hi (by unfold wy; split <;> omega) c p h1
      omega
    · have h2 : wy n (h p.1) a < wy n (h p.1) i := by
        have n3 := hp.ne
        clear hp h1
        generalize h p.1 = k at *
        unfold wy at *
        (repeat' split at hw) <;> (repeat' split at c) <;> (repeat' split) <;> omega
      exact hp.way i hi p h1 a l2 hp.ne h2 ha
  · exact hp.way i hi p h1 y hy e1 hw
theorem Gap.next {n : Nat} {h : K → Nat} {L : Nat → Option (K × V)} {e g a : Nat} (hp : Gap n h L e g a) {p : K × V} (ha : L a = some p) (hw : ¬ wy n g a ≤ wy n (h p.1) a) : Gap n h L e g (nx n a) ∧ wy n (nx n a) e < wy n a e := by
  have l1 := hp.hlt p.1
  have l2 := hp.an
  have l3 := hp.gn
  have l4 := hp.ge
  have n1 := hp.ne
  have n2 : a ≠ e := fun x => by subst x; rw [hp.emp] at ha; cases ha
  have n3 := hp.gne
  have hf := hp.far
  have w1 : wy n g (nx n a) = wy n g a + 1 ∧ wy n g (nx n a) ≤ wy n g e ∧ nx n a ≠ g ∧ wy n (nx n a) e < wy n a e ∧ nx n a < n := by
    clear hp ha hw
    unfold wy nx at *
    refine ⟨?_, ?_, ?_, ?_, ?_⟩ <;> (repeat' split) <;> (repeat' split at hf) <;> omega
  obtain ⟨w1, w2, w3, w4, w5⟩ := w1
  refine ⟨⟨hp.hlt, hp.ge, hp.gn, w5, w3, hp.emp, hp.gne, hp.gap, w2, fun y hy h1 h2 => ?_, hp.way, fun i hi h1 h2 q hq => ?_⟩, w4⟩
  · by_cases c : wy n g y < wy n g a
    · exact hp.full y hy h1 c
    · obtain rfl : y = a := wy_inj l3 hy l2 (by omega)
      rw [ha]; simp
  · by_cases c : wy n g i < wy n g a
    · exact hp.nog i hi h1 c q hq
    · obtain rfl : i = a := wy_inj l3 hi l2 (by omega)
      rw [ha] at hq
      injection hq with hq
      subst hq
      clear hp ha h2 w1 w2 w3 w4 w5 c
      generalize h p.1 = k at *
      unfold wy at *
      (repeat' split at hw) <;> (repeat' split) <;> omega
theorem Gap.move {n : Nat} {h : K → Nat} {L : Nat → Option (K × V)} {e g a : Nat} (hp : Gap n h L e g a) {p : K × V} (ha : L a = some p) (hw : wy n g a ≤ wy n (h p.1) a) : Gap n h (up (up L g (some p)) a none) e a (nx n a) ∧ wy n (nx n a) e < wy n a e ∧ (ents n (up (up L g (some p)) a none)).Perm (ents n L) := by
  have l1 := hp.hlt p.1
  have l2 := hp.an
  have l3 := hp.gn
  have l4 := hp.ge
  have n1 := hp.ne
  have n2 : a ≠ e := fun x => by subst x; rw [hp.emp] at ha; cases ha
  have n3 := hp.gne
  have hf := hp.far
  have w1 : wy n a (nx n a) = 1 ∧ wy n a (nx n a) ≤ wy n a e ∧ nx n a ≠ a ∧ wy n (nx n a) e < wy n a e ∧ nx n a < n := by
    clear hp ha hw
    unfold wy nx at *
    refine ⟨?_, ?_, ?_, ?_, ?_⟩ <;> (repeat' split) <;> (repeat' split at hf) <;> omega
  obtain ⟨w1, w2, w3, w4, w5⟩ := w1
  have hu : ∀ y, y ≠ a → y ≠ g → up (up L g (some p)) a none y = L y := fun y h1 h2 => by rw [up_ne _ _ h1, up_ne _ _ h2]
  have hug : up (up L g (some p)) a none g = some p := by rw [up_ne _ _ (Ne.symm n1), up_at]
  refine ⟨⟨hp.hlt, hp.ge, hp.an, w5, w3, by rw [hu e (Ne.symm n2) (Ne.symm n3)]; exact hp.emp, n2, up_at _ _ _, w2, fun y hy h1 h2 => by omega, fun i hi q hq y hy hya h1 => ?_, fun i hi h1 h2 => by omega⟩, w4, ?_⟩
  · by_cases c : y = g
    · rw [c, hug]; simp
    · rw [hu y hya c]
      by_cases c2 : i = a
      · rw [c2, up_at] at hq; cases hq
      · by_cases c3 : i = g
        · rw [c3, hug] at hq
          injection hq with hq
          subst hq
          refine hp.way a l2 p ha y hy c ?_
          rw [c3] at h1
          clear hp ha hu hug
          generalize h p.1 = k at *
          unfold wy at *
          split at h1 <;> split at h1 <;> (repeat' split at hw) <;> (repeat' split) <;> omega
        · rw [hu i c2 c3] at hq
          exact hp.way i hi q hq y hy c h1
  · have h1 := ents_put L p l3 hp.gap
    have h2 := ents_take (up L g (some p)) l2 (p := p) (by rw [up_ne _ _ n1, ha])
    exact (List.perm_cons p).1 (h2.symm.trans h1)
theorem Gap.start {n : Nat} {h : K → Nat} {L : Nat → Option (K × V)} (hg : Good n h L) {g : Nat} {p : K × V} (hgn : g < n) (hp : L g = some p) (hl : (ents n L).length < n) : ∃ e, Gap n h (up L g none) e g (nx n g) := by
  have he : ∃ e, e < n ∧ L e = none := by
    apply Classical.byContradiction
    intro hno
    have h1 := taken_le hgn n L (Nat.le_refl _) fun y hy _ h0 => hno ⟨y, hy, h0⟩
    omega
  obtain ⟨e, h1, h2⟩ := he
  have n1 : g ≠ e := fun x => by subst x; rw [hp] at h2; cases h2
  have w1 : wy n g (nx n g) = 1 ∧ wy n g (nx n g) ≤ wy n g e ∧ nx n g ≠ g ∧ nx n g < n := by
    unfold wy nx at *
    refine ⟨?_, ?_, ?_, ?_⟩ <;> (repeat' split) <;> omega
  obtain ⟨w1, w2, w3, w5⟩ := w1
  refine ⟨e, hg.hlt, h1, hgn, w5, w3, by rw [up_ne _ _ (Ne.symm n1)]; exact h2, n1, up_at _ _ _, w2, fun y hy h3 h4 => by omega, fun i hi q hq y hy hyg hw => ?_, fun i hi h3 h4 => by omega⟩
  have c : i ≠ g := fun x => by rw [x, up_at] at hq; cases hq
  rw [up_ne _ _ c] at hq
  rw [up_ne _ _ hyg]
  exact hg.way i hi q hq y hy hw
end
end Go.Proofs.YtcgmngafodmfcaaDoor
