/- Rosters: each change as one pair of calls, the program's and the document's; what may be stays so. -/
import Derived.Test.YtknmipbjkkeebaaSH
import Derived.Test.YtknmipbjkkeebaaRK
namespace Go.Proofs.Ytknmipbjkkeebaa
open Go.RowKit
theorem place_of (l : List Mb) (hr : ∀ i k, i < k → k < l.length → (mbAt l i).s < (mbAt l k).s) (t : Int) : ∀ n, n ≤ l.length → ∃ p, p ≤ n ∧ (∀ j, j < p → (mbAt l j).s < t) ∧ (∀ j, p ≤ j → j < n → t ≤ (mbAt l j).s)
  | 0, _ => ⟨0, Nat.le_refl _, fun j hj => absurd hj (Nat.not_lt_zero _), fun j _ hj => absurd hj (Nat.not_lt_zero _)⟩
  | n + 1, hn => by
    obtain ⟨p, hp, h1, h2⟩ := place_of l hr t n (by omega)
    rcases Nat.lt_or_ge p n with h | h
    · refine ⟨p, by omega, h1, fun j hj hjn => ?_⟩
      rcases Nat.lt_or_ge j n with h3 | h3
      · exact h2 j hj h3
      · obtain rfl : j = n := by omega
        have a := h2 p (Nat.le_refl _) h
        have b := hr p j h (by omega)
        omega
    · obtain rfl : p = n := by omega
      by_cases hs : (mbAt l p).s < t
      · refine ⟨p + 1, by omega, fun j hj => ?_, fun j h3 h4 => by omega⟩
        rcases Nat.lt_or_ge j p with h3 | h3
        · exact h1 j h3
        · obtain rfl : j = p := by omega
          exact hs
      · refine ⟨p, by omega, h1, fun j h3 h4 => ?_⟩
        obtain rfl : j = p := by omega
        omega
theorem mbAt_append_l (a b : List Mb) (k : Nat) (h : k < a.length) : mbAt (a ++ b) k = mbAt a k := by
  unfold mbAt; simp [List.getD, List.getElem?_append_left h]
theorem mbAt_append_r (a b : List Mb) (k : Nat) (h : a.length ≤ k) : mbAt (a ++ b) k = mbAt b (k - a.length) := by
  unfold mbAt; simp [List.getD, List.getElem?_append_right h]
theorem add_at (r : Ro) (p : Nat) (t : Int) (hp : p ≤ r.ms.length) (k : Nat) : mbAt (r.add p t).ms k = if k < p then mbAt r.ms k else if k = p then ⟨t, r.j + 1, 1⟩ else mbAt r.ms (k - 1) := by
  have hl : (r.ms.take p).length = p := by rw [List.length_take]; omega
  show mbAt (r.ms.take p ++ [⟨t, r.j + 1, 1⟩] ++ r.ms.drop p) k = _
  rw [List.append_assoc]
  rcases Nat.lt_trichotomy k p with h | h | h
  · rw [mbAt_append_l _ _ _ (by omega), mbAt_take _ _ _ h, if_pos h]
  · rw [mbAt_append_r _ _ _ (by omega), hl, h, Nat.sub_self, if_neg (Nat.lt_irrefl p), if_pos rfl]; rfl
  · rw [mbAt_append_r _ _ _ (by omega), hl, if_neg (show ¬ k < p by omega), if_neg (show ¬ k = p by omega)]
    obtain ⟨d, rfl⟩ : ∃ d, k = p + 1 + d := ⟨k - (p + 1), by omega⟩
    rw [show p + 1 + d - p = d + 1 by omega]
    show mbAt (r.ms.drop p) d = _
    rw [mbAt_drop]; congr 1; omega
theorem add_len (r : Ro) (p : Nat) (t : Int) (hp : p ≤ r.ms.length) : (r.add p t).ms.length = r.ms.length + 1 := by
  show (r.ms.take p ++ [(⟨t, r.j + 1, 1⟩ : Mb)] ++ r.ms.drop p).length = _
  simp; omega
theorem Ro.Ok.add {r : Ro} (h : r.Ok) (p : Nat) (t : Int) (hp : p ≤ r.ms.length) (hl : r.ms.length < 16) (ht : 1 ≤ t ∧ t ≤ 1000) (h1 : ∀ j, j < p → (mbAt r.ms j).s < t) (h2 : ∀ j, p ≤ j → j < r.ms.length → t < (mbAt r.ms j).s) : (r.add p t).Ok where
  c := h.c
  few := by rw [add_len r p t hp]; omega
  mem := fun k hk => by
    rw [add_len r p t hp] at hk
    rw [add_at r p t hp]
    split
    · have q := h.mem k (by omega); exact ⟨q.s1, q.s2, q.j0, Nat.le_succ_of_le q.jJ, q.t⟩
    · split
      · exact ⟨ht.1, ht.2, by simp, Nat.le_refl _, Or.inl rfl⟩
      · have q := h.mem (k - 1) (by omega); exact ⟨q.s1, q.s2, q.j0, Nat.le_succ_of_le q.jJ, q.t⟩
  rise := fun i k hik hk => by
    rw [add_len r p t hp] at hk
    rw [add_at r p t hp, add_at r p t hp]
    rcases Nat.lt_trichotomy k p with e | e | e
    · rw [if_pos (show i < p by omega), if_pos e]; exact h.rise i k hik (by omega)
    · subst e
      rw [if_pos hik, if_neg (show ¬ k < k by omega), if_pos rfl]
      exact ⟨h1 i hik, fun e2 => by have := (h.mem i (by omega)).jJ; have e3 : (mbAt r.ms i).j = r.j + 1 := e2; omega⟩
    · rw [if_neg (show ¬ k < p by omega), if_neg (show ¬ k = p by omega)]
      rcases Nat.lt_trichotomy i p with e2 | e2 | e2
      · rw [if_pos e2]; exact h.rise i (k-1) (by omega) (by omega)
      · subst e2
        rw [if_neg (show ¬ i < i by omega), if_pos rfl]
        exact ⟨h2 (k-1) (by omega) (by omega), fun e3 => by have := (h.mem (k-1) (by omega)).jJ; have e4 : r.j + 1 = (mbAt r.ms (k-1)).j := e3; omega⟩
      · rw [if_neg (show ¬ i < p by omega), if_neg (show ¬ i = p by omega)]; exact h.rise (i-1) (k-1) (by omega) (by omega)
theorem rem_at (r : Ro) (p k : Nat) (hp : p < r.ms.length) : mbAt (r.remove p).ms k = if k < p then mbAt r.ms k else mbAt r.ms (k + 1) := by
  have hl : (r.ms.take p).length = p := by rw [List.length_take]; omega
  show mbAt (r.ms.take p ++ r.ms.drop (p + 1)) k = _
  rcases Nat.lt_or_ge k p with h | h
  · rw [mbAt_append_l _ _ _ (by omega), mbAt_take _ _ _ h, if_pos h]
  · rw [mbAt_append_r _ _ _ (by omega), hl, if_neg (show ¬ k < p by omega), mbAt_drop]; congr 1; omega
theorem rem_len (r : Ro) (p : Nat) (hp : p < r.ms.length) : (r.remove p).ms.length = r.ms.length - 1 := by
  show (r.ms.take p ++ r.ms.drop (p + 1)).length = _
  simp; omega
theorem Ro.Ok.remove {r : Ro} (h : r.Ok) (p : Nat) (hp : p < r.ms.length) : (r.remove p).Ok where
  c := h.c
  few := by rw [rem_len r p hp]; have := h.few; omega
  mem := fun k hk => by
    rw [rem_len r p hp] at hk
    rw [rem_at r p k hp]
    split
    · exact h.mem k (by omega)
    · exact h.mem (k + 1) (by omega)
  rise := fun i k hik hk => by
    rw [rem_len r p hp] at hk
    rw [rem_at r p k hp, rem_at r p i hp]
    rcases Nat.lt_or_ge k p with e | e
    · rw [if_pos (show i < p by omega), if_pos e]; exact h.rise i k hik (by omega)
    · rw [if_neg (show ¬ k < p by omega)]
      split
      · exact h.rise i (k + 1) (by omega) (by omega)
      · exact h.rise (i + 1) (k + 1) (by omega) (by omega)
theorem dr_at (l : List Mb) (p k : Nat) (hp : p < l.length) : mbAt (drainL l p) k = if k = p then { mbAt l p with t := 2 } else mbAt l k := by
  unfold drainL
  generalize ({ mbAt l p with t := 2 } : Mb) = m
  unfold mbAt
  by_cases h : k = p
  · subst h; simp [List.getD, List.getElem?_set, hp]
  · rw [if_neg h]
    have h' : ¬ p = k := fun e => h e.symm
    simp [List.getD, List.getElem?_set, h']
theorem Ro.Ok.drain {r : Ro} (h : r.Ok) (p : Nat) (hp : p < r.ms.length) : (r.drain p).Ok where
  c := h.c
  few := by show (drainL r.ms p).length ≤ _; rw [drainL_len]; exact h.few
  mem := fun k hk => by
    replace hk : k < (drainL r.ms p).length := hk
    rw [drainL_len] at hk
    show (mbAt (drainL r.ms p) k).Ok _
    rw [dr_at _ _ _ hp]
    split
    · have q := h.mem p hp; exact ⟨q.s1, q.s2, q.j0, q.jJ, Or.inr rfl⟩
    · exact h.mem k hk
  rise := fun i k hik hk => by
    replace hk : k < (drainL r.ms p).length := hk
    rw [drainL_len] at hk
    show (mbAt (drainL r.ms p) i).s < (mbAt (drainL r.ms p) k).s ∧ _ ≠ (mbAt (drainL r.ms p) k).j
    have e : ∀ x, (mbAt (drainL r.ms p) x).s = (mbAt r.ms x).s ∧ (mbAt (drainL r.ms p) x).j = (mbAt r.ms x).j := fun x => by
      rw [dr_at _ _ _ hp]
      split
      · next e => subst e; exact ⟨rfl, rfl⟩
      · exact ⟨rfl, rfl⟩
    rw [(e i).1, (e k).1, (e k).2]
    refine ⟨(h.rise i k hik hk).1, ?_⟩
    have := (h.rise i k hik hk).2
    rw [show (mbAt (r.drain p).ms i).j = (mbAt r.ms i).j from (e i).2]; exact this
theorem Ro.Ok.extend {r : Ro} (h : r.Ok) : r.extend.Ok := ⟨h.c, h.few, h.mem, h.rise⟩
theorem Ro.Ok.fresh {r : Ro} : r.fresh.Ok := ⟨Nat.succ_ne_zero _, Nat.zero_le _, fun k hk => absurd hk (Nat.not_lt_zero _), fun i k _ hk => absurd hk (Nat.not_lt_zero _)⟩
/-- What is next to a roster: one that may be, and its numbers are not far. -/
structure Nx (r q : Ro) : Prop where
  ok : q.Ok
  c : q.c ≤ r.c + 1
  e : q.e = r.e + 1
  l : q.l ≤ r.l + 64
  j : r.j ≤ q.j
  j1 : q.j ≤ r.j + 1
/-- Both calls answer one roster, and one number. -/
structure Pair (fr fx : FuncId) (r : Ro) (t : Int) (q : Ro) (k : Int) : Prop where
  few : q.ms.length ≤ 1000
  prog : ∀ v w, MIs w 0 v r.ms → Calls Try.prog fr #[r.val v, .int .i64 t] w fun e w' => ∃ v', e = .returned (.tuple #[q.val v', .int .i64 k]) ∧ MIs w' w.heap.size v' q.ms ∧ Below w.heap.size w w'
  doc : ∀ v w, XIs w 0 v r.ms → Calls Try.prog fx #[r.val v, .int .i64 t] w fun e w' => ∃ v', e = .returned (.tuple #[q.val v', .int .i64 k]) ∧ XIs w' w.heap.size v' q.ms ∧ Below w.heap.size w w'
theorem Pair.refused {fr fx : FuncId} {r : Ro} {t k : Int} (h1 : ∀ v w, MIs w 0 v r.ms → Calls Try.prog fr #[r.val v, .int .i64 t] w fun e w' => e = .returned (.tuple #[(Ro.mk 0 0 0 0 []).val (.slice none 0 0), .int .i64 k]) ∧ Below w.heap.size w w')
    (h2 : ∀ v w, XIs w 0 v r.ms → Calls Try.prog fx #[r.val v, .int .i64 t] w fun e w' => e = .returned (.tuple #[(Ro.mk 0 0 0 0 []).val (.slice none 0 0), .int .i64 k]) ∧ Below w.heap.size w w') : Pair fr fx r t ⟨0, 0, 0, 0, []⟩ k where
  few := Nat.zero_le _
  prog := fun v w h => (h1 v w h).mono (by rintro e w' ⟨rfl, hb⟩; exact ⟨_, rfl, World.ownsRow_nil _ _ _ _, hb⟩)
  doc := fun v w h => (h2 v w h).mono (by rintro e w' ⟨rfl, hb⟩; exact ⟨_, rfl, World.ownsRow_nil _ _ _ _, hb⟩)
theorem Ro.Ok.place {r : Ro} (h : r.Ok) (t : Int) : ∃ p, p ≤ r.ms.length ∧ (∀ j, j < p → (mbAt r.ms j).s < t) ∧ (∀ j, p ≤ j → j < r.ms.length → t ≤ (mbAt r.ms j).s) ∧ (∀ j, p < j → j < r.ms.length → t < (mbAt r.ms j).s) := by
  obtain ⟨p, hp, h1, h2⟩ := place_of r.ms (fun i k a b => (h.rise i k a b).1) t r.ms.length (Nat.le_refl _)
  refine ⟨p, hp, h1, h2, fun j hj hl => ?_⟩
  have a := h2 p (Nat.le_refl _) (by omega)
  have b := (h.rise p j hj hl).1
  omega
theorem add_pair (r : Ro) (hr : r.Ok) (t : Int) (he : r.e < 9223372036854775807) (hj : r.j < 9223372036854775807) : ∃ q k, Pair 39 38 r t q k ∧ (k = 0 → Nx r q ∧ q.j = r.j + 1 ∧ ∃ p, p < q.ms.length ∧ mbAt q.ms p = ⟨t, q.j, 1⟩) := by
  by_cases ht : 1 ≤ t ∧ t ≤ 1000
  · obtain ⟨p, hp, h1, h2, h3⟩ := hr.place t
    have hf := hr.few
    by_cases hth : p < r.ms.length ∧ (mbAt r.ms p).s = t
    · exact ⟨_, 11, Pair.refused (fun v w h => radd_there r v t p w h (by omega) ht hth.1 hth.2 h1 h2) (fun v w h => xadd_there r v t p w h (by omega) ht hth.1 hth.2 h1 h3), fun e => absurd e (by decide)⟩
    · have h4 : ∀ j, p ≤ j → j < r.ms.length → t < (mbAt r.ms j).s := fun j a b => by
        rcases Nat.lt_or_ge p j with c | c
        · exact h3 j c b
        · obtain rfl : j = p := by omega
          have := h2 j a b
          have : (mbAt r.ms j).s ≠ t := fun e => hth ⟨b, e⟩
          omega
      rcases Nat.lt_or_ge r.ms.length 16 with hl | hl
      · refine ⟨r.add p t, 0, ⟨by rw [add_len r p t hp]; omega, fun v w h => radd_ok r v t p w h hl he hj ht hp h1 h4, fun v w h => xadd_ok r v t p w h hl he hj ht hp h1 h4⟩, fun _ => ⟨⟨hr.add p t hp hl ht h1 h4, Nat.le_succ _, rfl, Nat.le_add_right _ _, Nat.le_succ _, Nat.le_refl _⟩, rfl, p, by rw [add_len r p t hp]; omega, ?_⟩⟩
        rw [add_at r p t hp, if_neg (Nat.lt_irrefl p), if_pos rfl]; rfl
      · exact ⟨_, 12, Pair.refused (fun v w h => radd_full r v t p w h hl (by omega) ht hp h1 h4) (fun v w h => xadd_full r v t p w h hl (by omega) ht hp h1 h4), fun e => absurd e (by decide)⟩
  · exact ⟨_, 1, Pair.refused (fun v w h => radd_arg r v t w h ht) (fun v w h => xadd_arg r v t w h ht), fun e => absurd e (by decide)⟩
theorem drain_pair (r : Ro) (hr : r.Ok) (t : Int) (he : r.e < 9223372036854775807) : ∃ q k, Pair 31 30 r t q k ∧ (k = 0 → Nx r q) := by
  obtain ⟨p, hp, h1, h2, h3⟩ := hr.place t
  have hf := hr.few
  by_cases hth : p < r.ms.length ∧ (mbAt r.ms p).s = t
  · obtain ⟨hl, rfl⟩ := hth
    by_cases hst : (mbAt r.ms p).t = 2
    · exact ⟨_, 11, Pair.refused (fun v w h => rdrain_there r v p w h (by omega) hl hst h1 h2) (fun v w h => xdrain_there r v p w h (by omega) hl hst h1 h3), fun e => absurd e (by decide)⟩
    · exact ⟨r.drain p, 0, ⟨by show (drainL r.ms p).length ≤ _; rw [drainL_len]; omega, fun v w h => rdrain_ok r v p w h (by omega) he hl hst h1 h2, fun v w h => xdrain_ok r v p w h (by omega) he hl hst h1 h3⟩, fun _ => ⟨hr.drain p hl, Nat.le_succ _, rfl, Nat.le_add_right _ _, Nat.le_refl _, Nat.le_succ _⟩⟩
  · exact ⟨_, 10, Pair.refused (fun v w h => rdrain_none r v t p w h (by omega) hp hth h1 h2) (fun v w h => xdrain_none r v t p w h (by omega) hp hth h1 h3 (fun a => h2 p (Nat.le_refl _) a)), fun e => absurd e (by decide)⟩
theorem remove_pair (r : Ro) (hr : r.Ok) (t : Int) (he : r.e < 9223372036854775807) : ∃ q k, Pair 33 32 r t q k ∧ (k = 0 → Nx r q) := by
  obtain ⟨p, hp, h1, h2, h3⟩ := hr.place t
  have hf := hr.few
  by_cases hth : p < r.ms.length ∧ (mbAt r.ms p).s = t
  · obtain ⟨hl, rfl⟩ := hth
    exact ⟨r.remove p, 0, ⟨by rw [rem_len r p hl]; omega, fun v w h => rremove_ok r v p w h (by omega) he hl h1 h2, fun v w h => xremove_ok r v p w h (by omega) he hl h1 h3⟩, fun _ => ⟨hr.remove p hl, Nat.le_succ _, rfl, Nat.le_add_right _ _, Nat.le_refl _, Nat.le_succ _⟩⟩
  · exact ⟨_, 10, Pair.refused (fun v w h => rremove_none r v t p w h (by omega) hp hth h1 h2) (fun v w h => xremove_none r v t p w h (by omega) hp hth h1 h3 (fun a => h2 p (Nat.le_refl _) a)), fun e => absurd e (by decide)⟩
theorem find_all (r : Ro) (hr : r.Ok) (t : Int) : ∃ (m : Mb) (b : Bool), (∀ v w, MIs w 0 v r.ms → Calls Try.prog 43 #[r.val v, .int .i64 t] w fun e w' => e = .returned (.tuple #[m.val, .bool b]) ∧ Below w.heap.size w w') ∧ (∀ p, p < r.ms.length → (mbAt r.ms p).s = t → m = mbAt r.ms p) := by
  obtain ⟨p, hp, h1, h2, h3⟩ := hr.place t
  have hf := hr.few
  by_cases hth : p < r.ms.length ∧ (mbAt r.ms p).s = t
  · obtain ⟨hl, rfl⟩ := hth
    refine ⟨mbAt r.ms p, true, fun v w h => rfind_yes r v p w h (by omega) hl h1 h2, fun x hx e => ?_⟩
    rcases Nat.lt_trichotomy x p with h | h | h
    · have := h1 x h; omega
    · rw [h]
    · have := h3 x h hx; omega
  · refine ⟨⟨0, 0, 0⟩, false, fun v w h => rfind_no r v t p w h (by omega) hp hth h1 h2, fun x hx e => ?_⟩
    rcases Nat.lt_trichotomy x p with h | h | h
    · have := h1 x h; omega
    · subst h; exact absurd ⟨hx, e⟩ hth
    · have := h3 x h hx; omega
end Go.Proofs.Ytknmipbjkkeebaa
