/- A device that does all: Append, Room, Scan and Read of a segment there, by what lies on it. -/
import Derived.Test.YtncfbocbigdhiaaGreatJB
namespace Go.Proofs.YtncfbocbigdhiaaGreat
open Go.RowKit
/-- A device that does all, with nothing that is not sure, and what lies on it. -/
structure Dev (T : Nat) (w : World) (L : F.Loc) (n : Nat) (oth : List (Nat × Obj)) (now : Nat → ByteArray) (c : Int) (W : World) : Prop where
  ex : ∃ st lv ats, F.One T w L st lv oth W ∧ st.n = n ∧ st.serial = 1 ∧ st.session = 1 ∧ st.there = true ∧ F.Mode.idle.is st ∧ F.Dv st ats now now ∧ 0 ≤ st.count ∧ st.count ≤ c ∧ st.ln = 0
section
variable {T : Nat} {w : World} {L : F.Loc} {n : Nat} {oth oth' : List (Nat × Obj)} {now : Nat → ByteArray} {c : Int} {W W' : World}
theorem Dev.below (h : Dev T w L n oth now c W) (hb : Below W.heap.size W W') : Dev T w L n oth now c W' := by
  obtain ⟨st, lv, ats, h1, h2⟩ := h.ex
  exact ⟨st, lv, ats, h1.ofBelow hb, h2⟩
theorem Dev.forget (h : Dev T w L n oth now c W) (hs : ∀ p ∈ oth', p ∈ oth) : Dev T w L n oth' now c W := by
  obtain ⟨st, lv, ats, h1, h2⟩ := h.ex
  exact ⟨st, lv, ats, h1.forget hs, h2⟩
theorem Dev.alloc (h : Dev T w L n oth now c W) (o : Obj) (ho : F.Obj.apart o) : Dev T w L n ((W.heap.size, o) :: oth) now c (W.alloc o) := by
  obtain ⟨st, lv, ats, h1, h2⟩ := h.ex
  exact ⟨st, lv, ats, h1.alloc o ho, h2⟩
theorem Dev.setOther {B : Nat} {v0 v : Value} {t : TypeId} (h : Dev T w L n ((B, .cells #[v0] t) :: oth) now c W) (hne : ∀ p ∈ oth, p.1 ≠ B) (ht : t ≠ 152) : Dev T w L n ((B, .cells #[v] t) :: oth) now c (W.setCell ⟨B, 0, none⟩ v) := by
  obtain ⟨st, lv, ats, h1, h2⟩ := h.ex
  exact ⟨st, lv, ats, h1.setOther hne ht, h2⟩
theorem Dev.at' (h : Dev T w L n oth now c W) {p : Nat × Obj} (hp : p ∈ oth) : W.heap[p.1]? = some p.2 := by
  obtain ⟨st, lv, ats, h1, h2⟩ := h.ex
  exact (h1.oth p hp).1
theorem Dev.bel (h : Dev T w L n oth now c W) : Below T w W := by
  obtain ⟨st, lv, ats, h1, h2⟩ := h.ex
  exact h1.below
theorem Dev.more (h : Dev T w L n oth now c W) {d : Int} (hd : c ≤ d) : Dev T w L n oth now d W := by
  obtain ⟨st, lv, ats, h1, h2, h3, h4, h5, h6, h7, h8, h9, h10⟩ := h.ex
  exact ⟨st, lv, ats, h1, h2, h3, h4, h5, h6, h7, h8, by omega, h10⟩
theorem Dev.lts (h : Dev T w L n oth now c W) : ∀ p ∈ oth, p.1 < W.heap.size := by
  obtain ⟨st, lv, ats, h1, h2⟩ := h.ex
  exact h1.lts
end
theorem idle_iter (k : Nat) : F.Mode.idle.iter k = F.Mode.idle := by
  induction k with
  | zero => rfl
  | succ k ih => first | (show (F.Mode.idle.iter k).next = _; rw [ih]; rfl) | (show F.Mode.idle.next.iter k = _; exact ih)
theorem dev_write {T : Nat} {w : World} {L : F.Loc} {n : Nat} {oth : List (Nat × Obj)} {st : F.St} {lv : Value} {ats : Nat → Nat} {now sure : Nat → ByteArray} {W : World} (h : F.One T w L st lv oth W) (hn : st.n = n) (hs : st.serial = 1) (hq : st.session = 1) (ht : st.there = true) (hi : F.Mode.idle.is st) (hd : F.Dv st ats now sure) (hc : 0 ≤ st.count ∧ st.count ≤ 700000) (hn1 : n ≤ 1000) (M : Nat) (hM : (M, F.med L.P 1 1) ∈ oth) (frm : Nat) (y : ByteArray) (k : Nat) (hy : y.size = 64 * k) (hk : k ≤ 100) (hf : frm + k ≤ n) :
    Calls Tryz.prog 28 #[.pointer (some ⟨M, 0, none⟩), .int .i64 (frm : Nat), .string y] W fun e W' => e = .returned (.tuple #[]) ∧ ∃ st' lv' ats', F.One T w L st' lv' oth W' ∧ st'.n = n ∧ st'.serial = 1 ∧ st'.session = 1 ∧ st'.there = true ∧ F.Mode.idle.is st' ∧ F.Dv st' ats' (F.lay now frm y k) sure ∧ st.count ≤ st'.count ∧ st'.count ≤ st.count + k := by
  have hp := ypart hy
  refine (h.mwrite_md M (by rw [hs, hq]; exact hM) ht .idle hi (fun e => by cases e) ⟨hc.1, by omega⟩ hd (by omega) frm y (by omega) (by rw [hp]; omega)).mono ?_
  rintro e W' (⟨rfl, -, st', lv', ho, kp, c0, c1, hm, ats', hd'⟩ | ⟨E, -, ⟨j, hj⟩, -⟩)
  · rw [hp] at c1 hm hd'
    rw [idle_iter] at hm
    exact ⟨rfl, st', lv', ats', ho, kp.n.trans hn, kp.serial.trans hs, kp.session.trans hq, kp.there.trans ht, hm, hd', c0, c1⟩
  · rw [idle_iter] at hj
    exact absurd rfl hj
theorem dev_flush {T : Nat} {w : World} {L : F.Loc} {n : Nat} {oth : List (Nat × Obj)} {st : F.St} {lv : Value} {ats : Nat → Nat} {now sure : Nat → ByteArray} {W : World} (h : F.One T w L st lv oth W) (hn : st.n = n) (hs : st.serial = 1) (hq : st.session = 1) (ht : st.there = true) (hi : F.Mode.idle.is st) (hd : F.Dv st ats now sure) (hc : 0 ≤ st.count ∧ st.count ≤ 700000) (M : Nat) (hM : (M, F.med L.P 1 1) ∈ oth) :
    Calls Tryz.prog 55 #[.pointer (some ⟨M, 0, none⟩)] W fun e W' => e = .returned (.tuple #[]) ∧ ∃ st' lv' ats', F.One T w L st' lv' oth W' ∧ st'.n = n ∧ st'.serial = 1 ∧ st'.session = 1 ∧ st'.there = true ∧ F.Mode.idle.is st' ∧ F.Dv st' ats' now now ∧ st.count ≤ st'.count ∧ st'.count ≤ st.count + 1 ∧ st'.ln = 0 := by
  refine (h.mflush M (by rw [hs, hq]; exact hM) hi.1 ht hi.2.1 hi.2.2 ⟨hc.1, by omega⟩).mono ?_
  rintro e W' ⟨rfl, lv', ho⟩
  exact ⟨rfl, _, lv', ats, ho, hn, hs, hq, ht, hi, hd.flushed rfl rfl rfl rfl, by show st.count ≤ st.count + 1; omega, Int.le_refl _, rfl⟩
set_option maxHeartbeats 1000000 in
theorem dev_append {T : Nat} {w : World} {L : F.Loc} {n : Nat} {oth : List (Nat × Obj)} {now : Nat → ByteArray} {c : Int} {W : World} {Sb : Nat} (s : Sg) (h : Dev T w L n ((Sb, .cells s.cs 44) :: oth) now c W) (hM : (s.M, F.med L.P 1 1) ∈ oth) (hne : ∀ p ∈ oth, p.1 ≠ Sb) (hs : s.Ok) (x : ByteArray) (k : Nat) (hk : 1 ≤ k) (hroom : s.a + k < s.p) (hx : x.size = 63 * k) (hn : s.b + s.p ≤ n) (hn1 : n ≤ 1000) (hc : c ≤ 600000) :
    Calls Tryz.prog 17 #[.pointer (some ⟨Sb, 0, none⟩), .string x] W fun e W' => e = .returned (.int .i64 (s.a : Nat)) ∧ Dev T w L n ((Sb, .cells (Sg.cs { s with a := s.a + 1 + k }) 44) :: oth) (layC now s x k) (c + 100) W' := by
  have hy := ysize x k hx
  have hp1 := hs.p1
  have hcs : (s.cm s.a x).sec.size = 64 * 1 := Cm.sec_size _
  have hM' : (s.M, F.med L.P 1 1) ∈ ((Sb, .cells s.cs 44) :: oth : List (Nat × Obj)) := List.mem_cons_of_mem _ hM
  let St : (Nat → ByteArray) → (Nat → ByteArray) → Int → World → Prop := fun a b d W => ∃ st lv ats, F.One T w L st lv ((Sb, .cells s.cs 44) :: oth) W ∧ st.n = n ∧ st.serial = 1 ∧ st.session = 1 ∧ st.there = true ∧ F.Mode.idle.is st ∧ F.Dv st ats a b ∧ 0 ≤ st.count ∧ st.count ≤ d
  let St0 : (Nat → ByteArray) → Int → World → Prop := fun a d W => ∃ st lv ats, F.One T w L st lv ((Sb, .cells s.cs 44) :: oth) W ∧ st.n = n ∧ st.serial = 1 ∧ st.session = 1 ∧ st.there = true ∧ F.Mode.idle.is st ∧ F.Dv st ats a a ∧ 0 ≤ st.count ∧ st.count ≤ d ∧ st.ln = 0
  let R : Nat → World → Prop := fun i W => if i = 0 then St now now c W else if i = 1 then St (layP now s x k) now (c + k) W else if i = 2 then St (layP now s x k) (layP now s x k) (c + k + 1) W else if i = 3 then St (layC now s x k) (layP now s x k) (c + k + 2) W else St0 (layC now s x k) (c + k + 3) W
  have hStB : ∀ {a b d W W'}, St a b d W → Below W.heap.size W W' → St a b d W' := fun ⟨st, lv, ats, h1, h2⟩ hb => ⟨st, lv, ats, h1.ofBelow hb, h2⟩
  have hStB0 : ∀ {a d W W'}, St0 a d W → Below W.heap.size W W' → St0 a d W' := fun ⟨st, lv, ats, h1, h2⟩ hb => ⟨st, lv, ats, h1.ofBelow hb, h2⟩
  have hStS0 : ∀ {a d W}, St0 a d W → W.heap[Sb]? = some (.cells s.cs 44) := fun ⟨st, lv, ats, h1, h2⟩ => (h1.oth _ (List.mem_cons_self ..)).1
  have hStS : ∀ {a b d W}, St a b d W → W.heap[Sb]? = some (.cells s.cs 44) := fun ⟨st, lv, ats, h1, h2⟩ => (h1.oth _ (List.mem_cons_self ..)).1
  refine (append_brk 1 (fun _ => False) s hs Sb x k hk hroom hx R W ?_ ?_ (by
    obtain ⟨st, lv, ats, h1, h2, h3, h4, h5, h6, h7, h8, h9, _⟩ := h.ex
    exact ⟨st, lv, ats, h1, h2, h3, h4, h5, h6, h7, h8, h9⟩) ?_ ?_ ?_ ?_).mono ?_
  · intro i W W' hR hb
    show if i = 0 then _ else _
    have hR' : (if i = 0 then St now now c W else if i = 1 then St (layP now s x k) now (c + k) W else if i = 2 then St (layP now s x k) (layP now s x k) (c + k + 1) W else if i = 3 then St (layC now s x k) (layP now s x k) (c + k + 2) W else St0 (layC now s x k) (c + k + 3) W) := hR
    repeat' (split at hR' <;> split <;> try contradiction)
    all_goals first | exact hStB hR' hb | exact hStB0 hR' hb
  · intro i W hR
    have hR' : (if i = 0 then St now now c W else if i = 1 then St (layP now s x k) now (c + k) W else if i = 2 then St (layP now s x k) (layP now s x k) (c + k + 1) W else if i = 3 then St (layC now s x k) (layP now s x k) (c + k + 2) W else St0 (layC now s x k) (c + k + 3) W) := hR
    repeat' split at hR'
    all_goals first | exact hStS hR' | exact hStS0 hR'
  · rintro W ⟨st, lv, ats, h1, h2, h3, h4, h5, h6, h7, h8, h9⟩
    refine (dev_write h1 h2 h3 h4 h5 h6 h7 ⟨h8, by omega⟩ hn1 s.M hM' (s.b + s.a + 1) (O.tx (secP x k)) k hy (by omega) (by omega)).mono ?_
    rintro e W' ⟨rfl, st', lv', ats', a1, a2, a3, a4, a5, a6, a7, a8, a9⟩
    exact Or.inl ⟨rfl, st', lv', ats', a1, a2, a3, a4, a5, a6, a7, by omega, by omega⟩
  · rintro W ⟨st, lv, ats, h1, h2, h3, h4, h5, h6, h7, h8, h9⟩
    refine (dev_flush h1 h2 h3 h4 h5 h6 h7 ⟨h8, by omega⟩ s.M hM').mono ?_
    rintro e W' ⟨rfl, st', lv', ats', a1, a2, a3, a4, a5, a6, a7, a8, a9, _⟩
    exact Or.inl ⟨rfl, st', lv', ats', a1, a2, a3, a4, a5, a6, a7, by omega, by omega⟩
  · rintro W ⟨st, lv, ats, h1, h2, h3, h4, h5, h6, h7, h8, h9⟩
    refine (dev_write h1 h2 h3 h4 h5 h6 h7 ⟨h8, by omega⟩ hn1 s.M hM' (s.b + s.a) (s.cm s.a x).sec 1 hcs (by decide) (by omega)).mono ?_
    rintro e W' ⟨rfl, st', lv', ats', a1, a2, a3, a4, a5, a6, a7, a8, a9⟩
    exact Or.inl ⟨rfl, st', lv', ats', a1, a2, a3, a4, a5, a6, a7, by omega, by omega⟩
  · rintro W ⟨st, lv, ats, h1, h2, h3, h4, h5, h6, h7, h8, h9⟩
    refine (dev_flush h1 h2 h3 h4 h5 h6 h7 ⟨h8, by omega⟩ s.M hM').mono ?_
    rintro e W' ⟨rfl, st', lv', ats', a1, a2, a3, a4, a5, a6, a7, a8, a9, a10⟩
    exact Or.inl ⟨rfl, st', lv', ats', a1, a2, a3, a4, a5, a6, a7, by omega, by omega, a10⟩
  · rintro e w' (⟨rfl, w2, ⟨st, lv, ats, h1, h2, h3, h4, h5, h6, h7, h8, h9, h10⟩, hks, hcs2⟩ | ⟨E, -, hB⟩)
    · exact ⟨rfl, st, lv, ats, h1.other6 hne hks hcs2, h2, h3, h4, h5, h6, h7, h8, by omega, h10⟩
    · exact hB.elim
end Go.Proofs.YtncfbocbigdhiaaGreat
