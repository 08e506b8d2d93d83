/- GroupBack's state between two rounds: what lies on the device, the texts that were wanted, the box of i. -/
import Derived.Test.YtncfbocbigdhiaaGreatJO
namespace Go.Proofs.YtncfbocbigdhiaaGreat
open Go.RowKit
theorem Txs.ty {v : Value} {xs : List ByteArray} {ol : List (Nat × Obj)} (h : Txs v xs ol) : ∀ p ∈ ol, ∃ c, p.2 = .cells c 9 := by
  rcases h with ⟨rfl, rfl, rfl⟩ | ⟨g, cap, cur, rfl, rfl, _⟩
  · intro p hp; cases hp
  · intro p hp; rw [List.mem_singleton.1 hp]; exact ⟨_, rfl⟩
theorem Txs.sl {v : Value} {xs : List ByteArray} {ol : List (Nat × Obj)} (h : Txs v xs ol) : ∃ ao cp, v = .slice ao xs.length cp := by
  rcases h with ⟨rfl, rfl, rfl⟩ | ⟨g, cap, cur, rfl, rfl, _⟩
  · exact ⟨_, _, rfl⟩
  · exact ⟨_, _, rfl⟩
/-- Rows of texts and all that is of another type lie apart. -/
theorem dev_apart9 {T : Nat} {w : World} {L : F.Loc} {n : Nat} {rest ol : List (Nat × Obj)} {now : Nat → ByteArray} {c : Int} {W : World} {v : Value} {xs : List ByteArray} (h : Txs v xs ol) (h9 : ∀ q ∈ rest, ∀ c fz, q.2 ≠ .cells c 9 fz) (hd : Dev T w L n (ol ++ rest) now c W) : ∀ p ∈ ol, ∀ q ∈ rest, p.1 ≠ q.1 := by
  intro p hp q hq e
  obtain ⟨cu, hcu⟩ := h.ty p hp
  have o1 := hd.at' (p := p) (List.mem_append_left _ hp)
  have o2 := hd.at' (p := q) (List.mem_append_right _ hq)
  rw [e, o2] at o1
  injection o1 with o1
  rw [hcu] at o1
  exact h9 q hq _ _ o1
/-- As dev_tx, whatever lies where, but of other types. -/
theorem dev_tx9 {T : Nat} {w : World} {L : F.Loc} {n : Nat} {rest : List (Nat × Obj)} {now : Nat → ByteArray} {c : Int} {W : World} {v : Value} {xs : List ByteArray} {ol : List (Nat × Obj)} (h : Txs v xs ol) (h9 : ∀ q ∈ rest, ∀ c fz, q.2 ≠ .cells c 9 fz) (hd : Dev T w L n (ol ++ rest) now c W) :
    W.ownsRow T 9 1 v xs.length (xs.map .string) ∧ T ≤ W.heap.size ∧ ∀ x v' W', W'.ownsRow T 9 1 v' (xs.length + 1) (xs.map .string ++ [.string x]) → W.grownBy W' v.ownBlock → ∃ ol', Txs v' (xs ++ [x]) ol' ∧ Dev T w L n (ol' ++ rest) now c W' := by
  have hdj := dev_apart9 h h9 hd
  obtain ⟨st, lv, ats, ho, h2⟩ := hd.ex
  refine ⟨?_, Nat.le_trans ho.bP (Nat.le_of_lt (F.getElem?_lt ho.pool)), ?_⟩
  · rcases h with ⟨rfl, rfl, rfl⟩ | ⟨g, cap, cur, rfl, rfl, h1, h2, h3, h4⟩
    · exact ⟨rfl, Or.inl ⟨rfl, rfl⟩⟩
    · obtain ⟨o1, _, _, o4⟩ := ho.oth (g, .cells cur 9) (List.mem_append_left _ (List.mem_singleton.2 rfl))
      exact ⟨by simp, Or.inr ⟨g, cap, cur, rfl, o4, o1, h1, h2, by rw [Nat.mul_one]; exact h3, by rw [Nat.mul_one]; exact h4⟩⟩
  · intro x v' W' hn hg
    have hrow : ∀ g, v.ownBlock = some g → T ≤ g ∧ ∃ c, W.heap[g]? = some (.cells c 9) := by
      intro g e
      rcases h with ⟨rfl, rfl, rfl⟩ | ⟨g', cap, cur, rfl, rfl, _⟩
      · cases e
      · injection e with e
        subst e
        obtain ⟨o1, _, _, o4⟩ := ho.oth (g', .cells cur 9) (by simp)
        exact ⟨o4, cur, o1⟩
    have h1 : F.One T w L st lv rest W := ho.forget (fun p hp => List.mem_append_right _ hp)
    have h3 := h1.grownS hg hrow (by
      intro p hp e
      rcases h with ⟨rfl, rfl, rfl⟩ | ⟨g', cap, cur, rfl, rfl, _⟩
      · cases e
      · injection e with e
        exact hdj (g', .cells cur 9) (List.mem_singleton.2 rfl) p hp e)
    rcases hn.2 with ⟨_, e0⟩ | ⟨g, cap, cur, rfl, k1, k2, k3, k4, k5, k6⟩
    · exact absurd e0 (Nat.succ_ne_zero _)
    · rw [Nat.mul_one] at k5 k6
      refine ⟨[(g, .cells cur 9)], Or.inr ⟨g, cap, cur, ?_, rfl, ?_, k4, k5, ?_⟩, st, lv, ats, h3.addS k2 k1, h2⟩
      · rw [List.length_append]; rfl
      · rw [List.length_append]; exact k3
      · rw [List.length_append, List.map_append]; exact k6
/-- Between two rounds: m groups at most were written. -/
def BI (T : Nat) (w : World) (L : F.Loc) (rest : List (Nat × Obj)) (per M Sb : Nat) (m i a Ib : Nat) (v : Value) (W : World) : Prop :=
  1 ≤ a ∧ a ≤ per ∧ ∃ now l ol, Txs v (l.map Prod.snd) ol ∧ Chn now ⟨M, 3, 2, 5, 4, per, a⟩ l a ∧ l.length ≤ m ∧ (∀ j, j < 70 → Ksec (now j)) ∧ (∀ j, 4 + a ≤ j → now j = F.pad ⟨#[]⟩) ∧ Dev T w L 70 (ol ++ (Ib, .cells #[.int .i64 (i : Nat)] 3) :: (Sb, .cells (Sg.cs ⟨M, 3, 2, 5, 4, per, a⟩) 44) :: rest) now (100 * m) W ∧ Ib ≠ Sb ∧ ∀ p ∈ rest, p.1 ≠ Ib ∧ p.1 ≠ Sb
/-- A group was written, and is not wanted yet. -/
def BP (T : Nat) (w : World) (L : F.Loc) (rest : List (Nat × Obj)) (per M Sb : Nat) (m i a n Ib : Nat) (y : ByteArray) (v : Value) (W : World) : Prop :=
  a + 1 + n ≤ per ∧ ∃ now l ol, Txs v (l.map Prod.snd) ol ∧ Chn now ⟨M, 3, 2, 5, 4, per, a + 1 + n⟩ (l ++ [(a, y)]) (a + 1 + n) ∧ l.length ≤ m ∧ (∀ j, j < 70 → Ksec (now j)) ∧ (∀ j, 4 + (a + 1 + n) ≤ j → now j = F.pad ⟨#[]⟩) ∧ Dev T w L 70 (ol ++ (Ib, .cells #[.int .i64 (i : Nat)] 3) :: (Sb, .cells (Sg.cs ⟨M, 3, 2, 5, 4, per, a + 1 + n⟩) 44) :: rest) now (100 * (m + 1 : Nat)) W ∧ Ib ≠ Sb ∧ ∀ p ∈ rest, p.1 ≠ Ib ∧ p.1 ≠ Sb
section
variable {T : Nat} {w : World} {L : F.Loc} {rest : List (Nat × Obj)} {per M Sb m i a n Ib : Nat} {y : ByteArray} {v : Value} {W W' : World}
theorem BI.below (h : BI T w L rest per M Sb m i a Ib v W) (hb : Below W.heap.size W W') : BI T w L rest per M Sb m i a Ib v W' := by
  obtain ⟨ha, h0, now, l, ol, h1, h2, h3, h4, h5, h6, h7⟩ := h
  exact ⟨ha, h0, now, l, ol, h1, h2, h3, h4, h5, h6.below hb, h7⟩
theorem BI.at' (h : BI T w L rest per M Sb m i a Ib v W) {p : Nat × Obj} (hp : p ∈ rest) : W.heap[p.1]? = some p.2 := by
  obtain ⟨ha, h0, now, l, ol, h1, h2, h3, h4, h5, h6, h7⟩ := h
  exact h6.at' (by simp [hp])
theorem BI.box (h : BI T w L rest per M Sb m i a Ib v W) : W.heap[Ib]? = some (.cells #[.int .i64 (i : Nat)] 3) := by
  obtain ⟨ha, h0, now, l, ol, h1, h2, h3, h4, h5, h6, h7⟩ := h
  exact h6.at' (p := (Ib, .cells #[.int .i64 (i : Nat)] 3)) (by simp)
theorem BI.seg (h : BI T w L rest per M Sb m i a Ib v W) : W.heap[Sb]? = some (.cells (Sg.cs ⟨M, 3, 2, 5, 4, per, a⟩) 44) := by
  obtain ⟨ha, h0, now, l, ol, h1, h2, h3, h4, h5, h6, h7⟩ := h
  exact h6.at' (p := (Sb, .cells (Sg.cs ⟨M, 3, 2, 5, 4, per, a⟩) 44)) (by simp)
theorem BI.bel (h : BI T w L rest per M Sb m i a Ib v W) : Below T w W := by
  obtain ⟨ha, h0, now, l, ol, h1, h2, h3, h4, h5, h6, h7⟩ := h
  exact h6.bel
theorem BI.sl (h : BI T w L rest per M Sb m i a Ib v W) : ∃ ao k cp, v = .slice ao k cp := by
  obtain ⟨ha, h0, now, l, ol, h1, h2⟩ := h
  obtain ⟨ao, cp, e⟩ := h1.sl
  exact ⟨ao, _, cp, e⟩
theorem BI.room (hper : 8 ≤ per ∧ per ≤ 64) (h : BI T w L rest per M Sb m i a Ib v W) (k : Nat) (b : Bool) (hb : decide ((0 : Int) < (k : Nat) ∧ ((k : Nat) : Int) < (per : Nat) - ((a : Nat) : Int)) = b) : Calls Tryz.prog 14 #[.pointer (some ⟨Sb, 0, none⟩), .int .i64 (k : Nat)] W fun e w' => e = .returned (.bool b) ∧ BI T w L rest per M Sb m i a Ib v w' := by
  have h0 := h.2.1
  refine (room_any _ Sb (k : Nat) W h.seg ⟨by show per ≤ 1000; omega, by show a ≤ 1000; omega⟩).mono ?_
  rintro e W' ⟨rfl, hbl⟩
  exact ⟨by rw [← hb], h.below hbl⟩
/-- The box of the next round. -/
theorem BI.turn (h : BI T w L rest per M Sb m i a Ib v W) : BI T w L rest per M Sb m (i + 1) a W.heap.size v (W.alloc (.cells #[.int .i64 ((i + 1 : Nat) : Int)] 3)) := by
  obtain ⟨ha, h0, now, l, ol, h1, h2, h3, h4, h5, h6, h7, h8⟩ := h
  have hl := h6.lts
  refine ⟨ha, h0, now, l, ol, h1, h2, h3, h4, h5, ?_, ?_, ?_⟩
  · refine (h6.alloc (.cells #[.int .i64 ((i + 1 : Nat) : Int)] 3) (F.apart_of (by decide))).forget ?_
    intro p hp
    simp only [List.mem_append, List.mem_cons] at hp ⊢
    rcases hp with hp | hp | hp | hp
    · exact Or.inr (Or.inl hp)
    · exact Or.inl hp
    · exact Or.inr (Or.inr (Or.inr (Or.inl hp)))
    · exact Or.inr (Or.inr (Or.inr (Or.inr hp)))
  · have := hl (Sb, .cells (Sg.cs ⟨M, 3, 2, 5, 4, per, a⟩) 44) (by simp)
    have : Sb < W.heap.size := this
    omega
  · intro p hp
    have := hl p (by simp [hp])
    exact ⟨by omega, (h8 p hp).2⟩
/-- One box more is held. -/
theorem BI.hold (h : BI T w L rest per M Sb m i a Ib v W) (o : Obj) (ho : F.Obj.apart o) : BI T w L ((W.heap.size, o) :: rest) per M Sb m i a Ib v (W.alloc o) := by
  obtain ⟨ha, h0, now, l, ol, h1, h2, h3, h4, h5, h6, h7, h8⟩ := h
  have hl := h6.lts
  have l1 : Ib < W.heap.size := hl (Ib, .cells #[.int .i64 (i : Nat)] 3) (by simp)
  have l2 : Sb < W.heap.size := hl (Sb, .cells (Sg.cs ⟨M, 3, 2, 5, 4, per, a⟩) 44) (by simp)
  refine ⟨ha, h0, now, l, ol, h1, h2, h3, h4, h5, (h6.alloc o ho).forget ?_, h7, ?_⟩
  · intro p hp
    simp only [List.mem_append, List.mem_cons] at hp ⊢
    rcases hp with hp | hp | hp | hp | hp
    · exact Or.inr (Or.inl hp)
    · exact Or.inr (Or.inr (Or.inl hp))
    · exact Or.inr (Or.inr (Or.inr (Or.inl hp)))
    · exact Or.inl hp
    · exact Or.inr (Or.inr (Or.inr (Or.inr hp)))
  · intro p hp
    rcases List.mem_cons.1 hp with rfl | hp
    · exact ⟨by show W.heap.size ≠ Ib; omega, by show W.heap.size ≠ Sb; omega⟩
    · exact h8 p hp
/-- Some are held no more. -/
theorem BI.drop {rest' : List (Nat × Obj)} (h : BI T w L rest per M Sb m i a Ib v W) (hs : ∀ p ∈ rest', p ∈ rest) : BI T w L rest' per M Sb m i a Ib v W := by
  obtain ⟨ha, h0, now, l, ol, h1, h2, h3, h4, h5, h6, h7, h8⟩ := h
  refine ⟨ha, h0, now, l, ol, h1, h2, h3, h4, h5, h6.forget ?_, h7, fun p hp => h8 p (hs p hp)⟩
  intro p hp
  simp only [List.mem_append, List.mem_cons] at hp ⊢
  rcases hp with hp | hp | hp | hp
  · exact Or.inl hp
  · exact Or.inr (Or.inl hp)
  · exact Or.inr (Or.inr (Or.inl hp))
  · exact Or.inr (Or.inr (Or.inr (hs p hp)))
/-- What was written is wanted. -/
theorem BP.grow (h9 : ∀ q ∈ rest, ∀ c fz, q.2 ≠ .cells c 9 fz) (h : BP T w L rest per M Sb m i a n Ib y v W) : ∃ xs : List ByteArray, xs.length ≤ m ∧ W.ownsRow T 9 1 v xs.length (xs.map .string) ∧ T ≤ W.heap.size ∧ ∀ v' W', W'.ownsRow T 9 1 v' (xs.length + 1) (xs.map .string ++ [.string y]) → W.grownBy W' v.ownBlock → BI T w L rest per M Sb (m + 1) i (a + 1 + n) Ib v' W' := by
  obtain ⟨h0, now, l, ol, h1, h2, h3, h4, h5, h6, h7, h8⟩ := h
  obtain ⟨k1, k2, k3⟩ := dev_tx9 h1 (by
    intro q hq c fz e
    rcases List.mem_cons.1 hq with rfl | hq
    · injection e with _ e _; exact absurd e (by decide)
    · rcases List.mem_cons.1 hq with rfl | hq
      · injection e with _ e _; exact absurd e (by decide)
      · exact h9 q hq c fz e) h6
  refine ⟨l.map Prod.snd, by rw [List.length_map]; exact h3, k1, k2, fun v' W' q1 q2 => ?_⟩
  obtain ⟨ol', t1, t2⟩ := k3 y v' W' q1 q2
  refine ⟨by omega, h0, now, l ++ [(a, y)], ol', ?_, h2, ?_, h4, h5, t2, h7, h8⟩
  · rw [List.map_append]; exact t1
  · rw [List.length_append]; show l.length + 1 ≤ m + 1; omega
theorem BP.below (h : BP T w L rest per M Sb m i a n Ib y v W) (hb : Below W.heap.size W W') : BP T w L rest per M Sb m i a n Ib y v W' := by
  obtain ⟨h0, now, l, ol, h1, h2, h3, h4, h5, h6, h7⟩ := h
  exact ⟨h0, now, l, ol, h1, h2, h3, h4, h5, h6.below hb, h7⟩
theorem BP.at' (h : BP T w L rest per M Sb m i a n Ib y v W) {p : Nat × Obj} (hp : p ∈ rest) : W.heap[p.1]? = some p.2 := by
  obtain ⟨h0, now, l, ol, h1, h2, h3, h4, h5, h6, h7⟩ := h
  exact h6.at' (by simp [hp])
end
/-- A group is written, under Guard. -/
theorem BI.put {T : Nat} {w : World} {L : F.Loc} {rest : List (Nat × Obj)} {per M Sb m i a n Ib : Nat} {v : Value} {W : World} {Pb Lb Nb Ab Kb O ln lc : Nat} {x : ByteArray} (hper : 8 ≤ per ∧ per ≤ 64) (hn : 1 ≤ n ∧ n ≤ 64) (hm : m ≤ 30) (h : BI T w L ((Ab, .cells #[.int .i64 0] 3) :: (Nb, .cells #[.int .i64 (n : Nat)] 3) :: rest) per M Sb m i a Ib v W)
    (pbm : (Pb, Obj.cells #[.pointer (some ⟨Sb, 0, none⟩)] 28) ∈ rest) (plm : (Lb, Obj.cells #[.slice (some ⟨Kb, O, none⟩) ln lc] 22) ∈ rest) (hM : (M, F.med L.P 1 1) ∈ rest) (hAN : Ab ≠ Nb) (hAr : ∀ p ∈ rest, p.1 ≠ Ab)
    (hil : i < ln) (hi30 : i ≤ 30) (hrow : ∀ W, Below T w W → W.cell? ⟨Kb, O + i * 6, none⟩ = some (.string x)) (hroom : a + n < per) :
    Calls Tryz.prog 15 #[.func (.func 16) #[] #[.pointer (some ⟨Pb, 0, none⟩), .pointer (some ⟨Lb, 0, none⟩), .pointer (some ⟨Ib, 0, none⟩), .pointer (some ⟨Nb, 0, none⟩), .pointer (some ⟨Ab, 0, none⟩)]] W fun e w' => e = .returned (.tuple #[.agg #[.int .i64 0, .int .i64 0], .bool false]) ∧ BP T w L ((Ab, .cells #[.int .i64 (a : Nat)] 3) :: (Nb, .cells #[.int .i64 (n : Nat)] 3) :: rest) per M Sb m i a n Ib (payN x n) v w' := by
  obtain ⟨ha, h0, now, l, ol, h1, h2, h3, h4, h5, h6, h7, h8⟩ := h
  let s : Sg := ⟨M, 3, 2, 5, 4, per, a⟩
  have hs : s.Ok := ⟨(by decide : (3 : Nat) < _), (by decide : (2 : Nat) < _), (by decide : (5 : Nat) < _), (by decide : (4 : Nat) ≤ _), hper.1, hper.2, ha, h0⟩
  have hty := h1.ty
  have hO : ∀ p ∈ ol, ∀ q ∈ (Ib, Obj.cells #[.int .i64 (i : Nat)] 3) :: (Sb, Obj.cells s.cs 44) :: (Ab, Obj.cells #[.int .i64 0] 3) :: [], p.1 ≠ q.1 := by
    refine dev_apart9 (rest := (Ib, Obj.cells #[.int .i64 (i : Nat)] 3) :: (Sb, Obj.cells s.cs 44) :: (Ab, Obj.cells #[.int .i64 0] 3) :: []) h1 ?_ (h6.forget ?_)
    · intro q hq c fz e
      simp only [List.mem_cons, List.not_mem_nil, or_false] at hq
      rcases hq with rfl | rfl | rfl <;> (injection e with _ e _; exact absurd e (by decide))
    · intro p hp
      simp only [List.mem_append, List.mem_cons, List.not_mem_nil, or_false] at hp ⊢
      rcases hp with hp | hp | hp | hp
      · exact Or.inl hp
      · exact Or.inr (Or.inl hp)
      · exact Or.inr (Or.inr (Or.inl hp))
      · exact Or.inr (Or.inr (Or.inr (Or.inl hp)))
  have hd : Dev T w L 70 ((Sb, .cells s.cs 44) :: (Ab, .cells #[.int .i64 0] 3) :: ((Nb, .cells #[.int .i64 (n : Nat)] 3) :: (Ib, .cells #[.int .i64 (i : Nat)] 3) :: (ol ++ rest))) now (100 * m) W := h6.forget (by
    intro p hp
    simp only [List.mem_append, List.mem_cons] at hp ⊢
    rcases hp with hp | hp | hp | hp | hp | hp
    · exact Or.inr (Or.inr (Or.inl hp))
    · exact Or.inr (Or.inr (Or.inr (Or.inl hp)))
    · exact Or.inr (Or.inr (Or.inr (Or.inr (Or.inl hp))))
    · exact Or.inr (Or.inl hp)
    · exact Or.inl hp
    · exact Or.inr (Or.inr (Or.inr (Or.inr (Or.inr hp)))))
  refine (back_guard (lc := lc) (Pb := Pb) (Lb := Lb) (Ib := Ib) (Nb := Nb) (Ab := Ab) (Sb := Sb) (i := i) (k := n) (x := x) s hd (by simp [pbm]) (by simp [plm]) (by simp) (by simp) (by simp [s, hM]) (h8 (Ab, .cells #[.int .i64 0] 3) (by simp)).2 ?_ ?_ hil hi30 hrow hs hn.1 (by omega) hroom (by show 4 + per ≤ 70; omega) (by decide) (by omega)).mono ?_
  · intro p hp
    simp only [List.mem_append, List.mem_cons] at hp
    rcases hp with rfl | rfl | hp | hp
    · exact (h8 (Nb, .cells #[.int .i64 (n : Nat)] 3) (by simp)).2
    · exact h7
    · exact hO p hp (Sb, Obj.cells s.cs 44) (by simp)
    · exact (h8 p (by simp [hp])).2
  · intro p hp
    simp only [List.mem_append, List.mem_cons] at hp
    rcases hp with rfl | rfl | hp | hp
    · exact Ne.symm hAN
    · exact Ne.symm (h8 (Ab, .cells #[.int .i64 0] 3) (by simp)).1
    · exact hO p hp (Ab, Obj.cells #[.int .i64 0] 3) (by simp)
    · exact hAr p hp
  · rintro e W' ⟨rfl, hd2⟩
    have hps := payN_size x n
    refine ⟨rfl, by omega, layC now s (payN x n) n, l, ol, h1, Chn.more (s := s) h2 hps hn.1 hroom, h3, layC_ksec (s := s) hs hps hn.1 hroom h4, ?_, ?_, h7, ?_⟩
    · intro j hj
      have hj2 : 4 + a + 1 + n ≤ j := by omega
      have := layC_ge (now := now) (s := s) (x := payN x n) (k := n) j hj2
      rw [this]; exact h5 j (by omega)
    · refine (hd2.more (d := 100 * ((m + 1 : Nat) : Int)) (by omega)).forget ?_
      intro p hp
      simp only [List.mem_append, List.mem_cons] at hp ⊢
      rcases hp with hp | hp | hp | hp | hp | hp
      · exact Or.inr (Or.inr (Or.inr (Or.inr (Or.inl hp))))
      · exact Or.inr (Or.inr (Or.inr (Or.inl hp)))
      · exact Or.inr (Or.inl hp)
      · exact Or.inl hp
      · exact Or.inr (Or.inr (Or.inl hp))
      · exact Or.inr (Or.inr (Or.inr (Or.inr (Or.inr hp))))
    · intro p hp
      rcases List.mem_cons.1 hp with rfl | hp
      · exact h8 (Ab, .cells #[.int .i64 0] 3) (by simp)
      · exact h8 p (by simp [List.mem_cons.1 hp])
end Go.Proofs.YtncfbocbigdhiaaGreat
