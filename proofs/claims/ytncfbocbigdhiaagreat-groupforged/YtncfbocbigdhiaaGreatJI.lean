/- The closure of scanned: Scan, and Read of each. -/
import Derived.Test.YtncfbocbigdhiaaGreatJH
namespace Go.Proofs.YtncfbocbigdhiaaGreat
open Go.RowKit
theorem Chn.at' {now : Nat → ByteArray} {s : Sg} {l : List (Nat × ByteArray)} {e : Nat} (h : Chn now s l e) : ∀ i (hi : i < l.length), ∃ k, 1 ≤ l[i].1 ∧ Grp now s l[i].1 k l[i].2 ∧ (∀ h2 : i + 1 < l.length, l[i+1].1 = l[i].1 + 1 + k) ∧ (i + 1 = l.length → e = l[i].1 + 1 + k) := by
  induction h with
  | nil => intro i hi; exact absurd hi (Nat.not_lt_zero _)
  | next h1 h2 ih =>
    rename_i l t k x
    intro i hi
    rw [List.length_append, List.length_singleton] at hi
    rcases Nat.lt_or_ge i l.length with hl | hl
    · obtain ⟨k', a1, a2, a3, a4⟩ := ih i hl
      have e1 : (l ++ [(t, x)])[i]'(by rw [List.length_append, List.length_singleton]; exact hi) = l[i] := List.getElem_append_left hl
      refine ⟨k', by rw [e1]; exact a1, by rw [e1]; exact a2, fun hj => ?_, fun hj => ?_⟩
      · rw [e1]
        rcases Nat.lt_or_ge (i + 1) l.length with hm | hm
        · rw [List.getElem_append_left hm]; exact a3 hm
        · have e3 : i + 1 = l.length := by omega
          have e2 : (l ++ [(t, x)])[i + 1]'hj = (t, x) := by simp [e3]
          rw [e2]
          show t = _
          exact a4 (by omega)
      · rw [List.length_append, List.length_singleton] at hj; omega
    · have hi' : i = l.length := by omega
      subst hi'
      have e1 : (l ++ [(t, x)])[l.length]'(by rw [List.length_append, List.length_singleton]; exact hi) = (t, x) := by simp
      refine ⟨k, by rw [e1]; exact h1.lt.1, by rw [e1]; exact h2, fun hj => ?_, fun _ => by rw [e1]⟩
      rw [List.length_append, List.length_singleton] at hj; omega
theorem Chn.len {now : Nat → ByteArray} {s : Sg} {l : List (Nat × ByteArray)} {e : Nat} (h : Chn now s l e) : 2 * l.length < e ∧ e ≤ max 1 s.p := by
  induction h with
  | nil => exact ⟨by decide, Nat.le_max_left _ _⟩
  | next h1 h2 ih =>
    have := h2.k1
    have := h2.fit
    refine ⟨by simp; omega, by omega⟩
/-- Five phases: a call, a text alone, a row that grows, a store. -/
structure PhS (A0 A : World → Prop) (B C : Value → World → Prop) (D : World → Prop) (done : Nat → Bool) (f : Nat → Value) (W : World) : Prop where
  a0 : done 7 = false → A0 W
  a : done 7 = true → done 8 = false → A W
  b : done 8 = true → done 9 = false → B (f 8) W
  c : done 9 = true → done 10 = false → C (f 9) W
  d : done 10 = true → D W
  e8 : done 8 = true → done 7 = true
  e9 : done 9 = true → done 8 = true
  e10 : done 10 = true → done 9 = true
  all : done 10 = true → ∀ j, j < 10 → done j = true
section
variable {A0 A : World → Prop} {B C : Value → World → Prop} {D : World → Prop} {done : Nat → Bool} {f : Nat → Value} {W W' : World}
theorem PhS.start (h : A0 W) : PhS A0 A B C D (fun _ => false) f W := by
  refine ⟨fun _ => h, ?_, ?_, ?_, ?_, ?_, ?_, ?_, ?_⟩ <;> intro e <;> cases e
theorem PhS.not10 (h : PhS A0 A B C D done f W) {j : Nat} (hj : j < 10) (hd : done j = false) : done 10 = false := by
  cases e : done 10 with
  | false => rfl
  | true => rw [h.all e j hj] at hd; cases hd
/-- One that only reads. -/
theorem PhS.pure (h : PhS A0 A B C D done f W) (v : Value) {j : Nat} (hj : j < 7) (hd : done j = false) : PhS A0 A B C D (F.updB done j) (F.upd f j v) W := by
  have n10 := h.not10 (by omega) hd
  have e7 : F.updB done j 7 = done 7 := if_neg (by omega)
  have e8 : F.updB done j 8 = done 8 := if_neg (by omega)
  have e9 : F.updB done j 9 = done 9 := if_neg (by omega)
  have e10 : F.updB done j 10 = done 10 := if_neg (by omega)
  have f8 : F.upd f j v 8 = f 8 := if_neg (by omega)
  have f9 : F.upd f j v 9 = f 9 := if_neg (by omega)
  exact ⟨by rw [e7]; exact h.a0, by rw [e7, e8]; exact h.a, by rw [e8, e9, f8]; exact h.b, by rw [e9, e10, f9]; exact h.c, by rw [e10]; exact h.d, by rw [e7, e8]; exact h.e8, by rw [e8, e9]; exact h.e9, by rw [e9, e10]; exact h.e10, (by rw [e10, n10]; intro e; cases e)⟩
theorem PhS.s7 (h : PhS A0 A B C D done f W) (v : Value) (hd : done 7 = false) (hA : A W') : PhS A0 A B C D (F.updB done 7) (F.upd f 7 v) W' := by
  have n10 := h.not10 (by decide) hd
  have n8 : done 8 = false := by
    cases e : done 8 with
    | false => rfl
    | true => rw [h.e8 e] at hd; cases hd
  have n9 : done 9 = false := by
    cases e : done 9 with
    | false => rfl
    | true => rw [h.e9 e] at n8; cases n8
  have e7 : F.updB done 7 7 = true := rfl
  have e8 : F.updB done 7 8 = false := n8
  have e9 : F.updB done 7 9 = false := n9
  have e10 : F.updB done 7 10 = false := n10
  exact ⟨(by rw [e7]; intro e; cases e), fun _ _ => hA, (by rw [e8]; intro e; cases e), (by rw [e9]; intro e; cases e), (by rw [e10]; intro e; cases e), fun _ => e7, (by rw [e9]; intro e; cases e), (by rw [e10]; intro e; cases e), (by rw [e10]; intro e; cases e)⟩
theorem PhS.s8 (h : PhS A0 A B C D done f W) (v : Value) (h7 : done 7 = true) (hd : done 8 = false) (hB : B v W') : PhS A0 A B C D (F.updB done 8) (F.upd f 8 v) W' := by
  have n10 := h.not10 (by decide) hd
  have n9 : done 9 = false := by
    cases e : done 9 with
    | false => rfl
    | true => rw [h.e9 e] at hd; cases hd
  have e7 : F.updB done 8 7 = true := h7
  have e8 : F.updB done 8 8 = true := rfl
  have e9 : F.updB done 8 9 = false := n9
  have e10 : F.updB done 8 10 = false := n10
  exact ⟨(by rw [e7]; intro e; cases e), (by rw [e8]; intro _ e; cases e), fun _ _ => hB, (by rw [e9]; intro e; cases e), (by rw [e10]; intro e; cases e), fun _ => e7, fun _ => e8, (by rw [e10]; intro e; cases e), (by rw [e10]; intro e; cases e)⟩
theorem PhS.s9 (h : PhS A0 A B C D done f W) (v : Value) (h8 : done 8 = true) (hd : done 9 = false) (hC : C v W') : PhS A0 A B C D (F.updB done 9) (F.upd f 9 v) W' := by
  have n10 := h.not10 (by decide) hd
  have e7 : F.updB done 9 7 = true := h.e8 h8
  have e8 : F.updB done 9 8 = true := h8
  have e9 : F.updB done 9 9 = true := rfl
  have e10 : F.updB done 9 10 = false := n10
  exact ⟨(by rw [e7]; intro e; cases e), (by rw [e8]; intro _ e; cases e), (by rw [e9]; intro _ e; cases e), fun _ _ => hC, (by rw [e10]; intro e; cases e), fun _ => e7, fun _ => e8, fun _ => e9, (by rw [e10]; intro e; cases e)⟩
theorem PhS.s10 (h : PhS A0 A B C D done f W) (v : Value) (ha : ∀ j, j < 10 → done j = true) (hD : D W') : PhS A0 A B C D (F.updB done 10) (F.upd f 10 v) W' := by
  have e7 : F.updB done 10 7 = true := ha 7 (by decide)
  have e8 : F.updB done 10 8 = true := ha 8 (by decide)
  have e9 : F.updB done 10 9 = true := ha 9 (by decide)
  have e10 : F.updB done 10 10 = true := rfl
  have _ := h.e8
  exact ⟨(by rw [e7]; intro e; cases e), (by rw [e8]; intro _ e; cases e), (by rw [e9]; intro _ e; cases e), (by rw [e10]; intro _ e; cases e), fun _ => hD, fun _ => e7, fun _ => e8, fun _ => e9, fun _ j hj => by show (if j = 10 then true else done j) = true; rw [if_neg (by omega)]; exact ha j hj⟩
/-- What holds as long as nothing is stored. -/
theorem PhS.any {E : World → Prop} (h : PhS A0 A B C D done f W) (n10 : done 10 = false) (h1 : A0 W → E W) (h2 : A W → E W) (h3 : ∀ v, B v W → E W) (h4 : ∀ v, C v W → E W) : E W := by
  cases e7 : done 7 with
  | false => exact h1 (h.a0 e7)
  | true =>
    cases e8 : done 8 with
    | false => exact h2 (h.a e7 e8)
    | true =>
      cases e9 : done 9 with
      | false => exact h3 _ (h.b e8 e9)
      | true => exact h4 _ (h.c e9 n10)
end
theorem ent58 (args : Array Value) (W : World) : (callFunc 58 args).run Tryz.prog W = .ok (.enter 58 args) W := O.enter_of Tryz.func58 (by kernel_rfl) (by kernel_rfl) args W
/-- The texts that were read so far lie in a row, behind all the rest. -/
def RS (T : Nat) (w : World) (L : F.Loc) (n : Nat) (rest : List (Nat × Obj)) (now : Nat → ByteArray) (T1 Ob : Nat) (xs : List ByteArray) (c : Int) (v : Value) (W : World) : Prop :=
  ∃ ol, Txs v xs ol ∧ (∀ p ∈ ol, T1 ≤ p.1) ∧ Dev T w L n (ol ++ (Ob, .cells #[v] 30) :: rest) now c W
section
variable {T : Nat} {w : World} {L : F.Loc} {n : Nat} {rest : List (Nat × Obj)} {now : Nat → ByteArray} {T1 Ob : Nat} {xs : List ByteArray} {c : Int} {v : Value} {W W' : World}
theorem RS.below (h : RS T w L n rest now T1 Ob xs c v W) (hb : Below W.heap.size W W') : RS T w L n rest now T1 Ob xs c v W' := by
  obtain ⟨ol, h1, h2, h3⟩ := h
  exact ⟨ol, h1, h2, h3.below hb⟩
theorem RS.moreC {d : Int} (h : RS T w L n rest now T1 Ob xs c v W) (hd : c ≤ d) : RS T w L n rest now T1 Ob xs d v W := by
  obtain ⟨ol, h1, h2, h3⟩ := h
  exact ⟨ol, h1, h2, h3.more hd⟩
theorem RS.at' (h : RS T w L n rest now T1 Ob xs c v W) {p : Nat × Obj} (hp : p ∈ rest) : W.heap[p.1]? = some p.2 := by
  obtain ⟨ol, h1, h2, h3⟩ := h
  exact h3.at' (List.mem_append_right _ (List.mem_cons_of_mem _ hp))
theorem RS.out (h : RS T w L n rest now T1 Ob xs c v W) : W.heap[Ob]? = some (.cells #[v] 30) := by
  obtain ⟨ol, h1, h2, h3⟩ := h
  exact h3.at' (p := (Ob, .cells #[v] 30)) (List.mem_append_right _ (List.mem_cons_self ..))
/-- What was read is one text more. -/
def RS2 (T : Nat) (w : World) (L : F.Loc) (n : Nat) (rest : List (Nat × Obj)) (now : Nat → ByteArray) (T1 Ob : Nat) (xs : List ByteArray) (c : Int) (v0 v : Value) (W : World) : Prop :=
  ∃ ol, Txs v xs ol ∧ (∀ p ∈ ol, T1 ≤ p.1) ∧ Dev T w L n (ol ++ (Ob, .cells #[v0] 30) :: rest) now c W
theorem RS2.out {v0 : Value} (h : RS2 T w L n rest now T1 Ob xs c v0 v W) : W.heap[Ob]? = some (.cells #[v0] 30) := by
  obtain ⟨ol, h1, h2, h3⟩ := h
  exact h3.at' (p := (Ob, .cells #[v0] 30)) (List.mem_append_right _ (List.mem_cons_self ..))
theorem RS2.at' {v0 : Value} (h : RS2 T w L n rest now T1 Ob xs c v0 v W) {p : Nat × Obj} (hp : p ∈ rest) : W.heap[p.1]? = some p.2 := by
  obtain ⟨ol, h1, h2, h3⟩ := h
  exact h3.at' (List.mem_append_right _ (List.mem_cons_of_mem _ hp))
theorem RS2.sl {v0 : Value} (h : RS2 T w L n rest now T1 Ob xs c v0 v W) : ∃ ao m cp, v = .slice ao m cp := by
  obtain ⟨ol, h1, h2, h3⟩ := h
  rcases h1 with ⟨rfl, _, _⟩ | ⟨g, cap, cur, rfl, _⟩
  · exact ⟨_, _, _, rfl⟩
  · exact ⟨_, _, _, rfl⟩
theorem RS2.store (hx : Mx T1 Ob rest) (hno : ∀ p ∈ rest, p.1 ≠ Ob) {v0 : Value} (h : RS2 T w L n rest now T1 Ob xs c v0 v W) : W.heap[Ob]? = some (.cells #[v0] 30) ∧ RS T w L n rest now T1 Ob xs c v (W.setCell ⟨Ob, 0, none⟩ v) := by
  obtain ⟨ol, h1, h2, h3⟩ := h
  refine ⟨h3.at' (p := (Ob, .cells #[v0] 30)) (List.mem_append_right _ (List.mem_cons_self ..)), ol, h1, h2, ?_⟩
  have h4 : Dev T w L n ((Ob, .cells #[v0] 30) :: (ol ++ rest)) now c W := h3.forget (by
    intro p hp
    simp only [List.mem_cons, List.mem_append] at hp ⊢
    rcases hp with hp | hp | hp
    · exact Or.inr (Or.inl hp)
    · exact Or.inl hp
    · exact Or.inr (Or.inr hp))
  have h5 := h4.setOther (v := v) (by
    intro p hp
    rcases List.mem_append.1 hp with hp | hp
    · have := h2 p hp; have := hx.sb; omega
    · exact hno p hp) (by decide)
  exact h5.forget (by
    intro p hp
    simp only [List.mem_cons, List.mem_append] at hp ⊢
    rcases hp with hp | hp | hp
    · exact Or.inr (Or.inl hp)
    · exact Or.inl hp
    · exact Or.inr (Or.inr hp))
theorem RS.more (hx : Mx T1 Ob rest) (h : RS T w L n rest now T1 Ob xs c v W) : W.ownsRow T1 9 1 v xs.length (xs.map .string) ∧ T1 ≤ W.heap.size ∧ ∀ x v' W', W'.ownsRow T1 9 1 v' (xs.length + 1) (xs.map .string ++ [.string x]) → W.grownBy W' v.ownBlock → RS2 T w L n rest now T1 Ob (xs ++ [x]) c v v' W' := by
  obtain ⟨ol, h1, h2, h3⟩ := h
  exact dev_tx hx h1 h2 h3
theorem RS.read {Sb : Nat} (s : Sg) (h : RS T w L n rest now T1 Ob xs c v W) (hSb : (Sb, .cells s.cs 44) ∈ rest) (hM : (s.M, F.med L.P 1 1) ∈ rest) (h5 : ∀ p ∈ rest, ∀ c fz, p.2 ≠ .cells c 5 fz)
    (hs : s.b ≤ 10000 ∧ s.p ≤ 64) (hfit : s.b + s.p ≤ n) (hn1 : n ≤ 1000) (hc : c ≤ 90000) {t k : Nat} {x : ByteArray} (ht : 1 ≤ t) (hg : Grp now s t k x) :
    Calls Tryz.prog 60 #[.pointer (some ⟨Sb, 0, none⟩), .int .i64 (t : Nat), .int .i64 (k : Nat)] W fun r W' => r = .returned (.string x) ∧ RS T w L n rest now T1 Ob xs (c + k) v W' := by
  obtain ⟨ol, h1, h2, h3⟩ := h
  refine (dev_read s h3 (List.mem_append_right _ (List.mem_cons_of_mem _ hSb)) (List.mem_append_right _ (List.mem_cons_of_mem _ hM)) ?_ hs hfit hn1 hc ht hg).mono ?_
  · intro p hp cc fz e
    rcases List.mem_append.1 hp with hp | hp
    · rcases h1 with ⟨_, _, rfl⟩ | ⟨g, cap, cur, _, rfl, _⟩
      · cases hp
      · rw [List.mem_singleton.1 hp] at e; injection e with _ e _; exact absurd e (by decide)
    · rcases List.mem_cons.1 hp with rfl | hp
      · injection e with _ e _; exact absurd e (by decide)
      · exact h5 p hp cc fz e
  · rintro e W' ⟨rfl, h4⟩
    exact ⟨rfl, ol, h1, h2, h4⟩
end
def V58 (Sb t k : Nat) (x : ByteArray) (v0 : Value) : Nat → Value → Prop
  | 0, v => v = v0
  | 1, v => v = .pointer (some ⟨Sb, 0, none⟩)
  | 2, v => v = .int .i64 (t : Nat)
  | 3, v => v = .int .i64 ((t : Int) + 1 + (k : Int))
  | 4, v => v = .int .i64 (t : Nat)
  | 5, v => v = .int .i64 ((k : Int) + 1)
  | 6, v => v = .int .i64 (k : Nat)
  | 7, v => v = .string x
  | _, _ => True
set_option maxHeartbeats 4000000 in
set_option maxRecDepth 100000 in
theorem op58 {T : Nat} {w : World} {L : F.Loc} {n : Nat} {oth : List (Nat × Obj)} {now : Nat → ByteArray} {c : Int} {W0 : World} {Pb Ob Sb : Nat} (s : Sg) (h : Dev T w L n ((Ob, .cells #[.slice none 0 0] 30) :: (Sb, .cells s.cs 44) :: oth) now c W0)
    (hP : (Pb, .cells #[.pointer (some ⟨Sb, 0, none⟩)] 28) ∈ oth) (hM : (s.M, F.med L.P 1 1) ∈ oth) (h5 : ∀ p ∈ oth, ∀ c fz, p.2 ≠ .cells c 5 fz) (hOS : Ob ≠ Sb) (hne : ∀ p ∈ oth, p.1 ≠ Sb) (hno : ∀ p ∈ oth, p.1 ≠ Ob)
    (hsb : s.c < 18446744073709551616 ∧ s.j < 18446744073709551616 ∧ s.n < 18446744073709551616) (hs : s.b ≤ 10000 ∧ 1 ≤ s.p ∧ s.p ≤ 64) (hfit : s.b + s.p ≤ n) (hn1 : n ≤ 1000) (hc : c ≤ 40000) (hk : ∀ i, i < n → Ksec (now i)) {l : List (Nat × ByteArray)} {e : Nat} (hch : Chn now s l e) (he : e < s.p → (now (s.b + e))[0]? ≠ some 67) :
    Calls Tryz.prog 58 #[.pointer (some ⟨Pb, 0, none⟩), .pointer (some ⟨Ob, 0, none⟩)] W0 fun r w' => r = .returned (.tuple #[]) ∧ ∃ T1 v rest, Mx T1 Ob rest ∧ (∀ p ∈ (Sb, Obj.cells (Sg.cs { s with a := e }) 44) :: oth, p ∈ rest) ∧ RS T w L n rest now T1 Ob (l.map Prod.snd) (c + 10000) v w' := by
  have hlen := hch.len
  have hl32 : l.length ≤ 32 := by omega
  have hsc := dev_scan (oth := (Ob, .cells #[.slice none 0 0] 30) :: oth) (Sb := Sb) s (h.forget (by
    intro p hp
    simp only [List.mem_cons] at hp ⊢
    rcases hp with rfl | rfl | hp <;> simp [*])) (List.mem_cons_of_mem _ hM) (by
      intro p hp c fz e
      rcases List.mem_cons.1 hp with rfl | hp
      · injection e with _ e _; exact absurd e (by decide)
      · exact h5 p hp c fz e) (by
      intro p hp
      rcases List.mem_cons.1 hp with rfl | hp
      · exact hOS
      · exact hne p hp) hsb hs hfit hn1 hc hk hch he
  have q0 := F.cell_of (h.at' (p := (Pb, .cells #[.pointer (some ⟨Sb, 0, none⟩)] 28)) (by simp [hP])) 0
  simp at q0
  have HAT : Hid _ := hch.at'
  go_enter Tryz.func58, Tryz.ntmps58
  go_wp2_with fail
  go_call hsc as e1 w1 ⟨v1, ol1, rfl, hpl, hd1, hap⟩
  obtain ⟨rest, hrest⟩ : ∃ rest, rest = (Sb, Obj.cells (Sg.cs { s with a := e }) 44) :: (ol1 ++ oth) := ⟨_, rfl⟩
  obtain ⟨T1, hx⟩ := Mx.of Ob rest
  have hR0 : RS T w L n rest now T1 Ob [] (c + 66 * l.length + 66) (.slice none 0 0) w1 := ⟨[], Txs.nil, (fun p hp => by cases hp), hd1.forget (by
    intro p hp
    rw [hrest] at hp
    simp only [List.nil_append, List.mem_cons, List.mem_append] at hp ⊢
    rcases hp with hp | hp | hp | hp
    · exact Or.inr (Or.inr (Or.inl hp))
    · exact Or.inr (Or.inl hp)
    · exact Or.inl hp
    · exact Or.inr (Or.inr (Or.inr hp)))⟩
  obtain ⟨ao, cp, g, rfl, hao, hcl⟩ := hpl.cellD (fun p hp => hd1.at' (p := p) (by simp [hp]))
  rw [List.length_map] at hao
  have hS : (Sb, Obj.cells (Sg.cs { s with a := e }) 44) ∈ rest := by rw [hrest]; exact List.mem_cons_self ..
  have hsub : ∀ p ∈ (Sb, Obj.cells (Sg.cs { s with a := e }) 44) :: oth, p ∈ rest := by
    intro p hp
    rw [hrest]
    rcases List.mem_cons.1 hp with rfl | hp
    · exact List.mem_cons_self ..
    · exact List.mem_cons_of_mem _ (List.mem_append_right _ hp)
  have hol : ∀ p ∈ ol1, p ∈ rest := fun p hp => by rw [hrest]; exact List.mem_cons_of_mem _ (List.mem_append_left _ hp)
  have hnr : ∀ p ∈ rest, p.1 ≠ Ob := by
    intro p hp
    rw [hrest] at hp
    rcases List.mem_cons.1 hp with rfl | hp
    · exact Ne.symm hOS
    · rcases List.mem_append.1 hp with hp | hp
      · exact hap p hp (Ob, .cells #[.slice none 0 0] 30) (by simp)
      · exact hno p hp
  have h5r : ∀ p ∈ rest, ∀ c fz, p.2 ≠ .cells c 5 fz := by
    intro p hp c fz e
    rw [hrest] at hp
    rcases List.mem_cons.1 hp with rfl | hp
    · injection e with _ e _; exact absurd e (by decide)
    · rcases List.mem_append.1 hp with hp | hp
      · obtain ⟨c', e'⟩ := hpl.ty p hp
        rw [e'] at e; injection e with _ e _; exact absurd e (by decide)
      · exact h5 p hp c fz e
  have HF : Hid (Mx T1 Ob rest ∧ (∀ p ∈ rest, p.1 ≠ Ob) ∧ (∀ p ∈ rest, ∀ c fz, p.2 ≠ .cells c 5 fz) ∧ (Sb, Obj.cells (Sg.cs { s with a := e }) 44) ∈ rest ∧ (Pb, Obj.cells #[.pointer (some ⟨Sb, 0, none⟩)] 28) ∈ rest ∧ (s.M, F.med L.P 1 1) ∈ rest) := ⟨hx, hnr, h5r, hS, hsub _ (List.mem_cons_of_mem _ hP), hsub _ (List.mem_cons_of_mem _ hM)⟩
  have HS : Hid _ := hsub
  have HR0 : Hid _ := hR0
  have HAO : Hid _ := hao
  have HCL : Hid (∀ W : World, (∀ p ∈ rest, W.heap[p.1]? = some p.2) → ∀ j (hj : j < l.length), W.cell? ⟨g, j, none⟩ = some (nv l[j].1)) := by
    intro W hW j hj
    have q := hcl W (fun p hp => hW p (hol p hp)) j (by rw [List.length_map]; exact hj)
    rw [q, List.getElem_map]
  have HK : Hid (s.b ≤ 10000 ∧ 1 ≤ s.p ∧ s.p ≤ 64 ∧ s.b + s.p ≤ n ∧ n ≤ 1000 ∧ c ≤ 40000) := ⟨hs.1, hs.2.1, hs.2.2, hfit, hn1, hc⟩
  have hee : e ≤ 64 := by omega
  obtain ⟨N, hN⟩ : ∃ N, N = l.length := ⟨_, rfl⟩
  have HNN : Hid _ := hN
  have hlm : (l.map Prod.fst).length = N := by rw [List.length_map, hN]
  rw [hlm]
  rw [← hN] at hl32
  clear hsc h hP hM h5 hOS hne hno hsb hs hfit hn1 hc hk hch he hlen hap hd1 hrest hx hR0 hao hcl hS hsub hol hnr h5r hpl hN hlm q0
  go_wp2
  go_loopw [10] (fun iv wr => ∃ i : Nat, iv = .int .i64 (i : Nat) ∧ i ≤ N ∧ Hid (∃ v, RS T w L n rest now T1 Ob ((l.map Prod.snd).take i) (c + 66 * l.length + 66 + 64 * i) v wr)) (fun iv _ => N - (intOf iv).toNat)
  case atStart => exact ⟨0, rfl, Nat.zero_le _, _, by
    have q := HR0.out
    have e : c + 66 * (l.length : Int) + 66 + 64 * ((0 : Nat) : Int) = c + 66 * l.length + 66 := by omega
    rw [e, List.take_zero]; exact q⟩
  case round =>
    obtain ⟨i, rfl, hiN, HI⟩ := hrel
    clear HR0
    rcases Nat.eq_or_lt_of_le hiN with rfl | hlt
    · have HE : Hid (∃ v, RS T w L n rest now T1 Ob (l.map Prod.snd) (c + 10000) v wr) := by
        obtain ⟨v, q⟩ := HI.out
        have e : (l.map Prod.snd).take i = l.map Prod.snd := List.take_of_length_le (by rw [List.length_map, HNN.out]; exact Nat.le_refl _)
        rw [e] at q
        have hN := HNN.out
        exact ⟨v, q.moreC (by omega)⟩
      clear HI
      go_wp2
      go_returns
      obtain ⟨v, q⟩ := HE.out
      exact ⟨rfl, T1, v, rest, HF.out.1, HS.out, q⟩
    · have hil : i < l.length := by rw [← HNN.out]; exact hlt
      obtain ⟨k, ht1, hg, hnx, hla⟩ := HAT.out i hil
      have hcell : ∀ j (hj : j < l.length), wr.cell? ⟨g, j, none⟩ = some (nv l[j].1) := by
        obtain ⟨v, q⟩ := HI.out
        exact HCL.out wr (fun p hp => q.at' hp)
      have c1 := hcell i hil
      have c2 : wr.cell? ⟨Sb, 6, none⟩ = some (.int .i64 (e : Nat)) := by
        obtain ⟨v, q⟩ := HI.out
        exact F.cell_of (q.at' (p := (Sb, Obj.cells (Sg.cs { s with a := e }) 44)) HF.out.2.2.2.1) 6
      have c3 : wr.cell? ⟨Pb, 0, none⟩ = some (.pointer (some ⟨Sb, 0, none⟩)) := by
        obtain ⟨v, q⟩ := HI.out
        exact F.cell_of (q.at' (p := (Pb, Obj.cells #[.pointer (some ⟨Sb, 0, none⟩)] 28)) HF.out.2.2.2.2.1) 0
      have c4 : ∀ hj : i + 1 < N, wr.cell? ⟨g, i + 1, none⟩ = some (nv (l[i].1 + 1 + k)) := fun hj => by
        have h2 : i + 1 < l.length := by rw [← HNN.out]; exact hj
        rw [← hnx h2]; exact hcell (i + 1) h2
      have c5 : ¬ i + 1 < N → e = l[i].1 + 1 + k := fun hj => hla (by rw [← HNN.out]; omega)
      have hxs : (l.map Prod.snd).take (i + 1) = (l.map Prod.snd).take i ++ [l[i].2] := by
        rw [← List.take_append_getElem (by rw [List.length_map]; exact hil), List.getElem_map]
      have hlx : ((l.map Prod.snd).take i).length = i := by rw [List.length_take, List.length_map]; omega
      obtain ⟨t, ht⟩ : ∃ t, t = l[i].1 := ⟨_, rfl⟩
      obtain ⟨x, hxx⟩ : ∃ x, x = l[i].2 := ⟨_, rfl⟩
      rw [← ht] at c1 c4 c5 hg ht1
      rw [← hxx] at hg hxs
      clear ht hxx hcell hnx hla
      have hkb : 1 ≤ k ∧ t + k < 64 := ⟨hg.k1, by have := hg.fit; have := HK.out; omega⟩
      obtain ⟨hk1, hkt⟩ := hkb
      have HG : Hid _ := hg
      have HXS : Hid _ := hxs
      have HLX : Hid _ := hlx
      clear hg hxs hlx
      obtain ⟨xs, hxs0⟩ : ∃ xs, xs = (l.map Prod.snd).take i := ⟨_, rfl⟩
      rw [← hxs0] at HI HXS HLX
      obtain rfl := HAO.out (by omega)
      simp only [nv] at c1 c4
      by_cases hj : i + 1 < N
      · have c4' := c4 hj
        clear c4 c5
        go_wp2_with fail
        obtain ⟨v0, hR0⟩ := HI.out
        obtain ⟨cc, hcc⟩ : ∃ cc : Int, cc = c + 66 * l.length + 66 + 64 * (i : Nat) := ⟨_, rfl⟩
        rw [← hcc] at hR0
        have hcb : cc ≤ 90000 := by have := HK.out; have := HNN.out; omega
        have HR1 : Hid (RS T w L n rest now T1 Ob xs cc v0 wr) := hR0
        clear hR0
        refine F.wp_region_pb (fun f => ⟨#[.pointer (some ⟨Pb, 0, none⟩), .pointer (some ⟨Ob, 0, none⟩), .slice (some ⟨g, 0, none⟩) N cp, .int .i64 (i : Nat), .int .i64 (t : Nat), .int .i64 ((t : Int) + 1 + (k : Int)), .pointer (some ⟨Sb, 0, none⟩), .slice (some ⟨g, 0, none⟩) N cp, .slice (some ⟨g, 0, none⟩) N cp, .int .i64 (N : Nat), .int .i64 (i : Nat), .bool true, .int .i64 (i : Nat), .pointer (some ⟨g, i, none⟩), .int .i64 (t : Nat), .pointer (some ⟨Sb, 0, none⟩), .pointer (some ⟨Sb, 0, none⟩), .pointer (some ⟨Sb, 6, none⟩), .int .i64 (e : Nat), .int .i64 (i : Nat), .int .i64 ((i : Int) + 1), .slice (some ⟨g, 0, none⟩) N cp, .int .i64 (N : Nat), .bool true, .slice (some ⟨g, 0, none⟩) N cp, .int .i64 (i : Nat), .int .i64 ((i : Int) + 1), .pointer (some ⟨g, i + 1, none⟩), .int .i64 ((t : Int) + 1 + (k : Int)), f 0, f 1, f 2, f 3, f 4, f 5, f 6, f 7, f 8, f 9, u39], []⟩) (V58 Sb t k x v0) (PhS (fun W => RS T w L n rest now T1 Ob xs cc v0 W) (fun W => RS T w L n rest now T1 Ob xs (cc + k) v0 W) (fun vv W => RS T w L n rest now T1 Ob xs (cc + k) v0 W ∧ ∃ G, vv = .slice (some ⟨G, 0, none⟩) 1 1 ∧ W.heap[G]? = some (.cells #[.string x] 9)) (fun vv W => RS2 T w L n rest now T1 Ob (xs ++ [x]) (cc + k) v0 vv W) (fun W => ∃ vv, RS T w L n rest now T1 Ob (xs ++ [x]) (cc + k) vv W)) (fun i => [u29, u30, u31, u32, u33, u34, u35, u36, u37, u38, undef].getD i undef) (by kernel_rfl) rfl rfl ?hIa ?hputa ?stepa ?fina
        case hIa => exact PhS.start (HR1.out.below (Below.refl _ _).drew)
        case fina =>
          intro f W hP hV
          have w0 : f 0 = v0 := hV 0 (by decide)
          have w1 : f 1 = .pointer (some ⟨Sb, 0, none⟩) := hV 1 (by decide)
          have w2 : f 2 = .int .i64 (t : Nat) := hV 2 (by decide)
          have w3 : f 3 = .int .i64 ((t : Int) + 1 + (k : Int)) := hV 3 (by decide)
          have w4 : f 4 = .int .i64 (t : Nat) := hV 4 (by decide)
          have w5 : f 5 = .int .i64 ((k : Int) + 1) := hV 5 (by decide)
          have w6 : f 6 = .int .i64 (k : Nat) := hV 6 (by decide)
          have w7 : f 7 = .string x := hV 7 (by decide)
          clear hV
          have HD : Hid _ := hP.d rfl
          clear hP
          generalize f 0 = z0 at *
          subst w0
          generalize f 1 = z1 at *
          subst w1
          generalize f 2 = z2 at *
          subst w2
          generalize f 3 = z3 at *
          subst w3
          generalize f 4 = z4 at *
          subst w4
          generalize f 5 = z5 at *
          subst w5
          generalize f 6 = z6 at *
          subst w6
          generalize f 7 = z7 at *
          subst w7
          generalize f 8 = z8 at *
          generalize f 9 = z9 at *
          have HE : Hid (∃ v, RS T w L n rest now T1 Ob ((l.map Prod.snd).take (i + 1)) (c + 66 * l.length + 66 + 64 * (i + 1 : Nat)) v W) := by
            obtain ⟨vv, q⟩ := HD.out
            rw [← HXS.out] at q
            exact ⟨vv, q.moreC (by rw [hcc]; omega)⟩
          clear HD HXS HG HK HF HAO HCL HNN HAT HI
          go_wp2
          go_roundw
          case rel => exact ⟨i + 1, by congr 1, by omega, HE.out⟩
          case measure =>
            show N - ((i : Int) + 1).toNat < N - ((i : Nat) : Int).toNat
            omega
        case hputa =>
          repeat (refine ⟨fun f v => rfl, ?_⟩)
          trivial
        case stepa =>
          refine ⟨?_, ?_⟩
          · intro done f W hP hdn hd K hK
            clear hd
            have q := F.cell_of (hP.any (hP.not10 (by decide) hdn) (E := fun W => W.heap[Ob]? = some (.cells #[v0] 30)) (fun h => h.out) (fun h => h.out) (fun v h => h.1.out) (fun v h => h.out)) 0
            replace q : W.cell? ⟨Ob, 0, none⟩ = some v0 := q
            go_simp
            exact hK _ _ rfl (hP.pure _ (by decide) hdn)
          refine ⟨?_, ?_⟩
          · intro done f W hP hdn hd K hK
            clear hd
            have q := F.cell_of (hP.any (hP.not10 (by decide) hdn) (E := fun W => W.heap[Pb]? = some (.cells #[.pointer (some ⟨Sb, 0, none⟩)] 28)) (fun h => h.at' HF.out.2.2.2.2.1) (fun h => h.at' HF.out.2.2.2.2.1) (fun v h => h.1.at' HF.out.2.2.2.2.1) (fun v h => h.at' HF.out.2.2.2.2.1)) 0
            replace q : W.cell? ⟨Pb, 0, none⟩ = some (.pointer (some ⟨Sb, 0, none⟩)) := q
            go_simp
            exact hK _ _ rfl (hP.pure _ (by decide) hdn)
          refine ⟨?_, ?_⟩
          · intro done f W hP hdn hd K hK
            clear hd
            go_simp
            exact hK _ _ rfl (hP.pure _ (by decide) hdn)
          refine ⟨?_, ?_⟩
          · intro done f W hP hdn hd K hK
            clear hd
            go_simp
            exact hK _ _ rfl (hP.pure _ (by decide) hdn)
          refine ⟨?_, ?_⟩
          · intro done f W hP hdn hd K hK
            clear hd
            go_simp
            exact hK _ _ rfl (hP.pure _ (by decide) hdn)
          refine ⟨?_, ?_⟩
          · intro done f W hP hdn hd K hK
            have d3 := (hd.1 rfl).2
            have e3 : done 3 = true := (hd.1 rfl).1
            have d4 := (hd.2.1 rfl).2
            have e4 : done 4 = true := (hd.2.1 rfl).1
            clear hd
            replace d3 : f 3 = .int .i64 ((t : Int) + 1 + (k : Int)) := d3
            replace d4 : f 4 = .int .i64 (t : Nat) := d4
            generalize f 3 = x3 at *
            subst d3
            clear e3
            generalize f 4 = x4 at *
            subst d4
            clear e4
            go_simp
            refine hK _ _ ?_ (hP.pure _ (by decide) hdn)
            show _ = Value.int _ _
            congr 1
            rw [IntKind.wrap_i64]
            omega
          refine ⟨?_, ?_⟩
          · intro done f W hP hdn hd K hK
            have d5 := (hd.1 rfl).2
            have e5 : done 5 = true := (hd.1 rfl).1
            clear hd
            replace d5 : f 5 = .int .i64 ((k : Int) + 1) := d5
            generalize f 5 = x5 at *
            subst d5
            clear e5
            go_simp
            refine hK _ _ ?_ (hP.pure _ (by decide) hdn)
            show _ = Value.int _ _
            congr 1
            rw [IntKind.wrap_i64]
            omega
          refine ⟨?_, ?_⟩
          · intro done f W hP hdn hd K hK
            have d1 := (hd.1 rfl).2
            have e1 : done 1 = true := (hd.1 rfl).1
            have d2 := (hd.2.1 rfl).2
            have e2 : done 2 = true := (hd.2.1 rfl).1
            have d6 := (hd.2.2.1 rfl).2
            have e6 : done 6 = true := (hd.2.2.1 rfl).1
            clear hd
            replace d1 : f 1 = .pointer (some ⟨Sb, 0, none⟩) := d1
            replace d2 : f 2 = .int .i64 (t : Nat) := d2
            replace d6 : f 6 = .int .i64 (k : Nat) := d6
            generalize f 1 = x1 at *
            subst d1
            clear e1
            generalize f 2 = x2 at *
            subst d2
            clear e2
            generalize f 6 = x6 at *
            subst d6
            clear e6
            have hA := hP.a0 hdn
            have hg := HG.out
            have hkk := HK.out
            have hrd := RS.read (Sb := Sb) { s with a := e } hA HF.out.2.2.2.1 HF.out.2.2.2.2.2 HF.out.2.2.1 ⟨hkk.1, hkk.2.2.1⟩ hkk.2.2.2.1 hkk.2.2.2.2.1 (by omega) ht1 ⟨hg.sz, hg.k1, hg.fit, hg.com, hg.pay⟩
            clear hkk hg
            go_simp
            refine Calls.mono hrd ?_
            rintro er W' ⟨rfl, hB⟩
            exact hK _ _ rfl (hP.s7 _ hdn hB)
          refine ⟨?_, ?_⟩
          · intro done f W hP hdn hd K hK
            have d7 := (hd.1 rfl).2
            have e7 : done 7 = true := (hd.1 rfl).1
            clear hd
            replace d7 : f 7 = .string x := d7
            generalize f 7 = x7 at *
            subst d7
            have hA := hP.a e7 hdn
            go_simp
            exact hK _ _ trivial (hP.s8 _ e7 hdn ⟨hA.below (Below.alloc (Below.refl _ _) (Nat.le_refl _) _), W.heap.size, rfl, F.heap_new _ _⟩)
          refine ⟨?_, ?_⟩
          · intro done f W hP hdn hd K hK
            have d0 := (hd.1 rfl).2
            have e0 : done 0 = true := (hd.1 rfl).1
            have d8 := (hd.2.1 rfl).2
            have e8 : done 8 = true := (hd.2.1 rfl).1
            clear hd
            replace d0 : f 0 = v0 := d0
            obtain ⟨hR, G, hG8, hG⟩ := hP.b e8 hdn
            obtain ⟨m1, m2, m3⟩ := hR.more HF.out.1
            rw [if_pos (by rfl)]
            refine tapp (.tmp 29) (.tmp 37) rfl (v := v0) (xs := xs) (G := G) (y := x) d0 hG8 hG m1 m2 (by rw [HLX.out]; omega) ?_
            intro v' W' r1 r2
            exact hK _ _ trivial (hP.s9 _ e8 hdn (m3 x v' W' r1 r2))
          refine ⟨?_, ?_⟩
          · intro done f W hP hdn hd K hK
            have d9 := (hd.1 rfl).2
            have e9 : done 9 = true := (hd.1 rfl).1
            have e0 : done 0 = true := (hd.2.2.1 rfl).1
            have e1 : done 1 = true := (hd.2.2.2.1 rfl).1
            have e2 : done 2 = true := (hd.2.2.2.2.1 rfl).1
            have e3 : done 3 = true := (hd.2.2.2.2.2.1 rfl).1
            have e4 : done 4 = true := (hd.2.2.2.2.2.2.1 rfl).1
            have e5 : done 5 = true := (hd.2.2.2.2.2.2.2.1 rfl).1
            have e6 : done 6 = true := (hd.2.2.2.2.2.2.2.2.1 rfl).1
            have e7 : done 7 = true := (hd.2.2.2.2.2.2.2.2.2.1 rfl).1
            have e8 : done 8 = true := (hd.2.2.2.2.2.2.2.2.2.2.1 rfl).1
            clear hd
            have hC := hP.c e9 hdn
            obtain ⟨q, hD⟩ := hC.store HF.out.1 HF.out.2.1
            have hall : ∀ j, j < 10 → done j = true := fun j hj => match j, hj with
              | 0, _ => e0 | 1, _ => e1 | 2, _ => e2 | 3, _ => e3 | 4, _ => e4 | 5, _ => e5 | 6, _ => e6 | 7, _ => e7 | 8, _ => e8 | 9, _ => e9
            obtain ⟨ao9, m9, cp9, hv9⟩ := hC.sl
            have q1 := F.cell_of q 0
            replace q1 : W.cell? ⟨Ob, 0, none⟩ = some v0 := q1
            have q2 := F.frz_of q 0
            have HD : Hid _ := hP.s10 (.bool false) hall ⟨_, hD⟩
            clear hall q hD hC hP e0 e1 e2 e3 e4 e5 e6 e7 e8 e9 
            generalize f 9 = y9 at *
            subst hv9
            go_simp
            exact hK (.bool false) _ trivial HD.out
          trivial
      · have c5' := c5 hj
        clear c4 c5
        go_wp2_with fail
        obtain ⟨v0, hR0⟩ := HI.out
        obtain ⟨cc, hcc⟩ : ∃ cc : Int, cc = c + 66 * l.length + 66 + 64 * (i : Nat) := ⟨_, rfl⟩
        rw [← hcc] at hR0
        have hcb : cc ≤ 90000 := by have := HK.out; have := HNN.out; omega
        have HR1 : Hid (RS T w L n rest now T1 Ob xs cc v0 wr) := hR0
        clear hR0
        refine F.wp_region_pb (fun f => ⟨#[.pointer (some ⟨Pb, 0, none⟩), .pointer (some ⟨Ob, 0, none⟩), .slice (some ⟨g, 0, none⟩) N cp, .int .i64 (i : Nat), .int .i64 (t : Nat), .int .i64 ((t : Int) + 1 + (k : Int)), .pointer (some ⟨Sb, 0, none⟩), .slice (some ⟨g, 0, none⟩) N cp, .slice (some ⟨g, 0, none⟩) N cp, .int .i64 (N : Nat), .int .i64 (i : Nat), .bool true, .int .i64 (i : Nat), .pointer (some ⟨g, i, none⟩), .int .i64 (t : Nat), .pointer (some ⟨Sb, 0, none⟩), .pointer (some ⟨Sb, 0, none⟩), .pointer (some ⟨Sb, 6, none⟩), .int .i64 ((t : Int) + 1 + (k : Int)), .int .i64 (i : Nat), .int .i64 ((i : Int) + 1), .slice (some ⟨g, 0, none⟩) N cp, .int .i64 (N : Nat), .bool (decide ((i : Int) + 1 < (N : Int))), u24, u25, u26, u27, u28, f 0, f 1, f 2, f 3, f 4, f 5, f 6, f 7, f 8, f 9, u39], []⟩) (V58 Sb t k x v0) (PhS (fun W => RS T w L n rest now T1 Ob xs cc v0 W) (fun W => RS T w L n rest now T1 Ob xs (cc + k) v0 W) (fun vv W => RS T w L n rest now T1 Ob xs (cc + k) v0 W ∧ ∃ G, vv = .slice (some ⟨G, 0, none⟩) 1 1 ∧ W.heap[G]? = some (.cells #[.string x] 9)) (fun vv W => RS2 T w L n rest now T1 Ob (xs ++ [x]) (cc + k) v0 vv W) (fun W => ∃ vv, RS T w L n rest now T1 Ob (xs ++ [x]) (cc + k) vv W)) (fun i => [u29, u30, u31, u32, u33, u34, u35, u36, u37, u38, undef].getD i undef) (by kernel_rfl) rfl rfl ?hIb ?hputb ?stepb ?finb
        case hIb => exact PhS.start (HR1.out.below (Below.refl _ _).drew)
        case finb =>
          intro f W hP hV
          have w0 : f 0 = v0 := hV 0 (by decide)
          have w1 : f 1 = .pointer (some ⟨Sb, 0, none⟩) := hV 1 (by decide)
          have w2 : f 2 = .int .i64 (t : Nat) := hV 2 (by decide)
          have w3 : f 3 = .int .i64 ((t : Int) + 1 + (k : Int)) := hV 3 (by decide)
          have w4 : f 4 = .int .i64 (t : Nat) := hV 4 (by decide)
          have w5 : f 5 = .int .i64 ((k : Int) + 1) := hV 5 (by decide)
          have w6 : f 6 = .int .i64 (k : Nat) := hV 6 (by decide)
          have w7 : f 7 = .string x := hV 7 (by decide)
          clear hV
          have HD : Hid _ := hP.d rfl
          clear hP
          generalize f 0 = z0 at *
          subst w0
          generalize f 1 = z1 at *
          subst w1
          generalize f 2 = z2 at *
          subst w2
          generalize f 3 = z3 at *
          subst w3
          generalize f 4 = z4 at *
          subst w4
          generalize f 5 = z5 at *
          subst w5
          generalize f 6 = z6 at *
          subst w6
          generalize f 7 = z7 at *
          subst w7
          generalize f 8 = z8 at *
          generalize f 9 = z9 at *
          have HE : Hid (∃ v, RS T w L n rest now T1 Ob ((l.map Prod.snd).take (i + 1)) (c + 66 * l.length + 66 + 64 * (i + 1 : Nat)) v W) := by
            obtain ⟨vv, q⟩ := HD.out
            rw [← HXS.out] at q
            exact ⟨vv, q.moreC (by rw [hcc]; omega)⟩
          clear HD HXS HG HK HF HAO HCL HNN HAT HI
          go_wp2
          go_roundw
          case rel => exact ⟨i + 1, by congr 1, by omega, HE.out⟩
          case measure =>
            show N - ((i : Int) + 1).toNat < N - ((i : Nat) : Int).toNat
            omega
        case hputb =>
          repeat (refine ⟨fun f v => rfl, ?_⟩)
          trivial
        case stepb =>
          refine ⟨?_, ?_⟩
          · intro done f W hP hdn hd K hK
            clear hd
            have q := F.cell_of (hP.any (hP.not10 (by decide) hdn) (E := fun W => W.heap[Ob]? = some (.cells #[v0] 30)) (fun h => h.out) (fun h => h.out) (fun v h => h.1.out) (fun v h => h.out)) 0
            replace q : W.cell? ⟨Ob, 0, none⟩ = some v0 := q
            go_simp
            exact hK _ _ rfl (hP.pure _ (by decide) hdn)
          refine ⟨?_, ?_⟩
          · intro done f W hP hdn hd K hK
            clear hd
            have q := F.cell_of (hP.any (hP.not10 (by decide) hdn) (E := fun W => W.heap[Pb]? = some (.cells #[.pointer (some ⟨Sb, 0, none⟩)] 28)) (fun h => h.at' HF.out.2.2.2.2.1) (fun h => h.at' HF.out.2.2.2.2.1) (fun v h => h.1.at' HF.out.2.2.2.2.1) (fun v h => h.at' HF.out.2.2.2.2.1)) 0
            replace q : W.cell? ⟨Pb, 0, none⟩ = some (.pointer (some ⟨Sb, 0, none⟩)) := q
            go_simp
            exact hK _ _ rfl (hP.pure _ (by decide) hdn)
          refine ⟨?_, ?_⟩
          · intro done f W hP hdn hd K hK
            clear hd
            go_simp
            exact hK _ _ rfl (hP.pure _ (by decide) hdn)
          refine ⟨?_, ?_⟩
          · intro done f W hP hdn hd K hK
            clear hd
            go_simp
            exact hK _ _ rfl (hP.pure _ (by decide) hdn)
          refine ⟨?_, ?_⟩
          · intro done f W hP hdn hd K hK
            clear hd
            go_simp
            exact hK _ _ rfl (hP.pure _ (by decide) hdn)
          refine ⟨?_, ?_⟩
          · intro done f W hP hdn hd K hK
            have d3 := (hd.1 rfl).2
            have e3 : done 3 = true := (hd.1 rfl).1
            have d4 := (hd.2.1 rfl).2
            have e4 : done 4 = true := (hd.2.1 rfl).1
            clear hd
            replace d3 : f 3 = .int .i64 ((t : Int) + 1 + (k : Int)) := d3
            replace d4 : f 4 = .int .i64 (t : Nat) := d4
            generalize f 3 = x3 at *
            subst d3
            clear e3
            generalize f 4 = x4 at *
            subst d4
            clear e4
            go_simp
            refine hK _ _ ?_ (hP.pure _ (by decide) hdn)
            show _ = Value.int _ _
            congr 1
            rw [IntKind.wrap_i64]
            omega
          refine ⟨?_, ?_⟩
          · intro done f W hP hdn hd K hK
            have d5 := (hd.1 rfl).2
            have e5 : done 5 = true := (hd.1 rfl).1
            clear hd
            replace d5 : f 5 = .int .i64 ((k : Int) + 1) := d5
            generalize f 5 = x5 at *
            subst d5
            clear e5
            go_simp
            refine hK _ _ ?_ (hP.pure _ (by decide) hdn)
            show _ = Value.int _ _
            congr 1
            rw [IntKind.wrap_i64]
            omega
          refine ⟨?_, ?_⟩
          · intro done f W hP hdn hd K hK
            have d1 := (hd.1 rfl).2
            have e1 : done 1 = true := (hd.1 rfl).1
            have d2 := (hd.2.1 rfl).2
            have e2 : done 2 = true := (hd.2.1 rfl).1
            have d6 := (hd.2.2.1 rfl).2
            have e6 : done 6 = true := (hd.2.2.1 rfl).1
            clear hd
            replace d1 : f 1 = .pointer (some ⟨Sb, 0, none⟩) := d1
            replace d2 : f 2 = .int .i64 (t : Nat) := d2
            replace d6 : f 6 = .int .i64 (k : Nat) := d6
            generalize f 1 = x1 at *
            subst d1
            clear e1
            generalize f 2 = x2 at *
            subst d2
            clear e2
            generalize f 6 = x6 at *
            subst d6
            clear e6
            have hA := hP.a0 hdn
            have hg := HG.out
            have hkk := HK.out
            have hrd := RS.read (Sb := Sb) { s with a := e } hA HF.out.2.2.2.1 HF.out.2.2.2.2.2 HF.out.2.2.1 ⟨hkk.1, hkk.2.2.1⟩ hkk.2.2.2.1 hkk.2.2.2.2.1 (by omega) ht1 ⟨hg.sz, hg.k1, hg.fit, hg.com, hg.pay⟩
            clear hkk hg
            go_simp
            refine Calls.mono hrd ?_
            rintro er W' ⟨rfl, hB⟩
            exact hK _ _ rfl (hP.s7 _ hdn hB)
          refine ⟨?_, ?_⟩
          · intro done f W hP hdn hd K hK
            have d7 := (hd.1 rfl).2
            have e7 : done 7 = true := (hd.1 rfl).1
            clear hd
            replace d7 : f 7 = .string x := d7
            generalize f 7 = x7 at *
            subst d7
            have hA := hP.a e7 hdn
            go_simp
            exact hK _ _ trivial (hP.s8 _ e7 hdn ⟨hA.below (Below.alloc (Below.refl _ _) (Nat.le_refl _) _), W.heap.size, rfl, F.heap_new _ _⟩)
          refine ⟨?_, ?_⟩
          · intro done f W hP hdn hd K hK
            have d0 := (hd.1 rfl).2
            have e0 : done 0 = true := (hd.1 rfl).1
            have d8 := (hd.2.1 rfl).2
            have e8 : done 8 = true := (hd.2.1 rfl).1
            clear hd
            replace d0 : f 0 = v0 := d0
            obtain ⟨hR, G, hG8, hG⟩ := hP.b e8 hdn
            obtain ⟨m1, m2, m3⟩ := hR.more HF.out.1
            rw [if_pos (by rfl)]
            refine tapp (.tmp 29) (.tmp 37) rfl (v := v0) (xs := xs) (G := G) (y := x) d0 hG8 hG m1 m2 (by rw [HLX.out]; omega) ?_
            intro v' W' r1 r2
            exact hK _ _ trivial (hP.s9 _ e8 hdn (m3 x v' W' r1 r2))
          refine ⟨?_, ?_⟩
          · intro done f W hP hdn hd K hK
            have d9 := (hd.1 rfl).2
            have e9 : done 9 = true := (hd.1 rfl).1
            have e0 : done 0 = true := (hd.2.2.1 rfl).1
            have e1 : done 1 = true := (hd.2.2.2.1 rfl).1
            have e2 : done 2 = true := (hd.2.2.2.2.1 rfl).1
            have e3 : done 3 = true := (hd.2.2.2.2.2.1 rfl).1
            have e4 : done 4 = true := (hd.2.2.2.2.2.2.1 rfl).1
            have e5 : done 5 = true := (hd.2.2.2.2.2.2.2.1 rfl).1
            have e6 : done 6 = true := (hd.2.2.2.2.2.2.2.2.1 rfl).1
            have e7 : done 7 = true := (hd.2.2.2.2.2.2.2.2.2.1 rfl).1
            have e8 : done 8 = true := (hd.2.2.2.2.2.2.2.2.2.2.1 rfl).1
            clear hd
            have hC := hP.c e9 hdn
            obtain ⟨q, hD⟩ := hC.store HF.out.1 HF.out.2.1
            have hall : ∀ j, j < 10 → done j = true := fun j hj => match j, hj with
              | 0, _ => e0 | 1, _ => e1 | 2, _ => e2 | 3, _ => e3 | 4, _ => e4 | 5, _ => e5 | 6, _ => e6 | 7, _ => e7 | 8, _ => e8 | 9, _ => e9
            obtain ⟨ao9, m9, cp9, hv9⟩ := hC.sl
            have q1 := F.cell_of q 0
            replace q1 : W.cell? ⟨Ob, 0, none⟩ = some v0 := q1
            have q2 := F.frz_of q 0
            have HD : Hid _ := hP.s10 (.bool false) hall ⟨_, hD⟩
            clear hall q hD hC hP e0 e1 e2 e3 e4 e5 e6 e7 e8 e9 
            generalize f 9 = y9 at *
            subst hv9
            go_simp
            exact hK (.bool false) _ trivial HD.out
          trivial
end Go.Proofs.YtncfbocbigdhiaaGreat
