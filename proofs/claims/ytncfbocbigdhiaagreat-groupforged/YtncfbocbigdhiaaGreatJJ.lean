/- scanned: the texts of the groups that lie there. -/
import Derived.Test.YtncfbocbigdhiaaGreatJI
namespace Go.Proofs.YtncfbocbigdhiaaGreat
open Go.RowKit
/-- As dev_guard, where it is not known ahead what is left. -/
theorem dev_guardE {X : Type} (O O3 : X → List (Nat × Obj)) (P : X → Prop) {T : Nat} {w : World} {L : F.Loc} {n : Nat} {oth : List (Nat × Obj)} {now now2 : Nat → ByteArray} {c c2 : Int} {W : World} (f : Nat) (cap : Array Value) (hent : ∀ args W, (callFunc f args).run Tryz.prog W = .ok (.enter f args) W) (h : Dev T w L n oth now c W)
    (hop : Dev T w L n (F.gob W.heap.size oth) now c (F.G0 W) → Calls Tryz.prog f cap (F.G0 W) fun e W' => e = .returned (.tuple #[]) ∧ ∃ x, P x ∧ Dev T w L n (O x) now2 c2 W') (hs : ∀ x, P x → ∀ p ∈ F.gob W.heap.size (O3 x), p ∈ O x) (hne : ∀ x, P x → ∀ p ∈ O3 x, p.1 ≠ W.heap.size ∧ p.1 ≠ W.heap.size + 1) :
    Calls Tryz.prog 15 #[.func (.func f) #[] cap] W fun e w' => e = .returned (.tuple #[.agg #[.int .i64 0, .int .i64 0], .bool false]) ∧ ∃ x, P x ∧ Dev T w L n (O3 x) now2 c2 w' := by
  refine (F.guard_ok f cap (fun W' => ∃ x, P x ∧ Dev T w L n (O x) now2 c2 W') W hent ((hop h.guarded).mono ?_)).mono ?_
  · rintro e W' ⟨rfl, x, hP, hd⟩
    exact ⟨rfl, hd.at' (p := (W.heap.size, F.bob)) (hs x hP _ (by simp [F.gob])), hd.at' (p := (W.heap.size + 1, F.iob)) (hs x hP _ (by simp [F.gob])), x, hP, hd⟩
  · rintro e w' ⟨rfl, W2, ⟨x, hP, hd⟩, hk⟩
    exact ⟨rfl, x, hP, (hd.forget (hs x hP)).kt (hne x hP) hk⟩
set_option maxHeartbeats 2000000 in
set_option maxRecDepth 100000 in
theorem scanned_all {T : Nat} {w : World} {L : F.Loc} {n : Nat} {oth : List (Nat × Obj)} {now : Nat → ByteArray} {c : Int} {W : World} {Sb : Nat} (s : Sg) (h : Dev T w L n ((Sb, .cells s.cs 44) :: oth) now c W)
    (hM : (s.M, F.med L.P 1 1) ∈ oth) (h5 : ∀ p ∈ oth, ∀ c fz, p.2 ≠ .cells c 5 fz) (hne : ∀ p ∈ oth, p.1 ≠ Sb)
    (hsb : s.c < 18446744073709551616 ∧ s.j < 18446744073709551616 ∧ s.n < 18446744073709551616) (hs : s.b ≤ 10000 ∧ 1 ≤ s.p ∧ s.p ≤ 64) (hfit : s.b + s.p ≤ n) (hn1 : n ≤ 1000) (hc : c ≤ 40000) (hk : ∀ i, i < n → Ksec (now i)) {l : List (Nat × ByteArray)} {e : Nat} (hch : Chn now s l e) (he : e < s.p → (now (s.b + e))[0]? ≠ some 67) :
    Calls Tryz.prog 20 #[.pointer (some ⟨Sb, 0, none⟩)] W fun r w' => ∃ v ol, r = .returned (.tuple #[v, .bool true]) ∧ Txs v (l.map Prod.snd) ol ∧ (∀ p ∈ ol, ∀ q ∈ (Sb, Obj.cells (Sg.cs { s with a := e }) 44) :: oth, p.1 ≠ q.1) ∧ Dev T w L n (ol ++ (Sb, .cells (Sg.cs { s with a := e }) 44) :: oth) now (c + 10000) w' := by
  obtain ⟨B, hB⟩ : ∃ B, B = W.heap.size := ⟨_, rfl⟩
  have d1 := h.alloc (.cells #[.pointer (some ⟨Sb, 0, none⟩)] 28) (F.apart_of (by decide))
  have d2 := d1.alloc (.cells #[.slice none 0 0] 30) (F.apart_of (by decide))
  have e1 : (W.alloc (.cells #[.pointer (some ⟨Sb, 0, none⟩)] 28)).heap.size = W.heap.size + 1 := by simp
  have e2 : ((W.alloc (.cells #[.pointer (some ⟨Sb, 0, none⟩)] 28)).alloc (.cells #[.slice none 0 0] 30)).heap.size = W.heap.size + 2 := by simp
  have hlt := h.lts
  have hSlt := hlt (Sb, .cells s.cs 44) (by simp)
  replace hSlt : Sb < W.heap.size := hSlt
  have hgd := dev_guardE (X := Value × List (Nat × Obj)) (now2 := now) (c2 := c + 10000)
    (fun x => x.2 ++ (W.heap.size + 1, .cells #[x.1] 30) :: (Sb, .cells (Sg.cs { s with a := e }) 44) :: F.gob (W.heap.size + 2) ((W.heap.size, .cells #[.pointer (some ⟨Sb, 0, none⟩)] 28) :: oth))
    (fun x => x.2 ++ (W.heap.size + 1, .cells #[x.1] 30) :: (Sb, .cells (Sg.cs { s with a := e }) 44) :: (W.heap.size, .cells #[.pointer (some ⟨Sb, 0, none⟩)] 28) :: oth)
    (fun x => Txs x.1 (l.map Prod.snd) x.2 ∧ ∀ p ∈ x.2, ∀ q ∈ (Sb, Obj.cells (Sg.cs { s with a := e }) 44) :: F.gob (W.heap.size + 2) ((W.heap.size, .cells #[.pointer (some ⟨Sb, 0, none⟩)] 28) :: oth), p.1 ≠ q.1)
    58 #[.pointer (some ⟨W.heap.size, 0, none⟩), .pointer (some ⟨W.heap.size + 1, 0, none⟩)] ent58 d2 (fun hg => by
      rw [e1, e2] at hg
      refine (op58 (Pb := W.heap.size) (Ob := W.heap.size + 1) (Sb := Sb) (oth := F.gob (W.heap.size + 2) ((W.heap.size, .cells #[.pointer (some ⟨Sb, 0, none⟩)] 28) :: oth)) s (hg.forget ?_) (by simp [F.gob]) (by simp [F.gob, hM]) ?_ (by omega) ?_ ?_ hsb hs hfit hn1 hc hk hch he).mono ?_
      · intro p hp
        simp only [F.gob, List.mem_cons] at hp ⊢
        rcases hp with rfl | rfl | rfl | rfl | rfl | hp <;> simp [*]
      · intro p hp cc fz e
        simp only [F.gob, List.mem_cons] at hp
        rcases hp with rfl | rfl | rfl | hp
        · injection e with _ e _; exact absurd e (by decide)
        · injection e with _ e _; exact absurd e (by decide)
        · injection e with _ e _; exact absurd e (by decide)
        · exact h5 p hp cc fz e
      · intro p hp
        simp only [F.gob, List.mem_cons] at hp
        rcases hp with rfl | rfl | rfl | hp
        · show W.heap.size + 2 + 1 ≠ Sb; omega
        · show W.heap.size + 2 ≠ Sb; omega
        · show W.heap.size ≠ Sb; omega
        · exact hne p hp
      · intro p hp
        simp only [F.gob, List.mem_cons] at hp
        rcases hp with rfl | rfl | rfl | hp
        · show W.heap.size + 2 + 1 ≠ W.heap.size + 1; omega
        · show W.heap.size + 2 ≠ W.heap.size + 1; omega
        · show W.heap.size ≠ W.heap.size + 1; omega
        · have := hlt p (List.mem_cons_of_mem _ hp); omega
      · rintro r W' ⟨rfl, T1, v, rest, hx, hsub, ol, t1, t2, t3⟩
        refine ⟨rfl, (v, ol), ⟨t1, fun p hp q hq => ?_⟩, t3.forget ?_⟩
        · have := hx.lt q (hsub q hq); have := t2 p hp; omega
        · intro p hp
          simp only [List.mem_append, List.mem_cons] at hp ⊢
          rcases hp with hp | hp | hp | hp
          · exact Or.inl hp
          · exact Or.inr (Or.inl hp)
          · exact Or.inr (Or.inr (hsub p (by rw [hp]; exact List.mem_cons_self ..)))
          · exact Or.inr (Or.inr (hsub p (List.mem_cons_of_mem _ hp)))) (by
    rintro ⟨v, ol⟩ hP p hp
    rw [e2] at hp
    simp only [F.gob, List.mem_append, List.mem_cons] at hp ⊢
    rcases hp with hp | hp | hp | hp | hp | hp | hp <;> simp [hp]) (by
    rintro ⟨v, ol⟩ ⟨hP1, hP2⟩ p hp
    rw [e2]
    rcases List.mem_append.1 hp with hp | hp
    · exact ⟨hP2 p hp (W.heap.size + 2, F.bob) (by simp [F.gob]), hP2 p hp (W.heap.size + 2 + 1, F.iob) (by simp [F.gob])⟩
    · simp only [List.mem_cons] at hp
      rcases hp with rfl | rfl | rfl | hp
      · exact ⟨by show W.heap.size + 1 ≠ _; omega, by show W.heap.size + 1 ≠ _; omega⟩
      · exact ⟨by show Sb ≠ _; omega, by show Sb ≠ _; omega⟩
      · exact ⟨by show W.heap.size ≠ _; omega, by show W.heap.size ≠ _; omega⟩
      · have := hlt p (List.mem_cons_of_mem _ hp); exact ⟨by omega, by omega⟩)
  have hmf : ∀ (fn : Fn) (first cap : Array Value) (w : World), (Instr.makeFunc fn first cap).run Tryz.prog w = .ok (.func fn first cap) w := fun _ _ _ _ => rfl
  clear d1 d2 hlt hB h hM h5 hne hk hch he
  go_enter Tryz.func20, Tryz.ntmps20
  go_wp2_with fail
  go_call hgd as er w3 ⟨rfl, ⟨v, ol⟩, ⟨t1, t2⟩, d3⟩
  have d4 := d3.alloc (.cells #[.int .i64 0, .int .i64 0] 37) (F.apart_of (by decide))
  have q1 := F.cell_of (d4.at' (p := (W.heap.size + 1, .cells #[v] 30)) (by simp)) 0
  replace q1 : (w3.alloc (.cells #[.int .i64 0, .int .i64 0] 37)).cell? ⟨W.heap.size + 1, 0, none⟩ = some v := q1
  obtain ⟨ao, m, cp, hv⟩ : ∃ ao m cp, v = .slice ao m cp := by
    rcases t1 with ⟨rfl, _, _⟩ | ⟨g, cap, cur, rfl, _⟩
    · exact ⟨_, _, _, rfl⟩
    · exact ⟨_, _, _, rfl⟩
  have HD4 : Hid _ := d4
  have HT1 : Hid (Txs v (l.map Prod.snd) ol) := t1
  have HT2 : Hid (∀ p ∈ ol, ∀ q ∈ (Sb, Obj.cells (Sg.cs { s with a := e }) 44) :: oth, p.1 ≠ q.1) := fun p hp q hq => t2 p hp q (by
    simp only [F.gob, List.mem_cons] at hq ⊢
    rcases hq with hq | hq
    · exact Or.inl hq
    · exact Or.inr (Or.inr (Or.inr (Or.inr hq))))
  clear hgd d4 d3 t1 t2
  subst hv
  go_wp2
  go_returns
  refine ⟨_, ol, rfl, HT1.out, HT2.out, HD4.out.forget ?_⟩
  intro p hp
  simp only [List.mem_append, List.mem_cons] at hp ⊢
  rcases hp with hp | hp | hp
  · exact Or.inr (Or.inl hp)
  · exact Or.inr (Or.inr (Or.inr (Or.inl hp)))
  · exact Or.inr (Or.inr (Or.inr (Or.inr (Or.inr hp))))
end Go.Proofs.YtncfbocbigdhiaaGreat
