/- What OctetTakes takes, as a call of Take. -/
import Derived.Test.YthojbccoejdmeaaA5
namespace Go.Proofs.Ythojbccoejdmeaa
open Go.RowKit
set_option maxHeartbeats 1000000 in
theorem take_no_any (f : Nat) (cap : Array Value) (s : ByteArray) (y : Int) (R : World → Prop) (w : World) (hent : ∀ args W, (callFunc f args).run Try.prog W = .ok (.enter f args) W)
    (hdo : Calls Try.prog f (#[.pointer (some ⟨w.heap.size + 1 + 1, 0, none⟩)] ++ cap) (W0 w s) fun e W => e = .panicked [brk (w.heap.size + 2)] ∧ (∃ t, InIs W (w.heap.size + 2) t y) ∧ TK w.heap.size W ∧ R W) :
    Calls Try.prog 10 #[.string s, .func (.func f) #[] cap] w fun e w' => e = .returned (.tuple #[.string ⟨#[]⟩, .int .i64 y]) ∧ ∃ W, R W ∧ KT w.heap.size W w' := by
  have hmf : ∀ (fn : Fn) (first cap : Array Value) (w : World), (Instr.makeFunc fn first cap).run Try.prog w = .ok (.func fn first cap) w := fun _ _ _ _ => rfl
  go_enter_defers Try.func10, Try.ntmps10
  go_wp2_with fail
  go_call hdo as e W1 ⟨rfl, ⟨t, h1⟩, h2, h3⟩
  clear hdo hent
  go_wp2
  refine leaves_cons (f := 34) (args := #[.pointer (some ⟨w.heap.size + 3, 0, none⟩), .pointer (some ⟨w.heap.size, 0, none⟩), .pointer (some ⟨w.heap.size + 1, 0, none⟩)]) (by simp) (by simp [go_sem]) ?_
  refine (catch_broken w.heap.size t y [] W1 h1 h2.v h2.l h2.lf h2.e h2.ef).mono ?_
  rintro e u' w'' ⟨rfl, rfl, F1, F2, F3⟩
  have hend : Hid (∃ W, R W ∧ KT w.heap.size W w'') := ⟨W1, h3, F3⟩
  simp [Leaves, settle, results, Try.results10, go_sem, F1, F2, brk]
  exact hend.out
/-- How what was taken lies there behind Take. -/
structure TkE (b0 : Nat) (w0 : World) (G m : Nat) (s : ByteArray) (ps : Nat → Prt) (oth : List (Nat × Obj)) (gv : Value) (w' : World) : Prop where
  got : w'.heap[G]? = some (.cells #[gv] 27)
  own : w'.ownsRow b0 9 1 gv m (outs s ps m)
  below : Below b0 w0 w'
  oth : ∀ p ∈ oth, w'.heap[p.1]? = some p.2
theorem TkE.of {b0 : Nat} {w0 : World} {G I m L : Nat} {s t : ByteArray} {y : Int} {ps : Nat → Prt} {oth oth2 : List (Nat × Obj)} {gv : Value} {W w' : World} (h : GS b0 w0 G I gv (outs s ps m) t y (oth ++ oth2) W) (kt : KT L W w') (hL : ∃ o1 o2, (L, o1) ∈ oth2 ∧ (L + 1, o2) ∈ oth2) (hne : ∀ p ∈ oth, p.1 < L) : TkE b0 w0 G m s ps oth gv w' := by
  obtain ⟨o1, o2, m1, m2⟩ := hL
  have q1 := h.oth _ (List.mem_append_right oth m1)
  have q2 := h.oth _ (List.mem_append_right oth m2)
  have same : ∀ {j : Nat} {o : Obj}, W.heap[j]? = some o → j ≠ L → j ≠ L + 1 → w'.heap[j]? = some o := fun e h1 h2 => (kt.block _ (lt_of_get e) h1 h2).trans e
  refine ⟨same h.got (Ne.symm q1.2.1) (Ne.symm q2.2.1), ⟨by rw [h.own.1, outs_length], ?_⟩, ?_, fun p hp => ?_⟩
  · have ho := h.own.2
    rw [outs_length] at ho
    rcases ho with h1 | ⟨g, cap, cur, e, h2, h3, h4⟩
    · exact Or.inl h1
    · refine Or.inr ⟨g, cap, cur, e, h2, same h3 ?_ ?_, h4⟩
      · intro e2; exact q1.2.2.2.1 (by rw [e, e2]; rfl)
      · intro e2; exact q2.2.2.2.1 (by rw [e, e2]; rfl)
  · have b1 : b0 ≤ L := q1.2.2.2.2
    have hs : L < W.heap.size := lt_of_get q1.1
    refine ⟨kt.os.trans h.below.os, kt.tape.trans h.below.tape, kt.output.trans h.below.output, Nat.le_trans h.below.size kt.size, fun j hj => ?_⟩
    rw [kt.block j (by omega) (by omega) (by omega)]
    exact h.below.block j hj
  · have := hne p hp
    exact same (h.oth p (List.mem_append_left oth2 hp)).1 (by omega) (by omega)
theorem takes_take (b0 : Nat) (w0 : World) (G O ob n cap m : Nat) (ao : Option Addr) (ps : Nat → Prt) (oth : List (Nat × Obj)) (s : ByteArray) (hs : s.size ≤ 1000) (hn12 : n ≤ 12) (hkd : ∀ j, j < n → (ps j).kd < 5) (hO : (O, Obj.cells #[.slice ao n cap] 22) ∈ oth) (hpt : PartsIn ao n ob ps oth)
    (hm : m ≤ n) (hgood : ∀ j, j < m → eAt s ps j = 0) (hend : m = n ∨ (m < n ∧ ¬ eAt s ps m = 0)) (w : World) (hG : w.heap[G]? = some (.cells #[.slice none 0 0] 27)) (hbG : b0 ≤ G) (hbw : Below b0 w0 w) (hoth : ∀ p ∈ oth, w.heap[p.1]? = some p.2 ∧ p.1 ≠ G ∧ b0 ≤ p.1) :
    Calls Try.prog 10 #[.string s, .func (.func 11) #[] #[.pointer (some ⟨O, 0, none⟩), .pointer (some ⟨G, 0, none⟩)]] w fun e w' =>
      e = .returned (.tuple #[.string (if m = n then sAt s ps m else ⟨#[]⟩), .int .i64 (if m = n then 0 else eAt s ps m)]) ∧ ∃ gv, TkE b0 w0 G m s ps oth gv w' := by
  have hGs := lt_of_get hG
  have hbs : b0 ≤ w.heap.size := by omega
  have b1 := W0_below w s
  have tk := W0_tk w s
  have hin := W0_in w s
  obtain ⟨g0, g1, g2, g3⟩ := W0_get w s
  obtain ⟨oth2, hoth2⟩ : ∃ oth2 : List (Nat × Obj), oth2 = [(w.heap.size, .cells #[.string ⟨#[]⟩] 9), (w.heap.size + 1, .cells #[.int .i64 0] 28), (w.heap.size + 3, .cells #[.pointer (some ⟨w.heap.size + 2, 0, none⟩)] 31)] := ⟨_, rfl⟩
  have hGS : GS b0 w0 G (w.heap.size + 2) (.slice none 0 0) [] s 0 (oth ++ oth2) (W0 w s) := by
    refine ⟨hbw.trans (b1.mono hbs), hbG, by omega, by omega, (b1.block G hGs).trans hG, World.ownsRow_nil _ _ _ _, (fun e => by cases e), (fun e => by cases e), hin, fun p hp => ?_⟩
    rcases List.mem_append.1 hp with hp | hp
    · obtain ⟨q1, q2, q3⟩ := hoth p hp
      have := lt_of_get q1
      exact ⟨(b1.block _ this).trans q1, q2, by omega, (fun e => by cases e), q3⟩
    · rw [hoth2] at hp
      simp only [List.mem_cons, List.not_mem_nil, or_false] at hp
      rcases hp with rfl | rfl | rfl
      · exact ⟨g0, by show w.heap.size ≠ G; omega, by show w.heap.size ≠ _; omega, (fun e => by cases e), hbs⟩
      · exact ⟨g1, by show w.heap.size + 1 ≠ G; omega, by show w.heap.size + 1 ≠ _; omega, (fun e => by cases e), by show b0 ≤ w.heap.size + 1; omega⟩
      · exact ⟨g3, by show w.heap.size + 3 ≠ G; omega, by show w.heap.size + 3 ≠ _; omega, (fun e => by cases e), by show b0 ≤ w.heap.size + 3; omega⟩
  have hd := takes_do b0 w0 G (w.heap.size + 2) O ob n cap m ao ps (oth ++ oth2) s hs hn12 hkd (List.mem_append_left _ hO) (fun h => by
    obtain ⟨pc, q1, q2, q3⟩ := hpt h
    exact ⟨pc, q1, List.mem_append_left _ q2, q3⟩) hm hgood hend (W0 w s) _ hGS
  have keepTK : ∀ {gv gs t y W}, GS b0 w0 G (w.heap.size + 2) gv gs t y (oth ++ oth2) W → TK w.heap.size W := fun {gv gs t y W} h => by
    have r0 := (h.oth (w.heap.size, .cells #[.string ⟨#[]⟩] 9) (List.mem_append_right _ (by rw [hoth2]; simp))).1
    have r1 := (h.oth (w.heap.size + 1, .cells #[.int .i64 0] 28) (List.mem_append_right _ (by rw [hoth2]; simp))).1
    have r3 := (h.oth (w.heap.size + 3, .cells #[.pointer (some ⟨w.heap.size + 2, 0, none⟩)] 31) (List.mem_append_right _ (by rw [hoth2]; simp))).1
    exact ⟨cell_of r0 0, frz_of r0 0, cell_of r1 0, frz_of r1 0, cell_of r3 0⟩
  have hLm : ∃ o1 o2, (w.heap.size, o1) ∈ oth2 ∧ (w.heap.size + 1, o2) ∈ oth2 := ⟨.cells #[.string ⟨#[]⟩] 9, .cells #[.int .i64 0] 28, by rw [hoth2]; exact List.mem_cons_self .., by rw [hoth2]; exact List.mem_cons_of_mem _ (List.mem_cons_self ..)⟩
  have hlt : ∀ p ∈ oth, p.1 < w.heap.size := fun p hp => lt_of_get (hoth p hp).1
  by_cases hmn : m = n
  · rw [if_pos hmn, if_pos hmn]
    refine (take_ok 11 #[.pointer (some ⟨O, 0, none⟩), .pointer (some ⟨G, 0, none⟩)] s (sAt s ps m) (fun W => ∃ gv, GS b0 w0 G (w.heap.size + 2) gv (outs s ps m) (sAt s ps m) 0 (oth ++ oth2) W) w ent11 (hd.mono ?_)).mono ?_
    · rintro e W (⟨_, rfl, gv, h⟩ | ⟨h, _⟩)
      · exact ⟨rfl, h.inp, keepTK h, gv, h⟩
      · omega
    · rintro e w' ⟨rfl, W, ⟨gv, h⟩, kt⟩
      exact ⟨rfl, gv, TkE.of h kt hLm hlt⟩
  · rw [if_neg hmn, if_neg hmn]
    refine (take_no_any 11 #[.pointer (some ⟨O, 0, none⟩), .pointer (some ⟨G, 0, none⟩)] s (eAt s ps m) (fun W => ∃ gv t, GS b0 w0 G (w.heap.size + 2) gv (outs s ps m) t (eAt s ps m) (oth ++ oth2) W) w ent11 (hd.mono ?_)).mono ?_
    · rintro e W (⟨h, _⟩ | ⟨_, rfl, gv, t, h⟩)
      · exact absurd h hmn
      · exact ⟨rfl, ⟨t, h.inp⟩, keepTK h, gv, t, h⟩
    · rintro e w' ⟨rfl, W, ⟨gv, t, h⟩, kt⟩
      exact ⟨rfl, gv, TkE.of h kt hLm hlt⟩
end Go.Proofs.Ythojbccoejdmeaa
