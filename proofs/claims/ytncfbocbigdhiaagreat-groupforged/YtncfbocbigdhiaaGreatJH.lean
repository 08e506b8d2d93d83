/- Rows of texts: appended to in any order, and kept. -/
import Derived.Test.YtncfbocbigdhiaaGreatJG
namespace Go.Proofs.YtncfbocbigdhiaaGreat
open Go.RowKit
section
variable {b0 : Nat} {w0 : World} {L : F.Loc} {st : F.St} {lv : Value} {oth : List (Nat × Obj)} {w w' : World}
theorem F.One.grownS {row : Option Nat} (h : F.One b0 w0 L st lv oth w) (hg : w.grownBy w' row) (hr : ∀ g, row = some g → b0 ≤ g ∧ ∃ c, w.heap[g]? = some (.cells c 9)) (ho : ∀ p ∈ oth, row ≠ some p.1) : F.One b0 w0 L st lv oth w' := by
  have tne : ∀ {i : Nat} {d : Array Value} {t : TypeId}, w.heap[i]? = some (.cells d t) → t ≠ 9 → some i ≠ row := fun {i d t} e ht er => by
    obtain ⟨_, c, hc⟩ := hr i er.symm
    rw [e] at hc
    injection hc with hc
    injection hc with _ hc _
    exact ht hc
  have same : ∀ {j : Nat} {o : Obj}, w.heap[j]? = some o → some j ≠ row → w'.heap[j]? = some o := fun e h1 => (hg.block _ (F.getElem?_lt e) h1).trans e
  refine ⟨?_, h.bP, h.bR, h.bD, h.bS, same h.pool (tne h.pool (by decide)), same h.rowb (tne h.rowb (by decide)), h.rc0, same h.dev (tne h.dev (by decide)), same h.sec (tne h.sec (by decide)), ⟨h.own.1, ?_⟩, ?_⟩
  · refine ⟨hg.os.trans h.below.os, hg.tape.trans h.below.tape, hg.output.trans h.below.output, Nat.le_trans h.below.size hg.size, fun j hj => ?_⟩
    rw [hg.block j (Nat.lt_of_lt_of_le hj (Nat.le_trans h.bP (Nat.le_of_lt (F.getElem?_lt h.pool)))) (fun e => by have := (hr j e.symm).1; omega)]
    exact h.below.block j hj
  · rcases h.own.2 with h1 | ⟨g, cap, cur, e, h2, h3, h4⟩
    · exact Or.inl h1
    · exact Or.inr ⟨g, cap, cur, e, h2, same h3 (tne h3 (by decide)), h4⟩
  · intro p hp
    obtain ⟨o1, o2, o3, o4⟩ := h.oth p hp
    exact ⟨same o1 (fun e => ho p hp e.symm), o2, o3, o4⟩
theorem F.One.addS {g : Nat} {c : Array Value} (h : F.One b0 w0 L st lv oth w) (hg : w.heap[g]? = some (.cells c 9)) (hb : b0 ≤ g) : F.One b0 w0 L st lv ((g, .cells c 9) :: oth) w := by
  have tne : ∀ {i : Nat} {d : Array Value} {t : TypeId}, w.heap[i]? = some (.cells d t) → t ≠ 9 → g ≠ i := fun e ht er => by
    subst er
    rw [hg] at e
    injection e with e
    injection e with _ e _
    exact ht e.symm
  refine { h with oth := ?_ }
  intro p hp
  rcases List.mem_cons.1 hp with rfl | hp
  · exact ⟨hg, ⟨tne h.pool (by decide), tne h.rowb (by decide), tne h.dev (by decide), tne h.sec (by decide)⟩, F.apart_of (by decide), hb⟩
  · exact h.oth p hp
end
/-- Texts, as they lie. -/
def Txs (v : Value) (xs : List ByteArray) (ol : List (Nat × Obj)) : Prop :=
  (v = .slice none 0 0 ∧ xs = [] ∧ ol = []) ∨ ∃ g cap cur, v = .slice (some ⟨g, 0, none⟩) xs.length cap ∧ ol = [(g, .cells cur 9)] ∧ xs.length ≤ cap ∧ cap ≤ maxLen ∧ cur.size = cap ∧ cur.toList.take xs.length = xs.map .string
theorem Txs.nil : Txs (.slice none 0 0) [] [] := Or.inl ⟨rfl, rfl, rfl⟩
theorem Txs.cell {v : Value} {xs : List ByteArray} {ol : List (Nat × Obj)} (h : Txs v xs ol) {W : World} (ho : ∀ p ∈ ol, W.heap[p.1]? = some p.2) :
    ∃ ao cp g, v = .slice ao xs.length cp ∧ (0 < xs.length → ao = some ⟨g, 0, none⟩) ∧ ∀ j (hj : j < xs.length), W.cell? ⟨g, j, none⟩ = some (.string xs[j]) := by
  rcases h with ⟨rfl, rfl, rfl⟩ | ⟨g, cap, cur, rfl, rfl, h1, h2, h3, h4⟩
  · exact ⟨none, 0, 0, rfl, fun h => absurd h (Nat.lt_irrefl _), fun j hj => absurd hj (Nat.not_lt_zero _)⟩
  · have o1 := ho (g, .cells cur 9) (List.mem_singleton.2 rfl)
    refine ⟨_, _, g, rfl, fun _ => rfl, fun j hj => ?_⟩
    rw [F.cell_of o1]
    have := congrArg (fun l => l[j]?) h4
    simp only [List.getElem?_take_of_lt hj, List.getElem?_map, Array.getElem?_toList, List.getElem?_eq_getElem hj] at this
    exact this
theorem Plc.cellD {v : Value} {xs : List Nat} {ol : List (Nat × Obj)} (h : Plc v xs ol) {W : World} (ho : ∀ p ∈ ol, W.heap[p.1]? = some p.2) :
    ∃ ao cp g, v = .slice ao xs.length cp ∧ (0 < xs.length → ao = some ⟨g, 0, none⟩) ∧ ∀ W' : World, (∀ p ∈ ol, W'.heap[p.1]? = some p.2) → ∀ j (hj : j < xs.length), W'.cell? ⟨g, j, none⟩ = some (nv xs[j]) := by
  rcases h with ⟨rfl, rfl, rfl⟩ | ⟨g, cap, cur, rfl, rfl, h1, h2, h3, h4⟩
  · exact ⟨none, 0, 0, rfl, fun h => absurd h (Nat.lt_irrefl _), fun W' _ j hj => absurd hj (Nat.not_lt_zero _)⟩
  · refine ⟨_, _, g, rfl, fun _ => rfl, fun W' ho' j hj => ?_⟩
    have o1 := ho' (g, .cells cur 3) (List.mem_singleton.2 rfl)
    rw [F.cell_of o1]
    have := congrArg (fun l => l[j]?) h4
    simp only [List.getElem?_take_of_lt hj, List.getElem?_map, Array.getElem?_toList, List.getElem?_eq_getElem hj] at this
    exact this
/-- A row of texts in a device's world. -/
theorem dev_tx {T : Nat} {w : World} {L : F.Loc} {n : Nat} {rest : List (Nat × Obj)} {now : Nat → ByteArray} {c : Int} {W : World} {T1 Ob : Nat} {u : Obj} (hx : Mx T1 Ob rest) {v : Value} {xs : List ByteArray} {ol : List (Nat × Obj)} (h : Txs v xs ol) (hr : ∀ p ∈ ol, T1 ≤ p.1) (hd : Dev T w L n (ol ++ (Ob, u) :: rest) now c W) :
    W.ownsRow T1 9 1 v xs.length (xs.map .string) ∧ T1 ≤ W.heap.size ∧ ∀ x v' W', W'.ownsRow T1 9 1 v' (xs.length + 1) (xs.map .string ++ [.string x]) → W.grownBy W' v.ownBlock → ∃ ol', Txs v' (xs ++ [x]) ol' ∧ (∀ p ∈ ol', T1 ≤ p.1) ∧ Dev T w L n (ol' ++ (Ob, u) :: rest) now c W' := by
  obtain ⟨st, lv, ats, ho, h2⟩ := hd.ex
  have hle := hx.le ho
  refine ⟨?_, hle.2, ?_⟩
  · rcases h with ⟨rfl, rfl, rfl⟩ | ⟨g, cap, cur, rfl, rfl, h1, h2, h3, h4⟩
    · exact ⟨rfl, Or.inl ⟨rfl, rfl⟩⟩
    · obtain ⟨o1, _, _, o4⟩ := ho.oth (g, .cells cur 9) (List.mem_append_left _ (List.mem_singleton.2 rfl))
      exact ⟨by simp, Or.inr ⟨g, cap, cur, rfl, hr _ (List.mem_singleton.2 rfl), o1, h1, h2, by rw [Nat.mul_one]; exact h3, by rw [Nat.mul_one]; exact h4⟩⟩
  · intro x v' W' hn hg
    have hdj := SI.apart (o := u) hx hr
    have hrow : ∀ g, v.ownBlock = some g → T ≤ g ∧ ∃ c, W.heap[g]? = some (.cells c 9) := by
      intro g e
      rcases h with ⟨rfl, rfl, rfl⟩ | ⟨g', cap, cur, rfl, rfl, _⟩
      · cases e
      · injection e with e
        subst e
        obtain ⟨o1, _, _, o4⟩ := ho.oth (g', .cells cur 9) (by simp)
        exact ⟨o4, cur, o1⟩
    have h1 : F.One T w L st lv ((Ob, u) :: rest) W := ho.forget (fun p hp => List.mem_append_right _ hp)
    have h3 := h1.grownS hg hrow (by
      intro p hp e
      rcases h with ⟨rfl, rfl, rfl⟩ | ⟨g', cap, cur, rfl, rfl, _⟩
      · cases e
      · injection e with e
        exact hdj (g', .cells cur 9) (List.mem_singleton.2 rfl) p hp e)
    rcases hn.2 with ⟨_, e0⟩ | ⟨g, cap, cur, rfl, k1, k2, k3, k4, k5, k6⟩
    · exact absurd e0 (Nat.succ_ne_zero _)
    · rw [Nat.mul_one] at k5 k6
      refine ⟨[(g, .cells cur 9)], Or.inr ⟨g, cap, cur, ?_, rfl, ?_, k4, k5, ?_⟩, fun p hp => by rw [List.mem_singleton.1 hp]; exact k1, st, lv, ats, h3.addS k2 (Nat.le_trans hle.1 k1), h2⟩
      · rw [List.length_append]; rfl
      · rw [List.length_append]; exact k3
      · rw [List.length_append, List.map_append]; exact k6
theorem tinfo : (Tryz.prog.info? 9).map (fun i => (i.zero, i.size, i.bytes)) = some (some (.string ⟨#[]⟩), 1, 16) := by kernel_rfl
/-- One text is appended. -/
theorem tapp {o : Oper} {a : Act} {K : Act → World → Prop} {Q : Exit → Act → World → Prop} {W : World} (s x : Operand) (ho : o.op = .call { callee := .builtin .append, args := #[s, x], argTypes := #[30, 30] }) {T1 : Nat} {v : Value} {xs : List ByteArray} {G : Nat} {y : ByteArray} (hs : a.eval s = v) (hx : a.eval x = .slice (some ⟨G, 0, none⟩) 1 1) (hG : W.heap[G]? = some (.cells #[.string y] 9)) (hown : W.ownsRow T1 9 1 v xs.length (xs.map .string)) (hT : T1 ≤ W.heap.size) (hl : xs.length ≤ 1000)
    (hK : ∀ v' W', W'.ownsRow T1 9 1 v' (xs.length + 1) (xs.map .string ++ [.string y]) → W.grownBy W' v.ownBlock → K (a.put o.dst v') W') : Oper.wp Tryz.prog o a W K Q := by
  obtain ⟨i, hi, hz, hsz, hby⟩ := info_parts tinfo
  obtain ⟨v', W', hr, r2, r3, r4, r5⟩ := run_append_own_at (P := Tryz.prog) W T1 30 o.type 9 i (.string ⟨#[]⟩) 1 16 Tryz.underlying30 hi hz hsz hby (by kernel_rfl) (by decide) v xs.length (xs.map .string) hown ⟨G, 0, none⟩ 1 1 [.string y] rfl (fun j u hj => by
    rcases j with _ | j
    · simp at hj; subst hj
      have : (⟨G, 0, none⟩ : Addr).add 0 = ⟨G, 0, none⟩ := by simp [Addr.add]
      rw [this, F.cell_of hG]; rfl
    · simp at hj) (fun u hu => by simp at hu; rw [hu]; rfl) (by unfold maxLen; omega) (by omega) hT
  unfold Oper.wp execOp
  simp only [ho, resolve, invoke, builtin, Sem.run_bind, Sem.run_pure, Result.andThen_ok, List.map_toArray, List.map_cons, List.map_nil, hs, hx, hr]
  exact hK v' W' r2 r3
end Go.Proofs.YtncfbocbigdhiaaGreat
