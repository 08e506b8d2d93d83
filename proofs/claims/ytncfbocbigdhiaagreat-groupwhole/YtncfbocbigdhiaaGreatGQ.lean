/- Rows of places: appended to, and kept through calls. -/
import Derived.Test.YtncfbocbigdhiaaGreatGP
namespace Go.Proofs.YtncfbocbigdhiaaGreat
open Go.RowKit
def nv (t : Nat) : Value := .int .i64 (t : Nat)
section
variable {b0 : Nat} {w0 : World} {L : F.Loc} {st : F.St} {lv : Value} {oth : List (Nat × Obj)} {w w' : World}
/-- A row of places may grow. -/
theorem F.One.grownI {row : Option Nat} (h : F.One b0 w0 L st lv oth w) (hg : w.grownBy w' row) (hr : ∀ g, row = some g → b0 ≤ g ∧ ∃ c, w.heap[g]? = some (.cells c 3)) (ho : ∀ p ∈ oth, row ≠ some p.1) : F.One b0 w0 L st lv oth w' := by
  have tne : ∀ {i : Nat} {d : Array Value} {t : TypeId}, w.heap[i]? = some (.cells d t) → t ≠ 3 → some i ≠ row := fun {i d t} e ht er => by
    obtain ⟨_, c, hc⟩ := hr i er.symm
    rw [e] at hc
    injection hc with hc
    injection hc with _ hc _
    exact ht hc
  have same : ∀ {j : Nat} {o : Obj}, w.heap[j]? = some o → some j ≠ row → w'.heap[j]? = some o := fun e h1 => (hg.block _ (F.getElem?_lt e) h1).trans e
  refine ⟨?_, h.bP, h.bR, h.bD, h.bS, same h.pool (tne h.pool (by decide)), same h.rowb (tne h.rowb (by decide)), h.rc0, same h.dev (tne h.dev (by decide)), same h.sec (tne h.sec (by decide)), ⟨h.own.1, ?_⟩, ?_⟩
  · refine ⟨hg.os.trans h.below.os, hg.tape.trans h.below.tape, hg.output.trans h.below.output, Nat.le_trans h.below.size hg.size, fun j hj => ?_⟩
    rw [hg.block j (Nat.lt_of_lt_of_le hj (Nat.le_trans h.bP (Nat.le_of_lt (F.getElem?_lt h.pool)))) (fun e => by have := (hr j e.symm).1; omega)]
    exact h.below.block j hj
  · rcases h.own.2 with h1 | ⟨g, cap, cur, e, h2, h3, h4⟩
    · exact Or.inl h1
    · exact Or.inr ⟨g, cap, cur, e, h2, same h3 (tne h3 (by decide)), h4⟩
  · intro p hp
    obtain ⟨o1, o2, o3, o4⟩ := h.oth p hp
    exact ⟨same o1 (fun e => ho p hp e.symm), o2, o3, o4⟩
theorem F.One.addI {g : Nat} {c : Array Value} (h : F.One b0 w0 L st lv oth w) (hg : w.heap[g]? = some (.cells c 3)) (hb : b0 ≤ g) : F.One b0 w0 L st lv ((g, .cells c 3) :: oth) w := by
  have tne : ∀ {i : Nat} {d : Array Value} {t : TypeId}, w.heap[i]? = some (.cells d t) → t ≠ 3 → g ≠ i := fun e ht er => by
    subst er
    rw [hg] at e
    injection e with e
    injection e with _ e _
    exact ht e.symm
  refine { h with oth := ?_ }
  intro p hp
  rcases List.mem_cons.1 hp with rfl | hp
  · exact ⟨hg, ⟨tne h.pool (by decide), tne h.rowb (by decide), tne h.dev (by decide), tne h.sec (by decide)⟩, F.apart_of (by decide), hb⟩
  · exact h.oth p hp
end
/-- The places that may be found, as they lie. -/
def Plc (v : Value) (mays : List Nat) (ol : List (Nat × Obj)) : Prop :=
  (v = .slice none 0 0 ∧ mays = [] ∧ ol = []) ∨ ∃ g cap cur, v = .slice (some ⟨g, 0, none⟩) mays.length cap ∧ ol = [(g, .cells cur 3)] ∧ mays.length ≤ cap ∧ cap ≤ maxLen ∧ cur.size = cap ∧ cur.toList.take mays.length = mays.map nv
theorem Plc.own {b0 : Nat} {w0 : World} {L : F.Loc} {st : F.St} {lv : Value} {oth : List (Nat × Obj)} {w : World} {v : Value} {mays : List Nat} {ol : List (Nat × Obj)} (h : Plc v mays ol) (ho : F.One b0 w0 L st lv oth w) (hs : ∀ p ∈ ol, p ∈ oth) : w.ownsRow b0 3 1 v mays.length (mays.map nv) := by
  rcases h with ⟨rfl, rfl, rfl⟩ | ⟨g, cap, cur, rfl, rfl, h1, h2, h3, h4⟩
  · exact ⟨rfl, Or.inl ⟨rfl, rfl⟩⟩
  · obtain ⟨o1, _, _, o4⟩ := ho.oth (g, .cells cur 3) (hs _ (List.mem_singleton.2 rfl))
    exact ⟨by simp, Or.inr ⟨g, cap, cur, rfl, o4, o1, h1, h2, by rw [Nat.mul_one]; exact h3, by rw [Nat.mul_one]; exact h4⟩⟩
theorem Plc.len {v : Value} {mays : List Nat} {ol : List (Nat × Obj)} (h : Plc v mays ol) : ∃ ao cp, v = .slice ao mays.length cp := by
  rcases h with ⟨rfl, rfl, rfl⟩ | ⟨g, cap, cur, rfl, rfl, h1, h2, h3, h4⟩
  · exact ⟨none, 0, rfl⟩
  · exact ⟨_, _, rfl⟩
theorem iinfo : (Tryz.prog.info? 3).map (fun i => (i.zero, i.size, i.bytes)) = some (some (.int .i64 0), 1, 8) := by kernel_rfl
/-- One place is appended. -/
theorem pappend {ops : Array Oper} {rest : List Oper} {o : Oper} {a : Act} {w : World} {Q : Exit → Act → World → Prop} (hgd : o.guard = none) (s x : Operand) (ho : o.op = .call { callee := .builtin .append, args := #[s, x], argTypes := #[31, 31] })
    (base : Nat) (v : Value) (mays : List Nat) (hs : a.eval s = v) (hown : w.ownsRow base 3 1 v mays.length (mays.map nv)) (G : Nat) (hx : a.eval x = .slice (some ⟨G, 0, none⟩) 1 1) (t : Nat) (hG : w.heap[G]? = some (.cells #[nv t] 3)) (hl : mays.length ≤ 1001) (hb : base ≤ w.heap.size)
    (k : ∀ (v' : Value) (w' : World), w'.ownsRow base 3 1 v' (mays ++ [t]).length ((mays ++ [t]).map nv) → w.grownBy w' v.ownBlock → wpList Tryz.prog ops Q rest (a.put o.dst v') w') : wpList Tryz.prog ops Q (o :: rest) a w := by
  obtain ⟨i0, hi0, hz0, hs0, hby0⟩ := info_parts iinfo
  refine wpList_append_own w hgd s x 31 ho base 3 i0 (.int .i64 0) 1 8 Tryz.underlying31 hi0 hz0 hs0 hby0 (by kernel_rfl) (by decide) v mays.length (mays.map nv) hs hown ⟨G, 0, none⟩ 1 1 [nv t] hx rfl ?_ ?_ (by unfold maxLen; omega) (by omega) hb ?_
  · intro j u hj
    rw [Addr.add_lit, Nat.zero_add, F.cell_of hG]
    simpa using hj
  · intro u hu
    simp at hu
    rcases hu with rfl; rfl
  · intro v' w' h1 h2 h3
    refine k v' w' ?_ h2
    rw [List.map_append, List.length_append]; exact h1
/-- What has grown is a row of places, again. -/
theorem Plc.grown {b0 : Nat} {w0 : World} {L : F.Loc} {st : F.St} {lv : Value} {oth : List (Nat × Obj)} {w w' : World} {v v' : Value} {mays mays' : List Nat} {ol : List (Nat × Obj)} (h : Plc v mays ol) (ho : F.One b0 w0 L st lv (ol ++ oth) w) (hd : ∀ p ∈ ol, ∀ q ∈ oth, p.1 ≠ q.1) (hg : w.grownBy w' v.ownBlock) (hn : w'.ownsRow b0 3 1 v' mays'.length (mays'.map nv)) (hne : mays' ≠ []) :
    ∃ ol', Plc v' mays' ol' ∧ F.One b0 w0 L st lv (ol' ++ oth) w' := by
  have hr : ∀ g, v.ownBlock = some g → b0 ≤ g ∧ ∃ c, w.heap[g]? = some (.cells c 3) := by
    intro g e
    rcases h with ⟨rfl, rfl, rfl⟩ | ⟨g', cap, cur, rfl, rfl, _⟩
    · cases e
    · injection e with e
      subst e
      obtain ⟨o1, _, _, o4⟩ := ho.oth (g', .cells cur 3) (by simp)
      exact ⟨o4, cur, o1⟩
  have h1 : F.One b0 w0 L st lv oth w := ho.forget (fun p hp => List.mem_append_right _ hp)
  have h2 := h1.grownI hg hr (by
    intro p hp e
    rcases h with ⟨rfl, rfl, rfl⟩ | ⟨g', cap, cur, rfl, rfl, _⟩
    · cases e
    · injection e with e
      exact hd (g', .cells cur 3) (List.mem_singleton.2 rfl) p hp e)
  rcases hn.2 with ⟨_, e0⟩ | ⟨g, cap, cur, rfl, k1, k2, k3, k4, k5, k6⟩
  · exact absurd (List.eq_nil_of_length_eq_zero e0) hne
  · rw [Nat.mul_one] at k5 k6
    exact ⟨[(g, .cells cur 3)], Or.inr ⟨g, cap, cur, rfl, rfl, k3, k4, k5, k6⟩, h2.addI k2 k1⟩
theorem Plc.grown2 {b0 : Nat} {w w' : World} {v v' : Value} {mays mays' : List Nat} {ol : List (Nat × Obj)} (h : Plc v mays ol) (hown : w.ownsRow b0 3 1 v mays.length (mays.map nv)) (hg : w.grownBy w' v.ownBlock) (hn : w'.ownsRow b0 3 1 v' mays'.length (mays'.map nv)) (hne : mays' ≠ []) :
    ∃ ol', Plc v' mays' ol' ∧ ∀ w0 L st lv oth, (∀ p ∈ ol, ∀ q ∈ oth, p.1 ≠ q.1) → F.One b0 w0 L st lv (ol ++ oth) w → F.One b0 w0 L st lv (ol' ++ oth) w' := by
  have hr : ∀ g, v.ownBlock = some g → b0 ≤ g ∧ ∃ c, w.heap[g]? = some (.cells c 3) := by
    intro g e
    rcases hown.2 with ⟨rfl, _⟩ | ⟨g', cap, cur, rfl, k1, k2, _⟩
    · cases e
    · injection e with e
      subst e
      exact ⟨k1, cur, k2⟩
  rcases hn.2 with ⟨_, e0⟩ | ⟨g, cap, cur, rfl, k1, k2, k3, k4, k5, k6⟩
  · exact absurd (List.eq_nil_of_length_eq_zero e0) hne
  · rw [Nat.mul_one] at k5 k6
    refine ⟨[(g, .cells cur 3)], Or.inr ⟨g, cap, cur, rfl, rfl, k3, k4, k5, k6⟩, fun w0 L st lv oth hd ho => ?_⟩
    have h1 : F.One b0 w0 L st lv oth w := ho.forget (fun p hp => List.mem_append_right _ hp)
    refine (h1.grownI hg hr ?_).addI k2 k1
    intro p hp e
    rcases h with ⟨rfl, rfl, rfl⟩ | ⟨g', cap', cur', rfl, rfl, _⟩
    · cases e
    · injection e with e
      exact hd (g', .cells cur' 3) (List.mem_singleton.2 rfl) p hp e
/-- One place alone. -/
theorem Plc.one {g : Nat} (t : Nat) : Plc (.slice (some ⟨g, 0, none⟩) 1 1) [t] [(g, .cells #[nv t] 3)] :=
  Or.inr ⟨g, 1, #[nv t], rfl, rfl, Nat.le_refl _, by decide, rfl, rfl⟩
theorem Plc.cell {b0 : Nat} {w0 : World} {L : F.Loc} {st : F.St} {lv : Value} {oth : List (Nat × Obj)} {w : World} {v : Value} {mays : List Nat} {ol : List (Nat × Obj)} (h : Plc v mays ol) (ho : F.One b0 w0 L st lv oth w) (hs : ∀ p ∈ ol, p ∈ oth) :
    ∃ ao cp g, v = .slice ao mays.length cp ∧ (0 < mays.length → ao = some ⟨g, 0, none⟩) ∧ ∀ j (hj : j < mays.length), w.cell? ⟨g, j, none⟩ = some (nv mays[j]) := by
  rcases h with ⟨rfl, rfl, rfl⟩ | ⟨g, cap, cur, rfl, rfl, h1, h2, h3, h4⟩
  · exact ⟨none, 0, 0, rfl, fun h => absurd h (Nat.lt_irrefl _), fun j hj => absurd hj (Nat.not_lt_zero _)⟩
  · obtain ⟨o1, _, _, o4⟩ := ho.oth (g, .cells cur 3) (hs _ (List.mem_singleton.2 rfl))
    refine ⟨_, _, g, rfl, fun _ => rfl, fun j hj => ?_⟩
    rw [F.cell_of o1]
    have := congrArg (fun l => l[j]?) h4
    simp only [List.getElem?_take_of_lt hj, List.getElem?_map, Array.getElem?_toList, List.getElem?_eq_getElem hj] at this
    exact this
end Go.Proofs.YtncfbocbigdhiaaGreat
