/- A joining is appended. -/
import Derived.Test.YtknmipbjkkeebaaSL
namespace Go.Proofs.Ytknmipbjkkeebaa
open Go.RowKit
theorem jinfo : (Try.prog.info? 66).map (fun i => (i.zero, i.size, i.bytes)) = some (some (.int .u64 0), 1, 8) := by kernel_rfl
theorem jcs_append (a b : List Nat) : jcs (a ++ b) = jcs a ++ jcs b := by unfold jcs; rw [List.map_append]
/-- One joining is appended. -/
theorem jappend {ops : Array Oper} {rest : List Oper} {o : Oper} {a : Act} {w : World} {Q : Exit → Act → World → Prop} (hgd : o.guard = none) (s x : Operand) (ho : o.op = .call { callee := .builtin .append, args := #[s, x], argTypes := #[73, 73] })
    (base : Nat) (v : Value) (js : List Nat) (hs : a.eval s = v) (hown : w.ownsRow base 66 1 v js.length (jcs js)) (G : Nat) (hx : a.eval x = .slice (some ⟨G, 0, none⟩) 1 1) (m : Nat) (hG : w.heap[G]? = some (.cells #[.int .u64 (m : Nat)] 66)) (hl : js.length ≤ 1001) (hb : base ≤ w.heap.size)
    (k : ∀ (ao : Option Addr) (cp : Nat) (w' : World), w'.ownsRow base 66 1 (.slice ao (js.length + 1) cp) (js ++ [m]).length (jcs (js ++ [m])) → Below base w w' → (∀ (g : Nat) (c : Array Value) (t : TypeId), w.heap[g]? = some (.cells c t) → t ≠ 66 → w'.heap[g]? = some (.cells c t)) → wpList Try.prog ops Q rest (a.put o.dst (.slice ao (js.length + 1) cp)) w') : wpList Try.prog ops Q (o :: rest) a w := by
  obtain ⟨i0, hi0, hz0, hs0, hby0⟩ := info_parts jinfo
  refine wpList_append_own w hgd s x 73 ho base 66 i0 (.int .u64 0) 1 8 Try.underlying73 hi0 hz0 hs0 hby0 (by kernel_rfl) (by decide) v js.length (jcs js) hs hown ⟨G, 0, none⟩ 1 1 [.int .u64 (m : Nat)] hx rfl ?_ ?_ (by unfold maxLen; omega) (by omega) hb ?_
  · intro j u hj
    rw [Addr.add_lit, Nat.zero_add, cell_of hG]
    simpa using hj
  · intro u hu
    simp at hu
    rcases hu with rfl; rfl
  · intro v' w' h1 h2 h3
    have hx : w'.ownsRow base 66 1 v' (js ++ [m]).length (jcs (js ++ [m])) := by
      rw [jcs_append, List.length_append]; exact h1
    obtain ⟨ao, cp, rfl⟩ := own_slice h1
    refine k ao cp w' hx ((Below.refl _ w).grown h2 hb (fun q hq => (World.ownsRow.lt hown q hq).1)) ?_
    intro g c t hg ht
    rw [h2.block g (getElem?_lt hg) ?_]; exact hg
    intro e
    rcases hown.2 with ⟨h0, _⟩ | ⟨g', cap', cur, e0, _, h4, _⟩
    · rw [h0] at e; simp [Value.ownBlock] at e
    · rw [e0] at e; simp [Value.ownBlock] at e; subst e; rw [hg] at h4; injection h4 with h4; injection h4 with _ h4 _; exact ht h4
theorem own_keep {b : Nat} {w W : World} {t : TypeId} {k n : Nat} {v : Value} {xs : List Value} (h : w.ownsRow b t k v n xs) (ho : ∀ (g : Nat) (c : Array Value) (t : TypeId), w.heap[g]? = some (.cells c t) → t ≠ 66 → W.heap[g]? = some (.cells c t)) (ht : t ≠ 66) : W.ownsRow b t k v n xs := by
  refine ⟨h.1, ?_⟩
  rcases h.2 with h0 | ⟨g, cap, cur, e, hb, hg, hr⟩
  · exact Or.inl h0
  · exact Or.inr ⟨g, cap, cur, e, hb, ho _ _ _ hg ht, hr⟩
theorem Lot.joined {T : Nat} {w : World} {B3 B4 : Nat} {r : Ro} {vx vr jv jv' : Value} {js js' : List Nat} {W W' : World} (h : Lot T w B3 B4 r vx vr jv js W) (hb : Below T W W') (ho : ∀ (g : Nat) (c : Array Value) (t : TypeId), W.heap[g]? = some (.cells c t) → t ≠ 66 → W'.heap[g]? = some (.cells c t)) (hj : W'.ownsRow T 66 1 jv' js'.length (jcs js')) : Lot T w B3 B4 r vx vr jv' js' W' :=
  ⟨h.bel.trans hb, h.t3, h.t4, ho _ _ _ h.x (by decide), ho _ _ _ h.p (by decide), own_keep h.xi ho (by decide), own_keep h.mi ho (by decide), hj⟩
theorem jcs_at (js : List Nat) (k : Nat) (hk : k < js.length) : (jcs js)[k]? = some (.int .u64 ((js.getD k 0 : Nat) : Int)) := by
  unfold jcs; simp [List.getD, hk]
end Go.Proofs.Ytknmipbjkkeebaa
