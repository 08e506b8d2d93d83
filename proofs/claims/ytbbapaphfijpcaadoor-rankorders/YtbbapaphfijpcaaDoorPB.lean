/- The rule for statements that draw their order, by phases, where an edge that is of one compiler alone may lead to a later operation. -/
import Derived.Test.YtbbapaphfijpcaaDoorOR
namespace Go.Proofs.YtbbapaphfijpcaaDoor.O
def lexOkB : Nat → List Oper → Bool
  | _, [] => true
  | k, o :: l => o.after.toList.all (fun e => !(Region.binds .any e) || decide (e.on < k)) && lexOkB (k + 1) l
theorem lexOkB.get : ∀ {k : Nat} {l : List Oper}, lexOkB k l = true → ∀ (i : Nat) (o : Oper), l[i]? = some o → ∀ e ∈ o.after, Region.binds .any e = true → e.on < k + i
  | _, [], _, _, _, h => by simp at h
  | k, o :: l, h, i, o', hi => by
    simp only [lexOkB, Bool.and_eq_true, List.all_eq_true] at h
    cases i with
    | zero =>
      simp at hi; subst hi
      intro e he hb
      have := h.1 e (by simpa using he)
      rw [hb] at this
      simpa using this
    | succ i => have := lexOkB.get h.2 i o' (by simpa using hi); intro e he hb; have := this e he hb; omega
section
variable {P : Program} {ops : Array Oper} {Q : Exit → Act → World → Prop}
theorem wp_region_pb {id : Nat} {a : Act} {w : World} (A : (Nat → Value) → Act) (V : Nat → Value → Prop) (Ph : (Nat → Bool) → (Nat → Value) → World → Prop) (f0 : Nat → Value)
    (hm : P.follows .mixedOrders = true) (hlex : lexOkB 0 ops.toList = true) (ha : a = A f0) (hI : Ph (fun _ => false) f0 w.drew)
    (hput : AllOps (fun i o => ∀ f v, (A f).put o.dst v = A (upd f i v)) 0 ops.toList)
    (step : AllOps (fun i o => ∀ (done : Nat → Bool) (f : Nat → Value) (w : World), Ph done f w → done i = false → DepsP V done f o.after.toList → ∀ K : Act → World → Prop, (∀ v w', V i v → Ph (updB done i) (upd f i v) w' → K ((A f).put o.dst v) w') →
      if Region.wanted o (yielded ops (A f).tmps) = true then Oper.wp P o (A f) w K Q else K ((A f).put o.dst undef) w) 0 ops.toList)
    (fin : ∀ (f : Nat → Value) (w : World), Ph (fun i => decide (i < ops.size)) f w → (∀ i, i < ops.size → V i (f i)) → Q .normal (A f) w) :
    (Code.region id ops true).wp P Q a w := by
  refine wp_region_any hm ?_
  refine wpAny_inv (fun listed b w => ∃ f, b = A f ∧ Ph (fun i => listed.getD i false) f w ∧ ∀ i, listed.getD i false = true → V i (f i)) ?_ ?_ ops.size _ a _ (by simp) (by simp) ⟨f0, ha, ?_, fun i hi => ?_⟩
  · rintro listed b w i ⟨f, rfl, hP, hV⟩ hs hi
    obtain ⟨h1, o, ho, hdep⟩ := mem_ready.1 hi
    have ho' : ops.toList[i]? = some o := by simpa using ho
    have hst := AllOps.get step i o ho'
    rw [Nat.zero_add] at hst
    have hlt : i < listed.size := by
      rw [hs]; exact (Array.getElem?_eq_some_iff.1 ho).1
    have hd : DepsP V (fun i => listed.getD i false) f o.after.toList := DepsP.of_all _ (fun e he hb => by
      have := hdep e (by simpa using he) hb
      exact ⟨this, hV e.on this⟩)
    have hset : (fun j => (listed.setIfInBounds i true).getD j false) = updB (fun j => listed.getD j false) i := by
      funext j
      unfold updB
      by_cases hji : j = i
      · subst hji; simp [hlt]
      · simp [Array.getD_eq_getD_getElem?, Ne.symm hji, hji]
    have h1' : listed.getD i false = false := by
      have : listed[i] = false := by simpa [Array.getD, hlt] using h1
      simp [Array.getD, hlt, this]
    have hK := hst (fun i => listed.getD i false) f w hP h1' hd (fun b' w' => ∃ f, b' = A f ∧ Ph (fun j => (listed.setIfInBounds i true).getD j false) f w' ∧ ∀ j, (listed.setIfInBounds i true).getD j false = true → V j (f j)) (fun v w' hv hP' => by
      refine ⟨upd f i v, by have := AllOps.get hput i o ho' f v; rwa [Nat.zero_add] at this, by rw [hset]; exact hP', fun j hj => ?_⟩
      by_cases hji : j = i
      · subst hji; simpa [upd] using hv
      · rw [show upd f i v j = f j from if_neg hji]
        refine hV j ?_
        simpa [Array.getD_eq_getD_getElem?, Array.getElem?_setIfInBounds, Ne.symm hji] using hj)
    unfold wpOp
    simp only [ho]
    split
    · rename_i hw
      rw [if_pos hw] at hK
      exact Or.inl hK
    · rename_i hw
      rw [if_neg hw] at hK
      exact hK
  · rintro listed b w ⟨f, rfl, hP, hV⟩ hs hr
    have key : ∀ n i, i < n → i < ops.size → listed.getD i false = true := by
      intro n
      induction n with
      | zero => intro i h; omega
      | succ n ih =>
        intro i hin hio
        by_cases hl : listed.getD i false = true
        · exact hl
        · exfalso
          have ho : ops[i]? = some ops[i] := Array.getElem?_eq_getElem hio
          have hlt : i < listed.size := by omega
          have : i ∈ Region.ready .any ops listed := mem_ready.2 ⟨by
            have : listed[i] = false := by simpa [Array.getD, hlt] using hl
            simp [Array.getD, hlt, this], ops[i], ho, fun e he hb => by
            have := lexOkB.get hlex i ops[i] (by simp) e he hb
            exact ih e.on (by omega) (by omega)⟩
          rw [hr] at this
          cases this
    have hall : (fun i => listed.getD i false) = fun i => decide (i < ops.size) := by
      funext i
      by_cases h : i < ops.size
      · rw [key (i + 1) i (by omega) h, decide_eq_true h]
      · rw [decide_eq_false h]
        simp [Array.getD, show ¬ i < listed.size by omega]
    refine fin f w (by rw [← hall]; exact hP) (fun i hi => hV i (key (i + 1) i (by omega) hi))
  · have : (fun i => (Array.replicate ops.size false).getD i false) = fun _ => false := by
      funext i
      simp [Array.getD_eq_getD_getElem?, Array.getElem?_replicate]
      split <;> simp
    rw [this]; exact hI
  · simp [Array.getD_eq_getD_getElem?, Array.getElem?_replicate] at hi
    split at hi <;> simp at hi
end
end Go.Proofs.YtbbapaphfijpcaaDoor.O
