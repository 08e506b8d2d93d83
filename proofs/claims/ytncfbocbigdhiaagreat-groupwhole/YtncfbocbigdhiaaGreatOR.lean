/- A rule for a statement whose operations may come in any order that its edges allow: where each operation keeps one invariant of memory, and yields a value of which a stable fact is known, the statement ends with all those facts; no program in sight. -/
import Derived.Orders
import Derived.WalkKit
namespace Go.Proofs.YtncfbocbigdhiaaGreat.O
set_option maxRecDepth 100000
set_option maxRecDepth 100000

/-- A fact for each operation of a list, by its place. -/
def AllOps (φ : Nat → Oper → Prop) : Nat → List Oper → Prop
  | _, [] => True
  | k, o :: l => φ k o ∧ AllOps φ (k + 1) l
theorem AllOps.get {φ : Nat → Oper → Prop} : ∀ {k : Nat} {l : List Oper}, AllOps φ k l → ∀ (i : Nat) (o : Oper), l[i]? = some o → φ (k + i) o
  | _, [], _, _, _, h => by simp at h
  | k, o :: l, h, i, o', hi => by
    cases i with
    | zero => simp at hi; subst hi; exact h.1
    | succ i => have := AllOps.get h.2 i o' (by simpa using hi); rwa [Nat.add_assoc, Nat.add_comm 1 i] at this

/-- What is known of the operations that one waits for. -/
def Deps (V : Nat → Value → World → Prop) (f : Nat → Value) (w : World) : List Edge → Prop
  | [] => True
  | e :: l => (Region.binds .any e = true → V e.on (f e.on) w) ∧ Deps V f w l
theorem Deps.of_all {V : Nat → Value → World → Prop} {f : Nat → Value} {w : World} : ∀ (l : List Edge), (∀ e ∈ l, Region.binds .any e = true → V e.on (f e.on) w) → Deps V f w l
  | [], _ => trivial
  | e :: l, h => ⟨h e (by simp), Deps.of_all l (fun e' he => h e' (by simp [he]))⟩

def upd (f : Nat → Value) (i : Nat) (v : Value) : Nat → Value := fun k => if k = i then v else f k

def lexOk : Nat → List Oper → Bool
  | _, [] => true
  | k, o :: l => o.after.toList.all (fun e => e.on < k) && lexOk (k + 1) l
theorem lexOk.get : ∀ {k : Nat} {l : List Oper}, lexOk k l = true → ∀ (i : Nat) (o : Oper), l[i]? = some o → ∀ e ∈ o.after, e.on < k + i
  | _, [], _, _, _, h => by simp at h
  | k, o :: l, h, i, o', hi => by
    simp only [lexOk, Bool.and_eq_true, List.all_eq_true, decide_eq_true_eq] at h
    cases i with
    | zero => simp at hi; subst hi; exact fun e he => h.1 e (by simpa using he)
    | succ i => have := lexOk.get h.2 i o' (by simpa using hi); intro e he; have := this e he; omega

section
variable {P : Program} {ops : Array Oper} {Q : Exit → Act → World → Prop}

theorem wpAny_inv (J : Array Bool → Act → World → Prop)
    (step : ∀ (listed : Array Bool) (a : Act) (w : World) (i : Nat), J listed a w → listed.size = ops.size → i ∈ Region.ready .any ops listed → wpOp P ops Q i (fun a' w' => J (listed.setIfInBounds i true) a' w') a w)
    (fin : ∀ (listed : Array Bool) (a : Act) (w : World), J listed a w → listed.size = ops.size → Region.ready .any ops listed = [] → Q .normal a w) :
    ∀ (fuel : Nat) (listed : Array Bool) (a : Act) (w : World), listed.count false ≤ fuel → listed.size = ops.size → J listed a w → wpAny P .any ops Q fuel listed a w := by
  intro fuel
  induction fuel with
  | zero =>
    intro listed a w hc hs hJ
    have hr : Region.ready .any ops listed = [] := by
      apply List.eq_nil_iff_forall_not_mem.2
      intro i hi
      obtain ⟨h1, o, ho, _⟩ := mem_ready.1 hi
      have hlt : i < listed.size := by
        rw [hs]; exact (Array.getElem?_eq_some_iff.1 ho).1
      have h2 : listed[i] = false := by simpa [Array.getD, hlt] using h1
      have : 0 < listed.count false := Array.count_pos_iff.2 (by rw [← h2]; exact Array.getElem_mem hlt)
      omega
    exact ⟨hr, fin listed a w hJ hs hr⟩
  | succ fuel ih =>
    intro listed a w hc hs hJ
    refine ⟨fin listed a w hJ hs, fun i hi => ?_⟩
    refine wpOp_mono (fun a' w' h' => ih _ a' w' ?_ (by simpa using hs) h') (step listed a w i hJ hs hi)
    obtain ⟨h1, o, ho, _⟩ := mem_ready.1 hi
    have hlt : i < listed.size := by
      rw [hs]; exact (Array.getElem?_eq_some_iff.1 ho).1
    have h2 : listed[i] = false := by simpa [Array.getD, hlt] using h1
    have hpos : 0 < listed.count false := Array.count_pos_iff.2 (by rw [← h2]; exact Array.getElem_mem hlt)
    have : (listed.setIfInBounds i true).count false = listed.count false - 1 := by
      rw [Array.setIfInBounds_def, dif_pos hlt, Array.count_set]
      simp [h2]
    omega

def updB (f : Nat → Bool) (i : Nat) : Nat → Bool := fun k => if k = i then true else f k
/-- What is known of the operations that one waits for. -/
def DepsP (V : Nat → Value → Prop) (done : Nat → Bool) (f : Nat → Value) : List Edge → Prop
  | [] => True
  | e :: l => (Region.binds .any e = true → done e.on = true ∧ V e.on (f e.on)) ∧ DepsP V done f l
theorem DepsP.of_all {V : Nat → Value → Prop} {done : Nat → Bool} {f : Nat → Value} : ∀ (l : List Edge), (∀ e ∈ l, Region.binds .any e = true → done e.on = true ∧ V e.on (f e.on)) → DepsP V done f l
  | [], _ => trivial
  | e :: l, h => ⟨h e (by simp), DepsP.of_all l (fun e' he => h e' (by simp [he]))⟩

/-- THE RULE, BY PHASES: memory's state may hang on which operations are done, and on what they gave. -/
theorem wp_region_ph {id : Nat} {a : Act} {w : World} (A : (Nat → Value) → Act) (V : Nat → Value → Prop) (Ph : (Nat → Bool) → (Nat → Value) → World → Prop) (f0 : Nat → Value)
    (hm : P.follows .mixedOrders = true) (hlex : lexOk 0 ops.toList = true) (ha : a = A f0) (hI : Ph (fun _ => false) f0 w.drew)
    (hput : AllOps (fun i o => ∀ f v, (A f).put o.dst v = A (upd f i v)) 0 ops.toList)
    (step : AllOps (fun i o => ∀ (done : Nat → Bool) (f : Nat → Value) (w : World), Ph done f w → done i = false → DepsP V done f o.after.toList → ∀ K : Act → World → Prop, (∀ v w', V i v → Ph (updB done i) (upd f i v) w' → K ((A f).put o.dst v) w') →
      if Region.wanted o (yielded ops (A f).tmps) = true then Oper.wp P o (A f) w K Q else K ((A f).put o.dst undef) w) 0 ops.toList)
    (fin : ∀ (f : Nat → Value) (w : World), Ph (fun i => decide (i < ops.size)) f w → (∀ i, i < ops.size → V i (f i)) → Q .normal (A f) w) :
    (Code.region id ops true).wp P Q a w := by
  refine wp_region_any hm ?_
  refine wpAny_inv (fun listed b w => ∃ f, b = A f ∧ Ph (fun i => listed.getD i false) f w ∧ ∀ i, listed.getD i false = true → V i (f i)) ?_ ?_ ops.size _ a _ (by simp) (by simp) ⟨f0, ha, ?_, fun i hi => ?_⟩
  · rintro listed b w i ⟨f, rfl, hP, hV⟩ hs hi
    obtain ⟨h1, o, ho, hdep⟩ := mem_ready.1 hi
    have ho' : ops.toList[i]? = some o := by simpa using ho
    have hst := AllOps.get step i o ho'
    rw [Nat.zero_add] at hst
    have hlt : i < listed.size := by
      rw [hs]; exact (Array.getElem?_eq_some_iff.1 ho).1
    have hd : DepsP V (fun i => listed.getD i false) f o.after.toList := DepsP.of_all _ (fun e he hb => by
      have := hdep e (by simpa using he) hb
      exact ⟨this, hV e.on this⟩)
    have hset : (fun j => (listed.setIfInBounds i true).getD j false) = updB (fun j => listed.getD j false) i := by
      funext j
      unfold updB
      by_cases hji : j = i
      · subst hji; simp [hlt]
      · simp [Array.getD_eq_getD_getElem?, Ne.symm hji, hji]
    have h1' : listed.getD i false = false := by
      have : listed[i] = false := by simpa [Array.getD, hlt] using h1
      simp [Array.getD, hlt, this]
    have hK := hst (fun i => listed.getD i false) f w hP h1' hd (fun b' w' => ∃ f, b' = A f ∧ Ph (fun j => (listed.setIfInBounds i true).getD j false) f w' ∧ ∀ j, (listed.setIfInBounds i true).getD j false = true → V j (f j)) (fun v w' hv hP' => by
      refine ⟨upd f i v, by have := AllOps.get hput i o ho' f v; rwa [Nat.zero_add] at this, by rw [hset]; exact hP', fun j hj => ?_⟩
      by_cases hji : j = i
      · subst hji; simpa [upd] using hv
      · rw [show upd f i v j = f j from if_neg hji]
        refine hV j ?_
        simpa [Array.getD_eq_getD_getElem?, Array.getElem?_setIfInBounds, Ne.symm hji] using hj)
    unfold wpOp
    simp only [ho]
    split
    · rename_i hw
      rw [if_pos hw] at hK
      exact Or.inl hK
    · rename_i hw
      rw [if_neg hw] at hK
      exact hK
  · rintro listed b w ⟨f, rfl, hP, hV⟩ hs hr
    have key : ∀ n i, i < n → i < ops.size → listed.getD i false = true := by
      intro n
      induction n with
      | zero => intro i h; omega
      | succ n ih =>
        intro i hin hio
        by_cases hl : listed.getD i false = true
        · exact hl
        · exfalso
          have ho : ops[i]? = some ops[i] := Array.getElem?_eq_getElem hio
          have hlt : i < listed.size := by omega
          have : i ∈ Region.ready .any ops listed := mem_ready.2 ⟨by
            have : listed[i] = false := by simpa [Array.getD, hlt] using hl
            simp [Array.getD, hlt, this], ops[i], ho, fun e he hb => by
            have := lexOk.get hlex i ops[i] (by simp) e he
            exact ih e.on (by omega) (by omega)⟩
          rw [hr] at this
          cases this
    have hall : (fun i => listed.getD i false) = fun i => decide (i < ops.size) := by
      funext i
      by_cases h : i < ops.size
      · rw [key (i + 1) i (by omega) h, decide_eq_true h]
      · rw [decide_eq_false h]
        simp [Array.getD, show ¬ i < listed.size by omega]
    refine fin f w (by rw [← hall]; exact hP) (fun i hi => hV i (key (i + 1) i (by omega) hi))
  · have : (fun i => (Array.replicate ops.size false).getD i false) = fun _ => false := by
      funext i
      simp [Array.getD_eq_getD_getElem?, Array.getElem?_replicate]
      split <;> simp
    rw [this]; exact hI
  · simp [Array.getD_eq_getD_getElem?, Array.getElem?_replicate] at hi
    split at hi <;> simp at hi
end
end Go.Proofs.YtncfbocbigdhiaaGreat.O
