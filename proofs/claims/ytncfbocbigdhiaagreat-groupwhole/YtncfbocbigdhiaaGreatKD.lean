/- Texts of this seat, one behind the other: FW1, FR2, FW2, FV1, FY1, FY2, FZ1, FZ2, FX1, FX2. -/
import Derived.Test.YtncfbocbigdhiaaGreatKC
import Derived.Test.YtncfbocbigdhiaaGreatKB
/- The Builder, as a call; medium's Read: under way. -/
namespace Go.Proofs.YtncfbocbigdhiaaGreat.F
set_option maxRecDepth 100000
set_option maxRecDepth 100000
open Go.RowKit
def Bld (b : Nat) (l : List UInt8) (w : World) : Prop := Lib.IsBuilderF 141 5 b b (Lib.byteCells l) w
theorem bld_new (w : World) : Bld w.heap.size [] (w.alloc (.cells #[.pointer none, .slice none 0 0] 141)) :=
  Or.inl ⟨Nat.le_refl _, .slice none 0 0, heap_new _ _, ⟨rfl, Or.inl ⟨rfl, rfl⟩⟩, by intro e; cases e⟩
theorem bld_write (b : Nat) (l : List UInt8) (s : ByteArray) (w : World) (h : Bld b l w) (hl : l.length + s.size ≤ 1000000) :
    Calls Tryz.prog 95 #[.pointer (some ⟨b, 0, none⟩), .string s] w fun e w' => e = .returned (.tuple #[.int .i64 (s.size : Nat), .nilIface]) ∧ Bld b (l ++ s.data.toList) w' ∧ Lib.OthersKept 5 (some b) w w' ∧ Below b w w' := by
  have hb : b ≤ w.heap.size := by
    rcases h with ⟨_, v, h1, _⟩ | ⟨_, v, h1, _⟩ <;> exact Nat.le_of_lt (getElem?_lt h1)
  have hlen : (Lib.byteCells l).length = l.length := by rw [Lib.byteCells_length]
  refine (Any.Builder_WriteString_k { Tryz.lays105 with } Tryz.extra105 b b (Lib.byteCells l) s w h (by rw [hlen]; omega) hb).mono ?_
  rintro e w' ⟨he, h1, h2, h3⟩
  refine ⟨he, Or.inr ?_, h3, h2⟩
  have e2 : Lib.byteCells l ++ Lib.strCells s = Lib.byteCells (l ++ s.data.toList) := by
    unfold Lib.byteCells Lib.strCells
    rw [List.map_append]
  rw [e2] at h1
  exact h1
theorem bld_string (b : Nat) (l : List UInt8) (w : World) (h : Bld b l w) :
    Calls Tryz.prog 96 #[.pointer (some ⟨b, 0, none⟩)] w fun e w' => e = .returned (.string ⟨l.toArray⟩) ∧ Lib.OthersKept 5 (some b) w w' ∧ Below b w w' := by
  have hb : b ≤ w.heap.size := by
    rcases h with ⟨_, v, h1, _⟩ | ⟨_, v, h1, _⟩ <;> exact Nat.le_of_lt (getElem?_lt h1)
  refine (Any.Builder_String_any_k { Tryz.lays105 with } Tryz.extra105 b b l w h hb).mono ?_
  rintro e w' ⟨he, _, h2, h3⟩
  exact ⟨he, h3, h2⟩
theorem Bld.of_blocks {b : Nat} {l : List UInt8} {w w' : World} (h : Bld b l w) (hk : ∀ k o, w.heap[k]? = some o → (k = b ∨ ∃ c fz, o = .cells c 5 fz) → w'.heap[k]? = some o) : Bld b l w' := by
  have one : ∀ p, Lib.BuilderAtF 141 5 b b p (Lib.byteCells l) w → Lib.BuilderAtF 141 5 b b p (Lib.byteCells l) w' := by
    rintro p ⟨h0, v, h1, h2, h3⟩
    refine ⟨h0, v, hk b _ h1 (Or.inl rfl), ⟨h2.1, ?_⟩, h3⟩
    rcases h2.2 with q | ⟨g, cap, cur, fz, q1, q2, q3, q4⟩
    · exact Or.inl q
    · exact Or.inr ⟨g, cap, cur, fz, q1, q2, hk g _ q3 (Or.inr ⟨cur, fz, rfl⟩), q4⟩
  rcases h with h | h
  · exact Or.inl (one _ h)
  · exact Or.inr (one _ h)
section
variable {b0 : Nat} {w0 : World} {L : Loc} {st : St} {lv : Value} {oth : List (Nat × Obj)} {w : World}
theorem One.with_ty (h : One b0 w0 L st lv oth w) {k : Nat} {c : Array Value} {t : TypeId} {fr : Nat × Nat} (hk : w.heap[k]? = some (.cells c t fr)) (ht : t ≠ 101 ∧ t ≠ 90 ∧ t ≠ 97 ∧ t ≠ 150 ∧ t ≠ 152) (hb : b0 ≤ k) : One b0 w0 L st lv ((k, .cells c t fr) :: oth) w := by
  have ne : ∀ {j : Nat} {c' : Array Value} {t' : TypeId}, w.heap[j]? = some (.cells c' t') → t ≠ t' → k ≠ j := by
    intro j c' t' hj htt e
    rw [← e, hk] at hj
    injection hj with hj
    injection hj with _ hj _
    exact htt hj
  refine { h with oth := ?_ }
  intro p hp
  rcases List.mem_cons.1 hp with rfl | hp
  · exact ⟨hk, ⟨ne h.pool ht.1, ne h.rowb ht.2.1, ne h.dev ht.2.2.1, ne h.sec ht.2.2.2.1⟩, fun c' e => by injection e with _ e _; exact ht.2.2.2.2 e, hb⟩
  · exact h.oth p hp
theorem One.others {w' : World} {b : Nat} {cb : Array Value} (h : One b0 w0 L st lv oth w) (hk : Lib.OthersKept 5 (some b) w w') (hbl : Below b w w') (hb0 : b0 ≤ b) (hnb : w.heap[b]? = some (.cells cb 141)) (ho : ∀ p ∈ oth, p.1 ≠ b ∧ ∀ c fz, p.2 ≠ .cells c 5 fz) : One b0 w0 L st lv oth w' := by
  have same : ∀ {j : Nat} {c : Array Value} {t : TypeId}, w.heap[j]? = some (.cells c t) → t ≠ 5 → t ≠ 141 → w'.heap[j]? = some (.cells c t) := by
    intro j c t hj h5 h127
    refine hk j _ hj ?_ (fun c' fz e => by injection e with _ e _; exact h5 e)
    intro e
    injection e with e
    rw [e, hnb] at hj
    injection hj with hj
    injection hj with _ hj _
    exact h127 hj.symm
  refine ⟨?_, h.bP, h.bR, h.bD, h.bS, same h.pool (by decide) (by decide), same h.rowb (by decide) (by decide), h.rc0, same h.dev (by decide) (by decide), same h.sec (by decide) (by decide), ⟨h.own.1, ?_⟩, ?_⟩
  · exact h.below.trans (hbl.mono hb0)
  · rcases h.own.2 with q | ⟨g, cap, cur, q1, q2, q3, q4⟩
    · exact Or.inl q
    · exact Or.inr ⟨g, cap, cur, q1, q2, same q3 (by decide) (by decide), q4⟩
  · intro p hp
    obtain ⟨o1, o2, o3, o4⟩ := h.oth p hp
    obtain ⟨q1, q2⟩ := ho p hp
    exact ⟨hk p.1 _ o1 (fun e => q1 (Option.some.inj e)) q2, o2, o3, o4⟩
def rdsL (st : St) (frm : Nat) : Nat → List UInt8
  | 0 => []
  | k + 1 => rdsL st frm k ++ rdB st (frm + k)
/-- Behind k sectors that were read, of c operations. -/
def RS (b0 : Nat) (w0 : World) (L : Loc) (st : St) (oth : List (Nat × Obj)) (b frm k c : Nat) (w : World) : Prop := ∃ lv, One b0 w0 L { st with count := st.count + (c : Int) } lv oth w ∧ Bld b (rdsL st frm k) w
theorem RS.below {b frm k c : Nat} {w' : World} (h : RS b0 w0 L st oth b frm k c w) (hb : Below w.heap.size w w') : RS b0 w0 L st oth b frm k c w' := by
  obtain ⟨lv, h1, h2⟩ := h
  exact ⟨lv, h1.ofBelow hb, h2.of_blocks (fun j o hj _ => (hb.block j (getElem?_lt hj)).trans hj)⟩
theorem RS.read {b frm k : Nat} (h : RS b0 w0 L st oth b frm k k w) (hb0 : b0 ≤ b) (hdn : st.down = false) (ht : st.there = true) (haw : st.aw = false) (hhw : st.hw = false) (hi : frm + k < st.n) (hs8 : SecOk st) (hnb : st.n ≤ 9223372036854775807) (hc : 0 ≤ st.count + (k : Int) ∧ st.count + (k : Int) ≤ 1000000) :
    Calls Tryz.prog 132 #[.pointer (some ⟨L.P, 0, none⟩), hnd st.serial st.session, .int .i64 ((frm + k : Nat) : Int)] w fun e w' => e = .returned (.tuple #[.string (rd st (frm + k)), .int .i64 0]) ∧ RS b0 w0 L st oth b frm k (k + 1) w' := by
  obtain ⟨lv, h1, h2⟩ := h
  have key : ∃ oth2, One b0 w0 L { st with count := st.count + (k : Int) } lv oth2 w ∧ (∀ p ∈ oth, p ∈ oth2) ∧ ∀ w', (∀ p ∈ oth2, w'.heap[p.1]? = some p.2) → Bld b (rdsL st frm k) w' := by
    have one : ∀ p, Lib.BuilderAtF 141 5 b b p (Lib.byteCells (rdsL st frm k)) w → ∃ oth2, One b0 w0 L { st with count := st.count + (k : Int) } lv oth2 w ∧ (∀ p ∈ oth, p ∈ oth2) ∧ ∀ w', (∀ p ∈ oth2, w'.heap[p.1]? = some p.2) → Lib.BuilderAtF 141 5 b b p (Lib.byteCells (rdsL st frm k)) w' := by
      rintro p ⟨q0, v, q1, q2, q3⟩
      have o1 := h1.with_ty q1 (by decide) hb0
      rcases q2.2 with ⟨r1, r2⟩ | ⟨g, cap, cur, fz, r1, r2, r3, r4⟩
      · refine ⟨_, o1, fun p hp => List.mem_cons_of_mem _ hp, fun w' hw => ⟨q0, v, hw _ (List.mem_cons_self ..), ⟨q2.1, Or.inl ⟨r1, r2⟩⟩, q3⟩⟩
      · refine ⟨_, o1.with_ty r3 (by decide) (Nat.le_trans hb0 r2), fun p hp => List.mem_cons_of_mem _ (List.mem_cons_of_mem _ hp), fun w' hw => ⟨q0, v, hw _ (List.mem_cons_of_mem _ (List.mem_cons_self ..)), ⟨q2.1, Or.inr ⟨g, cap, cur, fz, r1, r2, hw _ (List.mem_cons_self ..), r4⟩⟩, q3⟩⟩
    rcases h2 with h2 | h2
    · obtain ⟨oth2, a1, a2, a3⟩ := one _ h2
      exact ⟨oth2, a1, a2, fun w' hw => Or.inl (a3 w' hw)⟩
    · obtain ⟨oth2, a1, a2, a3⟩ := one _ h2
      exact ⟨oth2, a1, a2, fun w' hw => Or.inr (a3 w' hw)⟩
  obtain ⟨oth2, a1, a2, a3⟩ := key
  refine (a1.pread_ok (frm + k) hdn ht haw hhw hi ⟨hs8.size, hs8.bytes⟩ hnb hc).mono ?_
  rintro e w' ⟨rfl, lv', h'⟩
  refine ⟨rfl, lv', ?_, a3 w' (fun p hp => (h'.oth p hp).1)⟩
  have e : ({ ({ st with count := st.count + (k : Int) } : St) with count := ({ st with count := st.count + (k : Int) } : St).count + 1 } : St) = { st with count := st.count + ((k + 1 : Nat) : Int) } := by
    show ({ st with count := st.count + (k : Int) + 1 } : St) = _
    congr 1; omega
  rw [e] at h'
  exact h'.forget a2
end
end Go.Proofs.YtncfbocbigdhiaaGreat.F

/- The rule for statements that draw their order, by phases, where an edge that is of one compiler alone may lead to a later operation. -/
namespace Go.Proofs.YtncfbocbigdhiaaGreat.F
set_option maxRecDepth 100000
def lexOkB : Nat → List Oper → Bool
  | _, [] => true
  | k, o :: l => o.after.toList.all (fun e => !(Region.binds .any e) || decide (e.on < k)) && lexOkB (k + 1) l
theorem lexOkB.get : ∀ {k : Nat} {l : List Oper}, lexOkB k l = true → ∀ (i : Nat) (o : Oper), l[i]? = some o → ∀ e ∈ o.after, Region.binds .any e = true → e.on < k + i
  | _, [], _, _, _, h => by simp at h
  | k, o :: l, h, i, o', hi => by
    simp only [lexOkB, Bool.and_eq_true, List.all_eq_true] at h
    cases i with
    | zero =>
      simp at hi; subst hi
      intro e he hb
      have := h.1 e (by simpa using he)
      rw [hb] at this
      simpa using this
    | succ i => have := lexOkB.get h.2 i o' (by simpa using hi); intro e he hb; have := this e he hb; omega
section
variable {P : Program} {ops : Array Oper} {Q : Exit → Act → World → Prop}
theorem wp_region_pb {id : Nat} {a : Act} {w : World} (A : (Nat → Value) → Act) (V : Nat → Value → Prop) (Ph : (Nat → Bool) → (Nat → Value) → World → Prop) (f0 : Nat → Value)
    (hm : P.follows .mixedOrders = true) (hlex : lexOkB 0 ops.toList = true) (ha : a = A f0) (hI : Ph (fun _ => false) f0 w.drew)
    (hput : AllOps (fun i o => ∀ f v, (A f).put o.dst v = A (upd f i v)) 0 ops.toList)
    (step : AllOps (fun i o => ∀ (done : Nat → Bool) (f : Nat → Value) (w : World), Ph done f w → done i = false → DepsP V done f o.after.toList → ∀ K : Act → World → Prop, (∀ v w', V i v → Ph (updB done i) (upd f i v) w' → K ((A f).put o.dst v) w') →
      if Region.wanted o (yielded ops (A f).tmps) = true then Oper.wp P o (A f) w K Q else K ((A f).put o.dst undef) w) 0 ops.toList)
    (fin : ∀ (f : Nat → Value) (w : World), Ph (fun i => decide (i < ops.size)) f w → (∀ i, i < ops.size → V i (f i)) → Q .normal (A f) w) :
    (Code.region id ops true).wp P Q a w := by
  refine wp_region_any hm ?_
  refine wpAny_inv (fun listed b w => ∃ f, b = A f ∧ Ph (fun i => listed.getD i false) f w ∧ ∀ i, listed.getD i false = true → V i (f i)) ?_ ?_ ops.size _ a _ (by simp) (by simp) ⟨f0, ha, ?_, fun i hi => ?_⟩
  · rintro listed b w i ⟨f, rfl, hP, hV⟩ hs hi
    obtain ⟨h1, o, ho, hdep⟩ := mem_ready.1 hi
    have ho' : ops.toList[i]? = some o := by simpa using ho
    have hst := AllOps.get step i o ho'
    rw [Nat.zero_add] at hst
    have hlt : i < listed.size := by
      rw [hs]; exact (Array.getElem?_eq_some_iff.1 ho).1
    have hd : DepsP V (fun i => listed.getD i false) f o.after.toList := DepsP.of_all _ (fun e he hb => by
      have := hdep e (by simpa using he) hb
      exact ⟨this, hV e.on this⟩)
    have hset : (fun j => (listed.setIfInBounds i true).getD j false) = updB (fun j => listed.getD j false) i := by
      funext j
      unfold updB
      by_cases hji : j = i
      · subst hji; simp [hlt]
      · simp [Array.getD_eq_getD_getElem?, Ne.symm hji, hji]
    have h1' : listed.getD i false = false := by
      have : listed[i] = false := by simpa [Array.getD, hlt] using h1
      simp [Array.getD, hlt, this]
    have hK := hst (fun i => listed.getD i false) f w hP h1' hd (fun b' w' => ∃ f, b' = A f ∧ Ph (fun j => (listed.setIfInBounds i true).getD j false) f w' ∧ ∀ j, (listed.setIfInBounds i true).getD j false = true → V j (f j)) (fun v w' hv hP' => by
      refine ⟨upd f i v, by have := AllOps.get hput i o ho' f v; rwa [Nat.zero_add] at this, by rw [hset]; exact hP', fun j hj => ?_⟩
      by_cases hji : j = i
      · subst hji; simpa [upd] using hv
      · rw [show upd f i v j = f j from if_neg hji]
        refine hV j ?_
        simpa [Array.getD_eq_getD_getElem?, Array.getElem?_setIfInBounds, Ne.symm hji] using hj)
    unfold wpOp
    simp only [ho]
    split
    · rename_i hw
      rw [if_pos hw] at hK
      exact Or.inl hK
    · rename_i hw
      rw [if_neg hw] at hK
      exact hK
  · rintro listed b w ⟨f, rfl, hP, hV⟩ hs hr
    have key : ∀ n i, i < n → i < ops.size → listed.getD i false = true := by
      intro n
      induction n with
      | zero => intro i h; omega
      | succ n ih =>
        intro i hin hio
        by_cases hl : listed.getD i false = true
        · exact hl
        · exfalso
          have ho : ops[i]? = some ops[i] := Array.getElem?_eq_getElem hio
          have hlt : i < listed.size := by omega
          have : i ∈ Region.ready .any ops listed := mem_ready.2 ⟨by
            have : listed[i] = false := by simpa [Array.getD, hlt] using hl
            simp [Array.getD, hlt, this], ops[i], ho, fun e he hb => by
            have := lexOkB.get hlex i ops[i] (by simp) e he hb
            exact ih e.on (by omega) (by omega)⟩
          rw [hr] at this
          cases this
    have hall : (fun i => listed.getD i false) = fun i => decide (i < ops.size) := by
      funext i
      by_cases h : i < ops.size
      · rw [key (i + 1) i (by omega) h, decide_eq_true h]
      · rw [decide_eq_false h]
        simp [Array.getD, show ¬ i < listed.size by omega]
    refine fin f w (by rw [← hall]; exact hP) (fun i hi => hV i (key (i + 1) i (by omega) hi))
  · have : (fun i => (Array.replicate ops.size false).getD i false) = fun _ => false := by
      funext i
      simp [Array.getD_eq_getD_getElem?, Array.getElem?_replicate]
      split <;> simp
    rw [this]; exact hI
  · simp [Array.getD_eq_getD_getElem?, Array.getElem?_replicate] at hi
    split at hi <;> simp at hi
end
end Go.Proofs.YtncfbocbigdhiaaGreat.F

/- medium's Read of sectors that are there, as a call. -/
namespace Go.Proofs.YtncfbocbigdhiaaGreat.F
set_option maxRecDepth 100000
open Go.RowKit
def RV (L : Loc) (st : St) (M frm k : Nat) : Nat → Value → Prop
  | 0, v => v = .pointer (some ⟨M, 0, none⟩)
  | 1, v => v = .pointer (some ⟨M, 0, none⟩)
  | 2, v => v = .pointer (some ⟨M, 0, none⟩)
  | 3, v => v = .pointer (some ⟨L.P, 0, none⟩)
  | 4, v => v = .pointer (some ⟨M, 0, none⟩)
  | 5, v => v = .pointer (some ⟨M, 0, none⟩)
  | 6, v => v = .pointer (some ⟨M, 1, none⟩)
  | 7, v => v = hnd st.serial st.session
  | 8, v => v = .int .i64 (frm : Nat)
  | 9, v => v = .int .i64 (k : Nat)
  | 10, v => v = .int .i64 ((frm + k : Nat) : Int)
  | 11, v => v = .tuple #[.string (rd st (frm + k)), .int .i64 0]
  | 12, v => v = .tuple #[.string (rd st (frm + k)), .int .i64 0]
  | 13, v => v = .string (rd st (frm + k))
  | 14, v => v = .int .i64 0
  | 15, v => v = .string (rd st (frm + k))
  | 16, v => v = .int .i64 0
  | _, _ => True
structure RPh (b0 : Nat) (w0 : World) (L : Loc) (st : St) (oth : List (Nat × Obj)) (b frm k : Nat) (done : Nat → Bool) (f : Nat → Value) (W : World) : Prop where
  a : done 11 = false → RS b0 w0 L st oth b frm k k W
  b : done 11 = true → RS b0 w0 L st oth b frm k (k + 1) W
section
variable {b0 : Nat} {w0 : World} {L : Loc} {st : St} {lv : Value} {oth : List (Nat × Obj)} {w : World} {b frm k : Nat} {done : Nat → Bool} {f : Nat → Value} {W : World}
theorem RPh.pure (h : RPh b0 w0 L st oth b frm k done f W) (i : Nat) (hi : i ≠ 11) (v : Value) : RPh b0 w0 L st oth b frm k (updB done i) (upd f i v) W := by
  have a11 : updB done i 11 = done 11 := if_neg (Ne.symm hi)
  exact ⟨by rw [a11]; exact h.a, by rw [a11]; exact h.b⟩
theorem RPh.read {W' : World} (_ : RPh b0 w0 L st oth b frm k done f W) (hx : RS b0 w0 L st oth b frm k (k + 1) W') (v : Value) : RPh b0 w0 L st oth b frm k (updB done 11) (upd f 11 v) W' := by
  have a11 : updB done 11 11 = true := if_pos rfl
  exact ⟨by rw [a11]; exact (fun e => by cases e), fun _ => hx⟩
theorem RS.med {M c : Nat} (h : RS b0 w0 L st oth b frm k c W) (hm : (M, med L.P st.serial st.session) ∈ oth) : W.cell? ⟨M, 0, none⟩ = some (.pointer (some ⟨L.P, 0, none⟩)) ∧ W.cell? ⟨M, 1, none⟩ = some (.int .i64 st.serial) ∧ W.cell? ⟨M, 2, none⟩ = some (.int .i64 st.session) := by
  obtain ⟨lv, h1, _⟩ := h
  have e := (h1.oth _ hm).1
  exact ⟨cell_of e 0, cell_of e 1, cell_of e 2⟩
theorem RPh.cells {M : Nat} (h : RPh b0 w0 L st oth b frm k done f W) (hm : (M, med L.P st.serial st.session) ∈ oth) : W.cell? ⟨M, 0, none⟩ = some (.pointer (some ⟨L.P, 0, none⟩)) ∧ W.cell? ⟨M, 1, none⟩ = some (.int .i64 st.serial) ∧ W.cell? ⟨M, 2, none⟩ = some (.int .i64 st.session) := by
  cases hd : done 11 with
  | false => exact (h.a hd).med hm
  | true => exact (h.b hd).med hm
theorem rdsL_length (st : St) (frm : Nat) (hs : SecOk st) : ∀ k, frm + k ≤ st.n → (rdsL st frm k).length = 64 * k
  | 0, _ => rfl
  | k + 1, h => by
    show (rdsL st frm k ++ rdB st (frm + k)).length = _
    rw [List.length_append, rdsL_length st frm hs k (by omega)]
    unfold rdB
    rw [List.length_map, sec_length hs (by omega)]; omega
set_option maxHeartbeats 1000000 in
theorem One.mread (h : One b0 w0 L st lv oth w) (M : Nat) (hm : (M, med L.P st.serial st.session) ∈ oth) (h5 : ∀ p ∈ oth, ∀ c fz, p.2 ≠ .cells c 5 fz) (frm n : Nat) (hfit : frm + n ≤ st.n) (hn8 : st.n ≤ 1000) (hdn : st.down = false) (ht : st.there = true) (haw : st.aw = false) (hhw : st.hw = false) (hs8 : SecOk st) (hc : 0 ≤ st.count ∧ st.count ≤ 100000) :
    Calls Tryz.prog 101 #[.pointer (some ⟨M, 0, none⟩), .int .i64 (frm : Nat), .int .i64 (n : Nat)] w fun e w' => e = .returned (.string ⟨(rdsL st frm n).toArray⟩) ∧ ∃ lv', One b0 w0 L { st with count := st.count + (n : Int) } lv' oth w' := by
  have hlt := h.lts
  have H0 : Hid (RS b0 w0 L st oth w.heap.size frm 0 0 (w.alloc (.cells #[.pointer none, .slice none 0 0] 141))) := by
    refine ⟨lv, ?_, bld_new w⟩
    have := h.laid (.cells #[.pointer none, .slice none 0 0] 141)
    have e : ({ st with count := st.count + ((0 : Nat) : Int) } : St) = st := by cases st; simp
    rw [e]; exact this
  have hb0 : b0 ≤ w.heap.size := by have := getElem?_lt h.pool; have := h.bP; omega
  clear h
  generalize hb : w.heap.size = b at *
  have HLT : Hid (∀ p ∈ oth, p.1 < b) := hlt
  have H5 : Hid (∀ p ∈ oth, ∀ c fz, p.2 ≠ .cells c 5 fz) := h5
  have HM : Hid ((M, med L.P st.serial st.session) ∈ oth) := hm
  have HC : Hid (st.down = false ∧ st.there = true ∧ st.aw = false ∧ st.hw = false ∧ SecOk st ∧ 0 ≤ st.count ∧ st.count ≤ 100000) := ⟨hdn, ht, haw, hhw, hs8, hc⟩
  clear hlt h5 hm hdn ht haw hhw hs8 hc
  go_enter Tryz.func101, Tryz.ntmps101
  go_wp2
  go_loopw [12] (fun i wr => ∃ k : Nat, k ≤ n ∧ i = .int .i64 (k : Nat) ∧ Hid (RS b0 w0 L st oth b frm k k wr)) (fun i _ => n - (intOf i).toNat)
  case atStart => exact ⟨0, by omega, rfl, H0⟩
  case round =>
    obtain ⟨k, hk, rfl, hR0⟩ := hrel
    clear H0
    rcases Nat.lt_or_ge k n with hltn | hge
    · have hrd : Hid (∀ W, RS b0 w0 L st oth b frm k k W → Calls Tryz.prog 132 #[.pointer (some ⟨L.P, 0, none⟩), hnd st.serial st.session, .int .i64 ((frm + k : Nat) : Int)] W fun e w' => e = .returned (.tuple #[.string (rd st (frm + k)), .int .i64 0]) ∧ RS b0 w0 L st oth b frm k (k + 1) w') := by
        obtain ⟨q1, q2, q3, q4, q5, q6, q7⟩ := HC.out
        exact fun W hW => hW.read hb0 q1 q2 q3 q4 (by omega) q5 (by omega) (by omega)
      go_wp2_with fail
      refine wp_region_pb (fun f => ⟨#[.pointer (some ⟨M, 0, none⟩), .int .i64 (frm : Nat), .int .i64 (n : Nat), undef, undef, undef, .string ⟨#[]⟩, .pointer (some ⟨b, 0, none⟩), .int .i64 (k : Nat), f 15, f 16, .int .i64 (n : Nat), .int .i64 (k : Nat), .bool true, .int .i64 (k : Nat), f 12, f 0, f 1, f 2, f 3, f 4, f 5, f 6, f 7, f 8, f 9, f 10, f 11, f 13, f 14, u30, u31, u32, u33, u34, u35, u36, undef], []⟩) (RV L st M frm k) (RPh b0 w0 L st oth b frm k) (fun i => [u16, u17, u18, u19, u20, u21, u22, u23, u24, u25, u26, u27, u15, u28, u29, u9, u10].getD i undef) (by kernel_rfl) rfl rfl ?hI ?hput ?step ?fin
      case hI => exact ⟨fun _ => hR0.out.below ⟨rfl, rfl, rfl, Nat.le_refl _, fun _ _ => rfl⟩, fun e => by cases e⟩
      case fin =>
        intro f W hP hV
        have h1 : RS b0 w0 L st oth b frm k (k + 1) W := hP.b rfl
        have v15 : f 15 = .string (rd st (frm + k)) := hV 15 (by decide)
        have v16 : f 16 = .int .i64 0 := hV 16 (by decide)
        obtain ⟨lv1, o1, bl1⟩ := h1
        have c1 : W.cell? ⟨M, 1, none⟩ = some (.int .i64 st.serial) := cell_of (o1.oth _ HM.out).1 1
        have hrl := rdsL_length st frm HC.out.2.2.2.2.1 k (by omega)
        have hr64 : (rd st (frm + k)).size = 64 := by show (rdB st (frm + k)).toArray.size = 64; simp [rdB, sec_length HC.out.2.2.2.2.1 (show frm + k < st.n by omega)]
        have hbw := bld_write b (rdsL st frm k) (rd st (frm + k)) W bl1 (by omega)
        have O1 : Hid (∃ lv, One b0 w0 L { st with count := st.count + ((k + 1 : Nat) : Int) } lv oth W ∧ Bld b (rdsL st frm k) W) := ⟨lv1, o1, bl1⟩
        clear hP hV o1 bl1 hrl
        generalize f 15 = x15 at *
        subst v15
        generalize f 16 = x16 at *
        subst v16
        generalize hrr : rd st (frm + k) = r at *
        go_wp2_with fail
        go_call (serial_any M st.serial W c1) as e W1 ⟨rfl, hW1⟩
        rw [← hW1] at hbw O1
        clear hW1 c1
        go_wp2_with fail
        go_call (fail_ok st.serial W1) as e W2 ⟨rfl, hW2⟩
        rw [← hW2] at hbw O1
        clear hW2
        go_wp2_with fail
        go_call hbw as e W3 ⟨rfl, bl3, ok3, be3⟩
        have H3 : Hid (RS b0 w0 L st oth b frm (k + 1) (k + 1) W3) := by
          obtain ⟨lv1, o1, bl1⟩ := O1.out
          obtain ⟨cb, hcb⟩ : ∃ cb, W2.heap[b]? = some (.cells cb 141) := by
            rcases bl1 with ⟨_, v, q, _⟩ | ⟨_, v, q, _⟩ <;> exact ⟨_, q⟩
          refine ⟨lv1, o1.others ok3 be3 hb0 hcb (fun p hp => ⟨by have := HLT.out p hp; omega, H5.out p hp⟩), ?_⟩
          have e : r.data.toList = rdB st (frm + k) := by rw [← hrr]; rfl
          show Bld b (rdsL st frm k ++ rdB st (frm + k)) W3
          rw [← e]; exact bl3
        clear hbw bl3 ok3 be3 O1
        go_wp2
        go_roundw
        case rel => exact ⟨k + 1, by omega, by simp, H3⟩
        case measure => simp only [intOf]; omega
      case hput =>
        repeat (refine ⟨fun f v => rfl, ?_⟩)
        trivial
      case step =>
        refine ⟨?_, ?_⟩
        · intro done f W hP hdn hd K hK
          clear hd
          go_simp
          exact hK _ _ rfl (hP.pure _ (by decide) _)
        refine ⟨?_, ?_⟩
        · intro done f W hP hdn hd K hK
          have d0 := (hd.1 rfl).2
          have e0 := (hd.1 rfl).1
          clear hd
          replace d0 : f 0 = .pointer (some ⟨M, 0, none⟩) := d0
          generalize f 0 = x0 at *
          subst d0
          clear e0
          go_simp
          exact hK _ _ rfl (hP.pure _ (by decide) _)
        refine ⟨?_, ?_⟩
        · intro done f W hP hdn hd K hK
          have d1 := (hd.1 rfl).2
          have e1 := (hd.1 rfl).1
          clear hd
          replace d1 : f 1 = .pointer (some ⟨M, 0, none⟩) := d1
          generalize f 1 = x1 at *
          subst d1
          clear e1
          go_simp
          exact hK _ _ rfl (hP.pure _ (by decide) _)
        refine ⟨?_, ?_⟩
        · intro done f W hP hdn hd K hK
          have d2 := (hd.1 rfl).2
          have e2 := (hd.1 rfl).1
          clear hd
          replace d2 : f 2 = .pointer (some ⟨M, 0, none⟩) := d2
          generalize f 2 = x2 at *
          subst d2
          clear e2
          have hm := (hP.cells HM.out).1
          go_simp
          exact hK _ _ rfl (hP.pure _ (by decide) _)
        refine ⟨?_, ?_⟩
        · intro done f W hP hdn hd K hK
          clear hd
          go_simp
          exact hK _ _ rfl (hP.pure _ (by decide) _)
        refine ⟨?_, ?_⟩
        · intro done f W hP hdn hd K hK
          have d4 := (hd.1 rfl).2
          have e4 := (hd.1 rfl).1
          clear hd
          replace d4 : f 4 = .pointer (some ⟨M, 0, none⟩) := d4
          generalize f 4 = x4 at *
          subst d4
          clear e4
          go_simp
          exact hK _ _ rfl (hP.pure _ (by decide) _)
        refine ⟨?_, ?_⟩
        · intro done f W hP hdn hd K hK
          have d5 := (hd.1 rfl).2
          have e5 := (hd.1 rfl).1
          clear hd
          replace d5 : f 5 = .pointer (some ⟨M, 0, none⟩) := d5
          generalize f 5 = x5 at *
          subst d5
          clear e5
          go_simp
          exact hK _ _ rfl (hP.pure _ (by decide) _)
        refine ⟨?_, ?_⟩
        · intro done f W hP hdn hd K hK
          have d6 := (hd.1 rfl).2
          have e6 := (hd.1 rfl).1
          clear hd
          replace d6 : f 6 = .pointer (some ⟨M, 1, none⟩) := d6
          generalize f 6 = x6 at *
          subst d6
          clear e6
          have hm1 := (hP.cells HM.out).2.1
          have hm2 := (hP.cells HM.out).2.2
          go_simp
          exact hK _ _ rfl (hP.pure _ (by decide) _)
        refine ⟨?_, ?_⟩
        · intro done f W hP hdn hd K hK
          clear hd
          go_simp
          exact hK _ _ rfl (hP.pure _ (by decide) _)
        refine ⟨?_, ?_⟩
        · intro done f W hP hdn hd K hK
          clear hd
          go_simp
          exact hK _ _ rfl (hP.pure _ (by decide) _)
        refine ⟨?_, ?_⟩
        · intro done f W hP hdn hd K hK
          have d8 := (hd.1 rfl).2
          have d9 := (hd.2.1 rfl).2
          have e8 := (hd.1 rfl).1
          have e9 := (hd.2.1 rfl).1
          clear hd
          replace d8 : f 8 = .int .i64 (frm : Nat) := d8
          replace d9 : f 9 = .int .i64 (k : Nat) := d9
          generalize f 8 = x8 at *
          subst d8
          clear e8
          generalize f 9 = x9 at *
          subst d9
          clear e9
          go_simp
          exact hK _ _ (by show Value.int _ _ = Value.int _ _; first | rfl | (congr 1; rw [IntKind.wrap_i64]; omega) | (congr 1; omega)) (hP.pure _ (by decide) _)
        refine ⟨?_, ?_⟩
        · intro done f W hP hdn hd K hK
          have d3 := (hd.1 rfl).2
          have d7 := (hd.2.1 rfl).2
          have d10 := (hd.2.2.1 rfl).2
          have e3 := (hd.1 rfl).1
          have e7 := (hd.2.1 rfl).1
          have e10 := (hd.2.2.1 rfl).1
          clear hd
          replace d3 : f 3 = .pointer (some ⟨L.P, 0, none⟩) := d3
          replace d7 : f 7 = hnd st.serial st.session := d7
          replace d10 : f 10 = .int .i64 ((frm + k : Nat) : Int) := d10
          have hdn11 : done 11 = false := hdn
          have hx0 := hP.a hdn11
          generalize f 3 = x3 at *
          subst d3
          clear e3
          generalize f 7 = x7 at *
          subst d7
          clear e7
          generalize f 10 = x10 at *
          subst d10
          clear e10
          go_simp
          refine Calls.mono (hrd.out W hx0) ?_
          rintro e W' ⟨rfl, hx1⟩
          exact hK _ _ rfl (hP.read hx1 _)
        refine ⟨?_, ?_⟩
        · intro done f W hP hdn hd K hK
          have d11 := (hd.1 rfl).2
          have e11 := (hd.1 rfl).1
          clear hd
          replace d11 : f 11 = .tuple #[.string (rd st (frm + k)), .int .i64 0] := d11
          generalize f 11 = x11 at *
          subst d11
          clear e11
          go_simp
          exact hK _ _ rfl (hP.pure _ (by decide) _)
        refine ⟨?_, ?_⟩
        · intro done f W hP hdn hd K hK
          have d12 := (hd.1 rfl).2
          have e12 := (hd.1 rfl).1
          clear hd
          replace d12 : f 12 = .tuple #[.string (rd st (frm + k)), .int .i64 0] := d12
          generalize f 12 = x12 at *
          subst d12
          clear e12
          go_simp
          exact hK _ _ rfl (hP.pure _ (by decide) _)
        refine ⟨?_, ?_⟩
        · intro done f W hP hdn hd K hK
          have d12 := (hd.1 rfl).2
          have e12 := (hd.1 rfl).1
          clear hd
          replace d12 : f 12 = .tuple #[.string (rd st (frm + k)), .int .i64 0] := d12
          generalize f 12 = x12 at *
          subst d12
          clear e12
          go_simp
          exact hK _ _ rfl (hP.pure _ (by decide) _)
        refine ⟨?_, ?_⟩
        · intro done f W hP hdn hd K hK
          have d13 := (hd.1 rfl).2
          have e13 := (hd.1 rfl).1
          clear hd
          replace d13 : f 13 = .string (rd st (frm + k)) := d13
          generalize f 13 = x13 at *
          subst d13
          clear e13
          go_simp
          exact hK _ _ rfl (hP.pure _ (by decide) _)
        refine ⟨?_, ?_⟩
        · intro done f W hP hdn hd K hK
          have d14 := (hd.1 rfl).2
          have e14 := (hd.1 rfl).1
          clear hd
          replace d14 : f 14 = .int .i64 0 := d14
          generalize f 14 = x14 at *
          subst d14
          clear e14
          go_simp
          exact hK _ _ rfl (hP.pure _ (by decide) _)
        trivial
    · obtain rfl : k = n := by omega
      obtain ⟨lv1, o1, bl1⟩ := hR0.out
      have hbs := bld_string b (rdsL st frm k) wr bl1
      obtain ⟨cb, hcb⟩ : ∃ cb, wr.heap[b]? = some (.cells cb 141) := by
        rcases bl1 with ⟨_, v, q, _⟩ | ⟨_, v, q, _⟩ <;> exact ⟨_, q⟩
      have O1 : Hid (∀ W, Lib.OthersKept 5 (some b) wr W → Below b wr W → One b0 w0 L { st with count := st.count + (k : Int) } lv1 oth W) := fun W h1 h2 => o1.others h1 h2 hb0 hcb (fun p hp => ⟨by have := HLT.out p hp; omega, H5.out p hp⟩)
      clear hR0 o1 bl1 hcb
      go_wp2_with fail
      go_call hbs as e W2 ⟨rfl, ok2, be2⟩
      have HF : Hid _ := O1.out W2 ok2 be2
      clear hbs ok2 be2
      go_wp2
      go_returns
      exact ⟨rfl, lv1, HF.out⟩
end
end Go.Proofs.YtncfbocbigdhiaaGreat.F

/- What MediumBreaks hands to Guard, as calls. -/
namespace Go.Proofs.YtncfbocbigdhiaaGreat.F
set_option maxRecDepth 100000
open Go.RowKit
theorem pad_size (s : ByteArray) (h : s.size ≤ 64) : (pad s).size = 64 := by
  unfold pad
  rw [ByteArray.size_append]
  have : (⟨(List.replicate (64 - s.size) (0 : UInt8)).toArray⟩ : ByteArray).size = 64 - s.size := by show Array.size _ = _; simp
  rw [this]; omega
theorem chunk_size (s : ByteArray) (k : Nat) : (chunk s k).size ≤ 64 := by
  unfold chunk; rw [ByteArray.size_extract]; omega
theorem st0_ok (serial : Int) (n : Nat) : SecOk (st0 serial n) := by
  refine ⟨by show (secs0 n).size = n * 64; simp [secs0], fun u hu => ?_⟩
  have hu' : u ∈ (secs0 n).toList := hu
  unfold secs0 at hu'
  rw [Array.toList_replicate] at hu'
  exact ⟨0, (List.mem_replicate.1 hu').2⟩
/-- Where the work stands behind k sectors. -/
structure BrkInv (a : Nat) (d : Bool) (k : Nat) (st : St) : Prop where
  serial : st.serial = 7
  session : st.session = 1
  there : st.there = true
  down : st.down = false
  hw : st.hw = false
  n : st.n = 8
  go : k ≤ a → SecOk st ∧ LooseEnd st k ∧ st.ln = k ∧ st.aw = true ∧ st.al = ((a - k : Nat) : Int) ∧ st.ad = d ∧ st.count = (k : Int)
  over : k = a + 1 → st.ln = if d then a + 1 else a
theorem brk_write (b0 : Nat) (w0 : World) (L : Loc) (oth : List (Nat × Obj)) (M : Nat) (hM : (M, med L.P 7 1) ∈ oth) (s : ByteArray) (hs : s.size ≤ 500) (a : Nat) (ha : a ≤ 10) (d : Bool) (w : World) (h0 : ∃ st lv, One b0 w0 L st lv oth w ∧ BrkInv a d 0 st) :
    Calls Tryz.prog 28 #[.pointer (some ⟨M, 0, none⟩), .int .i64 0, .string s] w fun e w' => (a < parts s ∧ e = .panicked [fl 7 7] ∧ ∃ st lv, One b0 w0 L st lv oth w' ∧ BrkInv a d (a + 1) st) ∨ (parts s ≤ a ∧ e = .returned (.tuple #[]) ∧ ∃ st lv, One b0 w0 L st lv oth w' ∧ BrkInv a d (parts s) st) := by
  have hp8 : parts s ≤ 8 := by unfold parts; omega
  refine (mwrite_any M L.P 7 1 0 s (by omega) (by decide) (fun k W => ∃ st lv, One b0 w0 L st lv oth W ∧ BrkInv a d k st) (fun k => if k = a then 7 else 0)
    (fun k W W' ⟨st, lv, h, hi⟩ hb => ⟨st, lv, h.ofBelow hb, hi⟩) (fun k W ⟨st, lv, h, _⟩ => (h.oth _ hM).1) ?_ w h0).mono ?_
  · rintro k W hk hz ⟨st, lv, h, hi⟩
    have hka : k ≤ a := by
      rcases Nat.lt_or_ge a k with h1 | h1
      · have := hz a h1; simp at this
      · exact h1
    obtain ⟨g1, g2, g3, g4, g5, g6, g7⟩ := hi.go hka
    have hps := pad_size (chunk s k) (chunk_size s k)
    rcases Nat.lt_or_ge k a with hlt | hge
    · have hw := h.pwrite_wait k (pad (chunk s k)) hps hi.down hi.there g4 (by rw [g5]; omega) (by rw [g5]; omega) hi.hw (by rw [hi.n]; omega) g1 g2 (by rw [hi.n]; decide) (by rw [g7]; omega)
      rw [show hnd st.serial st.session = hnd 7 1 by rw [hi.serial, hi.session]] at hw
      rw [Int.zero_add, if_neg (by omega)]
      refine hw.mono ?_
      rintro e W' ⟨rfl, lv', h'⟩
      refine ⟨rfl, _, lv', h', ⟨hi.serial, hi.session, hi.there, hi.down, hi.hw, hi.n, fun hk1 => ?_, fun e => ?_⟩⟩
      · have n1 := (⟨g1.size, g1.bytes⟩ : SecOk { st with al := st.al - 1 }).wrote (i := k) (by show k < st.n; rw [hi.n]; omega) (pad (chunk s k)) hps
        have n2 := (⟨g2.len, g2.few, g2.at0⟩ : LooseEnd { st with al := st.al - 1 } k).next ⟨g1.size, g1.bytes⟩ (by show k < st.n; rw [hi.n]; omega) (Nat.lt_succ_self k) (by show st.ln + 1 ≤ 5000; rw [g3]; omega) (pad (chunk s k))
        refine ⟨⟨n1.size, n1.bytes⟩, ⟨n2.len, n2.few, n2.at0⟩, ?_, g4, ?_, g6, ?_⟩
        · show st.ln + 1 = k + 1; rw [g3]
        · show st.al - 1 = _; rw [g5]; omega
        · show st.count + 1 = _; rw [g7]; omega
      · omega
    · obtain rfl : k = a := by omega
      have hw := h.pwrite_now k (pad (chunk s k)) hps hi.down hi.there g4 (by rw [g5]; simp) (by rw [hi.n]; omega) g1 g2 (by rw [hi.n]; decide)
      rw [show hnd st.serial st.session = hnd 7 1 by rw [hi.serial, hi.session]] at hw
      rw [Int.zero_add, if_pos rfl]
      refine hw.mono ?_
      rintro e W' ⟨rfl, lv', h'⟩
      rw [g6] at h'
      cases d with
      | true =>
        rw [if_pos rfl] at h'
        exact ⟨rfl, _, lv', h', ⟨hi.serial, hi.session, hi.there, hi.down, hi.hw, hi.n, fun hk1 => by omega, fun _ => by show st.ln + 1 = _; rw [g3]; rfl⟩⟩
      | false =>
        rw [if_neg (by decide)] at h'
        exact ⟨rfl, _, lv', h', ⟨hi.serial, hi.session, hi.there, hi.down, hi.hw, hi.n, fun hk1 => by omega, fun _ => by show st.ln = _; rw [g3]; rfl⟩⟩
  · rintro e w' (⟨k, hk, hz, hne, rfl, hX⟩ | ⟨hz, rfl, hX⟩)
    · have hka : k = a := by
        by_cases h : k = a
        · exact h
        · exact absurd (by simp [h]) hne
      subst hka
      left
      refine ⟨hk, ?_, hX⟩
      simp
    · right
      refine ⟨?_, rfl, hX⟩
      rcases Nat.lt_or_ge a (parts s) with h | h
      · have := hz a h; simp at this
      · exact h
end Go.Proofs.YtncfbocbigdhiaaGreat.F

/- Fill; settle with one that stays; Crash; the fixed fact that each statement on flash begins with. -/
namespace Go.Proofs.YtncfbocbigdhiaaGreat.F
set_option maxRecDepth 100000
open Go.RowKit
theorem info5 : (Tryz.prog.info? 5).map (fun i => (i.zero, i.size, i.bytes)) = some (some (.int .u8 0), 1, 1) := by kernel_rfl
theorem mk_64 (w : World) : (Instr.makeSlice 75 (.int .i64 64) (.int .i64 64)).run Tryz.prog w = .ok (.slice (some ⟨w.heap.size, 0, none⟩) 64 64) (w.alloc (.cells (Array.replicate 64 (.int .u8 0)) 5)) := by
  obtain ⟨i, hi, hz, hs, hb⟩ := info_parts info5
  have := run_make (P := Tryz.prog) w 75 5 i (.int .u8 0) Tryz.underlying75 hi hz .i64 .i64 64 64 (by decide) (by decide) (by rw [hb]; decide) (by decide)
  rw [hs] at this
  have e : madeCells (Value.int .u8 0).cells ((64 : Int).toNat * 1) = Array.replicate 64 (.int .u8 0) := by kernel_rfl
  rw [e] at this
  exact this
theorem byteCells_rep (n : Nat) : Lib.byteCells (List.replicate n (0 : UInt8)) = List.replicate n (.int .u8 0) := by
  unfold Lib.byteCells; simp
theorem setCells_below (b : Nat) : ∀ (vs : List Value) (o : Nat) (w : World), Below b w (w.setCells b o vs)
  | [], _, w => Below.refl _ _
  | v :: r, o, w => by
    rw [World.setCells]
    have h1 : Below b w (w.setCell ⟨b, o, none⟩ v) := ⟨rfl, rfl, rfl, by simp [World.setCell], fun k hk => Below.heap_setCell _ _ _ _ (by show k ≠ b; omega)⟩
    exact h1.trans (setCells_below b r (o + 1) _)
section
variable {b0 : Nat} {w0 : World} {L : Loc} {st : St} {lv : Value} {oth : List (Nat × Obj)} {w : World}
set_option maxRecDepth 100000 in
/-- settle, where one sector is loose and the first choice is odd: it stays. -/
theorem One.settle1 (h : One b0 w0 L st lv oth w) (hl1 : st.ln = 1) (G : Nat) (x : Int) (hx : ¬ x.tmod 2 = 0) (hG : (G, .cells #[.int .i64 x] 3) ∈ oth) (ho1 : ∀ u ∈ st.loose, u.oneCell' = true) :
    Calls Tryz.prog 61 #[.pointer (some ⟨L.D, 0, none⟩), .slice (some ⟨G, 0, none⟩) 1 1] w fun e w' => (∃ ao, e = .returned (.slice ao 0 0)) ∧ One b0 w0 L { st with ln := 0, loose := [] } (.slice none 0 0) oth w' := by
  obtain ⟨g, cap, cur, rfl, hb, hg, hn, hm, hsz, htk⟩ : ∃ g cap cur, lv = .slice (some ⟨g, 0, none⟩) 1 cap ∧ b0 ≤ g ∧ w.heap[g]? = some (.cells cur 152) ∧ 1 ≤ cap ∧ cap ≤ maxLen ∧ cur.size = cap * 65 ∧ cur.toList.take 65 = st.loose := by
    rcases h.own.2 with ⟨_, h1⟩ | ⟨g, cap, cur, h1, h2, h3, h4, h5, h6, h7⟩
    · omega
    · rw [hl1] at h1 h4 h7
      exact ⟨g, cap, cur, h1, h2, h3, h4, h5, h6, by simpa using h7⟩
  have hlen : st.loose.length = 65 := by have := h.own.1; rw [hl1] at this; omega
  have hr : w.rangeAt g 0 st.loose := by
    intro j v hj
    rw [cell_of hg, Nat.zero_add]
    rw [← htk, List.getElem?_take] at hj
    split at hj
    · rw [Array.getElem?_toList] at hj; exact hj
    · cases hj
  have hl65 : (Tryz.prog.info? 152).map (·.size) = some st.loose.length := by rw [size149, hlen]
  have d4 := h.dc.2.2.2.2.1
  have cG : w.cell? ⟨G, 0, none⟩ = some (.int .i64 x) := cell_of (h.oth _ hG).1 0
  have h1c : st.loose.toArray.all (·.oneCell') = true := all_oneCell_toArray ho1
  have hzs : Tryz.zeroCells152.size = 65 := by kernel_rfl
  have hth : (w.alloc (.cells Tryz.zeroCells152 152)).there w.heap.size 0 st.loose.toArray.size := by
    intro j hj
    have hj2 : j < 65 := by simpa [hlen] using hj
    rw [Nat.zero_add, cell_of (heap_new _ _), frz_of (heap_new _ _)]
    refine ⟨?_, rfl⟩
    rw [Array.getElem?_eq_getElem (by rw [hzs]; exact hj2)]; rfl
  have hbA : Below w.heap.size w ((w.alloc (.cells Tryz.zeroCells152 152)).setCells w.heap.size 0 st.loose) := by
    have h1 : Below w.heap.size w (w.alloc (.cells Tryz.zeroCells152 152)) := Below.alloc (Below.refl _ _) (Nat.le_refl _) _
    exact h1.trans (setCells_below _ _ _ _)
  have h2 := h.ofBelow hbA
  have hsA : (Tryz.prog.info? 152).map (·.size) = some st.loose.toArray.size := by rw [size149]; simp [hlen]
  have hf := h2.flush
  have cG2 : ((w.alloc (.cells Tryz.zeroCells152 152)).setCells w.heap.size 0 st.loose).cell? ⟨G, 0, none⟩ = some (.int .i64 x) := cell_of (h2.oth _ hG).1 0
  clear h h2
  have hxb : (x.tmod 2 != 0) = true := by simpa using hx
  clear hx
  generalize hW2 : (w.alloc (.cells Tryz.zeroCells152 152)).setCells w.heap.size 0 st.loose = W2 at *
  have hst : ∀ {ops : Array Oper} {rest : List Oper} {op : Oper} {a : Act} {Q : Exit → Act → World → Prop} (x y : Operand), op.guard = none → op.op = .store 152 x y → a.eval x = .pointer (some ⟨w.heap.size, 0, none⟩) → a.eval y = .agg st.loose.toArray → wpList Tryz.prog ops Q rest (a.put op.dst undef) W2 → wpList Tryz.prog ops Q (op :: rest) a (w.alloc (.cells Tryz.zeroCells152 152)) := by
    intro ops rest op a Q x y h1 h2 h3 h4 h5
    refine wpList_store_mid h1 152 x y h2 w.heap.size 0 st.loose.toArray h3 h4 hth hsA h1c ?_
    have e : (w.alloc (.cells Tryz.zeroCells152 152)).setCells w.heap.size 0 st.loose.toArray.toList = W2 := by rw [← hW2]
    rw [e]; exact h5
  have HST : Hid _ := @hst
  clear hst hW2
  go_enter Tryz.func61, Tryz.ntmps61
  go_wp2
  go_loopw [1, 13] (fun c i wr => (c = .slice (some ⟨G, 0, none⟩) 1 1 ∧ i = .int .i64 0 ∧ wr = w) ∨ (∃ ao, c = .slice ao 0 0 ∧ i = .int .i64 1 ∧ wr = W2)) (fun _ i _ => 1 - (intOf i).toNat)
  case atStart => exact Or.inl ⟨rfl, rfl, rfl⟩
  case round =>
    rcases hrel with ⟨rfl, rfl, rfl⟩ | ⟨ao, rfl, rfl, rfl⟩
    · clear hf
      go_wp2_with (first | (refine wpList_load_mid rfl 152 _ rfl g 0 rfl st.loose _ hr Tryz.underlying152 rfl hl65 ?_) | (refine HST.out _ _ rfl rfl rfl rfl ?_))
      go_roundw
      case rel => exact Or.inr ⟨_, rfl, by first | rfl | trivial, by first | rfl | trivial⟩
      case measure => simp only [intOf]; omega
    · go_wp2_with fail
      go_call hf as e w1 ⟨rfl, h1⟩
      have H1 : Hid _ := h1
      clear hf h1
      go_wp2
      go_returns
      exact ⟨⟨ao, rfl⟩, H1.out⟩
/-- Crash, where one sector is loose, the first choice is odd, and the device is there. -/
theorem One.crash1 (h : One b0 w0 L st lv oth w) (hl1 : st.ln = 1) (G : Nat) (x : Int) (hx : ¬ x.tmod 2 = 0) (hG : (G, .cells #[.int .i64 x] 3) ∈ oth) (ho1 : ∀ u ∈ st.loose, u.oneCell' = true) (ht : st.there = true) (hq : 0 ≤ st.session ∧ st.session ≤ 1000000) :
    Calls Tryz.prog 25 #[.pointer (some ⟨L.P, 0, none⟩), .slice (some ⟨G, 0, none⟩) 1 1] w fun e w' => e = .returned (.tuple #[]) ∧ One b0 w0 L { st with ln := 0, loose := [], aw := false, al := 0, session := st.session + 1, hw := false, hl := 0, down := false } (.slice none 0 0) oth w' := by
  have hs := h.settle1 hl1 G x hx hG ho1
  have c0 := h.pc.1
  have hr := h.row
  have HT : Hid (st.there = true) := ht
  clear ht
  have H : ∀ w1, One b0 w0 L { st with ln := 0, loose := [] } (.slice none 0 0) oth w1 → One b0 w0 L { st with ln := 0, loose := [], aw := false, al := 0, session := st.session + 1, hw := false, hl := 0, down := false } (.slice none 0 0) oth ((((((w1.setCell ⟨L.D, 5, none⟩ (.bool false)).setCell ⟨L.D, 6, none⟩ (.int .i64 0)).setCell ⟨L.D, 1, none⟩ (.int .i64 (st.session + 1))).setCell ⟨L.P, 1, none⟩ (.bool false)).setCell ⟨L.P, 2, none⟩ (.int .i64 0)).setCell ⟨L.P, 3, none⟩ (.bool false)) := by
    intro w1 h1
    have h2 := h1.updD 5 (.bool false) { st with ln := 0, loose := [], aw := false } (.slice none 0 0) ⟨rfl, rfl, rfl, rfl, rfl⟩ rfl (h1.ownD _ _)
    have h3 := h2.updD 6 (.int .i64 0) { st with ln := 0, loose := [], aw := false, al := 0 } (.slice none 0 0) ⟨rfl, rfl, rfl, rfl, rfl⟩ rfl (h2.ownD _ _)
    have h4 := h3.updD 1 (.int .i64 (st.session + 1)) { st with ln := 0, loose := [], aw := false, al := 0, session := st.session + 1 } (.slice none 0 0) ⟨rfl, rfl, rfl, rfl, rfl⟩ rfl (h3.ownD _ _)
    have h5 := h4.updP 1 (.bool false) { st with ln := 0, loose := [], aw := false, al := 0, session := st.session + 1, hw := false } ⟨rfl, rfl, rfl, rfl, rfl, rfl, rfl, rfl, rfl, rfl⟩ rfl
    have h6 := h5.updP 2 (.int .i64 0) { st with ln := 0, loose := [], aw := false, al := 0, session := st.session + 1, hw := false, hl := 0 } ⟨rfl, rfl, rfl, rfl, rfl, rfl, rfl, rfl, rfl, rfl⟩ rfl
    exact h6.updP 3 (.bool false) _ ⟨rfl, rfl, rfl, rfl, rfl, rfl, rfl, rfl, rfl, rfl⟩ rfl
  have HH : Hid _ := H
  clear h H
  go_enter Tryz.func25, Tryz.ntmps25
  go_wp2
  go_loopw [1, 11] (fun c i wr => (c = .slice (some ⟨G, 0, none⟩) 1 1 ∧ i = .int .i64 0 ∧ wr = w) ∨ (i = .int .i64 1 ∧ Hid (∃ w1, One b0 w0 L { st with ln := 0, loose := [] } (.slice none 0 0) oth w1 ∧ wr = ((w1.setCell ⟨L.D, 5, none⟩ (.bool false)).setCell ⟨L.D, 6, none⟩ (.int .i64 0)).setCell ⟨L.D, 1, none⟩ (.int .i64 (st.session + 1))))) (fun _ i _ => 1 - (intOf i).toNat)
  case atStart => exact Or.inl ⟨rfl, rfl, rfl⟩
  case round =>
    rcases hrel with ⟨rfl, rfl, rfl⟩ | ⟨rfl, hz⟩
    · go_wp2_with fail
      go_call hs as e w1 ⟨⟨ao, rfl⟩, h1⟩
      obtain ⟨d0, d1, d2, d3, d4, d5, d6, d7⟩ := h1.dc
      have f1 := h1.df 1
      have f5 := h1.df 5
      have f6 := h1.df 6
      replace d2 : w1.cell? ⟨L.D, 2, none⟩ = some (.bool st.there) := d2
      replace d1 : w1.cell? ⟨L.D, 1, none⟩ = some (.int .i64 st.session) := d1
      rw [HT.out] at d2
      have H1 : Hid _ := h1
      clear hs h1 hr
      go_wp2
      go_roundw
      case rel => exact Or.inr ⟨rfl, ⟨w1, H1.out, rfl⟩⟩
      case measure => simp only [intOf]; omega
    · clear hs hr
      obtain ⟨w1, h1, hw⟩ := hz.out
      have hfin := HH.out w1 h1
      rw [← hw] at hfin
      have h4 : One b0 w0 L { st with ln := 0, loose := [], aw := false, al := 0, session := st.session + 1 } (.slice none 0 0) oth wr := by
        have h2 := h1.updD 5 (.bool false) { st with ln := 0, loose := [], aw := false } (.slice none 0 0) ⟨rfl, rfl, rfl, rfl, rfl⟩ rfl (h1.ownD _ _)
        have h3 := h2.updD 6 (.int .i64 0) { st with ln := 0, loose := [], aw := false, al := 0 } (.slice none 0 0) ⟨rfl, rfl, rfl, rfl, rfl⟩ rfl (h2.ownD _ _)
        rw [hw]
        exact h3.updD 1 (.int .i64 (st.session + 1)) _ (.slice none 0 0) ⟨rfl, rfl, rfl, rfl, rfl⟩ rfl (h3.ownD _ _)
      obtain ⟨p0, p1, p2, p3, p4⟩ := h4.pc
      have g1 := h4.pf 1
      have g2 := h4.pf 2
      have g3 := h4.pf 3
      have HF : Hid _ := hfin
      clear hz h1 hw hfin h4 HH
      go_wp2
      go_returns
      exact ⟨rfl, HF.out⟩
end
end Go.Proofs.YtncfbocbigdhiaaGreat.F

/- The fixed fact that each statement on flash begins with. -/
namespace Go.Proofs.YtncfbocbigdhiaaGreat.F
set_option maxRecDepth 100000
open Go.RowKit
theorem rd_wrote (st : St) (i : Nat) (s : ByteArray) (h : SecOk st) (hi : i < st.n) (hs : s.size = 64) : rd (wrote st i s) i = s := by
  have hm : (i + 1) * 64 ≤ st.n * 64 := Nat.mul_le_mul_right _ hi
  have hl : st.secs.toList.length = st.n * 64 := by rw [Array.length_toList]; exact h.size
  have hb : (Lib.byteCells s.data.toList).length = 64 := by rw [Lib.byteCells_length, Array.length_toList]; exact hs
  have e : secl (wrote st i s) i = Lib.byteCells s.data.toList := by
    show ((st.secs.toList.take (i * 64) ++ Lib.byteCells s.data.toList ++ st.secs.toList.drop (i * 64 + 64)).drop (i * 64)).take 64 = _
    rw [List.append_assoc, List.drop_left' (by rw [List.length_take, hl]; omega), List.take_left' hb]
  have e2 : rdB (wrote st i s) i = s.data.toList := by
    unfold rdB
    rw [e]
    unfold Lib.byteCells
    rw [List.map_map]
    conv => rhs; rw [← List.map_id s.data.toList]
    apply List.map_congr_left
    intro b _
    exact byteOf_byte b
  unfold rd
  rw [e2]
end Go.Proofs.YtncfbocbigdhiaaGreat.F

/- What medium.Write lays where nothing is armed, and what lies there behind it. -/
namespace Go.Proofs.YtncfbocbigdhiaaGreat.F
set_option maxRecDepth 100000
open Go.RowKit
theorem secl_other (st : St) (i j : Nat) (s : ByteArray) (h : SecOk st) (hi : i < st.n) (_hj : j < st.n) (hij : ¬ j = i) (hs : s.size = 64) : secl (wrote st i s) j = secl st j := by
  have hm : (i + 1) * 64 ≤ st.n * 64 := Nat.mul_le_mul_right _ hi
  have hl : st.secs.toList.length = st.n * 64 := by rw [Array.length_toList]; exact h.size
  have hb : (Lib.byteCells s.data.toList).length = 64 := by rw [Lib.byteCells_length, Array.length_toList]; exact hs
  show ((st.secs.toList.take (i * 64) ++ Lib.byteCells s.data.toList ++ st.secs.toList.drop (i * 64 + 64)).drop (j * 64)).take 64 = (st.secs.toList.drop (j * 64)).take 64
  generalize st.secs.toList = l at *
  generalize Lib.byteCells s.data.toList = b at *
  apply List.ext_getElem?
  intro m
  by_cases hm64 : m < 64
  · rw [List.getElem?_take_of_lt hm64, List.getElem?_take_of_lt hm64, List.getElem?_drop, List.getElem?_drop]
    rcases Nat.lt_or_gt_of_ne hij with hlt | hgt
    · have : (j + 1) * 64 ≤ i * 64 := Nat.mul_le_mul_right _ hlt
      rw [List.append_assoc, List.getElem?_append_left (by rw [List.length_take, hl]; omega), List.getElem?_take_of_lt (by omega)]
    · have : (i + 1) * 64 ≤ j * 64 := Nat.mul_le_mul_right _ hgt
      rw [List.getElem?_append_right (by rw [List.length_append, List.length_take, hl, hb]; omega), List.getElem?_drop]
      congr 1
      rw [List.length_append, List.length_take, hl, hb]; omega
  · rw [List.getElem?_take_eq_none (by omega), List.getElem?_take_eq_none (by omega)]
theorem rd_other (st : St) (i j : Nat) (s : ByteArray) (h : SecOk st) (hi : i < st.n) (hj : j < st.n) (hij : ¬ j = i) (hs : s.size = 64) : rd (wrote st i s) j = rd st j := by
  unfold rd rdB
  rw [secl_other st i j s h hi hj hij hs]
/-- Where the work stands behind k sectors of a text that is written from 'frm' on. -/
structure PutInv (sr : Int) (nn frm : Nat) (s : ByteArray) (k : Nat) (st : St) : Prop where
  serial : st.serial = sr
  session : st.session = 1
  there : st.there = true
  down : st.down = false
  hw : st.hw = false
  aw : st.aw = false
  n : st.n = nn
  ok : SecOk st
  le : LooseEnd st (frm + k)
  ln : st.ln = k
  count : st.count = (k : Int)
  cont : ∀ j, j < k → rd st (frm + j) = pad (chunk s j)
theorem put_start (sr : Int) (nn frm : Nat) (s : ByteArray) : PutInv sr nn frm s 0 (st0 sr nn) :=
  ⟨rfl, rfl, rfl, rfl, rfl, rfl, rfl, st0_ok sr nn, ⟨rfl, Nat.zero_le _, fun _j hj => absurd hj (Nat.not_lt_zero _)⟩, rfl, rfl, fun _j hj => absurd hj (Nat.not_lt_zero _)⟩
theorem put_write (b0 : Nat) (w0 : World) (L : Loc) (oth : List (Nat × Obj)) (M : Nat) (sr : Int) (hM : (M, med L.P sr 1) ∈ oth) (s : ByteArray) (hs : s.size ≤ 1000) (nn frm : Nat) (hfit : frm + parts s ≤ nn) (hnn : nn ≤ 1000) (w : World) (h0 : ∃ st lv, One b0 w0 L st lv oth w ∧ PutInv sr nn frm s 0 st) :
    Calls Tryz.prog 28 #[.pointer (some ⟨M, 0, none⟩), .int .i64 (frm : Nat), .string s] w fun e w' => e = .returned (.tuple #[]) ∧ ∃ st lv, One b0 w0 L st lv oth w' ∧ PutInv sr nn frm s (parts s) st := by
  have hp8 : parts s ≤ 16 := by unfold parts; omega
  refine (mwrite_any M L.P sr 1 (frm : Nat) s (by omega) (by omega) (fun k W => ∃ st lv, One b0 w0 L st lv oth W ∧ PutInv sr nn frm s k st) (fun k => 0)
    (fun k W W' ⟨st, lv, h, hi⟩ hb => ⟨st, lv, h.ofBelow hb, hi⟩) (fun k W ⟨st, lv, h, _⟩ => (h.oth _ hM).1) ?_ w h0).mono ?_
  · rintro k W hk hz ⟨st, lv, h, hi⟩
    have hps := pad_size (chunk s k) (chunk_size s k)
    have hin : frm + k < st.n := by rw [hi.n]; omega
    have hw := h.pwrite_ok (frm + k) (pad (chunk s k)) hps hi.down hi.there hi.aw hi.hw hin hi.ok hi.le (by rw [hi.n]; omega) (by rw [hi.count]; omega)
    rw [show hnd st.serial st.session = hnd sr 1 by rw [hi.serial, hi.session], show (((frm + k : Nat) : Int)) = (frm : Int) + (k : Nat) by omega] at hw
    refine hw.mono ?_
    rintro e W' ⟨rfl, lv', h'⟩
    have n1 := hi.ok.wrote hin (pad (chunk s k)) hps
    have n2 := hi.le.next hi.ok hin (show frm + k < frm + (k + 1) by omega) (by rw [hi.ln]; omega) (pad (chunk s k))
    refine ⟨rfl, _, lv', h', ⟨hi.serial, hi.session, hi.there, hi.down, hi.hw, hi.aw, hi.n, ⟨n1.size, n1.bytes⟩, ⟨n2.len, n2.few, n2.at0⟩, ?_, ?_, fun j hj => ?_⟩⟩
    · show st.ln + 1 = k + 1; rw [hi.ln]
    · show st.count + 1 = _; rw [hi.count]; omega
    · show rd (wrote st (frm + k) (pad (chunk s k))) (frm + j) = _
      rcases Nat.lt_or_ge j k with hlt | hge
      · rw [rd_other st (frm + k) (frm + j) _ hi.ok hin (by omega) (by omega) hps]
        exact hi.cont j hlt
      · obtain rfl : j = k := by omega
        exact rd_wrote st (frm + j) _ hi.ok hin hps
  · rintro e w' (⟨k, hk, hz, hne, rfl, hX⟩ | ⟨hz, rfl, hX⟩)
    · exact absurd rfl hne
    · exact ⟨rfl, hX⟩
end Go.Proofs.YtncfbocbigdhiaaGreat.F

/- What MediumParts hands to Guard, as a call. -/
namespace Go.Proofs.YtncfbocbigdhiaaGreat.F
set_option maxRecDepth 100000
open Go.RowKit
/-- Phases of a drawn statement: operation i turns X0 into X1. -/
structure Two (i : Nat) (X0 X1 : World → Prop) (done : Nat → Bool) (f : Nat → Value) (W : World) : Prop where
  a : done i = false → X0 W
  b : done i = true → X1 W
theorem Two.pure {i : Nat} {X0 X1 : World → Prop} {done : Nat → Bool} {f : Nat → Value} {W : World} (h : Two i X0 X1 done f W) (k : Nat) (hk : k ≠ i) (v : Value) : Two i X0 X1 (updB done k) (upd f k v) W := by
  have e : updB done k i = done i := if_neg (Ne.symm hk)
  exact ⟨by rw [e]; exact h.a, by rw [e]; exact h.b⟩
theorem Two.turn {i : Nat} {X0 X1 : World → Prop} {done : Nat → Bool} {f : Nat → Value} {W W' : World} (_ : Two i X0 X1 done f W) (hx : X1 W') (v : Value) : Two i X0 X1 (updB done i) (upd f i v) W' := by
  have e : updB done i i = true := if_pos rfl
  exact ⟨by rw [e]; exact (fun e => by cases e), fun _ => hx⟩
theorem Two.any {i : Nat} {X0 X1 : World → Prop} {R : World → Prop} {done : Nat → Bool} {f : Nat → Value} {W : World} (h0 : ∀ W, X0 W → R W) (h1 : ∀ W, X1 W → R W) (h : Two i X0 X1 done f W) : R W := by
  cases hd : done i with
  | false => exact h0 W (h.a hd)
  | true => exact h1 W (h.b hd)
def oAB (A B : Nat) (r1 r2 : ByteArray) (oth : List (Nat × Obj)) : List (Nat × Obj) := (A, .cells #[.string r1] 9) :: (B, .cells #[.string r2] 9) :: oth
def X0 (b0 : Nat) (w0 : World) (L : Loc) (A B : Nat) (oth : List (Nat × Obj)) (s : ByteArray) (W : World) : Prop := ∃ st lv, One b0 w0 L st lv (oAB A B ⟨#[]⟩ ⟨#[]⟩ oth) W ∧ PutInv 3 6 0 (s.extract 0 384) 0 st
def X1 (b0 : Nat) (w0 : World) (L : Loc) (A B : Nat) (oth : List (Nat × Obj)) (s : ByteArray) (W : World) : Prop := ∃ st lv, One b0 w0 L st lv (oAB A B ⟨#[]⟩ ⟨#[]⟩ oth) W ∧ PutInv 3 6 0 (s.extract 0 384) (parts (s.extract 0 384)) st
theorem X0.below {b0 : Nat} {w0 : World} {L : Loc} {A B : Nat} {oth : List (Nat × Obj)} {s : ByteArray} {W W' : World} (h : X0 b0 w0 L A B oth s W) (hb : Below W.heap.size W W') : X0 b0 w0 L A B oth s W' := by
  obtain ⟨st, lv, o, i⟩ := h
  exact ⟨st, lv, o.ofBelow hb, i⟩
/-- Behind c more operations, with what was read so far. -/
def PS (b0 : Nat) (w0 : World) (L : Loc) (st : St) (A B : Nat) (oth : List (Nat × Obj)) (r1 r2 : ByteArray) (c : Nat) (W : World) : Prop := ∃ lv, One b0 w0 L { st with count := st.count + (c : Int) } lv (oAB A B r1 r2 oth) W
theorem PS.below {b0 : Nat} {w0 : World} {L : Loc} {st : St} {A B : Nat} {oth : List (Nat × Obj)} {r1 r2 : ByteArray} {c : Nat} {W W' : World} (h : PS b0 w0 L st A B oth r1 r2 c W) (hb : Below W.heap.size W W') : PS b0 w0 L st A B oth r1 r2 c W' := by
  obtain ⟨lv, o⟩ := h
  exact ⟨lv, o.ofBelow hb⟩
theorem Two.cells {b0 : Nat} {w0 : World} {L : Loc} {st : St} {lv : Value} {M C T F N : Nat} {o1 o2 : Nat × Obj} {s : ByteArray} {frm n : Int} {oth : List (Nat × Obj)} {W : World} (hm : (M, med L.P 3 1) ∈ oth ∧ (C, .cells #[.pointer (some ⟨M, 0, none⟩)] 25) ∈ oth ∧ (T, .cells #[.string s] 9) ∈ oth ∧ (F, .cells #[.int .i64 frm] 3) ∈ oth ∧ (N, .cells #[.int .i64 n] 3) ∈ oth) (h : One b0 w0 L st lv (o1 :: o2 :: oth) W) :
    W.cell? ⟨C, 0, none⟩ = some (.pointer (some ⟨M, 0, none⟩)) ∧ W.cell? ⟨T, 0, none⟩ = some (.string s) ∧ W.cell? ⟨F, 0, none⟩ = some (.int .i64 frm) ∧ W.cell? ⟨N, 0, none⟩ = some (.int .i64 n) := by
  obtain ⟨_, h1, h2, h3, h4⟩ := hm
  have g : ∀ p ∈ oth, W.heap[p.1]? = some p.2 := fun p hp => (h.oth p (List.mem_cons_of_mem _ (List.mem_cons_of_mem _ hp))).1
  exact ⟨cell_of (g _ h1) 0, cell_of (g _ h2) 0, cell_of (g _ h3) 0, cell_of (g _ h4) 0⟩
def PV (M : Nat) (s : ByteArray) : Nat → Value → Prop
  | 0, v => v = .pointer (some ⟨M, 0, none⟩)
  | 1, v => v = .string s
  | 2, v => v = .string (s.extract 0 384)
  | 3, v => v = .tuple #[]
  | _, _ => True
def QV (st1 : St) (M frm k : Nat) : Nat → Value → Prop
  | 0, v => v = .string ⟨(rdsL st1 frm k).toArray⟩
  | 1, v => v = .pointer (some ⟨M, 0, none⟩)
  | 2, v => v = .int .i64 (frm : Nat)
  | 3, v => v = .int .i64 (k : Nat)
  | 4, v => v = .int .i64 ((frm + k : Nat) : Int)
  | 5, v => v = .string ⟨(rdsL st1 (frm + k) 1).toArray⟩
  | 6, v => v = .string ⟨(rdsL st1 frm (k + 1)).toArray⟩
  | _, _ => True
structure QPh (b0 : Nat) (w0 : World) (L : Loc) (st : St) (A B : Nat) (oth : List (Nat × Obj)) (r : ByteArray) (frm n k : Nat) (done : Nat → Bool) (f : Nat → Value) (W : World) : Prop where
  o0 : done 0 = false → done 7 = false
  o5 : done 5 = false → done 7 = false
  a : done 5 = false → PS b0 w0 L st A B oth r ⟨(rdsL st frm k).toArray⟩ (n + k) W
  b1 : done 5 = true → done 7 = false → PS b0 w0 L st A B oth r ⟨(rdsL st frm k).toArray⟩ (n + (k + 1)) W
  c : done 7 = true → PS b0 w0 L st A B oth r ⟨(rdsL st frm (k + 1)).toArray⟩ (n + (k + 1)) W
section
variable {b0 : Nat} {w0 : World} {L : Loc} {st : St} {lv : Value} {oth : List (Nat × Obj)} {A B M C T F N : Nat} {s r r1 r2 : ByteArray} {frm n k c : Nat} {done : Nat → Bool} {f : Nat → Value} {W : World}
theorem PS.cells (hm : (M, med L.P 3 1) ∈ oth ∧ (C, .cells #[.pointer (some ⟨M, 0, none⟩)] 25) ∈ oth ∧ (T, .cells #[.string s] 9) ∈ oth ∧ (F, .cells #[.int .i64 (frm : Nat)] 3) ∈ oth ∧ (N, .cells #[.int .i64 (n : Nat)] 3) ∈ oth) (h : PS b0 w0 L st A B oth r1 r2 c W) :
    W.cell? ⟨C, 0, none⟩ = some (.pointer (some ⟨M, 0, none⟩)) ∧ W.cell? ⟨F, 0, none⟩ = some (.int .i64 (frm : Nat)) := by
  obtain ⟨lv, o⟩ := h
  have := Two.cells hm o
  exact ⟨this.1, this.2.2.1⟩
theorem QPh.cells (hm : (M, med L.P 3 1) ∈ oth ∧ (C, .cells #[.pointer (some ⟨M, 0, none⟩)] 25) ∈ oth ∧ (T, .cells #[.string s] 9) ∈ oth ∧ (F, .cells #[.int .i64 (frm : Nat)] 3) ∈ oth ∧ (N, .cells #[.int .i64 (n : Nat)] 3) ∈ oth) (h : QPh b0 w0 L st A B oth r frm n k done f W) :
    W.cell? ⟨C, 0, none⟩ = some (.pointer (some ⟨M, 0, none⟩)) ∧ W.cell? ⟨F, 0, none⟩ = some (.int .i64 (frm : Nat)) := by
  cases h5 : done 5 with
  | false => exact (h.a h5).cells hm
  | true =>
    cases h7 : done 7 with
    | false => exact (h.b1 h5 h7).cells hm
    | true => exact (h.c h7).cells hm
theorem PS.cellB (h : PS b0 w0 L st A B oth r1 r2 c W) : W.cell? ⟨B, 0, none⟩ = some (.string r2) := by
  obtain ⟨lv, o⟩ := h
  exact cell_of (o.oth (B, .cells #[.string r2] 9) (by simp [oAB])).1 0
theorem PS.frzB (h : PS b0 w0 L st A B oth r1 r2 c W) : W.frozen? ⟨B, 0, none⟩ = false := by
  obtain ⟨lv, o⟩ := h
  exact frz_of (o.oth (B, .cells #[.string r2] 9) (by simp [oAB])).1 0
theorem PS.store {r3 : ByteArray} (h : PS b0 w0 L st A B oth r1 r2 c W) (hne : B ≠ A ∧ ∀ p ∈ oth, p.1 ≠ A ∧ p.1 ≠ B) : PS b0 w0 L st A B oth r1 r3 c (W.setCell ⟨B, 0, none⟩ (.string r3)) := by
  obtain ⟨lv, o⟩ := h
  have o1 : One b0 w0 L { st with count := st.count + (c : Int) } lv ((B, .cells #[.string r2] 9) :: (A, .cells #[.string r1] 9) :: oth) W := o.forget (fun p hp => by simp [oAB] at hp ⊢; rcases hp with h | h | h <;> simp [h])
  have o2 := o1.setOther (v := .string r3) (fun p hp => by
    rcases List.mem_cons.1 hp with rfl | hp
    · exact Ne.symm hne.1
    · exact (hne.2 p hp).2) (by decide)
  exact ⟨lv, o2.forget (fun p hp => by simp [oAB] at hp ⊢; rcases hp with h | h | h <;> simp [h])⟩
theorem rdsL_count (st : St) (x : Int) (frm : Nat) : ∀ k, rdsL { st with count := x } frm k = rdsL st frm k
  | 0 => rfl
  | k + 1 => by
    show rdsL { st with count := x } frm k ++ rdB st (frm + k) = rdsL st frm k ++ rdB st (frm + k)
    rw [rdsL_count st x frm k]
theorem rds_cat (st : St) (frm k : Nat) : (⟨(rdsL st frm k).toArray⟩ ++ ⟨(rdsL st (frm + k) 1).toArray⟩ : ByteArray) = ⟨(rdsL st frm (k + 1)).toArray⟩ := by
  apply ByteArray.ext
  rw [ByteArray.data_append]
  show (rdsL st frm k).toArray ++ ([] ++ rdB st (frm + k + 0)).toArray = (rdsL st frm k ++ rdB st (frm + k)).toArray
  simp
theorem rds_few (st : St) (frm k : Nat) (hs : SecOk st) (h : frm + k + 1 ≤ st.n) (hk : k ≤ 6) : (⟨(rdsL st frm k).toArray⟩ : ByteArray).size + (⟨(rdsL st (frm + k) 1).toArray⟩ : ByteArray).size ≤ 1000 := by
  have h1 := rdsL_length st frm hs k (by omega)
  have h2 := rdsL_length st (frm + k) hs 1 (by omega)
  show (rdsL st frm k).toArray.size + (rdsL st (frm + k) 1).toArray.size ≤ 1000
  simp only [List.size_toArray]; omega
theorem PS.read {k6 : Nat} {s6 : ByteArray} (h : PS b0 w0 L st A B oth r1 r2 (n + k) W) (hm : (M, med L.P 3 1) ∈ oth ∧ (C, .cells #[.pointer (some ⟨M, 0, none⟩)] 25) ∈ oth ∧ (T, .cells #[.string s] 9) ∈ oth ∧ (F, .cells #[.int .i64 (frm : Nat)] 3) ∈ oth ∧ (N, .cells #[.int .i64 (n : Nat)] 3) ∈ oth) (h5 : ∀ p ∈ oth, ∀ c fz, p.2 ≠ .cells c 5 fz) (i1 : PutInv 3 6 0 s6 k6 st) (hk6 : k6 ≤ 6) (hfn : frm + n ≤ 6) (hlt : k < n) :
    Calls Tryz.prog 101 #[.pointer (some ⟨M, 0, none⟩), .int .i64 ((frm + k : Nat) : Int), .int .i64 1] W fun e w' => e = .returned (.string ⟨(rdsL st (frm + k) 1).toArray⟩) ∧ PS b0 w0 L st A B oth r1 r2 (n + (k + 1)) w' := by
  obtain ⟨lv, o⟩ := h
  have hr := o.mread M (by show (M, med L.P st.serial st.session) ∈ _; rw [i1.serial, i1.session]; simp [oAB, hm.1]) (fun p hp => by
    rcases List.mem_cons.1 hp with rfl | hp
    · intro c fz e; injection e with _ e _; exact absurd e (by decide)
    rcases List.mem_cons.1 hp with rfl | hp
    · intro c fz e; injection e with _ e _; exact absurd e (by decide)
    · exact h5 p hp) (frm + k) 1 (by show _ ≤ st.n; rw [i1.n]; omega) (by show st.n ≤ _; rw [i1.n]; omega) i1.down i1.there i1.aw i1.hw ⟨i1.ok.size, i1.ok.bytes⟩ (by show 0 ≤ st.count + _ ∧ st.count + _ ≤ _; rw [i1.count]; omega)
  refine Calls.mono hr ?_
  rintro e w' ⟨rfl, lv', o'⟩
  refine ⟨?_, lv', ?_⟩
  · rw [rdsL_count]
  · have e : st.count + ((n + k : Nat) : Int) + ((1 : Nat) : Int) = st.count + ((n + (k + 1) : Nat) : Int) := by omega
    rw [← e]; exact o'
theorem QPh.pure (h : QPh b0 w0 L st A B oth r frm n k done f W) (i : Nat) (hi : i ≠ 5 ∧ i ≠ 7) (v : Value) : QPh b0 w0 L st A B oth r frm n k (updB done i) (upd f i v) W := by
  have e5 : updB done i 5 = done 5 := if_neg (Ne.symm hi.1)
  have e7 : updB done i 7 = done 7 := if_neg (Ne.symm hi.2)
  refine ⟨fun h0 => ?_, by rw [e5, e7]; exact h.o5, by rw [e5]; exact h.a, by rw [e5, e7]; exact h.b1, by rw [e7]; exact h.c⟩
  rw [e7]
  by_cases hi0 : (0 : Nat) = i
  · rw [show updB done i 0 = true from if_pos hi0] at h0; cases h0
  · rw [show updB done i 0 = done 0 from if_neg hi0] at h0; exact h.o0 h0
theorem QPh.read {W' : World} (h : QPh b0 w0 L st A B oth r frm n k done f W) (hdn : done 5 = false) (hx : PS b0 w0 L st A B oth r ⟨(rdsL st frm k).toArray⟩ (n + (k + 1)) W') (v : Value) : QPh b0 w0 L st A B oth r frm n k (updB done 5) (upd f 5 v) W' := by
  have e5 : updB done 5 5 = true := if_pos rfl
  have e7 : updB done 5 7 = done 7 := if_neg (by decide)
  have e0 : updB done 5 0 = done 0 := if_neg (by decide)
  exact ⟨by rw [e0, e7]; exact h.o0, by rw [e5]; exact (fun e => by cases e), by rw [e5]; exact (fun e => by cases e), fun _ _ => hx, by rw [e7, h.o5 hdn]; exact (fun e => by cases e)⟩
theorem QPh.stored {W' : World} (_ : QPh b0 w0 L st A B oth r frm n k done f W) (h0 : done 0 = true) (h5 : done 5 = true) (hx : PS b0 w0 L st A B oth r ⟨(rdsL st frm (k + 1)).toArray⟩ (n + (k + 1)) W') (v : Value) : QPh b0 w0 L st A B oth r frm n k (updB done 7) (upd f 7 v) W' := by
  have e5 : updB done 7 5 = done 5 := if_neg (by decide)
  have e7 : updB done 7 7 = true := if_pos rfl
  have e0 : updB done 7 0 = done 0 := if_neg (by decide)
  exact ⟨by rw [e0, h0]; exact (fun e => by cases e), by rw [e5, h5]; exact (fun e => by cases e), by rw [e5, h5]; exact (fun e => by cases e), by rw [e7]; exact (fun _ e => by cases e), fun _ => hx⟩
theorem QPh.parts (h : QPh b0 w0 L st A B oth r frm n k done f W) (h0 : done 0 = false) : W.cell? ⟨B, 0, none⟩ = some (.string ⟨(rdsL st frm k).toArray⟩) := by
  have h7 := h.o0 h0
  cases h5 : done 5 with
  | false => exact (h.a h5).cellB
  | true => exact (h.b1 h5 h7).cellB
end

end Go.Proofs.YtncfbocbigdhiaaGreat.F

/- Flush, of the pool and of the medium; Size. -/
namespace Go.Proofs.YtncfbocbigdhiaaGreat.F
set_option maxRecDepth 100000
open Go.RowKit
def FV (L : Loc) (st : St) (M : Nat) : Nat → Value → Prop
  | 0, v => v = .pointer (some ⟨M, 0, none⟩)
  | 1, v => v = .int .i64 st.serial
  | 2, v => v = .pointer (some ⟨M, 0, none⟩)
  | 3, v => v = .pointer (some ⟨M, 0, none⟩)
  | 4, v => v = .pointer (some ⟨M, 0, none⟩)
  | 5, v => v = .pointer (some ⟨L.P, 0, none⟩)
  | 6, v => v = .pointer (some ⟨M, 0, none⟩)
  | 7, v => v = .pointer (some ⟨M, 0, none⟩)
  | 8, v => v = .pointer (some ⟨M, 1, none⟩)
  | 9, v => v = hnd st.serial st.session
  | 10, v => v = .int .i64 0
  | 11, v => v = .tuple #[]
  | _, _ => True
section
variable {b0 : Nat} {w0 : World} {L : Loc} {st : St} {lv : Value} {oth : List (Nat × Obj)} {w : World}
theorem wrong71 (D : Nat) (w : World) : Calls Tryz.prog 128 #[.pointer (some ⟨D, 0, none⟩)] w fun e w' => e = .returned (.int .i64 0) ∧ w' = w := by
  go_enter Tryz.func128, Tryz.ntmps128
  go_wp2
  go_returns
  exact ⟨rfl, rfl⟩
theorem One.do72 (h : One b0 w0 L st lv oth w) : Calls Tryz.prog 129 #[.pointer (some ⟨L.D, 0, none⟩)] w fun e w' => e = .returned (.tuple #[]) ∧ ∃ lv', One b0 w0 L { st with ln := 0, loose := [] } lv' oth w' := by
  have hf := h.flush
  clear h
  go_enter Tryz.func129, Tryz.ntmps129
  go_wp2_with fail
  go_call hf as e w1 ⟨rfl, h1⟩
  have H1 : Hid _ := h1
  clear hf h1
  go_wp2
  go_returns
  exact ⟨rfl, _, H1.out⟩
theorem One.pflush (h : One b0 w0 L st lv oth w) (hdn : st.down = false) (ht : st.there = true) (haw : st.aw = false) (hhw : st.hw = false) (hc : 0 ≤ st.count ∧ st.count ≤ 1000000) :
    Calls Tryz.prog 97 #[.pointer (some ⟨L.P, 0, none⟩), hnd st.serial st.session] w fun e w' => e = .returned (.int .i64 0) ∧ ∃ lv', One b0 w0 L { st with ln := 0, loose := [], count := st.count + 1 } lv' oth w' := by
  have ho := (h.laid (.cells #[.int .i64 st.serial, .int .i64 st.session] 105)).operate_ok hdn ht haw hhw 128 #[] 129 #[] ent71 ent72 (fun W _ => wrong71 L.D W) { st with ln := 0, loose := [] } oth ⟨hhw, hc⟩ (fun W hW => hW.do72)
  clear h
  unfold hnd at *
  go_enter Tryz.func97, Tryz.ntmps97
  go_wp2_with fail
  go_call ho as e w1 ⟨rfl, lv', h1⟩
  have H1 : Hid _ := h1
  clear ho h1
  go_wp2
  go_returns
  exact ⟨rfl, lv', H1.out⟩
theorem One.mcells {M : Nat} (h : One b0 w0 L st lv oth w) (hm : (M, med L.P st.serial st.session) ∈ oth) : w.cell? ⟨M, 0, none⟩ = some (.pointer (some ⟨L.P, 0, none⟩)) ∧ w.cell? ⟨M, 1, none⟩ = some (.int .i64 st.serial) ∧ w.cell? ⟨M, 2, none⟩ = some (.int .i64 st.session) := by
  have e := (h.oth _ hm).1
  exact ⟨cell_of e 0, cell_of e 1, cell_of e 2⟩
theorem One.mflush (h : One b0 w0 L st lv oth w) (M : Nat) (hm : (M, med L.P st.serial st.session) ∈ oth) (hdn : st.down = false) (ht : st.there = true) (haw : st.aw = false) (hhw : st.hw = false) (hc : 0 ≤ st.count ∧ st.count ≤ 1000000) :
    Calls Tryz.prog 55 #[.pointer (some ⟨M, 0, none⟩)] w fun e w' => e = .returned (.tuple #[]) ∧ ∃ lv', One b0 w0 L { st with ln := 0, loose := [], count := st.count + 1 } lv' oth w' := by
  have H0 : Hid _ := h
  have HFl : Hid (∀ W, One b0 w0 L st lv oth W → Calls Tryz.prog 97 #[.pointer (some ⟨L.P, 0, none⟩), hnd st.serial st.session] W fun e w' => e = .returned (.int .i64 0) ∧ ∃ lv', One b0 w0 L { st with ln := 0, loose := [], count := st.count + 1 } lv' oth w') := fun W hW => hW.pflush hdn ht haw hhw hc
  have HC0 : Hid (∀ W, One b0 w0 L st lv oth W → W.cell? ⟨M, 0, none⟩ = some (.pointer (some ⟨L.P, 0, none⟩)) ∧ W.cell? ⟨M, 1, none⟩ = some (.int .i64 st.serial) ∧ W.cell? ⟨M, 2, none⟩ = some (.int .i64 st.session)) := fun W hW => hW.mcells hm
  have HC1 : Hid (∀ W, (∃ lv, One b0 w0 L { st with ln := 0, loose := [], count := st.count + 1 } lv oth W) → W.cell? ⟨M, 0, none⟩ = some (.pointer (some ⟨L.P, 0, none⟩)) ∧ W.cell? ⟨M, 1, none⟩ = some (.int .i64 st.serial) ∧ W.cell? ⟨M, 2, none⟩ = some (.int .i64 st.session)) := fun W ⟨lv, hW⟩ => hW.mcells hm
  clear h hdn ht haw hhw hc hm
  go_enter Tryz.func55, Tryz.ntmps55
  go_wp2_with fail
  refine wp_region_pb (fun f => ⟨#[.pointer (some ⟨M, 0, none⟩), undef, f 0, f 1, f 2, f 3, f 4, f 5, f 6, f 7, f 8, f 9, f 10, f 11], []⟩) (FV L st M) (Two 10 (fun W => One b0 w0 L st lv oth W) (fun W => ∃ lv, One b0 w0 L { st with ln := 0, loose := [], count := st.count + 1 } lv oth W)) (fun i => [undef, undef, undef, undef, undef, undef, undef, undef, undef, undef, undef, undef].getD i undef) (by kernel_rfl) rfl rfl ?hI ?hput ?step ?fin
  case hI => exact ⟨fun _ => H0.out.ofBelow ⟨rfl, rfl, rfl, Nat.le_refl _, fun _ _ => rfl⟩, (fun e => by cases e)⟩
  case fin =>
    intro f W hP hV
    have H1 : Hid _ := hP.b rfl
    clear hP hV HFl HC0 HC1
    go_wp2
    go_returns
    exact ⟨rfl, H1.out⟩
  case hput =>
    repeat (refine ⟨fun f v => rfl, ?_⟩)
    trivial
  case step =>
    refine ⟨?_, ?_⟩
    · intro done f W hP hdn hd K hK
      clear hd
      go_simp
      exact hK _ _ rfl (hP.pure _ (by decide) _)
    refine ⟨?_, ?_⟩
    · intro done f W hP hdn hd K hK
      have d0 := (hd.1 rfl).2
      have e0 : done 0 = true := (hd.1 rfl).1
      clear hd
      replace d0 : f 0 = .pointer (some ⟨M, 0, none⟩) := d0
      generalize f 0 = x0 at *
      subst d0
      clear e0
      have q := Two.any (R := fun W => W.cell? ⟨M, 0, none⟩ = some (.pointer (some ⟨L.P, 0, none⟩)) ∧ W.cell? ⟨M, 1, none⟩ = some (.int .i64 st.serial) ∧ W.cell? ⟨M, 2, none⟩ = some (.int .i64 st.session)) HC0.out HC1.out hP
      have q0 := q.1
      have q1 := q.2.1
      have q2 := q.2.2
      clear q
      go_simp
      refine Calls.mono (serial_any M st.serial W q1) ?_
      rintro e W' ⟨rfl, rfl⟩
      exact hK _ _ rfl (hP.pure _ (by decide) _)
    refine ⟨?_, ?_⟩
    · intro done f W hP hdn hd K hK
      clear hd
      go_simp
      exact hK _ _ rfl (hP.pure _ (by decide) _)
    refine ⟨?_, ?_⟩
    · intro done f W hP hdn hd K hK
      have d2 := (hd.1 rfl).2
      have e2 : done 2 = true := (hd.1 rfl).1
      clear hd
      replace d2 : f 2 = .pointer (some ⟨M, 0, none⟩) := d2
      generalize f 2 = x2 at *
      subst d2
      clear e2
      go_simp
      exact hK _ _ rfl (hP.pure _ (by decide) _)
    refine ⟨?_, ?_⟩
    · intro done f W hP hdn hd K hK
      have d3 := (hd.1 rfl).2
      have e3 : done 3 = true := (hd.1 rfl).1
      clear hd
      replace d3 : f 3 = .pointer (some ⟨M, 0, none⟩) := d3
      generalize f 3 = x3 at *
      subst d3
      clear e3
      go_simp
      exact hK _ _ rfl (hP.pure _ (by decide) _)
    refine ⟨?_, ?_⟩
    · intro done f W hP hdn hd K hK
      have d4 := (hd.1 rfl).2
      have e4 : done 4 = true := (hd.1 rfl).1
      clear hd
      replace d4 : f 4 = .pointer (some ⟨M, 0, none⟩) := d4
      generalize f 4 = x4 at *
      subst d4
      clear e4
      have q := Two.any (R := fun W => W.cell? ⟨M, 0, none⟩ = some (.pointer (some ⟨L.P, 0, none⟩)) ∧ W.cell? ⟨M, 1, none⟩ = some (.int .i64 st.serial) ∧ W.cell? ⟨M, 2, none⟩ = some (.int .i64 st.session)) HC0.out HC1.out hP
      have q0 := q.1
      have q1 := q.2.1
      have q2 := q.2.2
      clear q
      go_simp
      exact hK _ _ rfl (hP.pure _ (by decide) _)
    refine ⟨?_, ?_⟩
    · intro done f W hP hdn hd K hK
      clear hd
      go_simp
      exact hK _ _ rfl (hP.pure _ (by decide) _)
    refine ⟨?_, ?_⟩
    · intro done f W hP hdn hd K hK
      have d6 := (hd.1 rfl).2
      have e6 : done 6 = true := (hd.1 rfl).1
      clear hd
      replace d6 : f 6 = .pointer (some ⟨M, 0, none⟩) := d6
      generalize f 6 = x6 at *
      subst d6
      clear e6
      go_simp
      exact hK _ _ rfl (hP.pure _ (by decide) _)
    refine ⟨?_, ?_⟩
    · intro done f W hP hdn hd K hK
      have d7 := (hd.1 rfl).2
      have e7 : done 7 = true := (hd.1 rfl).1
      clear hd
      replace d7 : f 7 = .pointer (some ⟨M, 0, none⟩) := d7
      generalize f 7 = x7 at *
      subst d7
      clear e7
      go_simp
      exact hK _ _ rfl (hP.pure _ (by decide) _)
    refine ⟨?_, ?_⟩
    · intro done f W hP hdn hd K hK
      have d8 := (hd.1 rfl).2
      have e8 : done 8 = true := (hd.1 rfl).1
      clear hd
      replace d8 : f 8 = .pointer (some ⟨M, 1, none⟩) := d8
      generalize f 8 = x8 at *
      subst d8
      clear e8
      have q := Two.any (R := fun W => W.cell? ⟨M, 0, none⟩ = some (.pointer (some ⟨L.P, 0, none⟩)) ∧ W.cell? ⟨M, 1, none⟩ = some (.int .i64 st.serial) ∧ W.cell? ⟨M, 2, none⟩ = some (.int .i64 st.session)) HC0.out HC1.out hP
      have q0 := q.1
      have q1 := q.2.1
      have q2 := q.2.2
      clear q
      go_simp
      exact hK _ _ rfl (hP.pure _ (by decide) _)
    refine ⟨?_, ?_⟩
    · intro done f W hP hdn hd K hK
      have d5 := (hd.1 rfl).2
      have e5 : done 5 = true := (hd.1 rfl).1
      have d9 := (hd.2.1 rfl).2
      have e9 : done 9 = true := (hd.2.1 rfl).1
      clear hd
      replace d5 : f 5 = .pointer (some ⟨L.P, 0, none⟩) := d5
      replace d9 : f 9 = hnd st.serial st.session := d9
      generalize f 5 = x5 at *
      subst d5
      clear e5
      generalize f 9 = x9 at *
      subst d9
      clear e9
      have hx0 := hP.a hdn
      go_simp
      refine Calls.mono (HFl.out W hx0) ?_
      rintro e W' ⟨rfl, hx1⟩
      exact hK _ _ rfl (hP.turn hx1 _)
    refine ⟨?_, ?_⟩
    · intro done f W hP hdn hd K hK
      have d1 := (hd.1 rfl).2
      have e1 : done 1 = true := (hd.1 rfl).1
      have d10 := (hd.2.1 rfl).2
      have e10 : done 10 = true := (hd.2.1 rfl).1
      clear hd
      replace d1 : f 1 = .int .i64 st.serial := d1
      replace d10 : f 10 = .int .i64 0 := d10
      generalize f 1 = x1 at *
      subst d1
      clear e1
      generalize f 10 = x10 at *
      subst d10
      clear e10
      go_simp
      refine Calls.mono (fail_ok st.serial W) ?_
      rintro e W' ⟨rfl, rfl⟩
      exact hK _ _ rfl (hP.pure _ (by decide) _)
    trivial
end
end Go.Proofs.YtncfbocbigdhiaaGreat.F

/- medium's Size; medium's Read of nothing, and beyond the end. -/
namespace Go.Proofs.YtncfbocbigdhiaaGreat.F
set_option maxRecDepth 100000
open Go.RowKit
def Ev (X : World → Prop) (_ : Nat → Bool) (_ : Nat → Value) (W : World) : Prop := X W
theorem Ev.pure {X : World → Prop} {done : Nat → Bool} {f : Nat → Value} {W : World} (h : Ev X done f W) (i : Nat) (v : Value) : Ev X (updB done i) (upd f i v) W := h
def RVo (L : Loc) (st : St) (M frm k : Nat) : Nat → Value → Prop
  | 0, v => v = .pointer (some ⟨M, 0, none⟩)
  | 1, v => v = .pointer (some ⟨M, 0, none⟩)
  | 2, v => v = .pointer (some ⟨M, 0, none⟩)
  | 3, v => v = .pointer (some ⟨L.P, 0, none⟩)
  | 4, v => v = .pointer (some ⟨M, 0, none⟩)
  | 5, v => v = .pointer (some ⟨M, 0, none⟩)
  | 6, v => v = .pointer (some ⟨M, 1, none⟩)
  | 7, v => v = hnd st.serial st.session
  | 8, v => v = .int .i64 (frm : Nat)
  | 9, v => v = .int .i64 (k : Nat)
  | 10, v => v = .int .i64 ((frm + k : Nat) : Int)
  | 11, v => v = .tuple #[.string ⟨#[]⟩, .int .i64 6]
  | 12, v => v = .tuple #[.string ⟨#[]⟩, .int .i64 6]
  | 13, v => v = .string ⟨#[]⟩
  | 14, v => v = .int .i64 6
  | 15, v => v = .string ⟨#[]⟩
  | 16, v => v = .int .i64 6
  | _, _ => True
def SV (L : Loc) (st : St) (M : Nat) : Nat → Value → Prop
  | 0, v => v = .pointer (some ⟨M, 0, none⟩)
  | 1, v => v = .pointer (some ⟨M, 0, none⟩)
  | 2, v => v = .pointer (some ⟨M, 0, none⟩)
  | 3, v => v = .pointer (some ⟨L.P, 0, none⟩)
  | 4, v => v = .pointer (some ⟨M, 0, none⟩)
  | 5, v => v = .int .i64 st.serial
  | 6, v => v = .int .i64 (st.n : Nat)
  | 7, v => v = .int .i64 (st.n : Nat)
  | _, _ => True
section
variable {b0 : Nat} {w0 : World} {L : Loc} {st : St} {lv : Value} {oth : List (Nat × Obj)} {w : World}
set_option maxHeartbeats 1000000 in
theorem One.mread_over (h : One b0 w0 L st lv oth w) (M : Nat) (hm : (M, med L.P st.serial st.session) ∈ oth) (h5 : ∀ p ∈ oth, ∀ c fz, p.2 ≠ .cells c 5 fz) (frm n lim : Nat) (hlim : frm + lim = st.n) (hover : lim < n) (hn1 : n ≤ 1000) (hn8 : st.n ≤ 1000) (hdn : st.down = false) (ht : st.there = true) (haw : st.aw = false) (hhw : st.hw = false) (hs8 : SecOk st) (hc : 0 ≤ st.count ∧ st.count ≤ 100000) :
    Calls Tryz.prog 101 #[.pointer (some ⟨M, 0, none⟩), .int .i64 (frm : Nat), .int .i64 (n : Nat)] w fun e w' => e = .panicked [fl st.serial 6] ∧ ∃ lv', One b0 w0 L { st with count := st.count + (lim : Int) } lv' oth w' := by
  have hlt := h.lts
  have H0 : Hid (RS b0 w0 L st oth w.heap.size frm 0 0 (w.alloc (.cells #[.pointer none, .slice none 0 0] 141))) := by
    refine ⟨lv, ?_, bld_new w⟩
    have := h.laid (.cells #[.pointer none, .slice none 0 0] 141)
    have e : ({ st with count := st.count + ((0 : Nat) : Int) } : St) = st := by cases st; simp
    rw [e]; exact this
  have hb0 : b0 ≤ w.heap.size := by have := getElem?_lt h.pool; have := h.bP; omega
  clear h
  generalize hb : w.heap.size = b at *
  have HLT : Hid (∀ p ∈ oth, p.1 < b) := hlt
  have H5 : Hid (∀ p ∈ oth, ∀ c fz, p.2 ≠ .cells c 5 fz) := h5
  have HM : Hid ((M, med L.P st.serial st.session) ∈ oth) := hm
  have HC : Hid (st.down = false ∧ st.there = true ∧ st.aw = false ∧ st.hw = false ∧ SecOk st ∧ 0 ≤ st.count ∧ st.count ≤ 100000) := ⟨hdn, ht, haw, hhw, hs8, hc⟩
  have hl1 : frm + lim ≤ st.n := by omega
  have hl2 : st.n ≤ frm + lim := by omega
  clear hlt h5 hm hdn ht haw hhw hs8 hc hlim
  go_enter Tryz.func101, Tryz.ntmps101
  go_wp2
  go_loopw [12] (fun i wr => ∃ k : Nat, k ≤ lim ∧ i = .int .i64 (k : Nat) ∧ Hid (RS b0 w0 L st oth b frm k k wr)) (fun i _ => n - (intOf i).toNat)
  case atStart => exact ⟨0, by omega, rfl, H0⟩
  case round =>
    obtain ⟨k, hk, rfl, hR0⟩ := hrel
    clear H0
    have hkn : k < n := by omega
    rcases Nat.lt_or_ge k lim with hltn | hge
    · have hrd : Hid (∀ W, RS b0 w0 L st oth b frm k k W → Calls Tryz.prog 132 #[.pointer (some ⟨L.P, 0, none⟩), hnd st.serial st.session, .int .i64 ((frm + k : Nat) : Int)] W fun e w' => e = .returned (.tuple #[.string (rd st (frm + k)), .int .i64 0]) ∧ RS b0 w0 L st oth b frm k (k + 1) w') := by
        obtain ⟨q1, q2, q3, q4, q5, q6, q7⟩ := HC.out
        exact fun W hW => hW.read hb0 q1 q2 q3 q4 (by omega) q5 (by omega) (by omega)
      go_wp2_with fail
      refine wp_region_pb (fun f => ⟨#[.pointer (some ⟨M, 0, none⟩), .int .i64 (frm : Nat), .int .i64 (n : Nat), undef, undef, undef, .string ⟨#[]⟩, .pointer (some ⟨b, 0, none⟩), .int .i64 (k : Nat), f 15, f 16, .int .i64 (n : Nat), .int .i64 (k : Nat), .bool true, .int .i64 (k : Nat), f 12, f 0, f 1, f 2, f 3, f 4, f 5, f 6, f 7, f 8, f 9, f 10, f 11, f 13, f 14, u30, u31, u32, u33, u34, u35, u36, undef], []⟩) (RV L st M frm k) (RPh b0 w0 L st oth b frm k) (fun i => [u16, u17, u18, u19, u20, u21, u22, u23, u24, u25, u26, u27, u15, u28, u29, u9, u10].getD i undef) (by kernel_rfl) rfl rfl ?hI ?hput ?step ?fin
      case hI => exact ⟨fun _ => hR0.out.below ⟨rfl, rfl, rfl, Nat.le_refl _, fun _ _ => rfl⟩, fun e => by cases e⟩
      case fin =>
        intro f W hP hV
        have h1 : RS b0 w0 L st oth b frm k (k + 1) W := hP.b rfl
        have v15 : f 15 = .string (rd st (frm + k)) := hV 15 (by decide)
        have v16 : f 16 = .int .i64 0 := hV 16 (by decide)
        obtain ⟨lv1, o1, bl1⟩ := h1
        have c1 : W.cell? ⟨M, 1, none⟩ = some (.int .i64 st.serial) := cell_of (o1.oth _ HM.out).1 1
        have hrl := rdsL_length st frm HC.out.2.2.2.2.1 k (by omega)
        have hr64 : (rd st (frm + k)).size = 64 := by show (rdB st (frm + k)).toArray.size = 64; simp [rdB, sec_length HC.out.2.2.2.2.1 (show frm + k < st.n by omega)]
        have hbw := bld_write b (rdsL st frm k) (rd st (frm + k)) W bl1 (by omega)
        have O1 : Hid (∃ lv, One b0 w0 L { st with count := st.count + ((k + 1 : Nat) : Int) } lv oth W ∧ Bld b (rdsL st frm k) W) := ⟨lv1, o1, bl1⟩
        clear hP hV o1 bl1 hrl
        generalize f 15 = x15 at *
        subst v15
        generalize f 16 = x16 at *
        subst v16
        generalize hrr : rd st (frm + k) = r at *
        go_wp2_with fail
        go_call (serial_any M st.serial W c1) as e W1 ⟨rfl, hW1⟩
        rw [← hW1] at hbw O1
        clear hW1 c1
        go_wp2_with fail
        go_call (fail_ok st.serial W1) as e W2 ⟨rfl, hW2⟩
        rw [← hW2] at hbw O1
        clear hW2
        go_wp2_with fail
        go_call hbw as e W3 ⟨rfl, bl3, ok3, be3⟩
        have H3 : Hid (RS b0 w0 L st oth b frm (k + 1) (k + 1) W3) := by
          obtain ⟨lv1, o1, bl1⟩ := O1.out
          obtain ⟨cb, hcb⟩ : ∃ cb, W2.heap[b]? = some (.cells cb 141) := by
            rcases bl1 with ⟨_, v, q, _⟩ | ⟨_, v, q, _⟩ <;> exact ⟨_, q⟩
          refine ⟨lv1, o1.others ok3 be3 hb0 hcb (fun p hp => ⟨by have := HLT.out p hp; omega, H5.out p hp⟩), ?_⟩
          have e : r.data.toList = rdB st (frm + k) := by rw [← hrr]; rfl
          show Bld b (rdsL st frm k ++ rdB st (frm + k)) W3
          rw [← e]; exact bl3
        clear hbw bl3 ok3 be3 O1
        go_wp2
        go_roundw
        case rel => exact ⟨k + 1, by omega, by simp, H3⟩
        case measure => simp only [intOf]; omega
      case hput =>
        repeat (refine ⟨fun f v => rfl, ?_⟩)
        trivial
      case step =>
        refine ⟨?_, ?_⟩
        · intro done f W hP hdn hd K hK
          clear hd
          go_simp
          exact hK _ _ rfl (hP.pure _ (by decide) _)
        refine ⟨?_, ?_⟩
        · intro done f W hP hdn hd K hK
          have d0 := (hd.1 rfl).2
          have e0 := (hd.1 rfl).1
          clear hd
          replace d0 : f 0 = .pointer (some ⟨M, 0, none⟩) := d0
          generalize f 0 = x0 at *
          subst d0
          clear e0
          go_simp
          exact hK _ _ rfl (hP.pure _ (by decide) _)
        refine ⟨?_, ?_⟩
        · intro done f W hP hdn hd K hK
          have d1 := (hd.1 rfl).2
          have e1 := (hd.1 rfl).1
          clear hd
          replace d1 : f 1 = .pointer (some ⟨M, 0, none⟩) := d1
          generalize f 1 = x1 at *
          subst d1
          clear e1
          go_simp
          exact hK _ _ rfl (hP.pure _ (by decide) _)
        refine ⟨?_, ?_⟩
        · intro done f W hP hdn hd K hK
          have d2 := (hd.1 rfl).2
          have e2 := (hd.1 rfl).1
          clear hd
          replace d2 : f 2 = .pointer (some ⟨M, 0, none⟩) := d2
          generalize f 2 = x2 at *
          subst d2
          clear e2
          have hm := (hP.cells HM.out).1
          go_simp
          exact hK _ _ rfl (hP.pure _ (by decide) _)
        refine ⟨?_, ?_⟩
        · intro done f W hP hdn hd K hK
          clear hd
          go_simp
          exact hK _ _ rfl (hP.pure _ (by decide) _)
        refine ⟨?_, ?_⟩
        · intro done f W hP hdn hd K hK
          have d4 := (hd.1 rfl).2
          have e4 := (hd.1 rfl).1
          clear hd
          replace d4 : f 4 = .pointer (some ⟨M, 0, none⟩) := d4
          generalize f 4 = x4 at *
          subst d4
          clear e4
          go_simp
          exact hK _ _ rfl (hP.pure _ (by decide) _)
        refine ⟨?_, ?_⟩
        · intro done f W hP hdn hd K hK
          have d5 := (hd.1 rfl).2
          have e5 := (hd.1 rfl).1
          clear hd
          replace d5 : f 5 = .pointer (some ⟨M, 0, none⟩) := d5
          generalize f 5 = x5 at *
          subst d5
          clear e5
          go_simp
          exact hK _ _ rfl (hP.pure _ (by decide) _)
        refine ⟨?_, ?_⟩
        · intro done f W hP hdn hd K hK
          have d6 := (hd.1 rfl).2
          have e6 := (hd.1 rfl).1
          clear hd
          replace d6 : f 6 = .pointer (some ⟨M, 1, none⟩) := d6
          generalize f 6 = x6 at *
          subst d6
          clear e6
          have hm1 := (hP.cells HM.out).2.1
          have hm2 := (hP.cells HM.out).2.2
          go_simp
          exact hK _ _ rfl (hP.pure _ (by decide) _)
        refine ⟨?_, ?_⟩
        · intro done f W hP hdn hd K hK
          clear hd
          go_simp
          exact hK _ _ rfl (hP.pure _ (by decide) _)
        refine ⟨?_, ?_⟩
        · intro done f W hP hdn hd K hK
          clear hd
          go_simp
          exact hK _ _ rfl (hP.pure _ (by decide) _)
        refine ⟨?_, ?_⟩
        · intro done f W hP hdn hd K hK
          have d8 := (hd.1 rfl).2
          have d9 := (hd.2.1 rfl).2
          have e8 := (hd.1 rfl).1
          have e9 := (hd.2.1 rfl).1
          clear hd
          replace d8 : f 8 = .int .i64 (frm : Nat) := d8
          replace d9 : f 9 = .int .i64 (k : Nat) := d9
          generalize f 8 = x8 at *
          subst d8
          clear e8
          generalize f 9 = x9 at *
          subst d9
          clear e9
          go_simp
          exact hK _ _ (by show Value.int _ _ = Value.int _ _; first | rfl | (congr 1; rw [IntKind.wrap_i64]; omega) | (congr 1; omega)) (hP.pure _ (by decide) _)
        refine ⟨?_, ?_⟩
        · intro done f W hP hdn hd K hK
          have d3 := (hd.1 rfl).2
          have d7 := (hd.2.1 rfl).2
          have d10 := (hd.2.2.1 rfl).2
          have e3 := (hd.1 rfl).1
          have e7 := (hd.2.1 rfl).1
          have e10 := (hd.2.2.1 rfl).1
          clear hd
          replace d3 : f 3 = .pointer (some ⟨L.P, 0, none⟩) := d3
          replace d7 : f 7 = hnd st.serial st.session := d7
          replace d10 : f 10 = .int .i64 ((frm + k : Nat) : Int) := d10
          have hdn11 : done 11 = false := hdn
          have hx0 := hP.a hdn11
          generalize f 3 = x3 at *
          subst d3
          clear e3
          generalize f 7 = x7 at *
          subst d7
          clear e7
          generalize f 10 = x10 at *
          subst d10
          clear e10
          go_simp
          refine Calls.mono (hrd.out W hx0) ?_
          rintro e W' ⟨rfl, hx1⟩
          exact hK _ _ rfl (hP.read hx1 _)
        refine ⟨?_, ?_⟩
        · intro done f W hP hdn hd K hK
          have d11 := (hd.1 rfl).2
          have e11 := (hd.1 rfl).1
          clear hd
          replace d11 : f 11 = .tuple #[.string (rd st (frm + k)), .int .i64 0] := d11
          generalize f 11 = x11 at *
          subst d11
          clear e11
          go_simp
          exact hK _ _ rfl (hP.pure _ (by decide) _)
        refine ⟨?_, ?_⟩
        · intro done f W hP hdn hd K hK
          have d12 := (hd.1 rfl).2
          have e12 := (hd.1 rfl).1
          clear hd
          replace d12 : f 12 = .tuple #[.string (rd st (frm + k)), .int .i64 0] := d12
          generalize f 12 = x12 at *
          subst d12
          clear e12
          go_simp
          exact hK _ _ rfl (hP.pure _ (by decide) _)
        refine ⟨?_, ?_⟩
        · intro done f W hP hdn hd K hK
          have d12 := (hd.1 rfl).2
          have e12 := (hd.1 rfl).1
          clear hd
          replace d12 : f 12 = .tuple #[.string (rd st (frm + k)), .int .i64 0] := d12
          generalize f 12 = x12 at *
          subst d12
          clear e12
          go_simp
          exact hK _ _ rfl (hP.pure _ (by decide) _)
        refine ⟨?_, ?_⟩
        · intro done f W hP hdn hd K hK
          have d13 := (hd.1 rfl).2
          have e13 := (hd.1 rfl).1
          clear hd
          replace d13 : f 13 = .string (rd st (frm + k)) := d13
          generalize f 13 = x13 at *
          subst d13
          clear e13
          go_simp
          exact hK _ _ rfl (hP.pure _ (by decide) _)
        refine ⟨?_, ?_⟩
        · intro done f W hP hdn hd K hK
          have d14 := (hd.1 rfl).2
          have e14 := (hd.1 rfl).1
          clear hd
          replace d14 : f 14 = .int .i64 0 := d14
          generalize f 14 = x14 at *
          subst d14
          clear e14
          go_simp
          exact hK _ _ rfl (hP.pure _ (by decide) _)
        trivial
    · obtain rfl : k = lim := by omega
      have hrd : Hid (∀ W, RS b0 w0 L st oth b frm k k W → Calls Tryz.prog 132 #[.pointer (some ⟨L.P, 0, none⟩), hnd st.serial st.session, .int .i64 ((frm + k : Nat) : Int)] W fun e w' => e = .returned (.tuple #[.string ⟨#[]⟩, .int .i64 6]) ∧ ∃ lv, One b0 w0 L { st with count := st.count + (k : Int) } lv oth w') := by
        obtain ⟨q1, q2, q3, q4, q5, q6, q7⟩ := HC.out
        exact fun W ⟨lv, hW, _⟩ => (hW.pread_no ((frm + k : Nat) : Int) q1 q2 (by show ¬ (_ ∧ _ < (st.n : Int)); omega)).mono (fun e w' ⟨h1, h2⟩ => ⟨h1, lv, h2⟩)
      have HC0 : Hid (∀ W, RS b0 w0 L st oth b frm k k W → W.cell? ⟨M, 0, none⟩ = some (.pointer (some ⟨L.P, 0, none⟩)) ∧ W.cell? ⟨M, 1, none⟩ = some (.int .i64 st.serial) ∧ W.cell? ⟨M, 2, none⟩ = some (.int .i64 st.session)) := fun W ⟨lv, hW, _⟩ => hW.mcells HM.out
      have HC1 : Hid (∀ W, (∃ lv, One b0 w0 L { st with count := st.count + (k : Int) } lv oth W) → W.cell? ⟨M, 0, none⟩ = some (.pointer (some ⟨L.P, 0, none⟩)) ∧ W.cell? ⟨M, 1, none⟩ = some (.int .i64 st.serial) ∧ W.cell? ⟨M, 2, none⟩ = some (.int .i64 st.session)) := fun W ⟨lv, hW⟩ => hW.mcells HM.out
      go_wp2_with fail
      refine wp_region_pb (fun f => ⟨#[.pointer (some ⟨M, 0, none⟩), .int .i64 (frm : Nat), .int .i64 (n : Nat), undef, undef, undef, .string ⟨#[]⟩, .pointer (some ⟨b, 0, none⟩), .int .i64 (k : Nat), f 15, f 16, .int .i64 (n : Nat), .int .i64 (k : Nat), .bool true, .int .i64 (k : Nat), f 12, f 0, f 1, f 2, f 3, f 4, f 5, f 6, f 7, f 8, f 9, f 10, f 11, f 13, f 14, u30, u31, u32, u33, u34, u35, u36, undef], []⟩) (RVo L st M frm k) (Two 11 (fun W => RS b0 w0 L st oth b frm k k W) (fun W => ∃ lv, One b0 w0 L { st with count := st.count + (k : Int) } lv oth W)) (fun i => [u16, u17, u18, u19, u20, u21, u22, u23, u24, u25, u26, u27, u15, u28, u29, u9, u10].getD i undef) (by kernel_rfl) rfl rfl ?hIb ?hputb ?stepb ?finb
      case hIb => exact ⟨fun _ => hR0.out.below ⟨rfl, rfl, rfl, Nat.le_refl _, fun _ _ => rfl⟩, (fun e => by cases e)⟩
      case finb =>
        intro f W hP hV
        have v15 : f 15 = .string ⟨#[]⟩ := hV 15 (by decide)
        have v16 : f 16 = .int .i64 6 := hV 16 (by decide)
        have c1 := (HC1.out W (hP.b rfl)).2.1
        have H1 : Hid (∃ lv, One b0 w0 L { st with count := st.count + (k : Int) } lv oth W) := hP.b rfl
        clear hP hV HC0 HC1 hrd hR0
        generalize f 15 = x15 at *
        subst v15
        generalize f 16 = x16 at *
        subst v16
        go_wp2_with fail
        go_call (serial_any M st.serial W c1) as e W1 ⟨rfl, hW1⟩
        rw [← hW1] at H1
        clear hW1 c1
        go_wp2_with fail
        go_call (fail_any st.serial 6 (by decide) W1) as e W2 ⟨rfl, hW2⟩
        rw [← hW2] at H1
        clear hW2
        go_wp2
        exact ⟨rfl, rfl, H1.out⟩
      case hputb =>
        repeat (refine ⟨fun f v => rfl, ?_⟩)
        trivial
      case stepb =>
        refine ⟨?_, ?_⟩
        · intro done f W hP hdn hd K hK
          clear hd
          go_simp
          exact hK _ _ rfl (hP.pure _ (by decide) _)
        refine ⟨?_, ?_⟩
        · intro done f W hP hdn hd K hK
          have d0 := (hd.1 rfl).2
          have e0 : done 0 = true := (hd.1 rfl).1
          clear hd
          replace d0 : f 0 = .pointer (some ⟨M, 0, none⟩) := d0
          generalize f 0 = x0 at *
          subst d0
          clear e0
          go_simp
          exact hK _ _ rfl (hP.pure _ (by decide) _)
        refine ⟨?_, ?_⟩
        · intro done f W hP hdn hd K hK
          have d1 := (hd.1 rfl).2
          have e1 : done 1 = true := (hd.1 rfl).1
          clear hd
          replace d1 : f 1 = .pointer (some ⟨M, 0, none⟩) := d1
          generalize f 1 = x1 at *
          subst d1
          clear e1
          go_simp
          exact hK _ _ rfl (hP.pure _ (by decide) _)
        refine ⟨?_, ?_⟩
        · intro done f W hP hdn hd K hK
          have d2 := (hd.1 rfl).2
          have e2 : done 2 = true := (hd.1 rfl).1
          clear hd
          replace d2 : f 2 = .pointer (some ⟨M, 0, none⟩) := d2
          generalize f 2 = x2 at *
          subst d2
          clear e2
          have q := Two.any (R := fun W => W.cell? ⟨M, 0, none⟩ = some (.pointer (some ⟨L.P, 0, none⟩)) ∧ W.cell? ⟨M, 1, none⟩ = some (.int .i64 st.serial) ∧ W.cell? ⟨M, 2, none⟩ = some (.int .i64 st.session)) HC0.out HC1.out hP
          have q0 := q.1
          have q1 := q.2.1
          have q2 := q.2.2
          clear q
          go_simp
          exact hK _ _ rfl (hP.pure _ (by decide) _)
        refine ⟨?_, ?_⟩
        · intro done f W hP hdn hd K hK
          clear hd
          go_simp
          exact hK _ _ rfl (hP.pure _ (by decide) _)
        refine ⟨?_, ?_⟩
        · intro done f W hP hdn hd K hK
          have d4 := (hd.1 rfl).2
          have e4 : done 4 = true := (hd.1 rfl).1
          clear hd
          replace d4 : f 4 = .pointer (some ⟨M, 0, none⟩) := d4
          generalize f 4 = x4 at *
          subst d4
          clear e4
          go_simp
          exact hK _ _ rfl (hP.pure _ (by decide) _)
        refine ⟨?_, ?_⟩
        · intro done f W hP hdn hd K hK
          have d5 := (hd.1 rfl).2
          have e5 : done 5 = true := (hd.1 rfl).1
          clear hd
          replace d5 : f 5 = .pointer (some ⟨M, 0, none⟩) := d5
          generalize f 5 = x5 at *
          subst d5
          clear e5
          go_simp
          exact hK _ _ rfl (hP.pure _ (by decide) _)
        refine ⟨?_, ?_⟩
        · intro done f W hP hdn hd K hK
          have d6 := (hd.1 rfl).2
          have e6 : done 6 = true := (hd.1 rfl).1
          clear hd
          replace d6 : f 6 = .pointer (some ⟨M, 1, none⟩) := d6
          generalize f 6 = x6 at *
          subst d6
          clear e6
          have q := Two.any (R := fun W => W.cell? ⟨M, 0, none⟩ = some (.pointer (some ⟨L.P, 0, none⟩)) ∧ W.cell? ⟨M, 1, none⟩ = some (.int .i64 st.serial) ∧ W.cell? ⟨M, 2, none⟩ = some (.int .i64 st.session)) HC0.out HC1.out hP
          have q0 := q.1
          have q1 := q.2.1
          have q2 := q.2.2
          clear q
          go_simp
          exact hK _ _ rfl (hP.pure _ (by decide) _)
        refine ⟨?_, ?_⟩
        · intro done f W hP hdn hd K hK
          clear hd
          go_simp
          exact hK _ _ rfl (hP.pure _ (by decide) _)
        refine ⟨?_, ?_⟩
        · intro done f W hP hdn hd K hK
          clear hd
          go_simp
          exact hK _ _ rfl (hP.pure _ (by decide) _)
        refine ⟨?_, ?_⟩
        · intro done f W hP hdn hd K hK
          have d8 := (hd.1 rfl).2
          have e8 : done 8 = true := (hd.1 rfl).1
          have d9 := (hd.2.1 rfl).2
          have e9 : done 9 = true := (hd.2.1 rfl).1
          clear hd
          replace d8 : f 8 = .int .i64 (frm : Nat) := d8
          replace d9 : f 9 = .int .i64 (k : Nat) := d9
          generalize f 8 = x8 at *
          subst d8
          clear e8
          generalize f 9 = x9 at *
          subst d9
          clear e9
          go_simp
          exact hK _ _ (by show Value.int _ _ = Value.int _ _; first | rfl | (congr 1; rw [IntKind.wrap_i64]; omega) | (congr 1; omega)) (hP.pure _ (by decide) _)
        refine ⟨?_, ?_⟩
        · intro done f W hP hdn hd K hK
          have d3 := (hd.1 rfl).2
          have e3 : done 3 = true := (hd.1 rfl).1
          have d7 := (hd.2.1 rfl).2
          have e7 : done 7 = true := (hd.2.1 rfl).1
          have d10 := (hd.2.2.1 rfl).2
          have e10 : done 10 = true := (hd.2.2.1 rfl).1
          clear hd
          replace d3 : f 3 = .pointer (some ⟨L.P, 0, none⟩) := d3
          replace d7 : f 7 = hnd st.serial st.session := d7
          replace d10 : f 10 = .int .i64 ((frm + k : Nat) : Int) := d10
          generalize f 3 = x3 at *
          subst d3
          clear e3
          generalize f 7 = x7 at *
          subst d7
          clear e7
          generalize f 10 = x10 at *
          subst d10
          clear e10
          have hx0 := hP.a hdn
          go_simp
          refine Calls.mono (hrd.out W hx0) ?_
          rintro e W' ⟨rfl, hx1⟩
          exact hK _ _ rfl (hP.turn hx1 _)
        refine ⟨?_, ?_⟩
        · intro done f W hP hdn hd K hK
          have d11 := (hd.1 rfl).2
          have e11 : done 11 = true := (hd.1 rfl).1
          clear hd
          replace d11 : f 11 = .tuple #[.string ⟨#[]⟩, .int .i64 6] := d11
          generalize f 11 = x11 at *
          subst d11
          clear e11
          go_simp
          exact hK _ _ rfl (hP.pure _ (by decide) _)
        refine ⟨?_, ?_⟩
        · intro done f W hP hdn hd K hK
          have d12 := (hd.1 rfl).2
          have e12 : done 12 = true := (hd.1 rfl).1
          clear hd
          replace d12 : f 12 = .tuple #[.string ⟨#[]⟩, .int .i64 6] := d12
          generalize f 12 = x12 at *
          subst d12
          clear e12
          go_simp
          exact hK _ _ rfl (hP.pure _ (by decide) _)
        refine ⟨?_, ?_⟩
        · intro done f W hP hdn hd K hK
          have d12 := (hd.1 rfl).2
          have e12 : done 12 = true := (hd.1 rfl).1
          clear hd
          replace d12 : f 12 = .tuple #[.string ⟨#[]⟩, .int .i64 6] := d12
          generalize f 12 = x12 at *
          subst d12
          clear e12
          go_simp
          exact hK _ _ rfl (hP.pure _ (by decide) _)
        refine ⟨?_, ?_⟩
        · intro done f W hP hdn hd K hK
          have d13 := (hd.1 rfl).2
          have e13 : done 13 = true := (hd.1 rfl).1
          clear hd
          replace d13 : f 13 = .string ⟨#[]⟩ := d13
          generalize f 13 = x13 at *
          subst d13
          clear e13
          go_simp
          exact hK _ _ rfl (hP.pure _ (by decide) _)
        refine ⟨?_, ?_⟩
        · intro done f W hP hdn hd K hK
          have d14 := (hd.1 rfl).2
          have e14 : done 14 = true := (hd.1 rfl).1
          clear hd
          replace d14 : f 14 = .int .i64 6 := d14
          generalize f 14 = x14 at *
          subst d14
          clear e14
          go_simp
          exact hK _ _ rfl (hP.pure _ (by decide) _)
        trivial
theorem One.mread_none (h : One b0 w0 L st lv oth w) (M : Nat) (h5 : ∀ p ∈ oth, ∀ c fz, p.2 ≠ .cells c 5 fz) (frm n : Int) (hn : n ≤ 0) :
    Calls Tryz.prog 101 #[.pointer (some ⟨M, 0, none⟩), .int .i64 frm, .int .i64 n] w fun e w' => e = .returned (.string ⟨#[]⟩) ∧ One b0 w0 L st lv oth w' := by
  have hlt := h.lts
  have hb0 : b0 ≤ w.heap.size := by have := getElem?_lt h.pool; have := h.bP; omega
  have bl := bld_new w
  have o1 := h.laid (.cells #[.pointer none, .slice none 0 0] 141)
  have hbs := bld_string w.heap.size [] _ bl
  have O1 : Hid (∀ W, Lib.OthersKept 5 (some w.heap.size) (w.alloc (.cells #[.pointer none, .slice none 0 0] 141)) W → Below w.heap.size (w.alloc (.cells #[.pointer none, .slice none 0 0] 141)) W → One b0 w0 L st lv oth W) := fun W h1 h2 => o1.others h1 h2 hb0 (heap_new _ _) (fun p hp => ⟨by have := hlt p hp; omega, h5 p hp⟩)
  clear h o1 bl hlt h5
  have hn2 : ¬ 0 < n := by omega
  go_enter Tryz.func101, Tryz.ntmps101
  go_wp2_with fail
  go_loopw [12] (fun i wr => i = .int .i64 0 ∧ wr = w.alloc (.cells #[.pointer none, .slice none 0 0] 141)) (fun i _ => 0)
  case atStart => exact ⟨rfl, rfl⟩
  case round =>
    obtain ⟨rfl, rfl⟩ := hrel
    go_wp2_with fail
    go_call hbs as e W2 ⟨rfl, ok2, be2⟩
    have HF : Hid _ := O1.out W2 ok2 be2
    clear hbs ok2 be2
    go_wp2
    go_returns
    exact ⟨rfl, HF.out⟩
end
end Go.Proofs.YtncfbocbigdhiaaGreat.F
