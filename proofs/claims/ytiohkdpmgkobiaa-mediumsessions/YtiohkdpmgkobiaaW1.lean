/- The Builder, as a call; medium's Read: under way. -/
import Derived.Test.YtiohkdpmgkobiaaQ5
namespace Go.Proofs.Ytiohkdpmgkobiaa
open Go.RowKit
def Bld (b : Nat) (l : List UInt8) (w : World) : Prop := Lib.IsBuilderF 127 5 b b (Lib.byteCells l) w
theorem bld_new (w : World) : Bld w.heap.size [] (w.alloc (.cells #[.pointer none, .slice none 0 0] 127)) :=
  Or.inl ⟨Nat.le_refl _, .slice none 0 0, heap_new _ _, ⟨rfl, Or.inl ⟨rfl, rfl⟩⟩, by intro e; cases e⟩
theorem bld_write (b : Nat) (l : List UInt8) (s : ByteArray) (w : World) (h : Bld b l w) (hl : l.length + s.size ≤ 1000000) :
    Calls Try.prog 91 #[.pointer (some ⟨b, 0, none⟩), .string s] w fun e w' => e = .returned (.tuple #[.int .i64 (s.size : Nat), .nilIface]) ∧ Bld b (l ++ s.data.toList) w' ∧ Lib.OthersKept 5 (some b) w w' ∧ Below b w w' := by
  have hb : b ≤ w.heap.size := by
    rcases h with ⟨_, v, h1, _⟩ | ⟨_, v, h1, _⟩ <;> exact Nat.le_of_lt (getElem?_lt h1)
  have hlen : (Lib.byteCells l).length = l.length := by rw [Lib.byteCells_length]
  refine (Any.Builder_WriteString_k { Try.lays105 with } Try.extra105 b b (Lib.byteCells l) s w h (by rw [hlen]; omega) hb).mono ?_
  rintro e w' ⟨he, h1, h2, h3⟩
  refine ⟨he, Or.inr ?_, h3, h2⟩
  have e2 : Lib.byteCells l ++ Lib.strCells s = Lib.byteCells (l ++ s.data.toList) := by
    unfold Lib.byteCells Lib.strCells
    rw [List.map_append]
  rw [e2] at h1
  exact h1
theorem bld_string (b : Nat) (l : List UInt8) (w : World) (h : Bld b l w) :
    Calls Try.prog 92 #[.pointer (some ⟨b, 0, none⟩)] w fun e w' => e = .returned (.string ⟨l.toArray⟩) ∧ Lib.OthersKept 5 (some b) w w' ∧ Below b w w' := by
  have hb : b ≤ w.heap.size := by
    rcases h with ⟨_, v, h1, _⟩ | ⟨_, v, h1, _⟩ <;> exact Nat.le_of_lt (getElem?_lt h1)
  refine (Any.Builder_String_any_k { Try.lays105 with } Try.extra105 b b l w h hb).mono ?_
  rintro e w' ⟨he, _, h2, h3⟩
  exact ⟨he, h3, h2⟩
theorem Bld.of_blocks {b : Nat} {l : List UInt8} {w w' : World} (h : Bld b l w) (hk : ∀ k o, w.heap[k]? = some o → (k = b ∨ ∃ c fz, o = .cells c 5 fz) → w'.heap[k]? = some o) : Bld b l w' := by
  have one : ∀ p, Lib.BuilderAtF 127 5 b b p (Lib.byteCells l) w → Lib.BuilderAtF 127 5 b b p (Lib.byteCells l) w' := by
    rintro p ⟨h0, v, h1, h2, h3⟩
    refine ⟨h0, v, hk b _ h1 (Or.inl rfl), ⟨h2.1, ?_⟩, h3⟩
    rcases h2.2 with q | ⟨g, cap, cur, fz, q1, q2, q3, q4⟩
    · exact Or.inl q
    · exact Or.inr ⟨g, cap, cur, fz, q1, q2, hk g _ q3 (Or.inr ⟨cur, fz, rfl⟩), q4⟩
  rcases h with h | h
  · exact Or.inl (one _ h)
  · exact Or.inr (one _ h)
section
variable {b0 : Nat} {w0 : World} {L : Loc} {st : St} {lv : Value} {oth : List (Nat × Obj)} {w : World}
theorem One.with_ty (h : One b0 w0 L st lv oth w) {k : Nat} {c : Array Value} {t : TypeId} {fr : Nat × Nat} (hk : w.heap[k]? = some (.cells c t fr)) (ht : t ≠ 95 ∧ t ≠ 98 ∧ t ≠ 102 ∧ t ≠ 147 ∧ t ≠ 149) (hb : b0 ≤ k) : One b0 w0 L st lv ((k, .cells c t fr) :: oth) w := by
  have ne : ∀ {j : Nat} {c' : Array Value} {t' : TypeId}, w.heap[j]? = some (.cells c' t') → t ≠ t' → k ≠ j := by
    intro j c' t' hj htt e
    rw [← e, hk] at hj
    injection hj with hj
    injection hj with _ hj _
    exact htt hj
  refine { h with oth := ?_ }
  intro p hp
  rcases List.mem_cons.1 hp with rfl | hp
  · exact ⟨hk, ⟨ne h.pool ht.1, ne h.rowb ht.2.1, ne h.dev ht.2.2.1, ne h.sec ht.2.2.2.1⟩, fun c' e => by injection e with _ e _; exact ht.2.2.2.2 e, hb⟩
  · exact h.oth p hp
theorem One.others {w' : World} {b : Nat} {cb : Array Value} (h : One b0 w0 L st lv oth w) (hk : Lib.OthersKept 5 (some b) w w') (hbl : Below b w w') (hb0 : b0 ≤ b) (hnb : w.heap[b]? = some (.cells cb 127)) (ho : ∀ p ∈ oth, p.1 ≠ b ∧ ∀ c fz, p.2 ≠ .cells c 5 fz) : One b0 w0 L st lv oth w' := by
  have same : ∀ {j : Nat} {c : Array Value} {t : TypeId}, w.heap[j]? = some (.cells c t) → t ≠ 5 → t ≠ 127 → w'.heap[j]? = some (.cells c t) := by
    intro j c t hj h5 h127
    refine hk j _ hj ?_ (fun c' fz e => by injection e with _ e _; exact h5 e)
    intro e
    injection e with e
    rw [e, hnb] at hj
    injection hj with hj
    injection hj with _ hj _
    exact h127 hj.symm
  refine ⟨?_, h.bP, h.bR, h.bD, h.bS, same h.pool (by decide) (by decide), same h.rowb (by decide) (by decide), h.rc0, same h.dev (by decide) (by decide), same h.sec (by decide) (by decide), ⟨h.own.1, ?_⟩, ?_⟩
  · exact h.below.trans (hbl.mono hb0)
  · rcases h.own.2 with q | ⟨g, cap, cur, q1, q2, q3, q4⟩
    · exact Or.inl q
    · exact Or.inr ⟨g, cap, cur, q1, q2, same q3 (by decide) (by decide), q4⟩
  · intro p hp
    obtain ⟨o1, o2, o3, o4⟩ := h.oth p hp
    obtain ⟨q1, q2⟩ := ho p hp
    exact ⟨hk p.1 _ o1 (fun e => q1 (Option.some.inj e)) q2, o2, o3, o4⟩
def rdsL (st : St) (frm : Nat) : Nat → List UInt8
  | 0 => []
  | k + 1 => rdsL st frm k ++ rdB st (frm + k)
/-- Behind k sectors that were read, of c operations. -/
def RS (b0 : Nat) (w0 : World) (L : Loc) (st : St) (oth : List (Nat × Obj)) (b frm k c : Nat) (w : World) : Prop := ∃ lv, One b0 w0 L { st with count := st.count + (c : Int) } lv oth w ∧ Bld b (rdsL st frm k) w
theorem RS.below {b frm k c : Nat} {w' : World} (h : RS b0 w0 L st oth b frm k c w) (hb : Below w.heap.size w w') : RS b0 w0 L st oth b frm k c w' := by
  obtain ⟨lv, h1, h2⟩ := h
  exact ⟨lv, h1.ofBelow hb, h2.of_blocks (fun j o hj _ => (hb.block j (getElem?_lt hj)).trans hj)⟩
theorem RS.read {b frm k : Nat} (h : RS b0 w0 L st oth b frm k k w) (hb0 : b0 ≤ b) (hdn : st.down = false) (ht : st.there = true) (haw : st.aw = false) (hhw : st.hw = false) (hi : frm + k < st.n) (hs8 : SecOk st) (hnb : st.n ≤ 9223372036854775807) (hc : 0 ≤ st.count + (k : Int) ∧ st.count + (k : Int) ≤ 1000000) :
    Calls Try.prog 20 #[.pointer (some ⟨L.P, 0, none⟩), hnd st.serial st.session, .int .i64 ((frm + k : Nat) : Int)] w fun e w' => e = .returned (.tuple #[.string (rd st (frm + k)), .int .i64 0]) ∧ RS b0 w0 L st oth b frm k (k + 1) w' := by
  obtain ⟨lv, h1, h2⟩ := h
  have key : ∃ oth2, One b0 w0 L { st with count := st.count + (k : Int) } lv oth2 w ∧ (∀ p ∈ oth, p ∈ oth2) ∧ ∀ w', (∀ p ∈ oth2, w'.heap[p.1]? = some p.2) → Bld b (rdsL st frm k) w' := by
    have one : ∀ p, Lib.BuilderAtF 127 5 b b p (Lib.byteCells (rdsL st frm k)) w → ∃ oth2, One b0 w0 L { st with count := st.count + (k : Int) } lv oth2 w ∧ (∀ p ∈ oth, p ∈ oth2) ∧ ∀ w', (∀ p ∈ oth2, w'.heap[p.1]? = some p.2) → Lib.BuilderAtF 127 5 b b p (Lib.byteCells (rdsL st frm k)) w' := by
      rintro p ⟨q0, v, q1, q2, q3⟩
      have o1 := h1.with_ty q1 (by decide) hb0
      rcases q2.2 with ⟨r1, r2⟩ | ⟨g, cap, cur, fz, r1, r2, r3, r4⟩
      · refine ⟨_, o1, fun p hp => List.mem_cons_of_mem _ hp, fun w' hw => ⟨q0, v, hw _ (List.mem_cons_self ..), ⟨q2.1, Or.inl ⟨r1, r2⟩⟩, q3⟩⟩
      · refine ⟨_, o1.with_ty r3 (by decide) (Nat.le_trans hb0 r2), fun p hp => List.mem_cons_of_mem _ (List.mem_cons_of_mem _ hp), fun w' hw => ⟨q0, v, hw _ (List.mem_cons_of_mem _ (List.mem_cons_self ..)), ⟨q2.1, Or.inr ⟨g, cap, cur, fz, r1, r2, hw _ (List.mem_cons_self ..), r4⟩⟩, q3⟩⟩
    rcases h2 with h2 | h2
    · obtain ⟨oth2, a1, a2, a3⟩ := one _ h2
      exact ⟨oth2, a1, a2, fun w' hw => Or.inl (a3 w' hw)⟩
    · obtain ⟨oth2, a1, a2, a3⟩ := one _ h2
      exact ⟨oth2, a1, a2, fun w' hw => Or.inr (a3 w' hw)⟩
  obtain ⟨oth2, a1, a2, a3⟩ := key
  refine (a1.pread_ok (frm + k) hdn ht haw hhw hi ⟨hs8.size, hs8.bytes⟩ hnb hc).mono ?_
  rintro e w' ⟨rfl, lv', h'⟩
  refine ⟨rfl, lv', ?_, a3 w' (fun p hp => (h'.oth p hp).1)⟩
  have e : ({ ({ st with count := st.count + (k : Int) } : St) with count := ({ st with count := st.count + (k : Int) } : St).count + 1 } : St) = { st with count := st.count + ((k + 1 : Nat) : Int) } := by
    show ({ st with count := st.count + (k : Int) + 1 } : St) = _
    congr 1; omega
  rw [e] at h'
  exact h'.forget a2
end
end Go.Proofs.Ytiohkdpmgkobiaa
