/- settle, of any number of loose sectors and any choices, as a call. -/
import Derived.Test.YtiohkdpmgkobiaaZ2
import Derived.Test.YtiohkdpmgkobiaaY1
namespace Go.Proofs.Ytiohkdpmgkobiaa
open Go.RowKit
def lent (st : St) (k : Nat) : List Value := (st.loose.drop (k * 65)).take 65
def lwas (st : St) (k : Nat) : List Value := (lent st k).drop 1
/-- Which sectors are loose. -/
structure LIs (st : St) (ats : Nat → Nat) : Prop where
  len : st.loose.length = st.ln * 65
  few : st.ln ≤ 5000
  at0 : ∀ k, k < st.ln → st.loose[k * 65]? = some (.int .i64 (ats k : Nat))
  lt : ∀ k, k < st.ln → ats k < st.n
  one : ∀ u ∈ st.loose, u.oneCell' = true
def setL (secs : Array Value) (i : Nat) (c : List Value) : Array Value := (secs.toList.take (i * 64) ++ c ++ secs.toList.drop (i * 64 + c.length)).toArray
def stays (N : Nat) (ch : Nat → Int) (k : Nat) : Bool := decide (k < N) && ((ch k).tmod 2 != 0)
/-- The sectors behind k choices. -/
def secsK (st : St) (ats : Nat → Nat) (N : Nat) (ch : Nat → Int) : Nat → Array Value
  | 0 => st.secs
  | k + 1 => if stays N ch k then secsK st ats N ch k else setL (secsK st ats N ch k) (ats k) (lwas st k)
theorem lent_length {st : St} {ats : Nat → Nat} (h : LIs st ats) (k : Nat) (hk : k < st.ln) : (lent st k).length = 65 := by
  unfold lent
  rw [List.length_take, List.length_drop, h.len]
  have : (k + 1) * 65 ≤ st.ln * 65 := Nat.mul_le_mul_right _ hk
  omega
theorem lwas_length {st : St} {ats : Nat → Nat} (h : LIs st ats) (k : Nat) (hk : k < st.ln) : (lwas st k).length = 64 := by
  unfold lwas; rw [List.length_drop, lent_length h k hk]
theorem lent_zero {st : St} {ats : Nat → Nat} (h : LIs st ats) (k : Nat) (hk : k < st.ln) : (lent st k)[0]? = some (.int .i64 (ats k : Nat)) := by
  unfold lent
  rw [List.getElem?_take_of_lt (by decide), List.getElem?_drop, Nat.add_zero]
  exact h.at0 k hk
theorem lent_one {st : St} {ats : Nat → Nat} (h : LIs st ats) (k : Nat) : ∀ u ∈ lent st k, u.oneCell' = true := fun u hu => h.one u (List.mem_of_mem_drop (List.mem_of_mem_take hu))
theorem setL_size (secs : Array Value) (i : Nat) (c : List Value) (h : i * 64 + c.length ≤ secs.size) : (setL secs i c).size = secs.size := by
  unfold setL
  rw [List.size_toArray, List.length_append, List.length_append, List.length_take, List.length_drop, Array.length_toList]; omega
theorem secsK_size {st : St} {ats : Nat → Nat} (h : LIs st ats) (hs : st.secs.size = st.n * 64) (N : Nat) (ch : Nat → Int) : ∀ k, k ≤ st.ln → (secsK st ats N ch k).size = st.n * 64
  | 0, _ => hs
  | k + 1, hk => by
    have ih := secsK_size h hs N ch k (by omega)
    show (if stays N ch k then secsK st ats N ch k else setL (secsK st ats N ch k) (ats k) (lwas st k)).size = _
    split
    · exact ih
    · have h1 := h.lt k (by omega)
      have : (ats k + 1) * 64 ≤ st.n * 64 := Nat.mul_le_mul_right _ h1
      rw [setL_size _ _ _ (by rw [lwas_length h k (by omega), ih]; omega), ih]
theorem setCells_setRow (g : Nat) (t : TypeId) : ∀ (vs : List Value) (o : Nat) (cur : Array Value) (w : World), w.heap[g]? = some (.cells cur t (0, 0)) → o + vs.length ≤ cur.size →
    w.setCells g o vs = w.setRow g (cur.toList.take o ++ vs ++ cur.toList.drop (o + vs.length)).toArray
  | [], o, cur, w, hg, _ => by
    rw [World.setCells, List.append_nil, List.length_nil, Nat.add_zero, List.take_append_drop, Array.toArray_toList, setRow_self w g cur t (0, 0) hg]
  | v :: r, o, cur, w, hg, hl => by
    simp only [List.length_cons] at hl
    rw [World.setCells, setCell_eq_setRow w g o cur t (0, 0) v hg]
    rw [setCells_setRow g t r (o + 1) (cur.setIfInBounds o v) _ (setRow_heap w g cur _ t _ hg) (by rw [Array.size_setIfInBounds]; omega), setRow_setRow]
    have e := list_seg_step cur.toList o v r (by rw [Array.length_toList]; omega)
    rw [Array.toList_setIfInBounds, e]; rfl
section
variable {b0 : Nat} {w0 : World} {L : Loc} {st : St} {lv : Value} {oth : List (Nat × Obj)} {w : World}
/-- A device's sectors are stored over. -/
theorem One.storeS (h : One b0 w0 L st lv oth w) (i : Nat) (c : List Value) (hf : i * 64 + c.length ≤ st.secs.size) : One b0 w0 L { st with secs := setL st.secs i c } lv oth (w.setCells L.S (i * 64) c) := by
  rw [setCells_setRow L.S 147 c (i * 64) st.secs w h.sec hf]
  exact h.setS _
theorem One.lrange {ats : Nat → Nat} (h : One b0 w0 L st lv oth w) (hl : LIs st ats) {g cap : Nat} (hv : lv = .slice (some ⟨g, 0, none⟩) st.ln cap) (k : Nat) (hk : k < st.ln) : w.rangeAt g (k * 65) (lent st k) := by
  rcases h.own.2 with ⟨_, h1⟩ | ⟨g', cap', cur, h1, h2, h3, h4, h5, h6, h7⟩
  · omega
  · rw [hv] at h1
    injection h1 with h1 _ _
    injection h1 with h1
    injection h1 with h1 _ _
    subst h1
    intro j v hj
    rw [cell_of h3]
    unfold lent at hj
    rw [List.getElem?_take] at hj
    split at hj
    · rename_i hj65
      rw [List.getElem?_drop, ← h7, List.getElem?_take_of_lt (by have : (k + 1) * 65 ≤ st.ln * 65 := Nat.mul_le_mul_right _ hk; omega), Array.getElem?_toList] at hj
      exact hj
    · cases hj
end
def SV9 (L : Loc) (st : St) (ats : Nat → Nat) (lc k : Nat) : Nat → Value → Prop
  | 0, v => v = .pointer (some ⟨L.D, 0, none⟩)
  | 1, v => v = .pointer (some ⟨L.D, 0, none⟩)
  | 2, v => v = .pointer (some ⟨L.D, 3, none⟩)
  | 3, v => v = .slice (some ⟨L.S, 0, none⟩) st.n st.n
  | 4, v => v = .pointer (some ⟨lc, 0, none⟩)
  | 5, v => v = .int .i64 (ats k : Nat)
  | 6, v => v = .pointer (some ⟨lc, 1, none⟩)
  | 7, v => v = .agg (lwas st k).toArray
  | 8, v => v = .pointer (some ⟨L.S, ats k * 64, none⟩)
  | _, _ => True
/-- Phases of 'd.sectors[l.at] = l.was'. -/
structure SPh (b0 : Nat) (w0 : World) (L : Loc) (st : St) (lv : Value) (oth : List (Nat × Obj)) (ats : Nat → Nat) (N : Nat) (ch : Nat → Int) (lc k : Nat) (done : Nat → Bool) (f : Nat → Value) (W : World) : Prop where
  o5 : done 5 = false → done 9 = false
  o7 : done 7 = false → done 9 = false
  a : done 9 = false → One b0 w0 L { st with secs := secsK st ats N ch k } lv oth W ∧ W.rangeAt lc 0 (lent st k) ∧ lc ≠ L.S
  b : done 9 = true → One b0 w0 L { st with secs := setL (secsK st ats N ch k) (ats k) (lwas st k) } lv oth W
section
variable {b0 : Nat} {w0 : World} {L : Loc} {st : St} {lv : Value} {oth : List (Nat × Obj)} {ats : Nat → Nat} {N : Nat} {ch : Nat → Int} {lc k : Nat} {done : Nat → Bool} {f : Nat → Value} {W : World}
theorem SPh.pure (h : SPh b0 w0 L st lv oth ats N ch lc k done f W) (i : Nat) (hi : i ≠ 9) (v : Value) : SPh b0 w0 L st lv oth ats N ch lc k (updB done i) (upd f i v) W := by
  have e9 : updB done i 9 = done 9 := if_neg (Ne.symm hi)
  refine ⟨fun h0 => ?_, fun h0 => ?_, by rw [e9]; exact h.a, by rw [e9]; exact h.b⟩
  · rw [e9]
    by_cases hi0 : (5 : Nat) = i
    · rw [show updB done i 5 = true from if_pos hi0] at h0; cases h0
    · rw [show updB done i 5 = done 5 from if_neg hi0] at h0; exact h.o5 h0
  · rw [e9]
    by_cases hi0 : (7 : Nat) = i
    · rw [show updB done i 7 = true from if_pos hi0] at h0; cases h0
    · rw [show updB done i 7 = done 7 from if_neg hi0] at h0; exact h.o7 h0
theorem SPh.one (h : SPh b0 w0 L st lv oth ats N ch lc k done f W) (_ : LIs st ats ∧ k < st.ln ∧ st.secs.size = st.n * 64) : True ∧ W.cell? ⟨L.D, 3, none⟩ = some (.slice (some ⟨L.S, 0, none⟩) st.n st.n) := by
  cases hd : done 9 with
  | false => exact ⟨trivial, (h.a hd).1.dc.2.2.2.1⟩
  | true => exact ⟨trivial, (h.b hd).dc.2.2.2.1⟩
theorem SPh.loc (h : SPh b0 w0 L st lv oth ats N ch lc k done f W) (h9 : done 9 = false) (hl : (lent st k)[0]? = some (.int .i64 (ats k : Nat))) : W.cell? ⟨lc, 0, none⟩ = some (.int .i64 (ats k : Nat)) ∧ W.rangeAt lc 1 (lwas st k) := by
  obtain ⟨_, hr, _⟩ := h.a h9
  refine ⟨by have := hr 0 _ hl; simpa using this, fun j v hj => ?_⟩
  unfold lwas at hj
  rw [List.getElem?_drop] at hj
  have := hr (1 + j) v hj
  simpa using this
theorem SPh.there (h : SPh b0 w0 L st lv oth ats N ch lc k done f W) (ho : LIs st ats ∧ k < st.ln ∧ st.secs.size = st.n * 64) (h9 : done 9 = false) : W.there L.S (ats k * 64) (lwas st k).toArray.size := by
  obtain ⟨ho1, ho2, ho3⟩ := ho
  intro j hj
  have hs := (h.a h9).1.sec
  have hz : (secsK st ats N ch k).size = st.n * 64 := secsK_size ho1 ho3 N ch k (by omega)
  have h1 := ho1.lt k ho2
  have : (ats k + 1) * 64 ≤ st.n * 64 := Nat.mul_le_mul_right _ h1
  rw [List.size_toArray, lwas_length ho1 k ho2] at hj
  refine ⟨?_, frz_of hs _⟩
  rw [cell_of hs]
  show ((secsK st ats N ch k)[ats k * 64 + j]?).isSome = true
  rw [Array.getElem?_eq_getElem (by omega)]; rfl
theorem SPh.stored (h : SPh b0 w0 L st lv oth ats N ch lc k done f W) (ho : LIs st ats ∧ k < st.ln ∧ st.secs.size = st.n * 64) (h9 : done 9 = false) (h5 : done 5 = true) (h7 : done 7 = true) : SPh b0 w0 L st lv oth ats N ch lc k (updB done 9) (upd f 9 undef) (W.setCells L.S (ats k * 64) (lwas st k)) := by
  have e9 : updB done 9 9 = true := if_pos rfl
  have e5 : updB done 9 5 = done 5 := if_neg (by decide)
  have e7 : updB done 9 7 = done 7 := if_neg (by decide)
  obtain ⟨ho1, ho2, ho3⟩ := ho
  have hz : (secsK st ats N ch k).size = st.n * 64 := secsK_size ho1 ho3 N ch k (by omega)
  have h1 := ho1.lt k ho2
  have : (ats k + 1) * 64 ≤ st.n * 64 := Nat.mul_le_mul_right _ h1
  refine ⟨by rw [e5, h5]; exact (fun e => by cases e), by rw [e7, h7]; exact (fun e => by cases e), by rw [e9]; exact (fun e => by cases e), fun _ => ?_⟩
  exact (h.a h9).1.storeS (ats k) (lwas st k) (by show _ ≤ (secsK st ats N ch k).size; rw [lwas_length ho1 k ho2, hz]; omega)
end
end Go.Proofs.Ytiohkdpmgkobiaa
