/- Rows of numbers: what the library's sorts make of them, as plain lists; a row of the call's own behind them. -/
import Derived.Test.YtbbapaphfijpcaaDoorA
import Derived.Test.YtbbapaphfijpcaaDoorC
import Derived.Test.YtbbapaphfijpcaaDoorS
import Derived.Shelf.Sort.Plain
import Derived.Shelf.Slices.In.SortNone
import Derived.Sort.OwnSorted
import Derived.Laws.AppendOwn
namespace Go.Proofs.YtbbapaphfijpcaaDoor
open Go.RowKit Go.Sort Go.Lib
theorem comp_spec (zs : List Int) (hs : zs.Pairwise (· ≤ ·)) : ∀ m, m ≤ zs.length → (compactUpTo zs.toArray m).Pairwise (· < ·) ∧ (∀ x, x ∈ compactUpTo zs.toArray m ↔ x ∈ zs.take m) ∧ (∀ x ∈ compactUpTo zs.toArray m, ∀ j, j + 1 = m → x ≤ zs.getD j 0)
  | 0, _ => ⟨by simp [compactUpTo], by simp [compactUpTo], by simp [compactUpTo]⟩
  | m + 1, hm => by
    obtain ⟨h1, h2, h3⟩ := comp_spec zs hs m (by omega)
    have hlt : m < zs.length := by omega
    have e0 : zs.toArray[m]! = zs[m] := by simp [hlt]
    have et : zs.take (m + 1) = zs.take m ++ [zs[m]] := List.take_succ_eq_append_getElem hlt
    have eg : zs.getD m 0 = zs[m] := by simp [List.getD, hlt]
    have hle : ∀ x ∈ compactUpTo zs.toArray m, x ≤ zs[m] := by
      intro x hx
      cases m with
      | zero => simp [compactUpTo] at hx
      | succ p =>
        have q := h3 x hx p rfl
        have e1 : zs.getD p 0 = zs[p] := by simp [List.getD, show p < zs.length by omega]
        rw [e1] at q
        exact Int.le_trans q (List.pairwise_iff_getElem.1 hs p (p + 1) (by omega) hlt (by omega))
    rw [compactUpTo_succ, e0, et]
    by_cases hk : keeps zs.toArray m = true
    · rw [if_pos hk]
      have hne : ∀ x ∈ compactUpTo zs.toArray m, x < zs[m] := by
        intro x hx
        have a := hle x hx
        cases m with
        | zero => simp [compactUpTo] at hx
        | succ p =>
          have e1 : zs.getD p 0 = zs[p] := by simp [List.getD, show p < zs.length by omega]
          have q := h3 x hx p rfl
          rw [e1] at q
          have hk2 : zs[p + 1] ≠ zs[p] := by
            have := hk
            unfold keeps at this
            simpa [hlt, show p < zs.length by omega] using this
          have := List.pairwise_iff_getElem.1 hs p (p + 1) (by omega) hlt (by omega)
          omega
      refine ⟨?_, ?_, ?_⟩
      · rw [List.pairwise_append]
        exact ⟨h1, by simp, fun x hx y hy => by rw [List.mem_singleton.1 hy]; exact hne x hx⟩
      · intro x; rw [List.mem_append, List.mem_append, h2]
      · intro x hx j hj
        obtain rfl : j = m := by omega
        rw [eg]
        rcases List.mem_append.1 hx with hx | hx
        · exact hle x hx
        · rw [List.mem_singleton.1 hx]; exact Int.le_refl _
    · rw [if_neg hk, List.append_nil]
      have hin : zs[m] ∈ zs.take m := by
        cases m with
        | zero => exact absurd (by simp [keeps]) hk
        | succ p =>
          have hk2 : zs[p + 1] = zs[p] := by
            have := hk
            unfold keeps at this
            simpa [hlt, show p < zs.length by omega] using this
          rw [hk2]
          exact List.mem_take_iff_getElem.2 ⟨p, by omega, rfl⟩
      refine ⟨h1, ?_, ?_⟩
      · intro x
        rw [h2, List.mem_append]
        constructor
        · exact Or.inl
        · rintro (h | h)
          · exact h
          · rw [List.mem_singleton.1 h]; exact hin
      · intro x hx j hj
        obtain rfl : j = m := by omega
        rw [eg]; exact hle x hx
/-- Rising. -/
def asc (l : List Int) : List Int := l.mergeSort fun x y => decide (x ≤ y)
theorem asc_perm (l : List Int) : (asc l).Perm l := List.mergeSort_perm _ _
theorem asc_pw (l : List Int) : (asc l).Pairwise (· ≤ ·) := by
  have h := List.pairwise_mergeSort (le := fun x y : Int => decide (x ≤ y)) (fun a b c h k => by simp at *; omega) (fun a b => by simp; omega) l
  exact h.imp (by intro a b h; simpa using h)
theorem comp_asc (l : List Int) : (compact (asc l)).Pairwise (· < ·) ∧ ∀ x, x ∈ compact (asc l) ↔ x ∈ l := by
  obtain ⟨h1, h2, -⟩ := comp_spec (asc l) (asc_pw l) _ (Nat.le_refl _)
  refine ⟨h1, fun x => ?_⟩
  unfold compact
  rw [h2, List.take_length, (asc_perm l).mem_iff]
/-- What the library's insertion sort makes of devices that rise. -/
theorem sort_ord (k : ByteArray) (d d' : Array Int) (hn : d.toList.Pairwise (· < ·)) (hb : ∀ x ∈ d.toList, 0 ≤ x ∧ x ≤ 1000)
    (hp : PermIn 0 d.size d d') (hs : SortedIn (ltOf fun x y => cmpN (wt k y) (wt k x)) 0 d.size d') : d'.toList = ord (wt k) d.toList := by
  obtain ⟨p1, -, p3⟩ := hp
  have p4 : d'.toList.Perm d.toList := by
    have e1 : d.extract 0 d.size = d := Array.extract_eq_self_of_le (Nat.le_refl _)
    have e2 : d'.extract 0 d.size = d' := Array.extract_eq_self_of_le (by omega)
    rwa [e1, e2] at p3
  refine pw_ord ?_ fun z => p4.mem_iff
  rw [List.pairwise_iff_getElem]
  intro i j hi hj hij
  have hi' : i < d'.size := by simpa using hi
  have hj' : j < d'.size := by simpa using hj
  have h := hs i j (Nat.zero_le _) hij (by omega)
  have hnd : d'.toList.Nodup := p4.nodup_iff.2 (hn.imp (by intro a b h e; omega))
  have hne : d'.toList[i] ≠ d'.toList[j] := fun e => by
    have := (List.getElem_inj hnd).1 e
    omega
  have b1 := hb d'.toList[i] (p4.mem_iff.1 (List.getElem_mem hi))
  have b2 := hb d'.toList[j] (p4.mem_iff.1 (List.getElem_mem hj))
  rw [getElem!_pos d' i hi', getElem!_pos d' j hj'] at h
  have e3 : d'.toList[i] = d'[i] := by simp
  have e4 : d'.toList[j] = d'[j] := by simp
  rw [← e3, ← e4] at h
  unfold ltOf at h
  have h5 : ¬ cmpN (wt k d'.toList[i]) (wt k d'.toList[j]) < 0 := of_decide_eq_false h
  have h6 : ¬ wt k d'.toList[i] < wt k d'.toList[j] := fun e => h5 (by unfold cmpN; rw [if_pos e]; decide)
  have h7 : wt k d'.toList[i] ≠ wt k d'.toList[j] := fun e => hne (wt_inj b1 b2 e)
  left; omega
theorem swo_cmp (k : ByteArray) : SWO (ltOf fun x y : Int => cmpN (wt k y) (wt k x)) := by
  have e : ∀ x y, ltOf (fun x y : Int => cmpN (wt k y) (wt k x)) x y = decide (wt k y < wt k x) := by
    intro x y
    unfold ltOf cmpN
    by_cases h1 : wt k y < wt k x
    · simp [h1]
    · by_cases h2 : wt k x < wt k y <;> simp [h1, h2]
  exact ⟨fun x => by rw [e]; simp, fun x y z h1 h2 => by rw [e] at *; simp at *; omega, fun x y z h1 h2 => by rw [e] at *; simp at *; omega⟩
/-- A row of numbers of the call's own. -/
def Own (T : Nat) (v : Value) (l : List Int) (W : World) : Prop := W.ownsRow T 3 1 v l.length (l.map (Value.int .i64))
theorem Own.cases {T : Nat} {v : Value} {l : List Int} {W : World} (h : Own T v l W) : (v = .slice none 0 0 ∧ l = []) ∨ ∃ g cap cur, v = .slice (some ⟨g, 0, none⟩) l.length cap ∧ T ≤ g ∧ W.heap[g]? = some (.cells cur 3) ∧ l.length ≤ cap ∧ cap ≤ maxLen ∧ cur.size = cap ∧ cur.toList.take l.length = l.map (Value.int .i64) := by
  rcases h.2 with ⟨h1, h2⟩ | ⟨g, cap, cur, h1, h2, h3, h4, h5, h6, h7⟩
  · exact Or.inl ⟨h1, List.length_eq_zero_iff.1 h2⟩
  · exact Or.inr ⟨g, cap, cur, h1, h2, h3, h4, h5, by omega, by rw [Nat.mul_one] at h7; exact h7⟩
theorem Own.mk {T : Nat} {l : List Int} {W : World} {g cap : Nat} {cur : Array Value} (h2 : T ≤ g) (h3 : W.heap[g]? = some (.cells cur 3)) (h4 : l.length ≤ cap) (h5 : cap ≤ maxLen) (h6 : cur.size = cap) (h7 : cur.toList.take l.length = l.map (Value.int .i64)) : Own T (.slice (some ⟨g, 0, none⟩) l.length cap) l W :=
  ⟨by simp, Or.inr ⟨g, cap, cur, rfl, h2, h3, h4, h5, by omega, by rw [Nat.mul_one]; exact h7⟩⟩
theorem Own.mono {T T' : Nat} {v : Value} {l : List Int} {W : World} (h : Own T v l W) (ht : T' ≤ T) : Own T' v l W := by
  refine ⟨h.1, ?_⟩
  rcases h.2 with h1 | ⟨g, cap, cur, h1, h2, h3⟩
  · exact Or.inl h1
  · exact Or.inr ⟨g, cap, cur, h1, Nat.le_trans ht h2, h3⟩
theorem Own.below {T : Nat} {v : Value} {l : List Int} {W W' : World} (h : Own T v l W) (hb : Below W.heap.size W W') : Own T v l W' := by
  refine ⟨h.1, ?_⟩
  rcases h.2 with h1 | ⟨g, cap, cur, h1, h2, h3, h4⟩
  · exact Or.inl h1
  · exact Or.inr ⟨g, cap, cur, h1, h2, (hb.block g (getElem?_lt h3)).trans h3, h4⟩
/-- A slice from which these numbers are read. -/
def Rd (v : Value) (l : List Int) (W : World) : Prop := ∃ ao cp, v = .slice ao l.length cp ∧ l.length ≤ cp ∧ (0 < l.length → ∃ b o, ao = some ⟨b, o, none⟩ ∧ b < W.heap.size ∧ ∀ j, j < l.length → W.cell? ⟨b, o + j, none⟩ = some (.int .i64 (l.getD j 0)))
theorem Own.rd {T : Nat} {v : Value} {l : List Int} {W : World} (h : Own T v l W) : Rd v l W := by
  rcases h.cases with ⟨rfl, rfl⟩ | ⟨g, cap, cur, rfl, h2, h3, h4, h5, h6, h7⟩
  · exact ⟨_, _, rfl, Nat.le_refl _, fun h => absurd h (Nat.lt_irrefl _)⟩
  · refine ⟨_, _, rfl, h4, fun _ => ⟨g, 0, rfl, getElem?_lt h3, fun j hj => ?_⟩⟩
    rw [Nat.zero_add, cell_of h3 j]
    have e : (cur.toList.take l.length)[j]? = (l.map (Value.int .i64))[j]? := by rw [h7]
    rw [List.getElem?_take_of_lt hj] at e
    rw [← Array.getElem?_toList, e]
    simp [hj]
theorem Rd.below {v : Value} {l : List Int} {W W' : World} (h : Rd v l W) (hb : Below W.heap.size W W') : Rd v l W' := by
  obtain ⟨ao, cp, h1, h2, h3⟩ := h
  refine ⟨ao, cp, h1, h2, fun hl => ?_⟩
  obtain ⟨b, o, e, h4, h5⟩ := h3 hl
  exact ⟨b, o, e, Nat.lt_of_lt_of_le h4 hb.size, fun j hj => (hb.cell h4).trans (h5 j hj)⟩
theorem heap_put {w : World} {g n : Nat} {os : Array Obj} {cur : Array Value} {e : TypeId} {fr : Nat × Nat} (d : Array Int) (hb : w.heap[g]? = some (.cells cur e fr)) :
    (grow (putRow (Value.int .i64) (Sort.ahead w n) g 0 d) os).heap[g]? = some (.cells (putCells (Value.int .i64) 0 d cur) e fr) := by
  have hg : g < w.heap.size := getElem?_lt hb
  rw [heap_grow_old _ _ (by simpa using hg)]
  simp [putRow, mapBlock, Sort.ahead, Array.getElem?_modify, hb, onCells]
theorem grown_put {w : World} {g n : Nat} {os : Array Obj} (d : Array Int) : w.grownBy (grow (putRow (Value.int .i64) (Sort.ahead w n) g 0 d) os) (some g) := by
  refine ⟨rfl, rfl, rfl, by simp, fun k hk hne => ?_⟩
  rw [heap_grow_old _ _ (by simpa using hk)]
  have : g ≠ k := fun e => hne (by rw [e])
  simp [putRow, mapBlock, Sort.ahead, Array.getElem?_modify, this]
theorem take_put (cur : Array Value) (ts : List Int) (h : ts.length ≤ cur.size) : (putCells (Value.int .i64) 0 ts.toArray cur).toList.take ts.length = ts.map (Value.int .i64) := by
  apply List.ext_getElem?
  intro j
  by_cases hj : j < ts.length
  · rw [List.getElem?_take_of_lt hj, Array.getElem?_toList]
    simp [putCells, hj, show j < cur.size by omega]
  · rw [List.getElem?_take_eq_none (by omega), List.getElem?_eq_none (by simp; omega)]
theorem Own.put {T g cap n : Nat} {cur : Array Value} {w : World} {os : Array Obj} (h2 : T ≤ g) (h3 : w.heap[g]? = some (.cells cur 3)) (h5 : cap ≤ maxLen) (h6 : cur.size = cap) (a b : List Int) (hz : (a ++ b).length ≤ cap) :
    Own T (.slice (some ⟨g, 0, none⟩) a.length cap) a (grow (putRow (Value.int .i64) (Sort.ahead w n) g 0 (a ++ b).toArray) os) := by
  have ht := take_put cur (a ++ b) (by omega)
  refine Own.mk h2 (heap_put _ h3) (by simp at hz; omega) h5 (by simp [putCells, h6]) ?_
  have e : ∀ (x : List Value), (x.take (a ++ b).length).take a.length = x.take a.length := fun x => by rw [List.take_take]; congr 1; simp
  rw [← e, ht, List.map_append, List.take_left' (by simp)]
end Go.Proofs.YtbbapaphfijpcaaDoor
