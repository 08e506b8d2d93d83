/- A struct whose second field is a row of 64 cells, built; a slice of one such. -/
import Derived.Test.YtiohkdpmgkobiaaP2
import Derived.Laws.Tables
namespace Go.Proofs.Ytiohkdpmgkobiaa
open Go.RowKit
theorem fold_set (off : Nat) : ∀ (l : List Value) (k : Nat) (B : Array Value), off + k + l.length ≤ B.size →
    (l.zipIdx k).foldl (fun cs (x : Value × Nat) => cs.setIfInBounds (off + x.2) x.1) B = (B.toList.take (off + k) ++ l ++ B.toList.drop (off + k + l.length)).toArray
  | [], k, B, _ => by simp
  | c :: l, k, B, h => by
    simp only [List.length_cons] at h
    rw [List.zipIdx_cons, List.foldl_cons, fold_set off l (k + 1) _ (by simp; omega)]
    congr 1
    have e : (B.setIfInBounds (off + k) c).toList = B.toList.set (off + k) c := by simp
    show List.take (off + (k + 1)) (B.setIfInBounds (off + k) c).toList ++ l ++ List.drop (off + (k + 1) + l.length) (B.setIfInBounds (off + k) c).toList = _
    rw [e]
    have hl : B.toList.length = B.size := by simp
    have t1 : List.take (off + (k + 1)) (B.toList.set (off + k) c) = B.toList.take (off + k) ++ [c] := by
      apply List.ext_getElem?
      intro j
      rw [List.getElem?_take]
      by_cases h1 : j < off + (k + 1)
      · rw [if_pos h1, List.getElem?_set]
        by_cases h2 : off + k = j
        · rw [if_pos h2, if_pos (by omega), List.getElem?_append_right (by rw [List.length_take]; omega), List.length_take, h2, Nat.min_eq_left (by omega)]; simp
        · rw [if_neg h2, List.getElem?_append_left (by rw [List.length_take]; omega), List.getElem?_take, if_pos (by omega)]
      · rw [if_neg h1, List.getElem?_eq_none (by rw [List.length_append, List.length_take]; simp; omega)]
    rw [t1, List.drop_set_of_lt (by omega)]
    simp [Nat.add_assoc, Nat.add_comm, Nat.add_left_comm]
theorem fill_one (B A : Array Value) (off : Nat) (h : off + A.size ≤ B.size) :
    A.zipIdx.foldl (fun cs (x : Value × Nat) => cs.setIfInBounds (off + x.2) x.1) B = (B.toList.take off ++ A.toList ++ B.toList.drop (off + A.size)).toArray := by
  rw [← Array.foldl_toList, Array.toList_zipIdx]
  have := fold_set off A.toList 0 B (by simpa using h)
  simpa using this
theorem fill_cons (pl : Nat → Option (Nat × Nat)) (B : Array Value) (i : Nat) (v : Value) (rest : List (Nat × Value)) (off size : Nat) (hp : pl i = some (off, size)) (hs : v.cells.size = size) (hb : off + size ≤ B.size) :
    Instr.fill pl B ((i, v) :: rest) = Instr.fill pl (B.toList.take off ++ v.cells.toList ++ B.toList.drop (off + size)).toArray rest := by
  rw [Instr.fill, hp]
  subst hs
  simp only [ne_eq, not_true_eq_false, decide_false, Bool.false_or, decide_eq_true_eq]
  rw [if_neg (by omega), fill_one B v.cells off hb]
theorem past_built (i : Int) (A : Array Value) (hA : A.size = 64) (w : World) : (Instr.build 149 #[(0, .int .i64 i), (1, .agg A)]).run Try.prog w = .ok (.agg (.int .i64 i :: A.toList).toArray) w := by
  refine run_build w 149 _ _ ?_
  have h1 : Try.prog.built 149 [(0, .int .i64 i), (1, .agg A)] = Instr.fill (#[(0, 1), (1, 64)][·]?) zpast.cells [(0, .int .i64 i), (1, .agg A)] := by kernel_rfl
  rw [h1]
  have hz : zpast.cells.size = 65 := by kernel_rfl
  generalize zpast.cells = B at *
  have e1 : (Value.int .i64 i).cells = #[.int .i64 i] := rfl
  have e2 : (Value.agg A).cells = A := rfl
  rw [fill_cons _ B 0 _ _ 0 1 rfl (by rw [e1]; rfl) (by omega), fill_cons _ _ 1 _ _ 1 64 rfl (by rw [e2]; exact hA) (by simp [e1]; omega), e1, e2]
  have hd : B.toList.length = 65 := by simpa using hz
  rw [Instr.fill]
  refine congrArg some (congrArg List.toArray ?_)
  rw [List.take_zero, List.nil_append]
  show List.take 1 ([Value.int .i64 i] ++ List.drop 1 B.toList) ++ A.toList ++ List.drop 65 ([Value.int .i64 i] ++ List.drop 1 B.toList) = _
  have hx : List.drop 65 ([Value.int .i64 i] ++ List.drop 1 B.toList) = [] := List.drop_eq_nil_of_le (by rw [List.length_append, List.length_drop, hd]; simp)
  rw [hx]
  simp
/-- A slice of one past. -/
theorem past_slice (c : List Value) (hc : c.length = 65) (w : World) : (Instr.buildSlice 100 1 #[(0, .agg c.toArray)]).run Try.prog w = .ok (.slice (some ⟨w.heap.size, 0, none⟩) 1 1) (w.alloc (.cells c.toArray 149)) := by
  obtain ⟨it, hi, hz, hs, hby⟩ := info_parts info149
  have e2 : (Value.agg c.toArray).cells = c.toArray := rfl
  have hf : ∀ B : Array Value, B.size = 65 → Instr.fill (fun i => some (i * 65, 65)) B [(0, .agg c.toArray)] = some c.toArray := by
    intro B hB
    rw [fill_cons _ B 0 _ _ 0 65 rfl (by rw [e2]; simpa using hc) (by omega), e2]
    rw [Instr.fill]
    refine congrArg some ?_
    have hl : B.toList.length = 65 := by simpa using hB
    rw [List.drop_eq_nil_of_le (by omega), List.append_nil, List.take_zero, List.nil_append]
  have hsz : ((Array.range 65).map (zpast.cells[· % zpast.cells.size]!)).size = 65 := by simp
  have := hf _ hsz
  simp [Instr.buildSlice, run_underlying Try.underlying100, sizeOf, typeInfo, zeroValue, hi, hs, hz, newRow]
  rw [this]
  simp [newObj]
  rfl
end Go.Proofs.Ytiohkdpmgkobiaa
