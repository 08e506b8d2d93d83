/- What is read of what OctetBack wrote: facts on lists of bytes. -/
import Derived.Test.YthojbccoejdmeaaZ
import Derived.Test.YthojbccoejdmeaaV2
namespace Go.Proofs.Ythojbccoejdmeaa
open Go.RowKit

def Put.q (p : Put) : ByteArray := p.s.extract 0 20
/-- What the second writer writes of a put. -/
def Put.one (p : Put) : List UInt8 := numB p.x 8 ++ (numB p.q.size 2 ++ p.q.data.toList)
def encs (ps : List Put) : List UInt8 := (ps.map Put.one).flatten
theorem q_size (p : Put) : p.q.size ≤ 20 := cut_size _ _
theorem one_length (p : Put) : p.one.length = 10 + p.q.size := by
  unfold Put.one
  rw [List.length_append, List.length_append, numB_length, numB_length, ← size_list]; omega
theorem encs_cons (p : Put) (ps : List Put) : encs (p :: ps) = p.one ++ encs ps := by simp [encs]
theorem encs_length (ps : List Put) : (encs ps).length ≤ 30 * ps.length := by
  induction ps with
  | nil => simp [encs]
  | cons p ps ih =>
    rw [encs_cons, List.length_append, one_length, List.length_cons]
    have := q_size p; omega
theorem encs_take (ps : List Put) (k : Nat) (p : Put) (h : ps[k]? = some p) : encs (ps.take (k + 1)) = encs (ps.take k) ++ p.one := by
  rw [List.take_add_one, h]
  simp [encs]
theorem encs_drop (ps : List Put) (k : Nat) (p : Put) (h : ps[k]? = some p) : encs (ps.drop k) = p.one ++ encs (ps.drop (k + 1)) := by
  rw [← encs_cons]
  congr 1
  obtain ⟨hlt, e⟩ := List.getElem?_eq_some_iff.1 h
  rw [List.drop_eq_getElem_cons hlt, e]
theorem extract0_tx (l : List UInt8) (k : Nat) : (tx l).extract 0 k = tx (l.take k) := by
  apply ByteArray.ext
  apply Array.ext'
  simp [tx, ByteArray.data_extract]
theorem read_num (p : Put) (r : List UInt8) (hx : p.x < 18446744073709551616) : nv (tx (p.one ++ r)) 8 = p.x ∧ (tx (p.one ++ r)).extract 8 (tx (p.one ++ r)).size = tx (numB p.q.size 2 ++ (p.q.data.toList ++ r)) := by
  have e : p.one ++ r = numB p.x 8 ++ (numB p.q.size 2 ++ (p.q.data.toList ++ r)) := by unfold Put.one; simp [List.append_assoc]
  rw [e]
  refine ⟨?_, ?_⟩
  · rw [nv_all]; exact Nat.mod_eq_of_lt hx
  · rw [extract_tx, List.drop_left' (numB_length _ _)]
theorem read_text (p : Put) (r : List UInt8) : nv (tx (numB p.q.size 2 ++ (p.q.data.toList ++ r))) 2 = p.q.size ∧
    (tx (numB p.q.size 2 ++ (p.q.data.toList ++ r))).extract 2 (tx (numB p.q.size 2 ++ (p.q.data.toList ++ r))).size = tx (p.q.data.toList ++ r) ∧
    (tx (p.q.data.toList ++ r)).extract 0 p.q.size = p.q ∧ (tx (p.q.data.toList ++ r)).extract p.q.size (tx (p.q.data.toList ++ r)).size = tx r := by
  have hq := q_size p
  refine ⟨?_, ?_, ?_, ?_⟩
  · rw [nv_all]; exact Nat.mod_eq_of_lt (by omega)
  · rw [extract_tx, List.drop_left' (numB_length _ _)]
  · rw [extract0_tx, List.take_left' (size_list _).symm]; rfl
  · rw [extract_tx, List.drop_left' (size_list _).symm]
end Go.Proofs.Ythojbccoejdmeaa
