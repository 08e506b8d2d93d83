/- What the law MediumBack's last loop does to a text. -/
import Derived.Test.YtiohkdpmgkobiaaX4
import Derived.Test.YtiohkdpmgkobiaaZ3
namespace Go.Proofs.Ytiohkdpmgkobiaa
open Go.RowKit
section
variable {b0 : Nat} {w0 : World} {L : Loc} {st : St} {lv : Value} {oth : List (Nat × Obj)} {w : World}
theorem One.setOther2 {B : Nat} {x0 x1 v0 v1 : Value} (h : One b0 w0 L st lv ((B, .cells #[x0, x1] 59) :: oth) w) (hne : ∀ p ∈ oth, p.1 ≠ B) : One b0 w0 L st lv ((B, .cells #[v0, v1] 59) :: oth) ((w.setCell ⟨B, 0, none⟩ v0).setCell ⟨B, 1, none⟩ v1) := by
  refine h.other hne rfl rfl rfl (by simp [World.setCell]) (fun k _ hk => ?_) ?_ (apart_of (by decide))
  · rw [Below.heap_setCell _ _ _ _ (by exact hk), Below.heap_setCell _ _ _ _ (by exact hk)]
  · have h1 := block_set (i := 0) (h.oth _ (List.mem_cons_self ..)).1 v0
    rw [block_set h1]; rfl
end
/-- The text with j noughts behind it. -/
def zs (c : ByteArray) (j : Nat) : ByteArray := ⟨(c.data.toList ++ List.replicate j 0).toArray⟩
theorem zs_zero (c : ByteArray) : zs c 0 = c := by
  unfold zs
  apply ByteArray.ext
  simp
theorem zs_size (c : ByteArray) (j : Nat) : (zs c j).size = c.size + j := by
  unfold zs
  show (c.data.toList ++ List.replicate j 0).toArray.size = _
  rw [List.size_toArray, List.length_append, List.length_replicate, Array.length_toList]; rfl
theorem zs_next (c : ByteArray) (j : Nat) : zs c j ++ ⟨#[0]⟩ = zs c (j + 1) := by
  apply ByteArray.ext
  rw [ByteArray.data_append]
  unfold zs
  show (c.data.toList ++ List.replicate j 0).toArray ++ #[0] = (c.data.toList ++ List.replicate (j + 1) 0).toArray
  rw [List.replicate_succ', ← List.append_assoc]
  simp
theorem zs_all (c : ByteArray) (j : Nat) (h : c.size + j = 64 * parts c) : zs c j = ⟨(filledL c.data.toList).toArray⟩ := by
  unfold zs filledL
  have e : c.data.toList.length = c.size := by rw [Array.length_toList]; rfl
  rw [e, show 64 * ((c.size + 63) / 64) - c.size = j by unfold parts at h; omega]
def strAt (T : Nat) (w : World) : Nat := match w.cell? ⟨T, 0, none⟩ with | some (.string b) => b.size | _ => 0
theorem strAt_of {T : Nat} {w : World} {b : ByteArray} (h : w.cell? ⟨T, 0, none⟩ = some (.string b)) : strAt T w = b.size := by unfold strAt; rw [h]
/-- The last loop's worlds. -/
def BkL (b0 : Nat) (w0 : World) (L : Loc) (c pc : ByteArray) (B : Nat) (v0 v1 o : Int) (j : Nat) (wr : World) : Prop :=
  ∃ st lv, One b0 w0 L st lv ((b0, .cells #[.string (zs c j)] 9) :: (B + 1, .cells #[.string pc] 9) :: [(B, .cells #[.int .i64 v0, .int .i64 v1] 59), (b0 + 2, .cells #[.int .i64 o] 3)]) wr ∧ st.ln = 0 ∧ st.serial = 4
theorem BkL.text {b0 : Nat} {w0 : World} {L : Loc} {c pc : ByteArray} {B : Nat} {v0 v1 o : Int} {j : Nat} {wr : World} (h : BkL b0 w0 L c pc B v0 v1 o j wr) : wr.cell? ⟨b0, 0, none⟩ = some (.string (zs c j)) ∧ wr.frozen? ⟨b0, 0, none⟩ = false ∧ wr.cell? ⟨B + 1, 0, none⟩ = some (.string pc) := by
  obtain ⟨st, lv, h, _⟩ := h
  exact ⟨cell_of (h.oth _ (List.mem_cons_self ..)).1 0, frz_of (h.oth _ (List.mem_cons_self ..)).1 0, cell_of (h.oth (B + 1, .cells #[.string pc] 9) (by simp)).1 0⟩
theorem BkL.next {b0 : Nat} {w0 : World} {L : Loc} {c pc : ByteArray} {B : Nat} {v0 v1 o : Int} {j : Nat} {wr : World} (h : BkL b0 w0 L c pc B v0 v1 o j wr) (hB : b0 < B) : BkL b0 w0 L c pc B v0 v1 o (j + 1) (wr.setCell ⟨b0, 0, none⟩ (.string (zs c (j + 1)))) := by
  obtain ⟨st, lv, h, q⟩ := h
  refine ⟨st, lv, h.setOther (fun p hp => ?_) (by decide), q⟩
  simp only [List.mem_cons, List.not_mem_nil, or_false] at hp
  rcases hp with rfl | rfl | rfl
  · show B + 1 ≠ b0; omega
  · show B ≠ b0; omega
  · show b0 + 2 ≠ b0; omega
theorem BkL.loose {b0 : Nat} {w0 : World} {L : Loc} {c pc : ByteArray} {B : Nat} {v0 v1 o : Int} {j : Nat} {wr : World} (h : BkL b0 w0 L c pc B v0 v1 o j wr) : Calls Try.prog 21 #[.pointer (some ⟨L.P, 0, none⟩), .int .i64 4] wr fun e w' => e = .returned (.int .i64 0) ∧ w' = wr := by
  obtain ⟨st, lv, h, q1, q2⟩ := h
  have := h.loose_any
  rw [q1, q2] at this
  exact this
theorem BkL.below {b0 : Nat} {w0 : World} {L : Loc} {c pc : ByteArray} {B : Nat} {v0 v1 o : Int} {j : Nat} {wr : World} (h : BkL b0 w0 L c pc B v0 v1 o j wr) : Below b0 w0 wr := by
  obtain ⟨st, lv, h, _⟩ := h
  exact h.below
end Go.Proofs.Ytiohkdpmgkobiaa
