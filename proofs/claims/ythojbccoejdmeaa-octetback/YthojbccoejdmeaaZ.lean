/- Puts as they lie in memory, and facts on filling up; nothing is claimed but these. -/
import Derived.Test.YthojbccoejdmeaaY
import Derived.Test.YthojbccoejdmeaaV
import Derived.Lib.Strings
namespace Go.Proofs.Ythojbccoejdmeaa
open Go.RowKit

structure Put where
  kind : Int
  n : Int
  x : Nat
  s : ByteArray
/-- The puts lie in memory. -/
structure PutsAt (w : World) (b o : Nat) (ps : List Put) : Prop where
  kind : ∀ i (p : Put), ps[i]? = some p → w.cell? ⟨b, o + i * 4, none⟩ = some (.int .i64 p.kind)
  n : ∀ i (p : Put), ps[i]? = some p → w.cell? ⟨b, o + i * 4 + 1, none⟩ = some (.int .i64 p.n)
  x : ∀ i (p : Put), ps[i]? = some p → w.cell? ⟨b, o + i * 4 + 2, none⟩ = some (.int .u64 (p.x : Nat))
  s : ∀ i (p : Put), ps[i]? = some p → w.cell? ⟨b, o + i * 4 + 3, none⟩ = some (.string p.s)
  ok : ∀ p ∈ ps, p.x < 18446744073709551616 ∧ p.s.size ≤ 9223372036854775807
  len : ps.length ≤ 9223372036854775807

theorem PutsAt.keep {w w' : World} {b o B : Nat} {ps : List Put} (h : PutsAt w b o ps) (hB : b < B) (hb : Below B w w') : PutsAt w' b o ps :=
  ⟨fun i p e => by rw [hb.cell hB]; exact h.kind i p e, fun i p e => by rw [hb.cell hB]; exact h.n i p e, fun i p e => by rw [hb.cell hB]; exact h.x i p e, fun i p e => by rw [hb.cell hB]; exact h.s i p e, h.ok, h.len⟩
theorem OutIs.own_lt {w : World} {B : Nat} {v : Value} {l : List UInt8} (h : OutIs w B v l) {k : Nat} (hk : v.ownBlock = some k) : k < w.heap.size := (h.own.lt k hk).2
theorem tb_list (l : List UInt8) : (l == (tb l).toList) = true := by
  rw [Lib.toList_data]; simp [tb]
theorem and3 (a : Int) : ∃ j : Nat, j < 4 ∧ bits .and .i64 a 3 = (j : Int) := by
  refine ⟨(BitVec.ofInt 64 a &&& BitVec.ofInt 64 3).toNat, ?_, ?_⟩
  · rw [BitVec.toNat_and]
    exact Nat.lt_of_le_of_lt Nat.and_le_right (by decide)
  · have h : (BitVec.ofInt 64 a &&& BitVec.ofInt 64 3).toNat < 4 := by
      rw [BitVec.toNat_and]
      exact Nat.lt_of_le_of_lt Nat.and_le_right (by decide)
    show IntKind.i64.wrap (((BitVec.ofInt 64 a &&& BitVec.ofInt 64 3).toNat : Nat) : Int) = _
    rw [IntKind.wrap_i64]
    omega
def szOf : Value → Nat
  | .string s => s.size
  | _ => 0
theorem fill_more {len c m : Nat} (hm : m < fillN len c) : 0 < c ∧ (len + m) % c ≠ 0 := by
  unfold fillN at hm
  split at hm
  · omega
  · rename_i h
    have hc : 0 < c := by omega
    refine ⟨hc, ?_⟩
    have h1 := Nat.mod_lt len hc
    have h2 : (len + m) % c = len % c + m := by
      rw [Nat.add_mod, Nat.mod_eq_of_lt (a := m) (by omega), Nat.mod_eq_of_lt (by omega)]
    omega
theorem fill_end {len c : Nat} (hc : 0 < c) : (len + fillN len c) % c = 0 := by
  unfold fillN
  split
  · rename_i h; simpa using h
  · have h1 := Nat.mod_lt len hc
    have e : len + (c - len % c) = len / c * c + c := by
      have := Nat.div_add_mod' len c
      omega
    rw [e, Nat.add_mod_right, Nat.mul_mod_left]
theorem fill_zero (len : Nat) : fillN len 0 = 0 := by unfold fillN; split <;> omega
theorem fill_le (len c : Nat) (hc : c ≤ 8) : fillN len c ≤ 8 := by unfold fillN; split <;> omega
end Go.Proofs.Ythojbccoejdmeaa
