/- What is taken part by part, as plain functions. -/
import Derived.Test.YthojbccoejdmeaaT
import Derived.Test.YthojbccoejdmeaaY
namespace Go.Proofs.Ythojbccoejdmeaa
open Go.RowKit
open Classical in
/-- The error's number (0: none) of a part of that kind, from what is left. -/
noncomputable def pErr (s : ByteArray) (kd : Nat) (n : Int) : Int :=
  if kd = 0 then (if wd n ≤ s.size then 0 else 3) else if kd = 1 then (if 2 ≤ s.size ∧ nv s 2 + 2 ≤ s.size then 0 else 3)
  else if kd = 3 then (if zeros s then 0 else 4) else if kd = 4 then 12 else if n.toNat ≤ s.size then 0 else 3
/-- What is taken. -/
def pOut (s : ByteArray) (kd : Nat) (n : Int) : ByteArray :=
  if kd = 0 then tb (numB (nv s (wd n)) 8) else if kd = 1 then (s.extract 2 s.size).extract 0 (nv s 2) else if kd = 3 then ⟨#[]⟩ else if kd = 4 then ⟨#[]⟩ else s.extract 0 n.toNat
/-- What is left behind it. -/
def pRst (s : ByteArray) (kd : Nat) (n : Int) : ByteArray :=
  if kd = 0 then s.extract (wd n) s.size else if kd = 1 then (s.extract 2 s.size).extract (nv s 2) (s.extract 2 s.size).size else if kd = 3 then ⟨#[]⟩ else if kd = 4 then s else s.extract n.toNat s.size
theorem pErr_cases (s : ByteArray) (kd : Nat) (n : Int) : pErr s kd n = 0 ∨ pErr s kd n = 3 ∨ pErr s kd n = 4 ∨ pErr s kd n = 12 := by
  unfold pErr
  split
  · split <;> simp
  split
  · split <;> simp
  split
  · split <;> simp
  split
  · simp
  · split <;> simp
theorem pRst_le (s : ByteArray) (kd : Nat) (n : Int) : (pRst s kd n).size ≤ s.size := by
  unfold pRst
  split
  · simp only [ByteArray.size_extract]; omega
  split
  · simp only [ByteArray.size_extract]; omega
  split
  · exact Nat.zero_le _
  split
  · exact Nat.le_refl _
  · simp only [ByteArray.size_extract]; omega
theorem pOut_le (s : ByteArray) (kd : Nat) (n : Int) : (pOut s kd n).size ≤ s.size + 8 := by
  unfold pOut
  split
  · rw [tb_size, numB_length]; omega
  split
  · simp only [ByteArray.size_extract]; omega
  split
  · exact Nat.zero_le _
  split
  · exact Nat.zero_le _
  · simp only [ByteArray.size_extract]; omega
/-- A part: its kind, below 5, and its number. -/
structure Prt where
  kd : Nat
  n : Int
/-- What is left behind k parts. -/
def sAt (s : ByteArray) (ps : Nat → Prt) : Nat → ByteArray
  | 0 => s
  | k + 1 => pRst (sAt s ps k) (ps k).kd (ps k).n
theorem sAt_le (s : ByteArray) (ps : Nat → Prt) : ∀ k, (sAt s ps k).size ≤ s.size
  | 0 => Nat.le_refl _
  | k + 1 => Nat.le_trans (pRst_le _ _ _) (sAt_le s ps k)
noncomputable def eAt (s : ByteArray) (ps : Nat → Prt) (k : Nat) : Int := pErr (sAt s ps k) (ps k).kd (ps k).n
def oAt (s : ByteArray) (ps : Nat → Prt) (k : Nat) : ByteArray := pOut (sAt s ps k) (ps k).kd (ps k).n
/-- What k parts answer. -/
def outs (s : ByteArray) (ps : Nat → Prt) (k : Nat) : List Value := (List.range k).map fun j => .string (oAt s ps j)
theorem outs_succ (s : ByteArray) (ps : Nat → Prt) (k : Nat) : outs s ps (k + 1) = outs s ps k ++ [.string (oAt s ps k)] := by
  unfold outs; rw [List.range_succ, List.map_append]; rfl
theorem outs_length (s : ByteArray) (ps : Nat → Prt) (k : Nat) : (outs s ps k).length = k := by unfold outs; simp
/-- Where the taking ends: at the first part that fails, or behind them all. -/
theorem ends_at (s : ByteArray) (ps : Nat → Prt) : ∀ n, ∃ m, m ≤ n ∧ (∀ j, j < m → eAt s ps j = 0) ∧ (m = n ∨ (m < n ∧ ¬ eAt s ps m = 0))
  | 0 => ⟨0, Nat.le_refl _, fun j h => absurd h (Nat.not_lt_zero _), Or.inl rfl⟩
  | n + 1 => by
    obtain ⟨m, h1, h2, h3⟩ := ends_at s ps n
    rcases h3 with rfl | ⟨h3, h4⟩
    · by_cases he : eAt s ps m = 0
      · exact ⟨m + 1, Nat.le_refl _, fun j hj => by
          rcases Nat.lt_or_ge j m with h | h
          · exact h2 j h
          · obtain rfl : j = m := by omega
            exact he, Or.inl rfl⟩
      · exact ⟨m, by omega, h2, Or.inr ⟨by omega, he⟩⟩
    · exact ⟨m, by omega, h2, Or.inr ⟨by omega, h4⟩⟩
end Go.Proofs.Ythojbccoejdmeaa
