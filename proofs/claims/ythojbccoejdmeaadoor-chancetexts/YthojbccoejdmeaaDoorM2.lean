/- The library's ParseUint at base 16 and 64 bits: what it answers of any text. -/
import Derived.Test.YthojbccoejdmeaaDoorD
import Derived.Lib.Strings
import Derived.Lib.Walk
import Derived.Lib.ConvBytes
import Derived.Lib.AtoiAllMem
import Derived.Lib.AtoiErrMem
import Derived.Lib.Hide
import Derived.Laws.Strings3
import Derived.Laws.Closers25
import Derived.Laws.Closers25b
import Derived.WalkKit
import Derived.BigCall
import Derived.BigGuard
namespace Go.Proofs.YthojbccoejdmeaaDoor
open Go.RowKit

def lw (c : Nat) : Nat := (bits .or .u8 (c : Int) 32).toNat
def dg (c : Nat) : Option Nat := if 48 ≤ c ∧ c ≤ 57 then some (c - 48) else if 97 ≤ lw c ∧ lw c ≤ 102 then some (lw c - 87) else none
inductive PR where
  | ok (u : Nat) : PR
  | syn : PR
  | rng : PR
def ph : Nat → List UInt8 → PR
  | acc, [] => .ok acc
  | acc, c :: cs => match dg c.toNat with
    | none => .syn
    | some d => if 1152921504606846976 ≤ acc then .rng else ph (acc * 16 + d) cs
def tup : PR → Value
  | .ok u => .tuple #[.int .u64 (u : Nat), .nilIface]
  | .syn => .tuple #[.int .u64 0, .iface 84 (.int .i64 2)]
  | .rng => .tuple #[.int .u64 18446744073709551615, .iface 84 (.int .i64 1)]

set_option maxHeartbeats 32000000 in
set_option maxRecDepth 100000 in
theorem pu_in (t : ByteArray) (hne : t.size ≠ 0) (hmax : t.size ≤ 1000) (w : World) :
    Calls Tryd.prog 50 #[.string t, .int .i64 16, .int .i64 64] w fun e w' => e = .returned (tup (ph 0 t.data.toList)) ∧ w' = Lib.bytesWorld w 5 t := by
  have hemp : t.toList.isEmpty = false := by
    rw [← decide_eq_emptyBytes]
    exact decide_eq_false (fun h => hne (by rw [h]; rfl))
  have hcv := Lib.run_convert_string_bytes (P := Tryd.prog) w 9 57 5 t (u := .string) Tryd.underlying9 Tryd.underlying57 Tryd.underlying5
  have hB : ∀ j, j < t.size → (Lib.bytesWorld w 5 t).cell? ⟨w.heap.size, j, none⟩ = some (.int .u8 (t.data.toList.getD j 0).toNat) := fun j hj => Lib.bytesWorld_cell w 5 t j hj
  obtain ⟨W1, hW1⟩ : ∃ W1, W1 = Lib.bytesWorld w 5 t := ⟨_, rfl⟩
  rw [← hW1] at hcv hB ⊢
  clear hW1
  obtain ⟨bs, hL⟩ : ∃ bs, bs = t.data.toList := ⟨_, rfl⟩
  have hLn : bs.length = t.size := by rw [hL, Lib.size_eq]
  rw [← hL] at hB ⊢
  clear hL
  have hmv : IntKind.u64.wrap (IntKind.u64.wrap 18446744073709551616 - 1) = 18446744073709551615 := by
    rw [IntKind.wrap_u64, IntKind.wrap_u64]
    decide
  go_enter Tryd.func50, Tryd.ntmps50
  go_wp2
  go_loop [12, 13, 101] (fun vu vn vi => ∃ (k acc : Nat) (a : Int), vu = .bool false ∧ vn = .int .u64 a ∧ vi = .int .i64 (k : Nat) ∧ k ≤ t.size ∧ Hid (a = (acc : Int) ∧ acc < 18446744073709551616 ∧ ph 0 bs = ph acc (bs.drop k)))
    (fun _ _ vi => t.size - (intOf vi).toNat)
  case atStart => exact ⟨0, 0, 0, rfl, rfl, rfl, by omega, rfl, by omega, rfl⟩
  case round =>
    obtain ⟨k, acc, a, rfl, rfl, rfl, hk, hh⟩ := hrel
    obtain ⟨ha, hacc, hdec⟩ := hh.out
    clear hh
    have a0 : 0 ≤ a := by omega
    have a1 : a < 18446744073709551616 := by omega
    by_cases hkn : k < t.size
    · have hc := hB k hkn
      have hdrop : bs.drop k = bs[k]'(by omega) :: bs.drop (k + 1) := List.drop_eq_getElem_cons (by omega)
      have hget : bs.getD k 0 = bs[k]'(by omega) := by simp [List.getD, List.getElem?_eq_getElem (show k < bs.length by omega)]
      rw [hdrop] at hdec
      rw [hget] at hc
      generalize bs[k]'(by omega) = c at hc hdec
      have hc256 : c.toNat < 256 := c.toNat_lt
      clear hB hdrop hget
      by_cases hdig : 48 ≤ c.toNat ∧ c.toNat ≤ 57
      · have hdg : dg c.toNat = some (c.toNat - 48) := by unfold dg; rw [if_pos hdig]
        obtain ⟨hd0, hd1⟩ := hdig
        by_cases hcut : 1152921504606846976 ≤ acc
        · have hF : ph acc (c :: bs.drop (k + 1)) = .rng := by rw [ph, hdg]; simp [hcut]
          rw [hF] at hdec
          have icut : 1152921504606846976 ≤ a := by omega
          clear hcut hacc hF ha
          go_wp2
          go_returns
          first | exact ⟨rfl, rfl⟩ | exact ⟨by rw [hdec]; rfl, rfl⟩
        · have hF : ph acc (c :: bs.drop (k + 1)) = ph (acc * 16 + (c.toNat - 48)) (bs.drop (k + 1)) := by rw [ph, hdg]; simp [hcut]
          have HN : Hid (a * 16 + ((c.toNat : Int) - 48) = ((acc * 16 + (c.toNat - 48) : Nat) : Int) ∧ acc * 16 + (c.toNat - 48) < 18446744073709551616 ∧ ph 0 bs = ph (acc * 16 + (c.toNat - 48)) (bs.drop (k + 1))) := Lib.hid ⟨by omega, by omega, hdec.trans hF⟩
          have icut : a < 1152921504606846976 := by omega
          clear hcut hacc hF hdec ha
          go_wp2
          go_round
          case rel => exact ⟨k + 1, acc * 16 + (c.toNat - 48), a * 16 + ((c.toNat : Int) - 48), rfl, (by first | rfl | (congr 1; omega)), (by first | rfl | (congr 1; omega)), by omega, HN⟩
          case measure => simp only [intOf]; omega
      · obtain ⟨L, hL⟩ : ∃ L, L = lw c.toNat := ⟨_, rfl⟩
        have hv0 := bits_lo_u8 .or (c.toNat : Int) 32
        have hv1 := bits_hi_u8 .or (c.toNat : Int) 32
        have hlb : bits .or .u8 (c.toNat : Int) 32 = (L : Int) := by rw [hL]; unfold lw; omega
        rw [hlb] at hv0 hv1
        have h95 : c.toNat = 95 → L = 127 := by
          intro h; rw [hL, h]; decide
        have hdig2 : c.toNat < 48 ∨ 57 < c.toNat := by omega
        by_cases hl : 97 ≤ L ∧ L ≤ 102
        · have hdg : dg c.toNat = some (L - 87) := by unfold dg; rw [if_neg hdig, if_pos (by rw [← hL]; exact hl), hL]
          have hn95 : ¬ (c.toNat : Int) = 95 := by omega
          clear hL h95 hdig
          obtain ⟨hl0, hl1⟩ := hl
          rcases hdig2 with hdig2 | hdig2
          · skip
            by_cases hcut : 1152921504606846976 ≤ acc
            · have hF : ph acc (c :: bs.drop (k + 1)) = .rng := by rw [ph, hdg]; simp [hcut]
              rw [hF] at hdec
              have icut : 1152921504606846976 ≤ a := by omega
              clear hcut hacc hF ha
              go_wp2
              go_returns
              first | exact ⟨rfl, rfl⟩ | exact ⟨by rw [hdec]; rfl, rfl⟩
            · have hF : ph acc (c :: bs.drop (k + 1)) = ph (acc * 16 + (L - 87)) (bs.drop (k + 1)) := by rw [ph, hdg]; simp [hcut]
              have HN : Hid (a * 16 + ((L : Int) - 87) = ((acc * 16 + (L - 87) : Nat) : Int) ∧ acc * 16 + (L - 87) < 18446744073709551616 ∧ ph 0 bs = ph (acc * 16 + (L - 87)) (bs.drop (k + 1))) := Lib.hid ⟨by omega, by omega, hdec.trans hF⟩
              have icut : a < 1152921504606846976 := by omega
              clear hcut hacc hF hdec ha
              go_wp2
              go_round
              case rel => exact ⟨k + 1, acc * 16 + (L - 87), a * 16 + ((L : Int) - 87), rfl, (by first | rfl | (congr 1; omega)), (by first | rfl | (congr 1; omega)), by omega, HN⟩
              case measure => simp only [intOf]; omega
          · skip
            by_cases hcut : 1152921504606846976 ≤ acc
            · have hF : ph acc (c :: bs.drop (k + 1)) = .rng := by rw [ph, hdg]; simp [hcut]
              rw [hF] at hdec
              have icut : 1152921504606846976 ≤ a := by omega
              clear hcut hacc hF ha
              go_wp2
              go_returns
              first | exact ⟨rfl, rfl⟩ | exact ⟨by rw [hdec]; rfl, rfl⟩
            · have hF : ph acc (c :: bs.drop (k + 1)) = ph (acc * 16 + (L - 87)) (bs.drop (k + 1)) := by rw [ph, hdg]; simp [hcut]
              have HN : Hid (a * 16 + ((L : Int) - 87) = ((acc * 16 + (L - 87) : Nat) : Int) ∧ acc * 16 + (L - 87) < 18446744073709551616 ∧ ph 0 bs = ph (acc * 16 + (L - 87)) (bs.drop (k + 1))) := Lib.hid ⟨by omega, by omega, hdec.trans hF⟩
              have icut : a < 1152921504606846976 := by omega
              clear hcut hacc hF hdec ha
              go_wp2
              go_round
              case rel => exact ⟨k + 1, acc * 16 + (L - 87), a * 16 + ((L : Int) - 87), rfl, (by first | rfl | (congr 1; omega)), (by first | rfl | (congr 1; omega)), by omega, HN⟩
              case measure => simp only [intOf]; omega
        · have hdg : dg c.toNat = none := by unfold dg; rw [if_neg hdig, if_neg (by rw [← hL]; exact hl)]
          have hF : ph acc (c :: bs.drop (k + 1)) = .syn := by rw [ph, hdg]
          rw [hF] at hdec
          have hu : bits .or .u8 95 32 = 127 := by decide
          have hl2 : L < 97 ∨ (102 < L ∧ L ≤ 122) ∨ 122 < L := by omega
          clear hL hacc hF ha hdig hl
          rcases hl2 with hl2 | ⟨hl2, hl3⟩ | hl2 <;> rcases hdig2 with hdig2 | hdig2
          all_goals go_wp2
          all_goals go_returns
          all_goals first | exact ⟨rfl, rfl⟩ | exact ⟨by rw [hdec]; rfl, rfl⟩
    · obtain rfl : k = t.size := by omega
      have hF : ph acc (bs.drop t.size) = .ok acc := by rw [List.drop_eq_nil_of_le (by omega)]; rfl
      rw [hF] at hdec
      subst ha
      clear hacc hF a0 a1
      go_wp2
      go_returns
      first | exact ⟨rfl, rfl⟩ | exact ⟨by rw [hdec]; rfl, rfl⟩
end Go.Proofs.YthojbccoejdmeaaDoor
