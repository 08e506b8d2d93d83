/- Noughts: the library's Repeat at "0", 0 to 15 times. -/
import Derived.Test.YthojbccoejdmeaaDoorJ
namespace Go.Proofs.YthojbccoejdmeaaDoor
open Go.RowKit

def nulls (k : Nat) : ByteArray := ⟨(List.replicate k 48).toArray⟩
set_option maxRecDepth 100000 in
theorem hasp58 (S : ByteArray) (b : Bool) (h : ((S.extract 0 1).toList == [48]) = b) (h0 : 1 ≤ S.size) (hS : S.size ≤ 1000) (w : World) :
    Calls Tryd.prog 58 #[.string S, .string ⟨#[48]⟩] w fun e w' => e = .returned (.bool b) ∧ w' = w := by
  go_enter Tryd.func58, Tryd.ntmps58
  go_wp2
  go_ret
  subst h
  exact ⟨rfl, rfl⟩
theorem hasp (S : ByteArray) (b : Bool) (h : ((S.extract 0 1).toList == [48]) = b) (h0 : 1 ≤ S.size) (hS : S.size ≤ 1000) (w : World) :
    Calls Tryd.prog 45 #[.string S, .string ⟨#[48]⟩] w fun e w' => e = .returned (.bool b) ∧ w' = w := by
  go_enter Tryd.func45, Tryd.ntmps45
  go_wp2_with fail
  go_call (hasp58 S b h h0 hS w) as e w1 ⟨rfl, rfl⟩
  go_wp2
  go_ret
  exact ⟨rfl, rfl⟩
set_option maxRecDepth 100000 in
set_option maxHeartbeats 4000000 in
theorem repeatK (k : Nat) (h2 : 2 ≤ k) (hk : k < 16) (w : World) :
    Calls Tryd.prog 39 #[.string ⟨#[48]⟩, .int .i64 (k : Nat)] w fun e w' => e = .returned (.string (nulls k)) ∧ w' = w := by
  have g0 : ((({ data := #[48] } : ByteArray)[0].toNat : Int) == 32) = false := by decide
  have g1 : ((({ data := #[48] } : ByteArray)[0].toNat : Int) == 45) = false := by decide
  have g2 : ((({ data := #[48] } : ByteArray)[0].toNat : Int) == 48) = true := by decide
  go_enter Tryd.func39, Tryd.ntmps39
  go_wp2_with fail
  go_call (mul_one k hk w) as e w1 ⟨rfl, rfl⟩
  go_wp2_with fail
  go_call (hasp _ false (by kernel_rfl) (Nat.le_of_ble_eq_true (by kernel_rfl)) (Nat.le_of_ble_eq_true (by kernel_rfl)) w1) as e w1 ⟨rfl, rfl⟩
  go_wp2_with fail
  go_call (hasp _ false (by kernel_rfl) (Nat.le_of_ble_eq_true (by kernel_rfl)) (Nat.le_of_ble_eq_true (by kernel_rfl)) w1) as e w1 ⟨rfl, rfl⟩
  go_wp2_with fail
  go_call (hasp _ true (by kernel_rfl) (Nat.le_of_ble_eq_true (by kernel_rfl)) (Nat.le_of_ble_eq_true (by kernel_rfl)) w1) as e w1 ⟨rfl, rfl⟩
  go_wp2
  go_ret
  refine ⟨?_, rfl⟩
  clear g0 g1 g2
  have hc : k = 2 ∨ k = 3 ∨ k = 4 ∨ k = 5 ∨ k = 6 ∨ k = 7 ∨ k = 8 ∨ k = 9 ∨ k = 10 ∨ k = 11 ∨ k = 12 ∨ k = 13 ∨ k = 14 ∨ k = 15 := by omega
  rcases hc with rfl | rfl | rfl | rfl | rfl | rfl | rfl | rfl | rfl | rfl | rfl | rfl | rfl | rfl <;> rfl
/-- What Text writes of p. -/
def txt (p : Nat) : ByteArray := if nanB p then ⟨#[110, 111, 110, 101]⟩ else if infU p then ⟨#[97, 108, 108]⟩ else if infD p then ⟨#[45, 97, 108, 108]⟩ else htx p 16
theorem nulls_htx (u n : Nat) (hn : n ≤ 15) (hlt : ux u n < 16) : (nulls (15 - n)) ++ htx u (n + 1) = htx u 16 := by
  apply ByteArray.ext
  rw [ByteArray.data_append]
  unfold nulls htx
  rw [List.append_toArray, htl_full u n hn hlt]
end Go.Proofs.YthojbccoejdmeaaDoor
