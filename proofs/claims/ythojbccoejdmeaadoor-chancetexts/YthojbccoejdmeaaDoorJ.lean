/- Noughts: the library's Repeat at "0", 0 to 15 times; Text of any number. -/
import Derived.Test.YthojbccoejdmeaaDoorD
namespace Go.Proofs.YthojbccoejdmeaaDoor
open Go.RowKit

set_option maxRecDepth 100000 in
theorem mul64_one (k : Nat) (hk : k < 16) (w : World) :
    Calls Tryd.prog 57 #[.int .u64 1, .int .u64 (k : Nat)] w fun e w' => e = .returned (.tuple #[.int .u64 0, .int .u64 (k : Nat)]) ∧ w' = w := by
  have b0 : bits .and .u64 1 4294967295 = 1 := by decide
  have b1 : bits .and .u64 (k : Int) 4294967295 = (k : Int) := by
    have : ∀ k : Nat, k < 16 → bits .and .u64 (k : Int) 4294967295 = (k : Int) := by decide
    exact this k hk
  have b2 : bits .and .u64 0 4294967295 = 0 := by decide
  have e0 : ((k : Int) / 4294967296) = 0 := by omega
  go_enter Tryd.func57, Tryd.ntmps57
  go_wp2
  go_returns
  exact ⟨rfl, rfl⟩

set_option maxRecDepth 100000 in
theorem mul_one (k : Nat) (hk : k < 16) (w : World) :
    Calls Tryd.prog 44 #[.int .u64 1, .int .u64 (k : Nat)] w fun e w' => e = .returned (.tuple #[.int .u64 0, .int .u64 (k : Nat)]) ∧ w' = w := by
  go_enter Tryd.func44, Tryd.ntmps44
  go_wp2_with fail
  go_call (mul64_one k hk w) as e w1 ⟨rfl, rfl⟩
  go_wp2
  go_returns
  exact ⟨rfl, rfl⟩
end Go.Proofs.YthojbccoejdmeaaDoor
