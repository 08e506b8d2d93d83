/- Two members held against each other. -/
import Derived.Test.YtknmipbjkkeebaaRC
namespace Go.Proofs.Ytknmipbjkkeebaa
open Go.RowKit
theorem eq3 (d : Nat) (s s' : Int) (w : World) : (Op.equalIn (d + 1) 3 (.int .i64 s) (.int .i64 s')).run Try.prog w = .ok (s == s') w := by
  simp [Op.equalIn, run_underlying Try.underlying3]
theorem eq66 (d : Nat) (s s' : Int) (w : World) : (Op.equalIn (d + 1) 66 (.int .u64 s) (.int .u64 s')).run Try.prog w = .ok (s == s') w := by
  simp [Op.equalIn, run_underlying Try.underlying66]
theorem part0 (k k' k2 : IntKind) (s j t : Int) (w : World) : (part 3 #[.int k s, .int k' j, .int k2 t] 0).run Try.prog w = .ok (.int k s) w := by kernel_rfl
theorem part1 (k k' k2 : IntKind) (s j t : Int) (w : World) : (part 66 #[.int k s, .int k' j, .int k2 t] 1).run Try.prog w = .ok (.int k' j) w := by kernel_rfl
theorem part2 (k k' k2 : IntKind) (s j t : Int) (w : World) : (part 3 #[.int k s, .int k' j, .int k2 t] 2).run Try.prog w = .ok (.int k2 t) w := by kernel_rfl
theorem equalIn85 (d : Nat) (s s' t t' j j' : Int) (w : World) : (Op.equalIn (d + 2) 85 (.agg #[.int .i64 s, .int .u64 j, .int .i64 t]) (.agg #[.int .i64 s', .int .u64 j', .int .i64 t'])).run Try.prog w = .ok (decide (s = s' ∧ j = j' ∧ t = t')) w := by
  rw [Op.equalIn]
  simp [run_underlying Try.underlying85, part0, part1, part2, eq3, eq66]
  by_cases h1 : s = s'
  · by_cases h2 : j = j'
    · by_cases h3 : t = t'
      · simp [h1, h2, h3]
      · simp [h1, h2, h3]
    · simp [h1, h2]
  · simp [h1]
theorem mb_eq (s s' t t' j j' : Int) (w : World) : (binOp .eql 85 (.agg #[.int .i64 s, .int .u64 j, .int .i64 t]) (.agg #[.int .i64 s', .int .u64 j', .int .i64 t'])).run Try.prog w = .ok (.bool (decide (s = s' ∧ j = j' ∧ t = t'))) w := by
  have h : (Op.equal 85 (.agg #[.int .i64 s, .int .u64 j, .int .i64 t]) (.agg #[.int .i64 s', .int .u64 j', .int .i64 t'])).run Try.prog w = .ok (decide (s = s' ∧ j = j' ∧ t = t')) w := equalIn85 9998 s s' t t' j j' w
  simp only [binOp, Sem.run_bind, h]
  rfl
theorem mb_ne (s s' t t' j j' : Int) (w : World) : (binOp .neq 85 (.agg #[.int .i64 s, .int .u64 j, .int .i64 t]) (.agg #[.int .i64 s', .int .u64 j', .int .i64 t'])).run Try.prog w = .ok (.bool (!decide (s = s' ∧ j = j' ∧ t = t'))) w := by
  have h : (Op.equal 85 (.agg #[.int .i64 s, .int .u64 j, .int .i64 t]) (.agg #[.int .i64 s', .int .u64 j', .int .i64 t'])).run Try.prog w = .ok (decide (s = s' ∧ j = j' ∧ t = t')) w := equalIn85 9998 s s' t t' j j' w
  simp only [binOp, Sem.run_bind, h]
  rfl
end Go.Proofs.Ytknmipbjkkeebaa
