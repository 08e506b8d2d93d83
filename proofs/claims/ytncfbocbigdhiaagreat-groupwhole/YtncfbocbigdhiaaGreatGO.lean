/- Two Commits held against each other. -/
import Derived.Test.YtncfbocbigdhiaaGreatGN
namespace Go.Proofs.YtncfbocbigdhiaaGreat
open Go.RowKit
theorem eq3 (d : Nat) (s s' : Int) (w : World) : (Op.equalIn (d + 1) 3 (.int .i64 s) (.int .i64 s')).run Tryz.prog w = .ok (decide (s = s')) w := by
  simp [Op.equalIn, run_underlying Tryz.underlying3]
  rfl
theorem eq42 (d : Nat) (s s' : Int) (w : World) : (Op.equalIn (d + 1) 42 (.int .u64 s) (.int .u64 s')).run Tryz.prog w = .ok (decide (s = s')) w := by
  simp [Op.equalIn, run_underlying Tryz.underlying42]
  rfl
theorem eq53 (d : Nat) (s s' : Int) (w : World) : (Op.equalIn (d + 1) 53 (.int .u32 s) (.int .u32 s')).run Tryz.prog w = .ok (decide (s = s')) w := by
  simp [Op.equalIn, run_underlying Tryz.underlying53]
  rfl
abbrev sixI (a b c d e f : Int) : Array Value := #[.int .u64 a, .int .u64 b, .int .u64 c, .int .i64 d, .int .i64 e, .int .u32 f]
theorem spart0 (a b c d e f : Int) (w : World) : (part 42 (sixI a b c d e f) 0).run Tryz.prog w = .ok (.int .u64 a) w := by kernel_rfl
theorem spart1 (a b c d e f : Int) (w : World) : (part 42 (sixI a b c d e f) 1).run Tryz.prog w = .ok (.int .u64 b) w := by kernel_rfl
theorem spart2 (a b c d e f : Int) (w : World) : (part 42 (sixI a b c d e f) 2).run Tryz.prog w = .ok (.int .u64 c) w := by kernel_rfl
theorem spart3 (a b c d e f : Int) (w : World) : (part 3 (sixI a b c d e f) 3).run Tryz.prog w = .ok (.int .i64 d) w := by kernel_rfl
theorem spart4 (a b c d e f : Int) (w : World) : (part 3 (sixI a b c d e f) 4).run Tryz.prog w = .ok (.int .i64 e) w := by kernel_rfl
theorem spart5 (a b c d e f : Int) (w : World) : (part 53 (sixI a b c d e f) 5).run Tryz.prog w = .ok (.int .u32 f) w := by kernel_rfl
theorem equalIn55 (dd : Nat) (a b c d e f a' b' c' d' e' f' : Int) (w : World) : (Op.equalIn (dd + 2) 55 (.agg (sixI a b c d e f)) (.agg (sixI a' b' c' d' e' f'))).run Tryz.prog w = .ok (decide (a = a' ∧ b = b' ∧ c = c' ∧ d = d' ∧ e = e' ∧ f = f')) w := by
  rw [Op.equalIn]
  simp [run_underlying Tryz.underlying55, spart0, spart1, spart2, spart3, spart4, spart5, eq3, eq42, eq53]
  by_cases h1 : a = a'
  · by_cases h2 : b = b'
    · by_cases h3 : c = c'
      · by_cases h4 : d = d'
        · by_cases h5 : e = e'
          · by_cases h6 : f = f'
            · simp [h1, h2, h3, h4, h5, h6]
            · simp [h1, h2, h3, h4, h5, h6]
          · simp [h1, h2, h3, h4, h5]
        · simp [h1, h2, h3, h4]
      · simp [h1, h2, h3]
    · simp [h1, h2]
  · simp [h1]
theorem cm_ne (p q : Cm) : ∃ b : Bool, (b = false ↔ p = q) ∧ ∀ w, (binOp .neq 55 (.agg p.cs) (.agg q.cs)).run Tryz.prog w = .ok (.bool b) w := by
  obtain ⟨a, b, c, d, e, f⟩ := p
  obtain ⟨a', b', c', d', e', f'⟩ := q
  refine ⟨!decide (((a : Nat) : Int) = (a' : Nat) ∧ ((b : Nat) : Int) = (b' : Nat) ∧ ((c : Nat) : Int) = (c' : Nat) ∧ ((d : Nat) : Int) = (d' : Nat) ∧ ((e : Nat) : Int) = (e' : Nat) ∧ ((f : Nat) : Int) = (f' : Nat)), ?_, fun w => ?_⟩
  · simp
    constructor
    · rintro ⟨h1, h2, h3, h4, h5, h6⟩
      obtain rfl : a = a' := by omega
      obtain rfl : b = b' := by omega
      obtain rfl : c = c' := by omega
      obtain rfl : d = d' := by omega
      obtain rfl : e = e' := by omega
      obtain rfl : f = f' := by omega
      exact ⟨rfl, rfl, rfl, rfl, rfl, rfl⟩
    · rintro ⟨rfl, rfl, rfl, rfl, rfl, rfl⟩
      exact ⟨rfl, rfl, rfl, rfl, rfl, rfl⟩
  · have h := equalIn55 9998 (a : Nat) (b : Nat) (c : Nat) (d : Nat) (e : Nat) (f : Nat) (a' : Nat) (b' : Nat) (c' : Nat) (d' : Nat) (e' : Nat) (f' : Nat) w
    show (binOp .neq 55 (.agg (sixI (a : Nat) (b : Nat) (c : Nat) (d : Nat) (e : Nat) (f : Nat))) (.agg (sixI (a' : Nat) (b' : Nat) (c' : Nat) (d' : Nat) (e' : Nat) (f' : Nat)))).run Tryz.prog w = _
    have h2 : (Op.equal 55 (.agg (sixI (a : Nat) (b : Nat) (c : Nat) (d : Nat) (e : Nat) (f : Nat))) (.agg (sixI (a' : Nat) (b' : Nat) (c' : Nat) (d' : Nat) (e' : Nat) (f' : Nat)))).run Tryz.prog w = _ := h
    simp only [binOp, Sem.run_bind, h2]
    rfl
end Go.Proofs.YtncfbocbigdhiaaGreat
