/- What the program's own mixing (Mix, its undoing, pairs) answers, as calls: for every number below 2^64, where the table of rounds reads as the program's text lays it, they return the plain functions' numbers; memory only grows by new blocks. -/
import Derived.Test.YteojllilcejnhaaDoorB
namespace Go.Proofs.YteojllilcejnhaaDoor
open Go.RowKit

structure Tab (w : World) : Prop where
  c0 : w.cell? ⟨0, 0, none⟩ = some (.int .u64 30)
  c1 : w.cell? ⟨0, 1, none⟩ = some (.int .u64 13787848793156543929)
  c2 : w.cell? ⟨0, 2, none⟩ = some (.int .u64 10871156337175269513)
  c3 : w.cell? ⟨0, 3, none⟩ = some (.int .u64 27)
  c4 : w.cell? ⟨0, 4, none⟩ = some (.int .u64 10723151780598845931)
  c5 : w.cell? ⟨0, 5, none⟩ = some (.int .u64 3573116690164977347)
  c6 : w.cell? ⟨0, 6, none⟩ = some (.int .u64 31)
  c7 : w.cell? ⟨0, 7, none⟩ = some (.int .u64 1)
  c8 : w.cell? ⟨0, 8, none⟩ = some (.int .u64 1)

theorem Tab.size {w : World} (h : Tab w) : 0 < w.heap.size := by
  rcases Nat.eq_zero_or_pos w.heap.size with h0 | h0
  · have := h.c0
    simp [World.cell?, Array.size_eq_zero_iff.1 h0] at this
  · exact h0
theorem Tab.grown {w w' : World} (h : Tab w) (hg : Grown w w') : Tab w' := by
  have hs := h.size
  have hc : ∀ o, w'.cell? ⟨0, o, none⟩ = w.cell? ⟨0, o, none⟩ := fun o => hg.1.cell hs (by simp)
  exact ⟨(hc _).trans h.c0, (hc _).trans h.c1, (hc _).trans h.c2, (hc _).trans h.c3, (hc _).trans h.c4, (hc _).trans h.c5, (hc _).trans h.c6, (hc _).trans h.c7, (hc _).trans h.c8⟩
theorem Grown.step {W a b : World} (h : Grown W a) (k : Grown a b) : Grown W b :=
  ⟨World.keptBut_trans h.1 k.1, fun x => (k.2.1 x).trans (h.2.1 x), Nat.le_trans h.2.2 k.2.2⟩
theorem ix0 (w : World) : (Instr.index 34 (.agg #[.int .u64 30, .int .u64 13787848793156543929, .int .u64 10871156337175269513, .int .u64 27, .int .u64 10723151780598845931, .int .u64 3573116690164977347, .int .u64 31, .int .u64 1, .int .u64 1]) (.int .i64 0)).run Tryd.prog w = .ok (.agg #[.int .u64 30, .int .u64 13787848793156543929, .int .u64 10871156337175269513]) w := by kernel_rfl
theorem ix1 (w : World) : (Instr.index 34 (.agg #[.int .u64 30, .int .u64 13787848793156543929, .int .u64 10871156337175269513, .int .u64 27, .int .u64 10723151780598845931, .int .u64 3573116690164977347, .int .u64 31, .int .u64 1, .int .u64 1]) (.int .i64 1)).run Tryd.prog w = .ok (.agg #[.int .u64 27, .int .u64 10723151780598845931, .int .u64 3573116690164977347]) w := by kernel_rfl
theorem ix2 (w : World) : (Instr.index 34 (.agg #[.int .u64 30, .int .u64 13787848793156543929, .int .u64 10871156337175269513, .int .u64 27, .int .u64 10723151780598845931, .int .u64 3573116690164977347, .int .u64 31, .int .u64 1, .int .u64 1]) (.int .i64 2)).run Tryd.prog w = .ok (.agg #[.int .u64 31, .int .u64 1, .int .u64 1]) w := by kernel_rfl

theorem xd_shift (x k : Nat) (hx : x < 18446744073709551616) : bits .xor .u64 (x : Int) ((x : Int) / ((2 ^ k : Nat) : Int)) = ((xd x k : Nat) : Int) :=
  xorShift_u64 x (2 ^ k) hx
theorem wrap_mul_nat (a b : Nat) : IntKind.u64.wrap ((a : Int) * (b : Int)) = ((tm a b : Nat) : Int) := by
  rw [IntKind.wrap_u64]; unfold tm; rw [Int.natCast_emod, Int.natCast_mul]; rfl
theorem wrap_nat (a : Nat) (ha : a < 18446744073709551616) : IntKind.u64.wrap (a : Int) = (a : Int) := by
  rw [IntKind.wrap_u64]; omega

set_option maxHeartbeats 400000 in
theorem mix_any (x : Nat) (hx : x < 18446744073709551616) (w : World) (ht : Tab w) :
    Calls Tryd.prog 8 #[.int .u64 x] w fun e w' => e = .returned (.int .u64 (mixN x)) ∧ Grown w w' := by
  obtain ⟨h0, h1, h2, h3, h4, h5, h6, h7, h8⟩ := ht
  have i0 := ix0
  have i1 := ix1
  have i2 := ix2
  have hm : mixN x = xd (tm (xd (tm (xd x 30) 13787848793156543929) 27) 10723151780598845931) 31 := rfl
  have e1 : bits .xor .u64 (x : Int) ((x : Int) / 1073741824) = _ := xd_shift x 30 hx
  have l1 := xd_lt x 30 hx
  generalize xd x 30 = x1 at *
  have f1 : IntKind.u64.wrap ((x1 : Int) * 13787848793156543929) = _ := wrap_mul_nat x1 13787848793156543929
  have l2 := tm_lt x1 13787848793156543929
  generalize tm x1 13787848793156543929 = x2 at *
  have e2 : bits .xor .u64 (x2 : Int) ((x2 : Int) / 134217728) = _ := xd_shift x2 27 l2
  have l3 := xd_lt x2 27 l2
  generalize xd x2 27 = x3 at *
  have f2 : IntKind.u64.wrap ((x3 : Int) * 10723151780598845931) = _ := wrap_mul_nat x3 10723151780598845931
  have l4 := tm_lt x3 10723151780598845931
  generalize tm x3 10723151780598845931 = x4 at *
  have e3 : bits .xor .u64 (x4 : Int) ((x4 : Int) / 2147483648) = _ := xd_shift x4 31 l4
  have f3 := wrap_nat (xd x4 31) (xd_lt _ _ l4)
  rw [hm]; clear hm
  go_enter Tryd.func8, Tryd.ntmps8
  go_wp2
  go_rounds 4
  go_ret
  exact ⟨rfl, by go_grown⟩

set_option maxHeartbeats 400000 in
theorem unfold_30 (x : Nat) (hx : x < 18446744073709551616) (w : World) :
    Calls Tryd.prog 17 #[.int .u64 x, .int .u64 30] w fun e w' => e = .returned (.int .u64 (un x 30)) ∧ w' = w := by
  have hm : un x 30 = xd (xd x 30) 60 := rfl
  have e1 : bits .xor .u64 (x : Int) ((x : Int) / 1073741824) = _ := xd_shift x 30 hx
  have l1 := xd_lt x 30 hx
  generalize xd x 30 = x1 at *
  have e2 : bits .xor .u64 (x1 : Int) ((x1 : Int) / 1152921504606846976) = _ := xd_shift x1 60 l1
  rw [hm]; clear hm
  go_enter Tryd.func17, Tryd.ntmps17
  go_wp2
  go_rounds 3
  go_ret
  exact ⟨rfl, rfl⟩
set_option maxHeartbeats 400000 in
theorem unfold_27 (x : Nat) (hx : x < 18446744073709551616) (w : World) :
    Calls Tryd.prog 17 #[.int .u64 x, .int .u64 27] w fun e w' => e = .returned (.int .u64 (un x 27)) ∧ w' = w := by
  have hm : un x 27 = xd (xd x 27) 54 := rfl
  have e1 : bits .xor .u64 (x : Int) ((x : Int) / 134217728) = _ := xd_shift x 27 hx
  have l1 := xd_lt x 27 hx
  generalize xd x 27 = x1 at *
  have e2 : bits .xor .u64 (x1 : Int) ((x1 : Int) / 18014398509481984) = _ := xd_shift x1 54 l1
  rw [hm]; clear hm
  go_enter Tryd.func17, Tryd.ntmps17
  go_wp2
  go_rounds 3
  go_ret
  exact ⟨rfl, rfl⟩
set_option maxHeartbeats 400000 in
theorem unfold_31 (x : Nat) (hx : x < 18446744073709551616) (w : World) :
    Calls Tryd.prog 17 #[.int .u64 x, .int .u64 31] w fun e w' => e = .returned (.int .u64 (un x 31)) ∧ w' = w := by
  have hm : un x 31 = xd (xd x 31) 62 := rfl
  have e1 : bits .xor .u64 (x : Int) ((x : Int) / 2147483648) = _ := xd_shift x 31 hx
  have l1 := xd_lt x 31 hx
  generalize xd x 31 = x1 at *
  have e2 : bits .xor .u64 (x1 : Int) ((x1 : Int) / 4611686018427387904) = _ := xd_shift x1 62 l1
  rw [hm]; clear hm
  go_enter Tryd.func17, Tryd.ntmps17
  go_wp2
  go_rounds 3
  go_ret
  exact ⟨rfl, rfl⟩

set_option maxHeartbeats 400000 in
theorem back_any (x : Nat) (hx : x < 18446744073709551616) (w : World) (ht : Tab w) :
    Calls Tryd.prog 11 #[.int .u64 x] w fun e w' => e = .returned (.int .u64 (backN x)) ∧ Grown w w' := by
  have hsz : 0 < w.heap.size := Tab.size ht
  obtain ⟨h0, h1, h2, h3, h4, h5, h6, h7, h8⟩ := ht
  have hm : backN x = un (tm (un (tm (un (tm x 1) 31) 3573116690164977347) 27) 10871156337175269513) 30 := rfl
  have e0 : tm x 1 = x := by simp only [tm, Nat.mul_one]; exact Nat.mod_eq_of_lt hx
  rw [e0] at hm; clear e0
  have f0 := wrap_nat x hx
  have l1 := un_lt x 31 hx
  generalize hx1 : un x 31 = x1 at *
  have f1 : IntKind.u64.wrap ((x1 : Int) * 3573116690164977347) = _ := wrap_mul_nat x1 3573116690164977347
  have l2 := tm_lt x1 3573116690164977347
  generalize tm x1 3573116690164977347 = x2 at *
  have l3 := un_lt x2 27 l2
  generalize hx3 : un x2 27 = x3 at *
  have f2 : IntKind.u64.wrap ((x3 : Int) * 10871156337175269513) = _ := wrap_mul_nat x3 10871156337175269513
  have l4 := tm_lt x3 10871156337175269513
  generalize tm x3 10871156337175269513 = x4 at *
  rw [hm]; clear hm
  go_enter Tryd.func11, Tryd.ntmps11
  go_wp2
  refine wp_loop_rounds 4 ?_
  rw [rounds_succ]
  go_wp2_with fail
  go_call (unfold_31 x hx) as e w1 ⟨rfl, rfl⟩
  go_wp2
  rw [rounds_succ]
  go_wp2_with fail
  go_call (unfold_27 x2 l2) as e w1 ⟨rfl, rfl⟩
  go_wp2
  rw [rounds_succ]
  go_wp2_with fail
  go_call (unfold_30 x4 l4) as e w1 ⟨rfl, rfl⟩
  go_wp2
  rw [rounds_succ]
  go_wp2
  go_ret
  exact ⟨rfl, by go_grown⟩

def pairN (a b : Nat) : Nat := mixN (xr a (mixN b))
theorem pairN_lt (a b : Nat) : pairN a b < 18446744073709551616 := mixN_lt _

set_option maxHeartbeats 400000 in
theorem pair_any (a b : Nat) (ha : a < 18446744073709551616) (hb : b < 18446744073709551616) (w : World) (ht : Tab w) :
    Calls Tryd.prog 10 #[.int .u64 a, .int .u64 b] w fun e w' => e = .returned (.int .u64 (pairN a b)) ∧ Grown w w' := by
  have hm : pairN a b = mixN (xr a (mixN b)) := rfl
  have l1 := mixN_lt b
  have e1 := xr_bits a (mixN b) ha l1
  have l2 := xr_lt a (mixN b) ha l1
  rw [hm]; clear hm
  go_enter Tryd.func10, Tryd.ntmps10
  go_wp2_with fail
  go_call (mix_any b hb w ht) as e w1 ⟨rfl, g1⟩
  go_wp2_with fail
  go_call (mix_any (xr a (mixN b)) l2 w1 (ht.grown g1)) as e w2 ⟨rfl, g2⟩
  go_wp2
  go_ret
  exact ⟨rfl, Grown.step g1 g2⟩
end Go.Proofs.YteojllilcejnhaaDoor
