/- 'part', as a call. -/
import Derived.Test.YthojbccoejdmeaaA1
namespace Go.Proofs.Ythojbccoejdmeaa
open Go.RowKit
theorem boxed_in (I : Nat) (s : ByteArray) (_hs : s.size ≤ 1000000) (w : World) (h : InIs w I s 0) (a b : Value) : InIs (w.alloc (.cells #[a, b] 26)) I s 0 ∧ KI I w (w.alloc (.cells #[a, b] 26)) := by
  have hb : Below w.heap.size w (w.alloc (.cells #[a, b] 26)) := Below.alloc (Below.refl _ _) (Nat.le_refl _) _
  exact ⟨h.below hb, KI.ofBelow hb⟩
section
variable (I : Nat) (s : ByteArray) (hs : s.size ≤ 1000000) (n : Int) (w : World) (h : InIs w I s 0)
include hs h
theorem part0_ok (he : wd n ≤ s.size) : Calls Try.prog 12 #[.pointer (some ⟨I, 0, none⟩), .agg #[.int .i64 0, .int .i64 n]] w fun e w' => e = .returned (.string (tb (numB (nv s (wd n)) 8))) ∧ InIs w' I (s.extract (wd n) s.size) 0 ∧ KI I w w' := by
  obtain ⟨h1, k1⟩ := boxed_in I s hs w h (.int .i64 0) (.int .i64 n)
  have hn := num_in I s n he hs _ h1
  have hx := nv_lt64 s (wd n) (wd_le n)
  have K1 : Hid _ := k1
  clear h h1 k1
  generalize nv s (wd n) = x at *
  generalize s.extract (wd n) s.size = r at *
  go_enter Try.func12, Try.ntmps12
  go_wp2_with fail
  go_call hn as e w1 ⟨rfl, i1, k2⟩
  have hr := rnum_any x 8 hx (by decide) w1
  have K2 : Hid _ := K1.out.trans k2
  have I1 : Hid _ := i1
  clear hn i1 k2 K1
  go_wp2_with fail
  go_call hr as e w2 ⟨rfl, b2⟩
  have HF : Hid (InIs w2 I r 0 ∧ KI I w w2) := ⟨I1.out.below b2, K2.out.trans (KI.ofBelow b2)⟩
  clear hr b2 I1 K2
  go_wp2
  go_returns
  exact ⟨rfl, HF.out⟩
theorem part0_no (he : s.size < wd n) : Calls Try.prog 12 #[.pointer (some ⟨I, 0, none⟩), .agg #[.int .i64 0, .int .i64 n]] w fun e w' => e = .panicked [brk I] ∧ (∃ t, InIs w' I t 3) ∧ KI I w w' := by
  obtain ⟨h1, k1⟩ := boxed_in I s hs w h (.int .i64 0) (.int .i64 n)
  have hn := num_no I s n he _ h1
  have K1 : Hid _ := k1
  clear h h1 k1
  go_enter Try.func12, Try.ntmps12
  go_wp2_with fail
  go_call hn as e w1 ⟨rfl, i1, k2⟩
  have HF : Hid ((∃ t, InIs w1 I t 3) ∧ KI I w w1) := ⟨⟨_, i1⟩, K1.out.trans k2⟩
  clear hn i1 k2 K1
  go_wp2
  exact ⟨rfl, rfl, HF.out⟩
theorem part1_ok (m : Nat) (hm : m = nv s 2) (h2 : 2 ≤ s.size) (he : m + 2 ≤ s.size) : Calls Try.prog 12 #[.pointer (some ⟨I, 0, none⟩), .agg #[.int .i64 1, .int .i64 n]] w fun e w' => e = .returned (.string ((s.extract 2 s.size).extract 0 m)) ∧ InIs w' I ((s.extract 2 s.size).extract m (s.extract 2 s.size).size) 0 ∧ KI I w w' := by
  obtain ⟨h1, k1⟩ := boxed_in I s hs w h (.int .i64 1) (.int .i64 n)
  have hn := text_in I s m hm h2 he hs _ h1
  have K1 : Hid _ := k1
  clear h h1 k1 hm
  generalize (s.extract 2 s.size).extract m (s.extract 2 s.size).size = r at *
  generalize (s.extract 2 s.size).extract 0 m = x at *
  go_enter Try.func12, Try.ntmps12
  go_wp2_with fail
  go_call hn as e w1 ⟨rfl, i1, k2⟩
  have HF : Hid (InIs w1 I r 0 ∧ KI I w w1) := ⟨i1, K1.out.trans k2⟩
  clear hn i1 k2 K1
  go_wp2
  go_returns
  exact ⟨rfl, HF.out⟩
theorem part1_no (he : ¬ (2 ≤ s.size ∧ nv s 2 + 2 ≤ s.size)) : Calls Try.prog 12 #[.pointer (some ⟨I, 0, none⟩), .agg #[.int .i64 1, .int .i64 n]] w fun e w' => e = .panicked [brk I] ∧ (∃ t, InIs w' I t 3) ∧ KI I w w' := by
  obtain ⟨h1, k1⟩ := boxed_in I s hs w h (.int .i64 1) (.int .i64 n)
  have hn : Calls Try.prog 23 #[.pointer (some ⟨I, 0, none⟩)] (w.alloc (.cells #[.int .i64 1, .int .i64 n] 26)) fun e w' => e = .panicked [brk I] ∧ (∃ t, InIs w' I t 3) ∧ KI I (w.alloc (.cells #[.int .i64 1, .int .i64 n] 26)) w' := by
    by_cases h2 : 2 ≤ s.size
    · exact text_no2 I s (nv s 2) rfl h2 (by omega) hs _ h1
    · exact text_no1 I s (by omega) _ h1
  have K1 : Hid _ := k1
  clear h h1 k1 he
  go_enter Try.func12, Try.ntmps12
  go_wp2_with fail
  go_call hn as e w1 ⟨rfl, i1, k2⟩
  have HF : Hid ((∃ t, InIs w1 I t 3) ∧ KI I w w1) := ⟨i1, K1.out.trans k2⟩
  clear hn i1 k2 K1
  go_wp2
  exact ⟨rfl, rfl, HF.out⟩
theorem part2_ok (he : n.toNat ≤ s.size) : Calls Try.prog 12 #[.pointer (some ⟨I, 0, none⟩), .agg #[.int .i64 2, .int .i64 n]] w fun e w' => e = .returned (.string (s.extract 0 n.toNat)) ∧ InIs w' I (s.extract n.toNat s.size) 0 ∧ KI I w w' := by
  obtain ⟨h1, k1⟩ := boxed_in I s hs w h (.int .i64 2) (.int .i64 n)
  have hn := raw_in I s n n.toNat rfl he hs _ h1
  have K1 : Hid _ := k1
  clear h h1 k1
  generalize s.extract n.toNat s.size = r at *
  generalize s.extract 0 n.toNat = x at *
  go_enter Try.func12, Try.ntmps12
  go_wp2_with fail
  go_call hn as e w1 ⟨rfl, i1, k2⟩
  have HF : Hid (InIs w1 I r 0 ∧ KI I w w1) := ⟨i1, K1.out.trans k2⟩
  clear hn i1 k2 K1
  go_wp2
  go_returns
  exact ⟨rfl, HF.out⟩
theorem part2_no (he : ¬ n.toNat ≤ s.size) : Calls Try.prog 12 #[.pointer (some ⟨I, 0, none⟩), .agg #[.int .i64 2, .int .i64 n]] w fun e w' => e = .panicked [brk I] ∧ (∃ t, InIs w' I t 3) ∧ KI I w w' := by
  obtain ⟨h1, k1⟩ := boxed_in I s hs w h (.int .i64 2) (.int .i64 n)
  have hn := raw_no I s n (by omega) _ h1
  have K1 : Hid _ := k1
  clear h h1 k1
  go_enter Try.func12, Try.ntmps12
  go_wp2_with fail
  go_call hn as e w1 ⟨rfl, i1, k2⟩
  have HF : Hid ((∃ t, InIs w1 I t 3) ∧ KI I w w1) := ⟨⟨_, i1⟩, K1.out.trans k2⟩
  clear hn i1 k2 K1
  go_wp2
  exact ⟨rfl, rfl, HF.out⟩
theorem part3_ok (he : zeros s) : Calls Try.prog 12 #[.pointer (some ⟨I, 0, none⟩), .agg #[.int .i64 3, .int .i64 n]] w fun e w' => e = .returned (.string ⟨#[]⟩) ∧ InIs w' I ⟨#[]⟩ 0 ∧ KI I w w' := by
  obtain ⟨h1, k1⟩ := boxed_in I s hs w h (.int .i64 3) (.int .i64 n)
  have hn : Calls Try.prog 24 #[.pointer (some ⟨I, 0, none⟩)] (w.alloc (.cells #[.int .i64 3, .int .i64 n] 26)) fun e w' => e = .returned (.tuple #[]) ∧ InIs w' I ⟨#[]⟩ 0 ∧ KI I (w.alloc (.cells #[.int .i64 3, .int .i64 n] 26)) w' := (zero_any I s hs _ h1).mono (fun e w' ⟨q1, _, q3⟩ => ⟨(q1 he).1, (q1 he).2, q3⟩)
  have K1 : Hid _ := k1
  clear h h1 k1 he
  go_enter Try.func12, Try.ntmps12
  go_wp2_with fail
  go_call hn as e w1 ⟨rfl, i1, k2⟩
  have HF : Hid (InIs w1 I ⟨#[]⟩ 0 ∧ KI I w w1) := ⟨i1, K1.out.trans k2⟩
  clear hn i1 k2 K1
  go_wp2
  go_returns
  exact ⟨rfl, HF.out⟩
theorem part3_no (he : ¬ zeros s) : Calls Try.prog 12 #[.pointer (some ⟨I, 0, none⟩), .agg #[.int .i64 3, .int .i64 n]] w fun e w' => e = .panicked [brk I] ∧ (∃ t, InIs w' I t 4) ∧ KI I w w' := by
  obtain ⟨h1, k1⟩ := boxed_in I s hs w h (.int .i64 3) (.int .i64 n)
  have hn : Calls Try.prog 24 #[.pointer (some ⟨I, 0, none⟩)] (w.alloc (.cells #[.int .i64 3, .int .i64 n] 26)) fun e w' => e = .panicked [brk I] ∧ (∃ t, InIs w' I t 4) ∧ KI I (w.alloc (.cells #[.int .i64 3, .int .i64 n] 26)) w' := (zero_any I s hs _ h1).mono (fun e w' ⟨_, q2, q3⟩ => ⟨(q2 he).1, (q2 he).2, q3⟩)
  have K1 : Hid _ := k1
  clear h h1 k1 he
  go_enter Try.func12, Try.ntmps12
  go_wp2_with fail
  go_call hn as e w1 ⟨rfl, i1, k2⟩
  have HF : Hid ((∃ t, InIs w1 I t 4) ∧ KI I w w1) := ⟨i1, K1.out.trans k2⟩
  clear hn i1 k2 K1
  go_wp2
  exact ⟨rfl, rfl, HF.out⟩
theorem part4_no : Calls Try.prog 12 #[.pointer (some ⟨I, 0, none⟩), .agg #[.int .i64 4, .int .i64 n]] w fun e w' => e = .panicked [brk I] ∧ (∃ t, InIs w' I t 12) ∧ KI I w w' := by
  obtain ⟨h1, k1⟩ := boxed_in I s hs w h (.int .i64 4) (.int .i64 n)
  have hn := fail_any I s 12 (by decide) _ h1
  have hk := fail_ok I (w.alloc (.cells #[.int .i64 4, .int .i64 n] 26))
  have K1 : Hid _ := k1
  clear h h1 k1
  go_enter Try.func12, Try.ntmps12
  go_wp2_with fail
  go_call hk as e w0 ⟨rfl, hw0⟩
  rw [← hw0] at hn K1
  clear hk hw0
  go_wp2_with fail
  go_call hn as e w1 ⟨rfl, i1, k2⟩
  have HF : Hid ((∃ t, InIs w1 I t 12) ∧ KI I w w1) := ⟨⟨_, i1⟩, K1.out.trans k2⟩
  clear hn i1 k2 K1
  go_wp2
  exact ⟨rfl, rfl, HF.out⟩
theorem part_ok (kd : Nat) (hk : kd < 5) (he : pErr s kd n = 0) : Calls Try.prog 12 #[.pointer (some ⟨I, 0, none⟩), .agg #[.int .i64 (kd : Nat), .int .i64 n]] w fun e w' => e = .returned (.string (pOut s kd n)) ∧ InIs w' I (pRst s kd n) 0 ∧ KI I w w' := by
  unfold pErr at he
  match kd, hk with
  | 0, _ =>
    rw [if_pos rfl] at he
    exact part0_ok I s hs n w h (Classical.byContradiction (fun q => by rw [if_neg q] at he; exact absurd he (by decide)))
  | 1, _ =>
    rw [if_neg (by decide), if_pos rfl] at he
    have q : 2 ≤ s.size ∧ nv s 2 + 2 ≤ s.size := by
      by_cases q : 2 ≤ s.size ∧ nv s 2 + 2 ≤ s.size
      · exact q
      · rw [if_neg q] at he; exact absurd he (by decide)
    exact part1_ok I s hs n w h (nv s 2) rfl q.1 q.2
  | 2, _ =>
    rw [if_neg (by decide), if_neg (by decide), if_neg (by decide), if_neg (by decide)] at he
    exact part2_ok I s hs n w h (Classical.byContradiction (fun q => by rw [if_neg q] at he; exact absurd he (by decide)))
  | 3, _ =>
    rw [if_neg (by decide), if_neg (by decide), if_pos rfl] at he
    exact part3_ok I s hs n w h (Classical.byContradiction (fun q => by rw [if_neg q] at he; exact absurd he (by decide)))
  | 4, _ =>
    rw [if_neg (by decide), if_neg (by decide), if_neg (by decide), if_pos rfl] at he
    exact absurd he (by decide)
theorem part_no (kd : Nat) (hk : kd < 5) (he : ¬ pErr s kd n = 0) : Calls Try.prog 12 #[.pointer (some ⟨I, 0, none⟩), .agg #[.int .i64 (kd : Nat), .int .i64 n]] w fun e w' => e = .panicked [brk I] ∧ (∃ t, InIs w' I t (pErr s kd n)) ∧ KI I w w' := by
  unfold pErr at he ⊢
  match kd, hk with
  | 0, _ =>
    rw [if_pos rfl] at he ⊢
    by_cases q : wd n ≤ s.size
    · exact absurd (if_pos q) he
    · rw [if_neg q]; exact part0_no I s hs n w h (by omega)
  | 1, _ =>
    rw [if_neg (by decide), if_pos rfl] at he ⊢
    by_cases q : 2 ≤ s.size ∧ nv s 2 + 2 ≤ s.size
    · exact absurd (if_pos q) he
    · rw [if_neg q]; exact part1_no I s hs n w h q
  | 2, _ =>
    rw [if_neg (by decide), if_neg (by decide), if_neg (by decide), if_neg (by decide)] at he ⊢
    by_cases q : n.toNat ≤ s.size
    · exact absurd (if_pos q) he
    · rw [if_neg q]; exact part2_no I s hs n w h q
  | 3, _ =>
    rw [if_neg (by decide), if_neg (by decide), if_pos rfl] at he ⊢
    by_cases q : zeros s
    · exact absurd (if_pos q) he
    · rw [if_neg q]; exact part3_no I s hs n w h q
  | 4, _ =>
    rw [if_neg (by decide), if_neg (by decide), if_neg (by decide), if_pos rfl]
    exact part4_no I s hs n w h
end
end Go.Proofs.Ythojbccoejdmeaa
