/- Two rows of Pages held against each other, as a call. -/
import Derived.Test.YtknmipbjkkeebaaGreatIE
namespace Go.Proofs.YtknmipbjkkeebaaGreat
open Go.RowKit
theorem eq3 (d : Nat) (s s' : Int) (w : World) : (Op.equalIn (d + 1) 3 (.int .i64 s) (.int .i64 s')).run Tryz.prog w = .ok (decide (s = s')) w := by
  simp [Op.equalIn, run_underlying Tryz.underlying3]
  rfl
theorem eq39 (d : Nat) (s s' : Int) (w : World) : (Op.equalIn (d + 1) 39 (.int .u64 s) (.int .u64 s')).run Tryz.prog w = .ok (decide (s = s')) w := by
  simp [Op.equalIn, run_underlying Tryz.underlying39]
  rfl
theorem bq (s t : ByteArray) : (s == t) = decide (s = t) := by
  have h : (s == t) = (s.data == t.data) := rfl
  rw [h]
  by_cases e : s = t
  · subst e; simp
  · have e2 : ¬ s.data = t.data := fun q => e (ByteArray.ext q)
    rw [decide_eq_false e]
    exact beq_eq_false_iff_ne.2 e2
theorem eq9 (d : Nat) (s s' : ByteArray) (w : World) : (Op.equalIn (d + 1) 9 (.string s) (.string s')).run Tryz.prog w = .ok (decide (s = s')) w := by
  simp [Op.equalIn, run_underlying Tryz.underlying9]
  exact bq s s'
theorem part0 (a b c : Int) (s : ByteArray) (w : World) : (part 39 #[.int .u64 a, .int .i64 b, .int .i64 c, .string s] 0).run Tryz.prog w = .ok (.int .u64 a) w := by kernel_rfl
theorem part1 (a b c : Int) (s : ByteArray) (w : World) : (part 3 #[.int .u64 a, .int .i64 b, .int .i64 c, .string s] 1).run Tryz.prog w = .ok (.int .i64 b) w := by kernel_rfl
theorem part2 (a b c : Int) (s : ByteArray) (w : World) : (part 3 #[.int .u64 a, .int .i64 b, .int .i64 c, .string s] 2).run Tryz.prog w = .ok (.int .i64 c) w := by kernel_rfl
theorem part3 (a b c : Int) (s : ByteArray) (w : World) : (part 9 #[.int .u64 a, .int .i64 b, .int .i64 c, .string s] 3).run Tryz.prog w = .ok (.string s) w := by kernel_rfl
theorem equalIn75 (d : Nat) (a b c a' b' c' : Int) (s s' : ByteArray) (w : World) : (Op.equalIn (d + 2) 75 (.agg #[.int .u64 a, .int .i64 b, .int .i64 c, .string s]) (.agg #[.int .u64 a', .int .i64 b', .int .i64 c', .string s'])).run Tryz.prog w = .ok (decide (a = a' ∧ b = b' ∧ c = c' ∧ s = s')) w := by
  rw [Op.equalIn]
  simp [run_underlying Tryz.underlying75, part0, part1, part2, part3, eq3, eq39, eq9]
  by_cases h1 : a = a'
  · by_cases h2 : b = b'
    · by_cases h3 : c = c'
      · by_cases h4 : s = s'
        · simp [h1, h2, h3, h4]
        · simp [h1, h2, h3, h4]
      · simp [h1, h2, h3]
    · simp [h1, h2]
  · simp [h1]
theorem pg_ne (p q : Pg) (_w : World) : ∃ b : Bool, (b = false ↔ p = q) ∧ ∀ w, (binOp .neq 75 (.agg p.cs) (.agg q.cs)).run Tryz.prog w = .ok (.bool b) w := by
  obtain ⟨a, b, c, s⟩ := p
  obtain ⟨a', b', c', s'⟩ := q
  refine ⟨!decide (((a : Nat) : Int) = (a' : Nat) ∧ ((b : Nat) : Int) = (b' : Nat) ∧ ((c : Nat) : Int) = (c' : Nat) ∧ s = s'), ?_, fun w => ?_⟩
  · simp
    constructor
    · rintro ⟨h1, h2, h3, h4⟩
      obtain rfl : a = a' := by omega
      obtain rfl : b = b' := by omega
      obtain rfl : c = c' := by omega
      exact ⟨rfl, rfl, rfl, h4⟩
    · rintro ⟨rfl, rfl, rfl, rfl⟩
      exact ⟨rfl, rfl, rfl, rfl⟩
  · have h : (Op.equal 75 (.agg #[.int .u64 (a : Nat), .int .i64 (b : Nat), .int .i64 (c : Nat), .string s]) (.agg #[.int .u64 (a' : Nat), .int .i64 (b' : Nat), .int .i64 (c' : Nat), .string s'])).run Tryz.prog w = .ok (decide (((a : Nat) : Int) = (a' : Nat) ∧ ((b : Nat) : Int) = (b' : Nat) ∧ ((c : Nat) : Int) = (c' : Nat) ∧ s = s')) w := equalIn75 9998 _ _ _ _ _ _ s s' w
    show (binOp .neq 75 (.agg #[.int .u64 (a : Nat), .int .i64 (b : Nat), .int .i64 (c : Nat), .string s]) (.agg #[.int .u64 (a' : Nat), .int .i64 (b' : Nat), .int .i64 (c' : Nat), .string s'])).run Tryz.prog w = _
    simp only [binOp, Sem.run_bind, h]
    rfl
def EqV (f g : Nat → Pg) (A B n k : Nat) (b : Bool) : Nat → Value → Prop
  | 0, v => v = .slice (some ⟨A, 0, none⟩) n 16
  | 1, v => v = .int .i64 (k : Nat)
  | 2, v => v = .pointer (some ⟨A, k * 4, none⟩)
  | 3, v => v = .agg (f k).cs
  | 4, v => v = .slice (some ⟨B, 0, none⟩) n 16
  | 5, v => v = .int .i64 (k : Nat)
  | 6, v => v = .pointer (some ⟨B, k * 4, none⟩)
  | 7, v => v = .agg (g k).cs
  | 8, v => v = .bool b
  | _, _ => True
set_option maxHeartbeats 2000000 in
set_option maxRecDepth 100000 in
theorem equal_any (f g : Nat → Pg) (A B n : Nat) (hn : n ≤ 16) (w : World) (hA : w.heap[A]? = some (.cells (parr f) 77)) (hB : w.heap[B]? = some (.cells (parr g) 77)) :
    Calls Tryz.prog 78 #[.slice (some ⟨A, 0, none⟩) n 16, .slice (some ⟨B, 0, none⟩) n 16] w fun e w' => ∃ b, e = .returned (.bool b) ∧ (b = true ↔ ∀ j, j < n → f j = g j) ∧ Below w.heap.size w w' := by
  have HA : Hid _ := hA
  have HB : Hid _ := hB
  clear hA hB
  go_enter Tryz.func78, Tryz.ntmps78
  go_wp2
  go_loopw [13] (fun i wr => ∃ k : Nat, k ≤ n ∧ i = .int .i64 (k : Nat) ∧ Hid (Below w.heap.size w wr ∧ ∀ j, j < k → f j = g j)) (fun i _ => n - (intOf i).toNat)
  case atStart => exact ⟨0, by omega, rfl, Below.refl _ _, fun j hj => absurd hj (Nat.not_lt_zero _)⟩
  case round =>
    obtain ⟨k, hk, rfl, HI⟩ := hrel
    rcases Nat.lt_or_ge k n with hkn | hkn
    · have hk16 : k < 16 := by omega
      have A1 : Hid _ := (HI.out.1.block A (Array.getElem?_eq_some_iff.1 HA.out).1).trans HA.out
      have B1 : Hid _ := (HI.out.1.block B (Array.getElem?_eq_some_iff.1 HB.out).1).trans HB.out
      obtain ⟨b, hb, hne⟩ := pg_ne (f k) (g k) w
      have HBB : Hid _ := hb
      clear hb
      go_wp2
      refine O.wp_region_ph (fun fv => ⟨#[.slice (some ⟨A, 0, none⟩) n 16, .slice (some ⟨B, 0, none⟩) n 16, undef, undef, u4, .int .i64 (k : Int), .slice (some ⟨A, 0, none⟩) n 16, .int .i64 (n : Int), .slice (some ⟨B, 0, none⟩) n 16, .int .i64 (n : Int), .bool false, .slice (some ⟨A, 0, none⟩) n 16, .int .i64 (n : Int), .int .i64 (k : Int), .bool true, .int .i64 (k : Int), fv 0, fv 1, fv 2, fv 3, fv 4, fv 5, fv 6, fv 7, fv 8, u25], []⟩) (EqV f g A B n k b) (fun _ _ W => W = wr.drew) (fun i => [u16, u17, u18, u19, u20, u21, u22, u23, u24].getD i undef) (by kernel_rfl) rfl rfl ?hI6 ?hput6 ?step6 ?fin6
      case hI6 => rfl
      case fin6 =>
        intro fv W hP hV
        have u0 : fv 0 = .slice (some ⟨A, 0, none⟩) n 16 := hV 0 (by decide)
        have u1 : fv 1 = .int .i64 (k : Nat) := hV 1 (by decide)
        have u2 : fv 2 = .pointer (some ⟨A, k * 4, none⟩) := hV 2 (by decide)
        have u3 : fv 3 = .agg (f k).cs := hV 3 (by decide)
        have u4 : fv 4 = .slice (some ⟨B, 0, none⟩) n 16 := hV 4 (by decide)
        have u5 : fv 5 = .int .i64 (k : Nat) := hV 5 (by decide)
        have u6 : fv 6 = .pointer (some ⟨B, k * 4, none⟩) := hV 6 (by decide)
        have u7 : fv 7 = .agg (g k).cs := hV 7 (by decide)
        have u8 : fv 8 = .bool b := hV 8 (by decide)
        clear hV
        generalize fv 0 = x0 at *
        subst u0
        generalize fv 1 = x1 at *
        subst u1
        generalize fv 2 = x2 at *
        subst u2
        generalize fv 3 = x3 at *
        subst u3
        generalize fv 4 = x4 at *
        subst u4
        generalize fv 5 = x5 at *
        subst u5
        generalize fv 6 = x6 at *
        subst u6
        generalize fv 7 = x7 at *
        subst u7
        generalize fv 8 = x8 at *
        subst u8
        subst hP
        cases b with
        | false =>
          go_wp2
          go_roundw
          case rel => exact ⟨k + 1, by omega, rfl, HI.out.1.drew, fun j hj => by
            rcases Nat.lt_or_ge j k with h | h
            · exact HI.out.2 j h
            · obtain rfl : j = k := by omega
              exact HBB.out.1 rfl⟩
          case measure => simp only [intOf]; omega
        | true =>
          go_wp2
          go_returns
          exact ⟨false, rfl, ⟨fun e => (by cases e), fun h => (by have := HBB.out.2 (h k hkn); cases this)⟩, HI.out.1.drew⟩
      case hput6 =>
        repeat (refine ⟨fun f v => rfl, ?_⟩)
        trivial
      case step6 =>
        refine ⟨?_, ?_⟩
        · intro done fv W hP hdn hd K hK
          clear hd
          subst hP
          go_simp
          exact hK _ _ (by first | rfl | (show Value.pointer _ = _; simp)) rfl
        refine ⟨?_, ?_⟩
        · intro done fv W hP hdn hd K hK
          clear hd
          subst hP
          go_simp
          exact hK _ _ (by first | rfl | (show Value.pointer _ = _; simp)) rfl
        refine ⟨?_, ?_⟩
        · intro done fv W hP hdn hd K hK
          have d0 := (hd.1 rfl).2
          have e0 : done 0 = true := (hd.1 rfl).1
          have d1 := (hd.2.1 rfl).2
          have e1 : done 1 = true := (hd.2.1 rfl).1
          clear hd
          replace d0 : fv 0 = .slice (some ⟨A, 0, none⟩) n 16 := d0
          replace d1 : fv 1 = .int .i64 (k : Nat) := d1
          subst hP
          generalize fv 0 = x0 at *
          subst d0
          clear e0
          generalize fv 1 = x1 at *
          subst d1
          clear e1
          go_simp
          exact hK _ _ (by first | rfl | (show Value.pointer _ = _; simp)) rfl
        refine ⟨?_, ?_⟩
        · intro done fv W hP hdn hd K hK
          have d2 := (hd.1 rfl).2
          have e2 : done 2 = true := (hd.1 rfl).1
          clear hd
          replace d2 : fv 2 = .pointer (some ⟨A, k * 4, none⟩) := d2
          subst hP
          generalize fv 2 = x2 at *
          subst d2
          clear e2
          rw [if_pos (by rfl)]
          refine pldAtp _ rfl A k hk16 rfl A1.out ?_
          exact hK _ _ rfl rfl
        refine ⟨?_, ?_⟩
        · intro done fv W hP hdn hd K hK
          clear hd
          subst hP
          go_simp
          exact hK _ _ (by first | rfl | (show Value.pointer _ = _; simp)) rfl
        refine ⟨?_, ?_⟩
        · intro done fv W hP hdn hd K hK
          clear hd
          subst hP
          go_simp
          exact hK _ _ (by first | rfl | (show Value.pointer _ = _; simp)) rfl
        refine ⟨?_, ?_⟩
        · intro done fv W hP hdn hd K hK
          have d4 := (hd.1 rfl).2
          have e4 : done 4 = true := (hd.1 rfl).1
          have d5 := (hd.2.1 rfl).2
          have e5 : done 5 = true := (hd.2.1 rfl).1
          clear hd
          replace d4 : fv 4 = .slice (some ⟨B, 0, none⟩) n 16 := d4
          replace d5 : fv 5 = .int .i64 (k : Nat) := d5
          subst hP
          generalize fv 4 = x4 at *
          subst d4
          clear e4
          generalize fv 5 = x5 at *
          subst d5
          clear e5
          go_simp
          exact hK _ _ (by first | rfl | (show Value.pointer _ = _; simp)) rfl
        refine ⟨?_, ?_⟩
        · intro done fv W hP hdn hd K hK
          have d6 := (hd.1 rfl).2
          have e6 : done 6 = true := (hd.1 rfl).1
          clear hd
          replace d6 : fv 6 = .pointer (some ⟨B, k * 4, none⟩) := d6
          subst hP
          generalize fv 6 = x6 at *
          subst d6
          clear e6
          rw [if_pos (by rfl)]
          refine pldAtp _ rfl B k hk16 rfl B1.out ?_
          exact hK _ _ rfl rfl
        refine ⟨?_, ?_⟩
        · intro done fv W hP hdn hd K hK
          have d3 := (hd.1 rfl).2
          have e3 : done 3 = true := (hd.1 rfl).1
          have d7 := (hd.2.1 rfl).2
          have e7 : done 7 = true := (hd.2.1 rfl).1
          clear hd
          replace d3 : fv 3 = .agg (f k).cs := d3
          replace d7 : fv 7 = .agg (g k).cs := d7
          subst hP
          generalize fv 3 = x3 at *
          subst d3
          clear e3
          generalize fv 7 = x7 at *
          subst d7
          clear e7
          go_simp
          exact hK _ _ (by first | rfl | (show Value.pointer _ = _; simp)) rfl
        trivial
    · obtain rfl : k = n := by omega
      go_wp2
      go_returns
      exact ⟨true, rfl, ⟨fun _ => HI.out.2, fun _ => rfl⟩, HI.out.1⟩
end Go.Proofs.YtknmipbjkkeebaaGreat
