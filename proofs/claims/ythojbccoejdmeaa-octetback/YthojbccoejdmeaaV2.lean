/- The law OctetLow as a call: for any number and any two counts it returns true, and nothing that was in memory is changed. -/
import Derived.Test.YthojbccoejdmeaaV
namespace Go.Proofs.Ythojbccoejdmeaa
open Go.RowKit

theorem numB_get (x k j : Nat) (hj : j < k) : (numB x k)[j]? = some (UInt8.ofNat (x / 256 ^ (k - 1 - j))) := by
  induction k generalizing j with
  | zero => omega
  | succ k ih =>
    simp only [numB]
    cases j with
    | zero => simp
    | succ j =>
      rw [List.getElem?_cons_succ, ih j (by omega)]
      congr 4; omega
theorem bn_numB (x k j : Nat) (r : List UInt8) (hj : j < k) : bn (tx (numB x k ++ r)) j = x / 256 ^ (k - 1 - j) % 256 := by
  rw [bn_tx, List.getElem?_append_left (by rw [numB_length]; exact hj), numB_get x k j hj]
  simp
theorem nv_numB (x k j : Nat) (r : List UInt8) (hj : j ≤ k) : nv (tx (numB x k ++ r)) j = x / 256 ^ (k - j) % 256 ^ j := by
  induction j with
  | zero => simp [nv, Nat.mod_one]
  | succ j ih =>
    simp only [nv]
    rw [ih (by omega), bn_numB x k j r (by omega)]
    have e1 : k - j = (k - (j + 1)) + 1 := by omega
    have e2 : k - 1 - j = k - (j + 1) := by omega
    rw [e1, e2, Nat.pow_succ, ← Nat.div_div_eq_div_mul, Nat.pow_succ, Nat.mul_comm (256 ^ j) 256, Nat.mod_mul]
    omega
theorem nv_all (x k : Nat) (r : List UInt8) : nv (tx (numB x k ++ r)) k = x % 256 ^ k := by
  rw [nv_numB x k k r (Nat.le_refl _), Nat.sub_self, Nat.pow_zero, Nat.div_one]
theorem extract_tx (l : List UInt8) (k : Nat) : (tx l).extract k (tx l).size = tx (l.drop k) := by
  apply ByteArray.ext
  apply Array.ext'
  have hsz := tx_size l
  simp only [ByteArray.data_extract, Array.toList_extract, List.extract_eq_take_drop]
  rw [hsz]
  simp [tx]
  exact List.take_of_length_le (by simp)
theorem zeros_rep (n : Nat) : zeros (tx (List.replicate n 0)) := by
  intro j hj
  rw [tx_size, List.length_replicate] at hj
  rw [bn_tx, List.getElem?_replicate, if_pos hj]; rfl
theorem fillN_mod (k f : Nat) (hf : 0 < f) : (k + fillN k f) % f = 0 := by
  unfold fillN
  have hlt := Nat.mod_lt k hf
  split
  · rename_i h; rw [Nat.add_zero]; exact h
  · have e := Nat.div_add_mod k f
    have : k + (f - k % f) = f * (k / f + 1) := by rw [Nat.mul_add, Nat.mul_one]; omega
    rw [this]; exact Nat.mul_mod_right ..
theorem fillN_zero (k : Nat) : fillN k 0 = 0 := by
  unfold fillN; split
  · rfl
  · omega
theorem fillN_again (k f : Nat) : fillN (k + fillN k f) f = 0 := by
  rcases Nat.eq_zero_or_pos f with h | h
  · subst h; exact fillN_zero _
  · have := fillN_mod k f h
    unfold fillN at *
    rw [if_pos this]
theorem fillN_le (k f : Nat) (hf : f ≤ 1000) : fillN k f ≤ 1000 := by
  unfold fillN; split <;> omega
theorem and_mask (x k : Nat) (hx : x < 18446744073709551616) (hk : k < 8) : bits .and .u64 (x : Int) (2 ^ (8 * k) - 1) = ((x % 256 ^ k : Nat) : Int) := by
  have h1 : (2 : Nat) ^ (8 * k) ≤ 2 ^ 56 := Nat.pow_le_pow_right (by decide) (by omega)
  have h0 : 0 < (2 : Nat) ^ (8 * k) := Nat.two_pow_pos _
  have e1 : ((2 : Int) ^ (8 * k) - 1) = ((2 ^ (8 * k) - 1 : Nat) : Int) := by
    rw [Int.natCast_sub (by omega), Int.natCast_pow]; rfl
  rw [e1, bits_and_u64_nat x (2 ^ (8 * k) - 1) hx (by have : (2 : Nat) ^ 56 < 18446744073709551616 := by decide
                                                      omega), Nat.and_two_pow_sub_one_eq_mod]
  rw [show (256 : Nat) = 2 ^ 8 by decide, ← Nat.pow_mul]

set_option maxHeartbeats 2000000 in
theorem low_walk (x : Nat) (n fl : Int) (hx : x < 18446744073709551616) (w : World) :
    Calls Try.prog 6 #[.int .u64 (x : Nat), .int .i64 n, .int .i64 fl] w fun e w' => e = .returned (.bool true) ∧ Below w.heap.size w w' := by
  obtain ⟨a, ha⟩ : ∃ a : Int, (if 8 < n then 8 else n) = a := ⟨_, rfl⟩
  obtain ⟨k, hk⟩ : ∃ k : Nat, (if 0 < a then a else 0) = (k : Int) := ⟨(if 0 < a then a else 0).toNat, by split <;> omega⟩
  obtain ⟨b, hb⟩ : ∃ b : Int, (if 64 < fl then 64 else fl) = b := ⟨_, rfl⟩
  obtain ⟨f, hf⟩ : ∃ f : Nat, (if 0 < b then b else 0) = (f : Int) := ⟨(if 0 < b then b else 0).toNat, by split <;> omega⟩
  have hkw : wd n = k := by unfold wd; split at ha <;> split at hk <;> omega
  have hk8 : k ≤ 8 := by rw [← hkw]; exact wd_le n
  have hf64 : f ≤ 64 := by split at hb <;> split at hf <;> omega
  have m1 : ∀ w, (Builtin.min_ #[3, 3] 3 #[.int .i64 n, .int .i64 8]).run Try.prog w = .ok (.int .i64 a) w := fun w => by rw [run_min_int2, ha]
  have m2 : ∀ w, (Builtin.max_ #[3, 3] 3 #[.int .i64 0, .int .i64 a]).run Try.prog w = .ok (.int .i64 (k : Nat)) w := fun w => by rw [run_max_int2, hk]
  have m3 : ∀ w, (Builtin.min_ #[3, 3] 3 #[.int .i64 fl, .int .i64 64]).run Try.prog w = .ok (.int .i64 b) w := fun w => by rw [run_min_int2, hb]
  have m4 : ∀ w, (Builtin.max_ #[3, 3] 3 #[.int .i64 0, .int .i64 b]).run Try.prog w = .ok (.int .i64 (f : Nat)) w := fun w => by rw [run_max_int2, hf]
  clear ha hk hb hf
  go_enter Try.func6, Try.ntmps6
  go_wp2_with fail
  go_call (awake_any w) as e w1 ⟨rfl, g1⟩
  have hBw0 : w.heap.size ≤ w1.heap.size := g1.size
  have ho0 : OutIs ((w1.alloc (.cells #[.slice none 0 0] 40)).alloc (.cells #[.int .i64 (k : Nat)] 3)) w1.heap.size (.slice none 0 0) [] := (out_new w1).below (Below.alloc (Below.refl _ _) (Nat.le_refl _) _)
  have hK0 : ((w1.alloc (.cells #[.slice none 0 0] 40)).alloc (.cells #[.int .i64 (k : Nat)] 3)).cell? ⟨w1.heap.size + 1, 0, none⟩ = some (.int .i64 (k : Nat)) := by simp [go_sem]
  have hs0 : ((w1.alloc (.cells #[.slice none 0 0] 40)).alloc (.cells #[.int .i64 (k : Nat)] 3)).heap.size = w1.heap.size + 2 := by simp
  have hb0 : Below w1.heap.size w1 ((w1.alloc (.cells #[.slice none 0 0] 40)).alloc (.cells #[.int .i64 (k : Nat)] 3)) := (Below.alloc (Below.refl _ _) (Nat.le_refl _) _).alloc (by simp) _
  have hn := num_any w1.heap.size _ [] x n _ ho0 hx (by simp)
  rw [hkw] at hn
  go_wp2_with fail
  generalize hA0 : (w1.alloc (.cells #[.slice none 0 0] 40)).alloc (.cells #[.int .i64 (k : Nat)] 3) = A0 at *
  go_call hn as e w2 ⟨rfl, v1, r1⟩
  clear hn hA0
  obtain ⟨l1, hl1⟩ : ∃ l1, numB x k = l1 := ⟨_, rfl⟩
  rw [hl1] at r1
  have hl1n : l1.length = k := by rw [← hl1]; exact numB_length x k
  have hw := fill_any w1.heap.size v1 l1 f w2 (by simpa using r1.out) (by omega) (by omega)
  rw [hl1n] at hw
  have HR1 : Hid (Wr w1.heap.size (.slice none 0 0) [] l1 A0 v1 w2) := r1
  clear r1
  go_wp2_with fail
  go_call hw as e w3 ⟨rfl, v2, r2⟩
  clear hw
  obtain ⟨l2, hl2⟩ : ∃ l2, l1 ++ List.replicate (fillN k f) 0 = l2 := ⟨_, rfl⟩
  have ho3 : OutIs w3 w1.heap.size v2 l2 := by rw [← hl2]; exact r2.out
  have HR2 : Hid (Wr w1.heap.size v1 l1 (List.replicate (fillN k f) 0) w2 v2 w3) := r2
  clear r2
  go_wp2_with fail
  go_call (bytes_any w1.heap.size v2 l2 w3 ho3) as e w3 ⟨rfl, rfl⟩
  -- what is known of memory now
  have F : Hid (w1.heap.size + 2 ≤ w3.heap.size ∧ w3.cell? ⟨w1.heap.size + 1, 0, none⟩ = some (.int .i64 (k : Nat)) ∧ Below w.heap.size w w3 ∧ (∀ q, v2.ownBlock = some q → q < w3.heap.size ∧ w1.heap.size + 2 ≤ q)) := by
    have r1 := HR1.out
    have r2 := HR2.out
    have hlo : ∀ q, v1.ownBlock = some q → w1.heap.size + 2 ≤ q := fun q hq => by
      rcases r1.fr with h | ⟨q', h, hq'⟩
      · rw [h] at hq; cases hq
      · rw [h] at hq; injection hq with hq; omega
    have s1 := r1.kp.size
    have s2 := r2.kp.size
    refine ⟨by omega, ?_, ?_, fun q hq => ⟨(ho3.own.lt q hq).2, ?_⟩⟩
    · have c2 : w2.cell? ⟨w1.heap.size + 1, 0, none⟩ = some (.int .i64 (k : Nat)) := (World.cell?_of_block (r1.kp.block (w1.heap.size + 1) (by omega) (by omega) (by intro e; cases e))).trans hK0
      exact (World.cell?_of_block (r2.kp.block (w1.heap.size + 1) (by omega) (by omega) (by intro e; have := hlo _ e; omega))).trans c2
    · have b1 : Below w1.heap.size A0 w2 := r1.below ho0
      have b2 : Below w1.heap.size w2 w3 := r2.below (by simpa using r1.out)
      exact g1.trans (((hb0.trans b1).trans b2).mono g1.size)
    · rcases r2.fr with h | ⟨q', h, hq'⟩
      · exact hlo q (by rw [← h]; exact hq)
      · rw [h] at hq; injection hq with hq; omega
  clear HR1 HR2 ho0 hK0 hs0 hb0 g1
  obtain ⟨B, hB⟩ : ∃ B, w1.heap.size = B := ⟨_, rfl⟩
  rw [hB] at F ho3 hBw0
  have HBw : Hid (w.heap.size ≤ B) := hBw0
  clear hBw0
  have hlen : l2.length = k + fillN k f := by rw [← hl2, List.length_append, List.length_replicate, hl1n]
  have hfl := fillN_le k f (by omega)
  have hts : (tx l2).size = k + fillN k f := by rw [tx_size, hlen]
  have hnv : nv (tx l2) k = x % 256 ^ k := by rw [← hl2, ← hl1]; exact nv_all x k _
  have hzr : zeros ((tx l2).extract k (tx l2).size) := by
    rw [extract_tx, ← hl2, List.drop_append_of_le_length (by omega), List.drop_of_length_le (by omega), List.nil_append]
    exact zeros_rep _
  have htake : Calls Try.prog 10 #[.string (tx l2), .func (.func 31) #[] #[.pointer (some ⟨B + 1, 0, none⟩), .pointer (some ⟨w3.heap.size, 0, none⟩)]] (w3.alloc (.cells #[.int .u64 0] 41)) fun e w' => e = .returned (.tuple #[.string ⟨#[]⟩, .int .i64 0]) ∧
      ∃ W, (W.cell? ⟨w3.heap.size, 0, none⟩ = some (.int .u64 (x % 256 ^ k : Nat)) ∧ OutIs W B v2 l2 ∧ W.cell? ⟨B + 1, 0, none⟩ = some (.int .i64 (k : Nat)) ∧ Below w.heap.size w W ∧ w3.heap.size + 1 ≤ W.heap.size) ∧ KT (w3.alloc (.cells #[.int .u64 0] 41)).heap.size W w' := by
    obtain ⟨f1, f2, f3, f4⟩ := F.out
    have hsz4 : (w3.alloc (.cells #[.int .u64 0] 41)).heap.size = w3.heap.size + 1 := by simp
    have b4 : Below w3.heap.size w3 (w3.alloc (.cells #[.int .u64 0] 41)) := Below.alloc (Below.refl _ _) (Nat.le_refl _) _
    have b5 := W0_below (w3.alloc (.cells #[.int .u64 0] 41)) (tx l2)
    have hin := W0_in (w3.alloc (.cells #[.int .u64 0] 41)) (tx l2)
    have htk := W0_tk (w3.alloc (.cells #[.int .u64 0] 41)) (tx l2)
    have hws := W0_size (w3.alloc (.cells #[.int .u64 0] 41)) (tx l2)
    have cK : (W0 (w3.alloc (.cells #[.int .u64 0] 41)) (tx l2)).cell? ⟨B + 1, 0, none⟩ = some (.int .i64 (k : Nat)) :=
      (b5.cell (by show B + 1 < _; omega)).trans ((b4.cell (by show B + 1 < _; omega)).trans f2)
    have cG : (W0 (w3.alloc (.cells #[.int .u64 0] 41)) (tx l2)).cell? ⟨w3.heap.size, 0, none⟩ = some (.int .u64 0) :=
      (b5.cell (by show w3.heap.size < _; omega)).trans (by simp [go_sem])
    have fG : (W0 (w3.alloc (.cells #[.int .u64 0] 41)) (tx l2)).frozen? ⟨w3.heap.size, 0, none⟩ = false :=
      (b5.frozen (by show w3.heap.size < _; omega)).trans (by
        have h0 : (w3.alloc (.cells #[.int .u64 0] 41)).heap[w3.heap.size]? = some (.cells #[.int .u64 0] 41) := by
          show (w3.heap.push _)[w3.heap.size]? = _
          rw [Array.getElem?_push, if_pos rfl]
        simp only [World.frozen?, h0]
        simp)
    refine take_ok 31 _ (tx l2) ⟨#[]⟩ _ _ ent31 ?_
    refine (low_do ((w3.alloc (.cells #[.int .u64 0] 41)).heap.size + 1 + 1) (B + 1) w3.heap.size (tx l2) k hk8 (by omega) (by omega) hzr 0 _ hin cK cG fG (by omega)).mono ?_
    rintro e W ⟨rfl, q1, q2, q3, q4, q5, q6, q7⟩
    rw [hnv] at q2
    have hbW : Below w3.heap.size w3 W := by
      refine (b4.trans (b5.mono (by omega))).trans ⟨q4, q5, q6, q3, fun q hq => q7 q (by omega) (by omega) (by omega)⟩
    refine ⟨rfl, q1, htk.keep (fun q hq => q7 q (by omega) (by omega) (by omega)), q2, ho3.below hbW, ?_, ?_, by omega⟩
    · exact (hbW.cell (by show B + 1 < _; omega)).trans f2
    · exact f3.trans (hbW.mono f3.size)
  have HL : Hid (l2.length = k + fillN k f ∧ fillN k f ≤ 1000) := ⟨hlen, hfl⟩
  clear hlen hfl hts hnv hzr hl1 hl1n hl2
  go_wp2_with fail
  go_call htake as e w5 ⟨rfl, W, ⟨t1, t2, t3, t4, t5⟩, kt⟩
  have G5 : Hid (w5.cell? ⟨w3.heap.size, 0, none⟩ = some (.int .u64 (x % 256 ^ k : Nat)) ∧ OutIs w5 B v2 l2 ∧ w5.cell? ⟨B + 1, 0, none⟩ = some (.int .i64 (k : Nat)) ∧ Below w.heap.size w w5 ∧ w3.heap.size + 1 ≤ w5.heap.size) := by
    obtain ⟨f1, f2, f3, f4⟩ := F.out
    have hsz4 : (w3.alloc (.cells #[.int .u64 0] 41)).heap.size = w3.heap.size + 1 := by simp
    rw [hsz4] at kt
    have hbl : ∀ q, q < w3.heap.size + 1 → w5.heap[q]? = W.heap[q]? := fun q hq => kt.block q (by omega) (by omega) (by omega)
    refine ⟨(World.cell?_of_block (hbl w3.heap.size (by omega))).trans t1, t2.of_blocks (hbl _ (by have := ho3.lt; omega)) (fun q hq => hbl q (by have := (f4 q hq).1; omega)), (World.cell?_of_block (hbl (B + 1) (by omega))).trans t3, ?_, by have := kt.size; omega⟩
    exact t4.trans ⟨kt.os, kt.tape, kt.output, kt.size, fun q hq => hbl q (by have := f3.size; omega)⟩
  clear t1 t2 t3 t4 t5 kt htake
  obtain ⟨c1, o5, c2, _, _⟩ := G5.out
  have hfill := fill_any B v2 l2 f w5 o5 (by omega) (by have := HL.out; omega)
  rw [HL.out.1, fillN_again] at hfill
  obtain ⟨y, hy⟩ : ∃ y, x % 256 ^ k = y := ⟨_, rfl⟩
  rw [hy] at c1
  have hmod : f = 0 ∨ (¬ f = 0 ∧ ((l2.length : Nat) : Int).tmod (f : Int) = 0) := by
    rcases Nat.eq_zero_or_pos f with h | h
    · exact Or.inl h
    · refine Or.inr ⟨by omega, ?_⟩
      rw [Int.tmod_eq_emod_of_nonneg (by omega), HL.out.1]
      have := fillN_mod k f h
      omega
  have hlk : (k : Int) ≤ ((l2.length : Nat) : Int) := by have := HL.out.1; omega
  have hll : l2.length ≤ 2000 := by have := HL.out; omega
  have hfin : ∀ w6 v6, Wr B v2 l2 (List.replicate 0 0) w5 v6 w6 → OutIs w6 B v6 l2 ∧ w6.cell? ⟨w3.heap.size, 0, none⟩ = some (.int .u64 (y : Nat)) ∧ w6.cell? ⟨B + 1, 0, none⟩ = some (.int .i64 (k : Nat)) ∧ Below w.heap.size w w6 := by
    intro w6 v6 r6
    obtain ⟨f1, f2, f3, f4⟩ := F.out
    obtain ⟨_, _, _, g4, g5⟩ := G5.out
    have hbl : ∀ q, q < w3.heap.size + 1 → q ≠ B → (v2.ownBlock = some q → False) → w6.heap[q]? = w5.heap[q]? := fun q h1 h2 h3 => r6.kp.block q (by omega) h2 (fun e => h3 e)
    refine ⟨by have := r6.out; simpa using this, (World.cell?_of_block (hbl w3.heap.size (by omega) (by omega) (fun e => by have := (f4 _ e).1; omega))).trans c1, (World.cell?_of_block (hbl (B + 1) (by omega) (by omega) (fun e => by have := (f4 _ e).2; omega))).trans c2, ?_⟩
    have b6 := r6.below o5
    have hBw : w.heap.size ≤ B := HBw.out
    exact g4.trans (b6.mono hBw)
  have HF : Hid _ := hfin
  clear hfin o5 F G5 HL ho3
  by_cases hk7 : k < 8
  · have hk7' : (k : Int) < 8 := by omega
    have hmk : bits .and .u64 (x : Int) (IntKind.u64.wrap (IntKind.u64.wrap (2 ^ (8 * k)) - 1)) = (y : Int) := by
      have h0 : (1 : Nat) ≤ 2 ^ (8 * k) := Nat.two_pow_pos _
      have h1 : (2 : Nat) ^ (8 * k) ≤ 2 ^ 56 := Nat.pow_le_pow_right (by decide) (by omega)
      have h2 : (2 : Nat) ^ 56 = 72057594037927936 := by decide
      have e0 : ((2 : Int) ^ (8 * k)) = ((2 ^ (8 * k) : Nat) : Int) := by rw [Int.natCast_pow]; rfl
      have e1 : IntKind.u64.wrap ((2 : Int) ^ (8 * k)) = (2 : Int) ^ (8 * k) := by rw [IntKind.wrap_u64, e0]; omega
      have e2 : IntKind.u64.wrap ((2 : Int) ^ (8 * k) - 1) = (2 : Int) ^ (8 * k) - 1 := by rw [IntKind.wrap_u64, e0]; omega
      rw [e1, e2, and_mask x k hx hk7, hy]
    clear hy hk7
    go_wp2_with fail
    go_call hfill as e w6 ⟨rfl, v6, r6⟩
    obtain ⟨p1, p2, p3, p4⟩ := HF.out w6 v6 r6
    have HP : Hid (Below w.heap.size w w6) := p4
    clear hfill r6 HF p4 hmk c1 c2
    go_wp2_with fail
    go_call (bytes_any B v6 l2 w6 p1) as e w6 ⟨rfl, rfl⟩
    clear p1
    rcases hmod with rfl | ⟨hm1, hm2⟩
    · go_wp2
      go_ret
      exact ⟨rfl, HP.out⟩
    · go_wp2
      go_ret
      exact ⟨rfl, HP.out⟩
  · have hk7' : ¬ (k : Int) < 8 := by omega
    have hyx : y = x := by
      rw [← hy, show k = 8 by omega]; exact Nat.mod_eq_of_lt (by have : (256 : Nat) ^ 8 = 18446744073709551616 := by decide
                                                                 omega)
    subst hyx
    clear hy hk7
    go_wp2_with fail
    go_call hfill as e w6 ⟨rfl, v6, r6⟩
    obtain ⟨p1, p2, p3, p4⟩ := HF.out w6 v6 r6
    have HP : Hid (Below w.heap.size w w6) := p4
    clear hfill r6 HF p4 c1 c2
    go_wp2_with fail
    go_call (bytes_any B v6 l2 w6 p1) as e w6 ⟨rfl, rfl⟩
    clear p1
    rcases hmod with rfl | ⟨hm1, hm2⟩
    · go_wp2
      go_ret
      exact ⟨rfl, HP.out⟩
    · go_wp2
      go_ret
      exact ⟨rfl, HP.out⟩
end Go.Proofs.Ythojbccoejdmeaa
