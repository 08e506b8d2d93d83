/- What is taken of an In, as calls: bytes, numbers, texts, noughts; what is wanting breaks it off; for every text shorter than a million bytes. -/
import Derived.Test.YtncfbocbigdhiaaGreatOH2
import Derived.Defers
import Derived.Recover
namespace Go.Proofs.YtncfbocbigdhiaaGreat.O
set_option maxRecDepth 100000
set_option maxRecDepth 100000
set_option maxRecDepth 100000
open Go.RowKit

/-- At block I lies an In that has the text s left, and was broken off by y (0: it wasn't). -/
structure InIs (w : World) (I : Nat) (s : ByteArray) (y : Int) : Prop where
  c0 : w.cell? ⟨I, 0, none⟩ = some (.string s)
  c1 : w.cell? ⟨I, 1, none⟩ = some (.int .i64 y)
  f0 : w.frozen? ⟨I, 0, none⟩ = false
  f1 : w.frozen? ⟨I, 1, none⟩ = false
/-- Nothing that was there was written, but the In. -/
structure KI (I : Nat) (w w' : World) : Prop where
  os : w'.os = w.os
  tape : w'.tape = w.tape
  output : w'.output = w.output
  size : w.heap.size ≤ w'.heap.size
  block : ∀ k, k < w.heap.size → k ≠ I → w'.heap[k]? = w.heap[k]?
theorem KI.refl (I : Nat) (w : World) : KI I w w := ⟨rfl, rfl, rfl, Nat.le_refl _, fun _ _ _ => rfl⟩
theorem KI.trans {I : Nat} {a b c : World} (h : KI I a b) (k : KI I b c) : KI I a c :=
  ⟨k.os.trans h.os, k.tape.trans h.tape, k.output.trans h.output, Nat.le_trans h.size k.size, fun i hi hne => (k.block i (Nat.lt_of_lt_of_le hi h.size) hne).trans (h.block i hi hne)⟩
theorem KI.set (I o : Nat) (w : World) (v : Value) : KI I w (w.setCell ⟨I, o, none⟩ v) :=
  ⟨rfl, rfl, rfl, by simp [World.setCell], fun k _ hne => Below.heap_setCell _ _ _ _ (by exact hne)⟩
theorem KI.ofBelow {I : Nat} {w w' : World} (h : Below w.heap.size w w') : KI I w w' := ⟨h.os, h.tape, h.output, h.size, fun k hk _ => h.block k hk⟩
theorem KI.cell {I : Nat} {w w' : World} (h : KI I w w') {p : Addr} (hp : p.block < w.heap.size) (hne : p.block ≠ I) : w'.cell? p = w.cell? p := World.cell?_of_block (w := w) (h.block p.block hp hne)
theorem KI.frozen {I : Nat} {w w' : World} (h : KI I w w') {p : Addr} (hp : p.block < w.heap.size) (hne : p.block ≠ I) : w'.frozen? p = w.frozen? p := World.frozen?_of_block (w := w) (h.block p.block hp hne)
theorem InIs.lt {w : World} {I : Nat} {s : ByteArray} {y : Int} (h : InIs w I s y) : I < w.heap.size := World.block_lt_of_cell? w _ h.c0
theorem InIs.below {w w' : World} {I : Nat} {s : ByteArray} {y : Int} (h : InIs w I s y) (hb : Below w.heap.size w w') : InIs w' I s y :=
  ⟨(hb.cell (by exact h.lt)).trans h.c0, (hb.cell (by exact h.lt)).trans h.c1, (hb.frozen (by exact h.lt)).trans h.f0, (hb.frozen (by exact h.lt)).trans h.f1⟩
theorem InIs.left {w : World} {I : Nat} {s : ByteArray} {y : Int} (h : InIs w I s y) (t : ByteArray) : InIs (w.setCell ⟨I, 0, none⟩ (.string t)) I t y :=
  ⟨World.cell?_setCell_same w _ _ h.c0, by rw [World.cell?_setCell_other w _ _ _ (by intro e; have := congrArg Addr.off e; simp at this)]; exact h.c1, by rw [World.frozen?_setCell]; exact h.f0, by rw [World.frozen?_setCell]; exact h.f1⟩
theorem InIs.why {w : World} {I : Nat} {s : ByteArray} {y : Int} (h : InIs w I s y) (z : Int) : InIs (w.setCell ⟨I, 1, none⟩ (.int .i64 z)) I s z :=
  ⟨by rw [World.cell?_setCell_other w _ _ _ (by intro e; have := congrArg Addr.off e; simp at this)]; exact h.c0, World.cell?_setCell_same w _ _ h.c1, by rw [World.frozen?_setCell]; exact h.f0, by rw [World.frozen?_setCell]; exact h.f1⟩

def brk (I : Nat) : PanicEntry := { v := .iface 217 (.agg #[.pointer (some ⟨I, 0, none⟩)]), recovered := false }

theorem fail_ok (I : Nat) (w : World) :
    Calls Tryz.prog 171 #[.pointer (some ⟨I, 0, none⟩), .int .i64 0] w fun e w' => e = .returned (.tuple #[]) ∧ w' = w := by
  go_enter Tryz.func171, Tryz.ntmps171
  go_wp2
  go_returns
  exact ⟨rfl, rfl⟩
theorem fail_any (I : Nat) (s : ByteArray) (y : Int) (hy : ¬ y = 0) (w : World) (h : InIs w I s 0) :
    Calls Tryz.prog 171 #[.pointer (some ⟨I, 0, none⟩), .int .i64 y] w fun e w' => e = .panicked [brk I] ∧ InIs w' I s y ∧ KI I w w' := by
  have h2 := h.why y
  obtain ⟨c0, c1, f0, f1⟩ := h
  have H2 : Hid _ := h2
  clear h2
  go_enter Tryz.func171, Tryz.ntmps171
  go_wp2
  exact ⟨rfl, rfl, H2.out, KI.set I 1 w _⟩
theorem raw_in (I : Nat) (s : ByteArray) (n : Int) (k : Nat) (hk : n.toNat = k) (hn : k ≤ s.size) (hs : s.size ≤ 1000000) (w : World) (h : InIs w I s 0) :
    Calls Tryz.prog 173 #[.pointer (some ⟨I, 0, none⟩), .int .i64 n] w fun e w' => e = .returned (.string (s.extract 0 k)) ∧ InIs w' I (s.extract k s.size) 0 ∧ KI I w w' := by
  have h2 := h.left (s.extract k s.size)
  obtain ⟨c0, c1, f0, f1⟩ := h
  have H2 : Hid _ := h2
  clear h2
  by_cases h0 : 0 < n
  · obtain ⟨m, rfl⟩ : ∃ m : Nat, n = (m : Int) := ⟨n.toNat, by omega⟩
    obtain rfl : m = k := by omega
    have hn1 : ¬ ((s.size : Int) < (m : Int)) := by omega
    have h0' : 0 < m := by omega
    clear hk
    go_enter Tryz.func173, Tryz.ntmps173
    go_wp2
    go_ret
    exact ⟨rfl, H2.out, KI.set I 0 w _⟩
  · obtain rfl : k = 0 := by omega
    have e1 : s.extract 0 0 = ⟨#[]⟩ := by apply ByteArray.ext; simp
    have e2 := extract_all s
    rw [e1]
    rw [e2] at H2
    have hn1 : ¬ ((s.size : Int) < 0) := by omega
    clear hk
    go_enter Tryz.func173, Tryz.ntmps173
    go_wp2
    go_ret
    exact ⟨rfl, H2.out, KI.set I 0 w _⟩
theorem raw_no (I : Nat) (s : ByteArray) (n : Int) (hn : (s.size : Int) < n) (w : World) (h : InIs w I s 0) :
    Calls Tryz.prog 173 #[.pointer (some ⟨I, 0, none⟩), .int .i64 n] w fun e w' => e = .panicked [brk I] ∧ InIs w' I s 3 ∧ KI I w w' := by
  have hf := fail_any I s 3 (by decide) w h
  obtain ⟨c0, c1, f0, f1⟩ := h
  have h0 : 0 < n := by omega
  go_enter Tryz.func173, Tryz.ntmps173
  go_wp2_with fail
  go_call hf as e w1 ⟨rfl, h1, h2⟩
  have H : Hid (InIs w1 I s 3 ∧ KI I w w1) := ⟨h1, h2⟩
  clear h1 h2 hf
  go_wp2
  exact ⟨rfl, rfl, H.out.1, H.out.2⟩
theorem left_any (I : Nat) (s : ByteArray) (y : Int) (w : World) (h : InIs w I s y) :
    Calls Tryz.prog 180 #[.pointer (some ⟨I, 0, none⟩)] w fun e w' => e = .returned (.int .i64 (s.size : Nat)) ∧ w' = w := by
  obtain ⟨c0, c1, f0, f1⟩ := h
  go_enter Tryz.func180, Tryz.ntmps180
  go_wp2
  go_ret
  exact ⟨rfl, rfl⟩

/-- The number of the first k bytes. -/
def nv (s : ByteArray) : Nat → Nat
  | 0 => 0
  | k + 1 => nv s k * 256 + bn s k
theorem nv_lt (s : ByteArray) (k : Nat) : nv s k < 256 ^ k := by
  induction k with
  | zero => exact Nat.zero_lt_one
  | succ k ih =>
    have := bn_lt s k
    simp only [nv, Nat.pow_succ]
    omega
theorem nv_lt64 (s : ByteArray) (k : Nat) (hk : k ≤ 8) : nv s k < 18446744073709551616 :=
  Nat.lt_of_lt_of_le (nv_lt s k) (Nat.le_trans (Nat.pow_le_pow_right (by decide) hk) (by decide))
theorem bn_list (s : ByteArray) (k : Nat) : bn s k = ((s.data.toList[k]?).map UInt8.toNat).getD 0 := by
  have := bn_tx s.data.toList k
  rwa [tx_toList] at this
theorem bn_extract (s : ByteArray) (k j : Nat) (hj : j < k) : bn (s.extract 0 k) j = bn s j := by
  rw [bn_list, bn_list]
  congr 2
  simp only [ByteArray.data_extract, Array.toList_extract, List.extract_eq_take_drop, List.drop_zero, Nat.sub_zero]
  rw [List.getElem?_take, if_pos hj]
theorem nv_extract (s : ByteArray) (k j : Nat) (hj : j ≤ k) : nv (s.extract 0 k) j = nv s j := by
  induction j with
  | zero => rfl
  | succ j ih => simp only [nv]; rw [ih (by omega), bn_extract s k j (by omega)]
theorem ext_size (s : ByteArray) (k : Nat) (h : k ≤ s.size) : (s.extract 0 k).size = k := by simp [ByteArray.size_extract]; omega

set_option maxHeartbeats 800000 in
theorem num_in (I : Nat) (s : ByteArray) (n : Int) (hn : wd n ≤ s.size) (hs : s.size ≤ 1000000) (w : World) (h : InIs w I s 0) :
    Calls Tryz.prog 152 #[.pointer (some ⟨I, 0, none⟩), .int .i64 n] w fun e w' => e = .returned (.int .u64 (nv s (wd n) : Nat)) ∧ InIs w' I (s.extract (wd n) s.size) 0 ∧ KI I w w' := by
  have hwc := width_any n w
  have hw8 := wd_le n
  generalize wd n = k at *
  have hr := raw_in I s (k : Int) k (by omega) hn hs w h
  have hsz := ext_size s k hn
  have hnv : ∀ j, j ≤ k → nv (s.extract 0 k) j = nv s j := fun j hj => nv_extract s k j hj
  generalize s.extract 0 k = d at *
  go_enter Tryz.func152, Tryz.ntmps152
  go_wp2_with fail
  go_call hwc as e w1 ⟨rfl, rfl⟩
  go_wp2_with fail
  go_call hr as e w2 ⟨rfl, h1, h2⟩
  obtain ⟨w3, cap3, hcv, hcell, hb3, hlt⟩ := conv_string d w2
  have HH : Hid (InIs w3 I (s.extract k s.size) 0 ∧ KI I w1 w3) := ⟨h1.below hb3, h2.trans (KI.ofBelow hb3)⟩
  have HC : Hid (∀ j, j < d.size → w3.cell? ⟨w2.heap.size, j, none⟩ = some (.int .u8 (bn d j : Int))) := hcell
  have HN : Hid (∀ j, j ≤ k → nv d j = nv s j) := hnv
  have HS : Hid (d.size = k) := hsz
  clear hwc hr h h1 h2 hb3 hcell hnv
  rw [hsz] at hcv
  go_wp2_with fail
  clear hcv
  generalize w2.heap.size = B at *
  go_loop [5, 14] (fun x i => ∃ j : Nat, j ≤ k ∧ i = .int .i64 j ∧ x = .int .u64 (nv d j : Nat))
    (fun _ i => k - (intOf i).toNat)
  case atStart => exact ⟨0, Nat.zero_le _, rfl, rfl⟩
  case round =>
    obtain ⟨j, hj, rfl, rfl⟩ := hrel
    by_cases hlt2 : j < k
    · have hc1 := HC.out j (by rw [HS.out]; exact hlt2)
      have hbb := bn_lt d j
      have hnl := nv_lt64 d (j + 1) (by omega)
      have hnx : nv d (j + 1) = nv d j * 256 + bn d j := rfl
      obtain ⟨y, hy⟩ : ∃ y, nv d (j + 1) = y := ⟨_, rfl⟩
      rw [hy] at hnl hnx
      have HY : Hid (nv d (j + 1) = y) := hy
      clear hy
      generalize nv d j = x at *
      generalize bn d j = b at *
      have ho : bits .or .u64 (IntKind.u64.wrap ((x : Int) * 256)) (b : Int) = (y : Int) := by
        have e : IntKind.u64.wrap ((x : Int) * 256) = ((256 * x : Nat) : Int) := by rw [IntKind.wrap_u64]; omega
        rw [e, bits_or_u64_nat (256 * x) b (by omega) (by omega)]
        congr 1
        have h3 := Nat.two_pow_add_eq_or_of_lt (i := 8) (b := b) (by omega) x
        rw [show (256 : Nat) = 2 ^ 8 by decide, ← h3]
        omega
      have ho2 : bits .or .u64 ((x : Int) * 256 % 18446744073709551616) (b : Int) = (y : Int) := by
        have : IntKind.u64.wrap ((x : Int) * 256) = (x : Int) * 256 % 18446744073709551616 := by rw [IntKind.wrap_u64]
        rw [← this]; exact ho
      clear hnx HC HN HS
      go_wp2
      go_round
      case rel => exact ⟨j + 1, by omega, by go_num, by rw [HY.out]⟩
      case measure => simp only [intOf]; omega
    · obtain rfl : j = k := by omega
      have e := HN.out j (Nat.le_refl _)
      clear HC HN HS
      rw [e]
      go_wp2
      go_ret
      exact ⟨rfl, HH.out⟩
theorem num_no (I : Nat) (s : ByteArray) (n : Int) (hn : s.size < wd n) (w : World) (h : InIs w I s 0) :
    Calls Tryz.prog 152 #[.pointer (some ⟨I, 0, none⟩), .int .i64 n] w fun e w' => e = .panicked [brk I] ∧ InIs w' I s 3 ∧ KI I w w' := by
  have hwc := width_any n w
  generalize wd n = k at *
  have hr := raw_no I s (k : Int) (by omega) w h
  clear h
  go_enter Tryz.func152, Tryz.ntmps152
  go_wp2_with fail
  go_call hwc as e w1 ⟨rfl, rfl⟩
  go_wp2_with fail
  go_call hr as e w2 ⟨rfl, h1, h2⟩
  have H : Hid (InIs w2 I s 3 ∧ KI I w1 w2) := ⟨h1, h2⟩
  clear h1 h2 hr hwc
  go_wp2
  exact ⟨rfl, rfl, H.out.1, H.out.2⟩

/-- Noughts to the end; else it is broken off. -/
def zeros (s : ByteArray) : Prop := ∀ j, j < s.size → bn s j = 0
set_option maxHeartbeats 800000 in
theorem zero_any (I : Nat) (s : ByteArray) (hs : s.size ≤ 1000000) (w : World) (h : InIs w I s 0) :
    Calls Tryz.prog 172 #[.pointer (some ⟨I, 0, none⟩)] w fun e w' => (zeros s → e = .returned (.tuple #[]) ∧ InIs w' I ⟨#[]⟩ 0) ∧ (¬ zeros s → e = .panicked [brk I] ∧ (∃ t, InIs w' I t 4)) ∧ KI I w w' := by
  have hl := left_any I s 0 w h
  have hr := raw_in I s (s.size : Int) s.size (by omega) (Nat.le_refl _) hs w h
  rw [extract_all s] at hr
  have hz0 : s.extract s.size s.size = ⟨#[]⟩ := by apply ByteArray.ext; simp
  rw [hz0] at hr
  clear hz0
  go_enter Tryz.func172, Tryz.ntmps172
  go_wp2_with fail
  go_call hl as e w1 ⟨rfl, rfl⟩
  go_wp2_with fail
  go_call hr as e w2 ⟨rfl, h1, h2⟩
  obtain ⟨w3, cap3, hcv, hcell, hb3, hlt⟩ := conv_string s w2
  have HH : Hid (InIs w3 I ⟨#[]⟩ 0 ∧ KI I w1 w3) := ⟨h1.below hb3, h2.trans (KI.ofBelow hb3)⟩
  have HC : Hid (∀ j, j < s.size → w3.cell? ⟨w2.heap.size, j, none⟩ = some (.int .u8 (bn s j : Int))) := hcell
  clear hl hr h h1 h2 hb3 hcell
  go_wp2_with fail
  clear hcv
  generalize w2.heap.size = B at *
  go_loop [10] (fun i => ∃ j : Nat, j ≤ s.size ∧ i = .int .i64 j ∧ Hid (∀ q, q < j → bn s q = 0))
    (fun i => s.size - (intOf i).toNat)
  case atStart => exact ⟨0, Nat.zero_le _, rfl, fun q hq => absurd hq (by omega)⟩
  case round =>
    obtain ⟨j, hj, rfl, hq⟩ := hrel
    by_cases hlt2 : j < s.size
    · have hc1 := HC.out j hlt2
      by_cases hb0 : bn s j = 0
      · rw [hb0] at hc1
        have hqn : Hid (∀ q, q < j + 1 → bn s q = 0) := fun q hqq => by
          by_cases e : q = j
          · subst e; exact hb0
          · exact hq.out q (by omega)
        clear hq hb0 HC
        go_wp2
        go_round
        case rel => exact ⟨j + 1, by omega, by go_num, hqn⟩
        case measure => simp only [intOf]; omega
      · have hnz : Hid (¬ zeros s) := fun hz => hb0 (hz j hlt2)
        have hb1 : ¬ ((bn s j : Nat) : Int) = 0 := by omega
        generalize bn s j = b at *
        clear hq HC
        go_wp2_with fail
        go_call (fail_any I ⟨#[]⟩ 4 (by decide) w3 HH.out.1) as e w4 ⟨rfl, h4, k4⟩
        have H4 : Hid (InIs w4 I ⟨#[]⟩ 4 ∧ KI I w1 w4) := ⟨h4, HH.out.2.trans k4⟩
        clear h4 k4 HH
        go_wp2
        exact ⟨rfl, fun hz => absurd hz hnz.out, fun _ => ⟨rfl, _, H4.out.1⟩, H4.out.2⟩
    · obtain rfl : j = s.size := by omega
      have hyz : Hid (zeros s) := hq.out
      clear hq HC
      go_wp2
      go_returns
      exact ⟨fun _ => ⟨rfl, HH.out.1⟩, fun hn => absurd hyz.out hn, HH.out.2⟩
end Go.Proofs.YtncfbocbigdhiaaGreat.O
