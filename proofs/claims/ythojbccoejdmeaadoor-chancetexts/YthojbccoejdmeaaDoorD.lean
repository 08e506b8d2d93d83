/- The fixed fact that each statement begins with, as a call: it is true, where the library's table of 64 places reads as its text lays it. -/
import Derived.Test.YthojbccoejdmeaaDoorC
import Derived.Deep.MidRow
namespace Go.Proofs.YthojbccoejdmeaaDoor
open Go.RowKit

theorem tz64 (w : World) (ht : w.cell? ⟨6, 15, none⟩ = some (.int .u8 4)) :
    Calls Tryd.prog 71 #[.int .u64 16] w fun e w' => e = .returned (.int .i64 4) ∧ w' = w := by
  have e1 : IntKind.u64.wrap (-16) = 18446744073709551600 := by decide
  have e2 : bits BinOp.and IntKind.u64 16 18446744073709551600 = 16 := by decide
  have e3 : IntKind.u64.wrap (16 * 285870213051353865) = 4573923408821661840 := by decide
  go_enter Tryd.func71, Tryd.ntmps71
  go_wp2
  go_ret
  exact ⟨rfl, rfl⟩
theorem ordBig {p : Nat} (hp : p < 18446744073709551616) : (FloatKind.f64.format.order p 9218868437227405311 == some .gt) = decide (p = infR) := by
  have ht : topB = 9223372036854775808 := rfl
  have hi : infR = 9218868437227405312 := rfl
  cases hn : nanB p
  · rw [show FloatKind.f64.format.order p 9218868437227405311 = _ from order_pos hp (by decide) hn]
    have hx' : rg p ≤ infR := by simpa [nanB] using hn
    split
    · rw [decide_eq_false (by omega)]
      split <;> rfl
    · rename_i h
      rw [rg_small (by omega)] at hx'
      split
      · rw [decide_eq_false (by omega)]; rfl
      · split
        · rw [decide_eq_true (by omega)]; rfl
        · rw [decide_eq_false (by omega)]; rfl
  · have hx' : infR < rg p := by simpa [nanB] using hn
    rw [show FloatKind.f64.format.order p 9218868437227405311 = none from order_nan_left hx', decide_eq_false]
    · rfl
    · intro h
      rw [rg_small (by omega)] at hx'; omega
def infU (p : Nat) : Bool := decide (p = infR)
def infD (p : Nat) : Bool := decide (p = infR + topB)
def neg64 (p : Nat) : Nat := p ^^^ 2 ^ 63
theorem isinf_up (p : Nat) (hp : p < 18446744073709551616) (w : World) :
    Calls Tryd.prog 37 #[.float .f64 p, .int .i64 1] w fun e w' => e = .returned (.bool (infU p)) ∧ w' = w := by
  have h0 := ordBig hp
  go_enter Tryd.func37, Tryd.ntmps37
  go_wp2
  go_ret
  exact ⟨rfl, rfl⟩
theorem neg64_eq {p : Nat} (hp : p < 18446744073709551616) : neg64 p = if topB ≤ p then p - topB else p + topB := by
  have ht : topB = 2 ^ 63 := by decide
  unfold neg64
  by_cases h : topB ≤ p
  · rw [if_pos h]
    have hlt : p - topB < 2 ^ 63 := by rw [ht] at *; omega
    have e : p = 2 ^ 63 * 1 + (p - topB) := by rw [ht] at *; omega
    have e2 : p = (p - topB) ^^^ 2 ^ 63 := by
      apply Nat.eq_of_testBit_eq
      intro i
      rw [Nat.testBit_xor, Nat.testBit_two_pow]
      rw [show p.testBit i = (2 ^ 63 * 1 + (p - topB)).testBit i from by rw [← e]]
      rw [Nat.testBit_two_pow_mul_add 1 hlt i]
      by_cases hi : i < 63
      · rw [if_pos hi, decide_eq_false (by omega)]; simp
      · rw [if_neg hi]
        have h0 : (p - topB).testBit i = false := Nat.testBit_lt_two_pow (Nat.lt_of_lt_of_le hlt (Nat.pow_le_pow_right (by decide) (by omega)))
        rw [h0]
        by_cases h63 : i = 63
        · subst h63; rfl
        · rw [decide_eq_false (by omega)]
          have : (1 : Nat).testBit (i - 63) = false := Nat.testBit_lt_two_pow (Nat.lt_of_lt_of_le (by decide) (Nat.pow_le_pow_right (show 0 < 2 by decide) (show 1 ≤ i - 63 by omega)))
          rw [this]; rfl
    have e3 : p ^^^ 2 ^ 63 = ((p - topB) ^^^ 2 ^ 63) ^^^ 2 ^ 63 := by rw [← e2]
    rw [e3, Nat.xor_assoc, Nat.xor_self, Nat.xor_zero]
  · rw [if_neg h]
    have hlt : p < 2 ^ 63 := by rw [ht] at *; omega
    apply Nat.eq_of_testBit_eq
    intro i
    rw [Nat.testBit_xor, Nat.testBit_two_pow]
    rw [show p + topB = 2 ^ 63 * 1 + p by rw [ht]; omega, Nat.testBit_two_pow_mul_add 1 hlt i]
    by_cases hi : i < 63
    · rw [if_pos hi, decide_eq_false (by omega)]; simp
    · rw [if_neg hi]
      have h0 : p.testBit i = false := Nat.testBit_lt_two_pow (Nat.lt_of_lt_of_le hlt (Nat.pow_le_pow_right (by decide) (by omega)))
      rw [h0]
      by_cases h63 : i = 63
      · subst h63; rfl
      · rw [decide_eq_false (by omega)]
        have : (1 : Nat).testBit (i - 63) = false := Nat.testBit_lt_two_pow (Nat.lt_of_lt_of_le (by decide) (Nat.pow_le_pow_right (show 0 < 2 by decide) (show 1 ≤ i - 63 by omega)))
        rw [this]; rfl
theorem isinf_dn (p : Nat) (hp : p < 18446744073709551616) (w : World) :
    Calls Tryd.prog 37 #[.float .f64 p, .int .i64 (-1)] w fun e w' => e = .returned (.bool (infD p)) ∧ w' = w := by
  have ht : topB = 9223372036854775808 := rfl
  have hl : neg64 p < 18446744073709551616 := by rw [neg64_eq hp]; split <;> omega
  have h0 : (FloatKind.f64.format.order (neg64 p) 9218868437227405311 == some .gt) = infD p := by
    rw [ordBig hl, neg64_eq hp]
    unfold infD
    congr 1; apply propext
    have hi : infR = 9218868437227405312 := rfl
    split <;> omega
  have hn : ∀ w, (Op.unary UnOp.neg (.float .f64 p)).run Tryd.prog w = .ok (.float .f64 (neg64 p)) w := fun _ => rfl
  go_enter Tryd.func37, Tryd.ntmps37
  go_wp2
  go_ret
  exact ⟨rfl, rfl⟩
set_option maxRecDepth 100000 in
theorem repeat0 (w : World) :
    Calls Tryd.prog 39 #[.string ⟨#[48]⟩, .int .i64 0] w fun e w' => e = .returned (.string ⟨#[]⟩) ∧ w' = w := by
  go_enter Tryd.func39, Tryd.ntmps39
  go_wp2
  go_ret
  exact ⟨rfl, rfl⟩
theorem pow2_16 (w : World) : Calls Tryd.prog 70 #[.int .i64 16] w fun e w' => e = .returned (.bool true) ∧ w' = w := by
  have e2 : bits BinOp.and IntKind.i64 16 15 = 0 := by decide
  go_enter Tryd.func70, Tryd.ntmps70
  go_wp2
  go_ret
  exact ⟨rfl, rfl⟩


/-! The digits of a number to the base 16. -/
def hxd (k : Nat) : Nat := if k < 10 then 48 + k else 87 + k
def ux (u n : Nat) : Nat := u / 16 ^ n
theorem ux_zero (u : Nat) : ux u 0 = u := by unfold ux; simp
theorem ux_succ (u n : Nat) : ux u n / 16 = ux u (n + 1) := by unfold ux; rw [Nat.div_div_eq_div_mul, Nat.pow_succ]
theorem ux_le (u n : Nat) : ux u n ≤ u := Nat.div_le_self ..
def ud (u n : Nat) : Nat := ux u n % 16
theorem ud_lt (u n : Nat) : ud u n < 16 := Nat.mod_lt _ (by decide)
theorem hxd_lt (k : Nat) (h : k < 16) : hxd k < 256 := by unfold hxd; split <;> omega
def fb (u n j : Nat) : Nat := if j + n < 65 then 0 else hxd (ud u (64 - j))
theorem fb_other (u n j : Nat) (h : j ≠ 64 - n) (hn : n < 65) : fb u (n + 1) j = fb u n j := by
  unfold fb
  by_cases h1 : j + n < 65
  · rw [if_pos h1, if_pos (by omega)]
  · rw [if_neg h1, if_neg (by omega)]
theorem fb_new (u n : Nat) (hn : n < 65) : fb u (n + 1) (64 - n) = hxd (ud u n) := by
  unfold fb; rw [if_neg (by omega)]; congr 2; omega
structure FRel (w wr : World) (u n : Nat) : Prop where
  cell : ∀ j, j < 65 → wr.cell? ⟨w.heap.size, j, none⟩ = some (.int .u8 (fb u n j : Nat))
  frozen : ∀ j, j < 65 → wr.frozen? ⟨w.heap.size, j, none⟩ = false
  below : Below w.heap.size w wr
theorem FRel.store {w wr : World} {u n m : Nat} (h : FRel w wr u n) (hn : m + n = 64) : FRel w (wr.setCell ⟨w.heap.size, m, none⟩ (.int .u8 (hxd (ud u n) : Nat))) u (n + 1) := by
  obtain rfl : m = 64 - n := by omega
  refine ⟨fun j hj => ?_, fun j hj => ?_, Below.setCell h.below (Nat.le_refl _) _⟩
  · by_cases e : j = 64 - n
    · subst e
      rw [World.cell?_setCell_same wr _ _ (h.cell _ hj), fb_new _ _ (by omega)]
    · rw [World.cell?_setCell_other wr _ _ _ (by intro e'; exact e (congrArg Addr.off e').symm), h.cell j hj, fb_other _ _ _ e (by omega)]
  · rw [World.frozen?_setCell]; exact h.frozen j hj
theorem FRel.start (w : World) (u : Nat) : FRel w (w.alloc (.cells Tryd.zeroCells93 93)) u 0 := by
  have h0 : (w.alloc (.cells Tryd.zeroCells93 93)).heap[w.heap.size]? = some (.cells Tryd.zeroCells93 93) := by
    show (w.heap.push _)[w.heap.size]? = _
    rw [Array.getElem?_push, if_pos rfl]
  have hz : ∀ j, j < 65 → Tryd.zeroCells93[j]? = some (.int .u8 0) := by
    have hr : Tryd.zeroCells93 = Array.replicate 65 (.int .u8 0) := by kernel_rfl
    intro j hj
    rw [hr]; simp [hj]
  refine ⟨fun j hj => ?_, fun j hj => ?_, ?_⟩
  · simp only [World.cell?, h0]
    rw [show fb u 0 j = 0 by unfold fb; rw [if_pos (by omega)]]
    exact hz j hj
  · simp only [World.frozen?, h0]
    simp
  · exact Below.alloc (Below.refl _ _) (Nat.le_refl _) _
/-- The first k digits, the highest first. -/
def htl (u k : Nat) : List UInt8 := (List.range k).map fun j => UInt8.ofNat (hxd (ud u (k - 1 - j)))
def htx (u k : Nat) : ByteArray := ⟨(htl u k).toArray⟩
theorem slice93 (B m : Nat) (w1 : World) (hm : m < 65) : (Instr.sliceAt 93 (.pointer (some ⟨B, 0, none⟩)) (some (.int .i64 (m : Int))) none none).run Tryd.prog w1 = .ok (.slice (some ⟨B, m, none⟩) (65 - m) (65 - m)) w1 := by
  have hlen : Tryd.prog.arrayLen 93 = 65 := by kernel_rfl
  have hsz : (sizeOf (Tryd.prog.elem 93)).run Tryd.prog w1 = .ok 1 w1 := by kernel_rfl
  rw [run_sliceAt_array_l w1 93 ⟨B, 0, none⟩ (by kernel_rfl) .i64 (m : Int) (by omega) (by rw [hlen]; omega), hsz, hlen]
  simp only [Result.andThen_ok, slicedAt]
  rw [Int.toNat_natCast, if_neg (by omega), Nat.mul_one, Addr.add_mid, Nat.zero_add]
theorem conv_hex {w wr : World} {u n m : Nat} (h : FRel w wr u (n + 1)) (hn : m + n = 64) :
    (convert 57 9 (.slice (some ⟨w.heap.size, m, none⟩) (65 - m) (65 - m))).run Tryd.prog wr = .ok (.string (htx u (n + 1))) wr := by
  have hl : 65 - m = (htl u (n + 1)).length := by unfold htl; simp; omega
  have := run_convert_bytes_back (P := Tryd.prog) wr 57 9 5 ⟨w.heap.size, m, none⟩ (65 - m) (htl u (n + 1)) Tryd.underlying57 Tryd.underlying5 Tryd.underlying9 (by
    intro j hj
    have hj2 : j < n + 1 := by unfold htl at hj; simpa using hj
    have ha : (⟨w.heap.size, m, none⟩ : Addr).add j = ⟨w.heap.size, m + j, none⟩ := by simp [Addr.add]
    rw [ha, h.cell (m + j) (by omega)]
    have hx := hxd_lt (ud u (n - j)) (ud_lt _ _)
    have hf : fb u (n + 1) (m + j) = hxd (ud u (n - j)) := by
      unfold fb; rw [if_neg (by omega)]; congr 2; omega
    rw [hf]
    simp [htl]
    omega)
  rw [← hl] at this
  exact this
theorem FRel.drew {w wr : World} {u n : Nat} (h : FRel w wr u n) : FRel w wr.drew u n :=
  ⟨fun j hj => by rw [World.cell?_drew]; exact h.cell j hj, h.frozen, Below.drew h.below⟩

set_option maxRecDepth 100000 in
theorem ixd (k : Nat) (hk : k < 16) (w : World) : (Instr.index 9 (.string ⟨#[48, 49, 50, 51, 52, 53, 54, 55, 56, 57, 97, 98, 99, 100, 101, 102, 103, 104, 105, 106, 107, 108, 109, 110, 111, 112, 113, 114, 115, 116, 117, 118, 119, 120, 121, 122]⟩) (.int .u64 (k : Int))).run Tryd.prog w = .ok (.int .u8 (hxd k : Nat)) w := by
  have : k = 0 ∨ k = 1 ∨ k = 2 ∨ k = 3 ∨ k = 4 ∨ k = 5 ∨ k = 6 ∨ k = 7 ∨ k = 8 ∨ k = 9 ∨ k = 10 ∨ k = 11 ∨ k = 12 ∨ k = 13 ∨ k = 14 ∨ k = 15 := by omega
  rcases this with rfl | rfl | rfl | rfl | rfl | rfl | rfl | rfl | rfl | rfl | rfl | rfl | rfl | rfl | rfl | rfl <;> rfl

set_option maxRecDepth 100000 in
set_option maxHeartbeats 4000000 in
theorem fmt_any (u : Nat) (hu : u < 18446744073709551616) (w : World) (ht : w.cell? ⟨6, 15, none⟩ = some (.int .u8 4)) (hs : 6 < w.heap.size) :
    Calls Tryd.prog 55 #[.slice none 0 0, .int .u64 (u : Nat), .int .i64 16, .bool false, .bool false] w fun e w' => (∃ n, n ≤ 15 ∧ ux u n < 16 ∧ (n = 0 ∨ 0 < ux u n) ∧ e = .returned (.tuple #[.slice none 0 0, .string (htx u (n + 1))])) ∧ Below w.heap.size w w' := by
  have hst : Hid (FRel w (w.alloc (.cells Tryd.zeroCells93 93)) u 0) := FRel.start w u
  have hu15 : ux u 15 < 16 := by unfold ux; omega
  have hkeep : ∀ o, (w.alloc o).cell? ⟨6, 15, none⟩ = some (.int .u8 4) := fun o => by rw [World.cell?_alloc_past _ _ _ hs]; exact ht
  go_enter Tryd.func55, Tryd.ntmps55
  go_wp2_with fail
  go_call (pow2_16 _) as e w1 ⟨rfl, rfl⟩
  go_wp2_with fail
  go_call (tz64 _ (hkeep _)) as e w1 ⟨rfl, rfl⟩
  clear hkeep ht
  go_wp2_with fail
  go_loopw [1, 13] (fun u' i wr => ∃ n m : Nat, n ≤ 15 ∧ (n = 0 ∨ 0 < ux u n) ∧ m + n = 64 ∧ u' = .int .u64 (ux u n : Nat) ∧ i = .int .i64 (m + 1 : Nat) ∧ Hid (FRel w wr u n))
    (fun _ i _ => (intOf i).toNat)
  case atStart => exact ⟨0, 64, by omega, Or.inl rfl, rfl, by rw [ux_zero], rfl, hst⟩
  case round =>
    obtain ⟨n, m, hn, hpos, hmn, rfl, rfl, hre⟩ := hrel
    clear hst
    have hle := ux_le u n
    have hc1 := hre.out.cell m (by omega)
    have hf1 := hre.out.frozen m (by omega)
    by_cases hlt : ux u n < 16
    · have hud : ud u n = ux u n := by unfold ud; omega
      have hix : ∀ w, (Instr.index 9 (.string ⟨#[48, 49, 50, 51, 52, 53, 54, 55, 56, 57, 97, 98, 99, 100, 101, 102, 103, 104, 105, 106, 107, 108, 109, 110, 111, 112, 113, 114, 115, 116, 117, 118, 119, 120, 121, 122]⟩) (.int .u64 (ux u n : Nat))).run Tryd.prog w = .ok (.int .u8 (hxd (ud u n) : Nat)) w := by
        intro w; rw [hud]; exact ixd _ hlt w
      have hnx := hre.out.store hmn
      have hcv := conv_hex hnx hmn
      have hbl : Hid (Below w.heap.size w _) := hnx.below
      clear hre hnx hud
      have hsl : ∀ w1, (Instr.sliceAt 93 (.pointer (some ⟨w.heap.size, 0, none⟩)) (some (.int .i64 (m : Int))) none none).run Tryd.prog w1 = .ok (.slice (some ⟨w.heap.size, m, none⟩) (65 - m) (65 - m)) w1 := by
        intro w1
        exact slice93 w.heap.size m w1 (by omega)
      go_wp2
      go_returns
      exact ⟨⟨n, hn, hlt, hpos, rfl⟩, hbl.out⟩
    · have hb : bits .and .u64 ((ux u n : Nat) : Int) 15 = ((ud u n : Nat) : Int) := by
        have := bits_and_u64_nat (ux u n) 15 (by omega) (by decide)
        rw [show (15 : Int) = ((15 : Nat) : Int) from rfl, this]
        congr 1
        unfold ud
        exact Nat.and_two_pow_sub_one_eq_mod _ 4
      have hix := ixd (ud u n) (ud_lt _ _)
      have hsh := ux_succ u n
      have hnx : Hid (FRel w _ u (n + 1)) := hre.out.store hmn
      have hn2 : n < 15 := by
        rcases Nat.lt_or_ge n 15 with h | h
        · exact h
        · obtain rfl : n = 15 := by omega
          exact absurd hu15 hlt
      obtain ⟨m2, rfl⟩ : ∃ m2, m = m2 + 1 := ⟨m - 1, by omega⟩
      clear hre
      go_wp2
      go_roundw
      case rel => exact ⟨n + 1, m2, by omega, Or.inr (by omega), by omega, by congr 1; omega, rfl, hnx⟩
      case measure => simp only [intOf]; omega

/-- The library's FormatUint at base 16. -/
theorem funit_any (u : Nat) (hu : u < 18446744073709551616) (w : World) (ht : w.cell? ⟨6, 15, none⟩ = some (.int .u8 4)) (hs : 6 < w.heap.size) :
    Calls Tryd.prog 38 #[.int .u64 (u : Nat), .int .i64 16] w fun e w' => (∃ n, n ≤ 15 ∧ ux u n < 16 ∧ (n = 0 ∨ 0 < ux u n) ∧ e = .returned (.string (htx u (n + 1)))) ∧ Below w.heap.size w w' := by
  go_enter Tryd.func38, Tryd.ntmps38
  go_wp2_with fail
  go_in
  go_wp2_with fail
  go_call (fmt_any u hu w ht hs) as e w1 ⟨⟨n, hn, hlt, hpos, rfl⟩, hb⟩
  go_wp2
  go_ret
  exact ⟨⟨n, hn, hlt, hpos, rfl⟩, hb⟩

theorem htl_full (u n : Nat) (hn : n ≤ 15) (hlt : ux u n < 16) : List.replicate (15 - n) 48 ++ htl u (n + 1) = htl u 16 := by
  apply List.ext_getElem?
  intro j
  unfold htl
  rw [List.getElem?_append]
  simp only [List.length_replicate]
  split
  · rename_i h
    rw [List.getElem?_replicate, if_pos h, List.getElem?_map, List.getElem?_range (by omega)]
    have hz : ud u (16 - 1 - j) = 0 := by
      unfold ud
      have : ux u (16 - 1 - j) = 0 := by
        unfold ux at *
        obtain ⟨d, hd⟩ : ∃ d, 16 - 1 - j = n + (d + 1) := ⟨16 - 1 - j - n - 1, by omega⟩
        rw [hd, Nat.pow_add, ← Nat.div_div_eq_div_mul]
        refine Nat.div_eq_of_lt (Nat.lt_of_lt_of_le hlt ?_)
        rw [Nat.pow_succ]; have : 0 < 16 ^ d := Nat.pow_pos (by decide)
        omega
      rw [this]
    simp only [Option.map_some, hz]
    rfl
  · rename_i h
    by_cases hj : j < 16
    · rw [List.getElem?_map, List.getElem?_map, List.getElem?_range (by omega), List.getElem?_range hj]
      simp only [Option.map_some]
      congr 4
      omega
    · rw [List.getElem?_map, List.getElem?_map, List.getElem?_eq_none (by simp; omega), List.getElem?_eq_none (by simp; omega)]
      rfl

theorem below6 {w w' : World} (hb : Below w.heap.size w w') (hs : 6 < w.heap.size) {v : Option Value} (h : w.cell? ⟨6, 15, none⟩ = v) : w'.cell? ⟨6, 15, none⟩ = v := by
  rw [hb.cell hs]; exact h

set_option maxRecDepth 100000 in
theorem text_one (w : World) (ht : w.cell? ⟨6, 15, none⟩ = some (.int .u8 4)) (hs : 6 < w.heap.size) :
    Calls Tryd.prog 24 #[.float .f64 4607182418800017408] w fun e w' => e = .returned (.string ⟨#[51, 102, 102, 48, 48, 48, 48, 48, 48, 48, 48, 48, 48, 48, 48, 48]⟩) ∧ Below w.heap.size w w' := by
  have hn : nanB 4607182418800017408 = false := by decide
  have h1 : infU 4607182418800017408 = false := by decide
  have h2 : infD 4607182418800017408 = false := by decide
  have hb : ∀ w, (callFunc 25 #[.float .f64 4607182418800017408]).run Tryd.prog w = .ok (.value (.int .u64 4607182418800017408)) w := fbits 4607182418800017408
  go_enter Tryd.func24, Tryd.ntmps24
  go_wp2_with fail
  go_call (isnan_any _ w) as e w1 ⟨rfl, rfl⟩
  go_wp2_with fail
  go_call (isinf_up _ (by decide) w1) as e w1 ⟨rfl, rfl⟩
  go_wp2_with fail
  go_call (isinf_dn _ (by decide) w1) as e w1 ⟨rfl, rfl⟩
  go_wp2_with fail
  go_call (funit_any 4607182418800017408 (by decide) w1 ht hs) as e w2 ⟨⟨n, hn, hlt, hpos, rfl⟩, hb⟩
  have hn15 : n = 15 := by
    have : n = 0 ∨ n = 1 ∨ n = 2 ∨ n = 3 ∨ n = 4 ∨ n = 5 ∨ n = 6 ∨ n = 7 ∨ n = 8 ∨ n = 9 ∨ n = 10 ∨ n = 11 ∨ n = 12 ∨ n = 13 ∨ n = 14 ∨ n = 15 := by omega
    unfold ux at hlt
    rcases this with rfl | rfl | rfl | rfl | rfl | rfl | rfl | rfl | rfl | rfl | rfl | rfl | rfl | rfl | rfl | rfl <;> first | rfl | (exact absurd hlt (by decide))
  subst hn15
  have htx1 : htx 4607182418800017408 (15 + 1) = ⟨#[51, 102, 102, 48, 48, 48, 48, 48, 48, 48, 48, 48, 48, 48, 48, 48]⟩ := by decide
  rw [htx1]
  clear htx1 hn hlt hpos
  have HB : Hid (Below w1.heap.size w1 w2) := hb
  clear hb
  go_wp2_with fail
  go_call (repeat0 w2) as e w2 ⟨rfl, rfl⟩
  go_wp2
  go_ret
  exact ⟨rfl, HB.out⟩

theorem V_half : V 4602678819172646912 = binR * pw 1021 := by
  unfold V
  have e1 : (4602678819172646912 : Nat) % binR = 0 := by decide
  have e2 : (4602678819172646912 : Nat) / binR - 1 = 1021 := by decide
  rw [if_neg (by decide), e1, e2, Nat.add_zero]
theorem awake_any (w : World) (ht : w.cell? ⟨6, 15, none⟩ = some (.int .u8 4)) (hs : 6 < w.heap.size) :
    Calls Tryd.prog 10 #[] w fun e w' => e = .returned (.bool true) ∧ Below w.heap.size w w' := by
  have a1 : adm 4602678819172646912 9223372036854775807 = true := by
    refine decide_eq_true ⟨by decide, by decide, Or.inr ?_⟩
    rw [V_half]
    exact Nat.mul_lt_mul_of_pos_right (by decide) (pw_pos _)
  have a2 : adm 4602678819172646912 9223372036854775808 = false := by
    refine decide_eq_false ?_
    rintro ⟨_, _, h | h⟩
    · exact absurd h (by decide)
    · rw [V_half] at h
      have := Nat.lt_of_mul_lt_mul_right h
      exact absurd this (by decide)
  go_enter Tryd.func10, Tryd.ntmps10
  go_wp2_with fail
  go_call (admit_any 4602678819172646912 9223372036854775807 (by decide) (by decide) w) as e w1 ⟨rfl, rfl⟩
  go_wp2_with fail
  go_call (admit_any 4602678819172646912 9223372036854775808 (by decide) (by decide) w1) as e w1 ⟨rfl, rfl⟩
  go_wp2_with fail
  go_call (text_one w1 ht hs) as e w2 ⟨rfl, hb⟩
  go_wp2
  go_ret
  exact ⟨rfl, hb⟩
end Go.Proofs.YthojbccoejdmeaaDoor
