/- What the program's and the document's small functions of numbers with a point answer, as calls, by the numbers' bits: for all bits below 2^64. -/
import Derived.Test.YthojbccoejdmeaaDoorA3
import Derived.Test.YthojbccoejdmeaaDoorRows
import Derived.WalkKit
import Derived.WalkSpells
import Derived.WalkLawsBesides
import Derived.Handy
import Derived.Laws.Externs
import Derived.Laws.Bits64b
namespace Go.Proofs.YthojbccoejdmeaaDoor
open Go.RowKit

theorem fbits (b : Nat) (w : World) : (callFunc 25 #[.float .f64 b]).run Tryd.prog w = .ok (.value (.int .u64 (b : Int))) w := by
  rw [run_callFunc_extern (e := Extern.MathFloatBits.float64bits) Tryd.func25 (by kernel_rfl) (by kernel_rfl) (by kernel_rfl) (by kernel_rfl)]
  rfl
theorem frombits (b : Nat) (w : World) : (callFunc 11 #[.int .u64 (b : Int)]).run Tryd.prog w = .ok (.value (.float .f64 b)) w := by
  rw [run_callFunc_extern (e := Extern.MathFloatBits.float64frombits) Tryd.func11 (by kernel_rfl) (by kernel_rfl) (by kernel_rfl) (by kernel_rfl)]
  rfl
theorem retB {a b : Bool} (h : a = b) : Ending.returned (Value.bool a) = Ending.returned (Value.bool b) := by rw [h]
theorem retF {a b : Nat} (h : a = b) : Ending.returned (Value.float .f64 a) = Ending.returned (Value.float .f64 b) := by rw [h]

theorem admit_any (p d : Nat) (hp : p < 18446744073709551616) (hd : d < 18446744073709551616) (w : World) :
    Calls Tryd.prog 12 #[.float .f64 p, .int .u64 d] w fun e w' => e = .returned (.bool (adm p d)) ∧ w' = w := by
  have h0 : (FloatKind.f64.format.order p 0 == some .gt) = gtz p := ord0 hp
  have h1 : (FloatKind.f64.format.order p 4607182418800017408 == some .gt || FloatKind.f64.format.order p 4607182418800017408 == some .eq) = ge1 p := ord1e hp
  obtain ⟨r, er, hr, hv⟩ := draw_exact (d / 2048) (by have : pw 53 = 9007199254740992 := by decide
                                                      omega)
  have hf : floatOfInt .f64 ((d : Int) / 2048) = Ieee.double.write (.number false (d / 2048) 0) := by
    unfold floatOfInt FloatKind.nearest FloatKind.encode FloatKind.format
    have e1 : decide ((d : Int) / 2048 < 0) = false := by rw [decide_eq_false]; omega
    have e2 : ((d : Int) / 2048).natAbs = d / 2048 := by omega
    rw [e1, e2]
  have hm : ∀ w, (binOp .mul 24 (.float .f64 (floatOfInt .f64 ((d : Int) / 2048))) (.float .f64 4368491638549381120)).run Tryd.prog w = .ok (.float .f64 r) w := by
    intro w
    refine run_float_arith w .mul 24 .f64 _ _ r ?_
    rw [hf]; exact er
  clear hf
  go_enter Tryd.func12, Tryd.ntmps12
  go_wp2
  · have h : (!gtz p) = true := by assumption
    go_ret
    exact ⟨retB (adm_no (by simpa using h)).symm, rfl⟩
  · have h : ge1 p = true := by assumption
    go_ret
    exact ⟨retB (adm_yes h).symm, rfl⟩
  · have h : (!gtz p) = false := by assumption
    have h2 : ge1 p = false := by assumption
    have h3 : gtz p = true := by simpa using h
    go_ret
    refine ⟨retB ?_, rfl⟩
    rw [adm_mid h3 h2]
    exact ordDraw (gtz_le h3) r hr hv

theorem clamp_any (p : Nat) (hp : p < 18446744073709551616) (w : World) :
    Calls Tryd.prog 26 #[.float .f64 p] w fun e w' => e = .returned (.float .f64 (cl p)) ∧ w' = w := by
  have h0 : (FloatKind.f64.format.order p 0 == some .gt) = gtz p := ord0 hp
  have h1 : (FloatKind.f64.format.order p 4607182418800017408 == some .gt) = gt1 p := ord1 hp
  go_enter Tryd.func26, Tryd.ntmps26
  go_wp2
  · have h : (!gtz p) = true := by assumption
    go_ret
    refine ⟨retF ?_, rfl⟩
    unfold cl; rw [if_neg (by simpa using h)]
  · have h : (!gtz p) = false := by assumption
    have h2 : gt1 p = true := by assumption
    go_ret
    refine ⟨retF ?_, rfl⟩
    unfold cl; rw [if_pos (by simpa using h), if_pos h2]; rfl
  · have h : (!gtz p) = false := by assumption
    have h2 : gt1 p = false := by assumption
    go_ret
    refine ⟨retF ?_, rfl⟩
    unfold cl; rw [if_pos (by simpa using h), if_neg (by simpa using h2)]

theorem isnan_any (p : Nat) (w : World) :
    Calls Tryd.prog 36 #[.float .f64 p] w fun e w' => e = .returned (.bool (nanB p)) ∧ w' = w := by
  have h0 : (FloatKind.f64.format.order p p != some .eq) = nanB p := ordSelf p
  go_enter Tryd.func36, Tryd.ntmps36
  go_wp2
  go_ret
  exact ⟨rfl, rfl⟩

theorem rbits_any (p : Nat) (hp : p < 18446744073709551616) (w : World) :
    Calls Tryd.prog 32 #[.float .f64 p] w fun e w' => e = .returned (.tuple #[.bool (mns p), .int .u64 (exF p : Nat), .int .u64 (mtF p : Nat)]) ∧ w' = w := by
  have hb := fbits
  have h1 : (IntKind.u64.wrap ((p : Int) / 4503599627370496)).tmod 2048 = ((exF p : Nat) : Int) := by
    have : IntKind.u64.wrap ((p : Int) / 4503599627370496) = (p : Int) / 4503599627370496 := by rw [IntKind.wrap_u64]; omega
    rw [this, Int.tmod_eq_emod_of_nonneg (by omega)]; unfold exF; omega
  have h2 : (p : Int) % 4503599627370496 = ((mtF p : Nat) : Int) := by unfold mtF; omega
  have h3 : decide ((9223372036854775808 : Int) ≤ (p : Int)) = mns p := by
    unfold mns
    have ht : topB = 9223372036854775808 := rfl
    congr 1; apply propext; rw [ht]; omega
  go_enter Tryd.func32, Tryd.ntmps32
  go_wp2
  go_returns
  exact ⟨rfl, rfl⟩
theorem not_any (p : Nat) (hp : p < 18446744073709551616) (w : World) :
    Calls Tryd.prog 18 #[.float .f64 p] w fun e w' => e = .returned (.bool (nanB p)) ∧ w' = w := by
  have hb := fbits
  go_enter Tryd.func18, Tryd.ntmps18
  go_wp2_with fail
  go_call (rbits_any p hp w) as e w1 ⟨rfl, rfl⟩
  go_wp2
  · have h : ((exF p : Nat) : Int) = 2047 := by assumption
    go_ret
    refine ⟨retB ?_, rfl⟩
    rw [nan_bits, decide_eq_true (show exF p = 2047 by omega), Bool.true_and]
  · have h : ¬ ((exF p : Nat) : Int) = 2047 := by assumption
    go_ret
    refine ⟨retB ?_, rfl⟩
    rw [nan_bits, decide_eq_false (show ¬ exF p = 2047 by omega), Bool.false_and]
set_option maxRecDepth 100000 in
theorem less_any (p q : Nat) (w : World) :
    Calls Tryd.prog 19 #[.float .f64 p, .float .f64 q] w fun e w' => e = .returned (.bool (lessB p q)) ∧ w' = w := by
  have ht : topB = 9223372036854775808 := rfl
  have hb := fbits
  by_cases h1 : (9223372036854775808 : Int) ≤ (p : Int) <;> by_cases h2 : (9223372036854775808 : Int) ≤ (q : Int) <;> go_enter Tryd.func19, Tryd.ntmps19 <;> go_wp2 <;> go_ret <;> refine ⟨retB ?_, rfl⟩ <;> unfold lessB
  · rw [if_pos (by omega)]
  · rw [if_neg (by omega), if_pos (by omega), decide_eq_true (show topB ≤ p by omega)]
  · rw [if_neg (by omega), if_pos (by omega), decide_eq_false (show ¬ topB ≤ p by omega)]
  · rw [if_neg (by omega), if_neg (by omega)]
theorem u64_not (a : Nat) (ha : a < 18446744073709551616) : bits .xor .u64 IntKind.u64.max (a : Int) = ((18446744073709551615 - a : Nat) : Int) := by
  show IntKind.u64.wrap ((BitVec.ofInt 64 18446744073709551615 ^^^ BitVec.ofInt 64 (a : Int)).toNat : Int) = _
  have h1 : BitVec.ofInt 64 18446744073709551615 = BitVec.allOnes 64 := by decide
  rw [h1, BitVec.allOnes_xor, BitVec.toNat_not, ofInt_u64 a (by omega)]
  simp [IntKind.wrap, IntKind.bits, IntKind.signed]
  omega
theorem place_any (p : Nat) (hp : p < 18446744073709551616) (w : World) :
    Calls Tryd.prog 35 #[.float .f64 p] w fun e w' => e = .returned (.int .u64 (plc p : Nat)) ∧ w' = w := by
  have ht : topB = 9223372036854775808 := rfl
  have hb := fbits
  have hs : IntKind.u64.signed = false := rfl
  have ha : bits .and .u64 (p : Int) 9223372036854775808 = (((p &&& 9223372036854775808 : Nat)) : Int) := bits_and_u64_nat p 9223372036854775808 hp (by decide)
  have hx : bits .xor .u64 IntKind.u64.max (p : Int) = ((18446744073709551615 - p : Nat) : Int) := u64_not p hp
  have ho : bits .or .u64 (p : Int) 9223372036854775808 = (((p ||| 9223372036854775808 : Nat)) : Int) := bits_or_u64_nat p 9223372036854775808 hp (by decide)
  rw [and_top hp] at ha
  cases hn : nanB p
  · by_cases h1 : topB ≤ p
    · rw [if_pos h1] at ha
      have hpl : plc p = 18446744073709551615 - p := by unfold plc; rw [hn, if_pos h1]; rfl
      rw [hpl]
      generalize 18446744073709551615 - p = z at *
      go_enter Tryd.func35, Tryd.ntmps35
      go_wp2_with fail
      go_call (isnan_any p w) as e w1 ⟨rfl, rfl⟩
      go_wp2
      go_ret
      exact ⟨rfl, rfl⟩
    · rw [if_neg h1] at ha
      rw [or_top (by omega)] at ho
      have hpl : plc p = p + topB := by unfold plc; rw [hn, if_neg h1]; rfl
      rw [hpl]
      generalize p + topB = z at *
      go_enter Tryd.func35, Tryd.ntmps35
      go_wp2_with fail
      go_call (isnan_any p w) as e w1 ⟨rfl, rfl⟩
      go_wp2
      go_ret
      exact ⟨rfl, rfl⟩
  · have hpl : plc p = 18446744073709551615 := by unfold plc; rw [hn]; rfl
    rw [hpl]
    go_enter Tryd.func35, Tryd.ntmps35
    go_wp2_with fail
    go_call (isnan_any p w) as e w1 ⟨rfl, rfl⟩
    go_wp2
    go_ret
    exact ⟨rfl, rfl⟩
theorem order_any (p q : Nat) (hp : p < 18446744073709551616) (hq : q < 18446744073709551616) (w : World) :
    Calls Tryd.prog 20 #[.float .f64 p, .float .f64 q] w fun e w' => e = .returned (.int .i64 (ordN p q)) ∧ w' = w := by
  go_enter Tryd.func20, Tryd.ntmps20
  go_wp2_with fail
  go_call (place_any p hp w) as e w1 ⟨rfl, rfl⟩
  go_wp2_with fail
  go_call (place_any q hq w1) as e w1 ⟨rfl, rfl⟩
  go_wp2
  · have h : plc p < plc q := by assumption
    go_ret
    exact ⟨by unfold ordN; rw [if_pos h]; rfl, rfl⟩
  · have h : ¬ plc p < plc q := by assumption
    have h2 : plc q < plc p := by assumption
    go_ret
    exact ⟨by unfold ordN; rw [if_neg h, if_pos h2]; rfl, rfl⟩
  · have h : ¬ plc p < plc q := by assumption
    have h2 : ¬ plc q < plc p := by assumption
    go_ret
    exact ⟨by unfold ordN; rw [if_neg h, if_neg h2]; rfl, rfl⟩

theorem inf_up (w : World) : Calls Tryd.prog 14 #[.int .i64 1] w fun e w' => e = .returned (.float .f64 infR) ∧ w' = w := by
  have hb : ∀ w, (callFunc 11 #[.int .u64 9218868437227405312]).run Tryd.prog w = .ok (.value (.float .f64 9218868437227405312)) w := frombits 9218868437227405312
  go_enter Tryd.func14, Tryd.ntmps14
  go_wp2
  go_ret
  exact ⟨rfl, rfl⟩
theorem inf_down (w : World) : Calls Tryd.prog 14 #[.int .i64 (-1)] w fun e w' => e = .returned (.float .f64 18442240474082181120) ∧ w' = w := by
  have hb : ∀ w, (callFunc 11 #[.int .u64 18442240474082181120]).run Tryd.prog w = .ok (.value (.float .f64 18442240474082181120)) w := frombits 18442240474082181120
  go_enter Tryd.func14, Tryd.ntmps14
  go_wp2
  go_ret
  exact ⟨rfl, rfl⟩
theorem nan_call (w : World) : Calls Tryd.prog 15 #[] w fun e w' => e = .returned (.float .f64 9221120237041090561) ∧ w' = w := by
  have hb : ∀ w, (callFunc 11 #[.int .u64 9221120237041090561]).run Tryd.prog w = .ok (.value (.float .f64 9221120237041090561)) w := frombits 9221120237041090561
  go_enter Tryd.func15, Tryd.ntmps15
  go_wp2
  go_ret
  exact ⟨rfl, rfl⟩
end Go.Proofs.YthojbccoejdmeaaDoor
