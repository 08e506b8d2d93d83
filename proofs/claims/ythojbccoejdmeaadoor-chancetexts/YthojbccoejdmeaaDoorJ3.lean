/- Text of any number. -/
import Derived.Test.YthojbccoejdmeaaDoorJ2
namespace Go.Proofs.YthojbccoejdmeaaDoor
open Go.RowKit

set_option maxRecDepth 100000 in
theorem repeat1 (w : World) :
    Calls Tryd.prog 39 #[.string ⟨#[48]⟩, .int .i64 1] w fun e w' => e = .returned (.string (nulls 1)) ∧ w' = w := by
  go_enter Tryd.func39, Tryd.ntmps39
  go_wp2
  go_ret
  exact ⟨rfl, rfl⟩
theorem repeat_any (k : Nat) (hk : k < 16) (w : World) :
    Calls Tryd.prog 39 #[.string ⟨#[48]⟩, .int .i64 (k : Nat)] w fun e w' => e = .returned (.string (nulls k)) ∧ w' = w := by
  rcases Nat.lt_or_ge k 2 with h | h
  · have : k = 0 ∨ k = 1 := by omega
    rcases this with rfl | rfl
    · exact (repeat0 w).mono fun e w' h => h
    · exact repeat1 w
  · exact repeatK k h hk w
theorem htx_size (u n : Nat) : (htx u n).size = n := by
  show (htx u n).data.size = n
  unfold htx htl
  simp

set_option maxRecDepth 100000 in
theorem text_any (p : Nat) (hp : p < 18446744073709551616) (w : World) (ht : w.cell? ⟨6, 15, none⟩ = some (.int .u8 4)) (hs : 6 < w.heap.size) :
    Calls Tryd.prog 24 #[.float .f64 p] w fun e w' => e = .returned (.string (txt p)) ∧ Below w.heap.size w w' := by
  have hb := fbits
  cases hn : nanB p
  · cases h1 : infU p
    · cases h2 : infD p
      · go_enter Tryd.func24, Tryd.ntmps24
        go_wp2_with fail
        go_call (isnan_any _ w) as e w1 ⟨rfl, rfl⟩
        go_wp2_with fail
        go_call (isinf_up _ hp w1) as e w1 ⟨rfl, rfl⟩
        go_wp2_with fail
        go_call (isinf_dn _ hp w1) as e w1 ⟨rfl, rfl⟩
        go_wp2_with fail
        go_call (funit_any p hp w1 ht hs) as e w2 ⟨⟨n, hn15, hlt, hpos, rfl⟩, hbl⟩
        have HB : Hid (Below w1.heap.size w1 w2) := hbl
        have hz := htx_size p (n + 1)
        have HN := nulls_htx p n hn15 hlt
        have HT : Hid (txt p = nulls (15 - n) ++ htx p (n + 1)) := by
          show txt p = _
          rw [HN]; unfold txt; rw [hn, h1, h2]; rfl
        clear hbl hpos hlt HN
        have hsz : (16 : Int) - ((htx p (n + 1)).size : Int) = ((15 - n : Nat) : Int) := by rw [hz]; omega
        have hlen : ((htx p (n + 1)).size : Int) = (n : Int) + 1 := by rw [hz]; omega
        have hw : IntKind.i64.wrap (16 - ((n : Int) + 1)) = ((15 - n : Nat) : Int) := by rw [IntKind.wrap_i64]; omega
        go_wp2_with fail
        go_call (repeat_any (15 - n) (by omega) w2) as e w2 ⟨rfl, rfl⟩
        have hz2 : (nulls (15 - n)).size = 15 - n := by show (nulls (15 - n)).data.size = _; unfold nulls; simp
        go_wp2
        go_ret
        exact ⟨by rw [HT.out]; rfl, HB.out⟩
      · go_enter Tryd.func24, Tryd.ntmps24
        go_wp2_with fail
        go_call (isnan_any _ w) as e w1 ⟨rfl, rfl⟩
        go_wp2_with fail
        go_call (isinf_up _ hp w1) as e w1 ⟨rfl, rfl⟩
        go_wp2_with fail
        go_call (isinf_dn _ hp w1) as e w1 ⟨rfl, rfl⟩
        go_wp2
        go_ret
        exact ⟨by unfold txt; rw [hn, h1, h2]; rfl, Below.refl _ _⟩
    · go_enter Tryd.func24, Tryd.ntmps24
      go_wp2_with fail
      go_call (isnan_any _ w) as e w1 ⟨rfl, rfl⟩
      go_wp2_with fail
      go_call (isinf_up _ hp w1) as e w1 ⟨rfl, rfl⟩
      go_wp2
      go_ret
      exact ⟨by unfold txt; rw [hn, h1]; rfl, Below.refl _ _⟩
  · go_enter Tryd.func24, Tryd.ntmps24
    go_wp2_with fail
    go_call (isnan_any _ w) as e w1 ⟨rfl, rfl⟩
    go_wp2
    go_ret
    exact ⟨by unfold txt; rw [hn]; rfl, Below.refl _ _⟩
end Go.Proofs.YthojbccoejdmeaaDoor
