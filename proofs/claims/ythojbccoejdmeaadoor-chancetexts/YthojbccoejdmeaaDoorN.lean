/- The law ChanceTexts as a call. -/
import Derived.Test.YthojbccoejdmeaaDoorM4
import Derived.Test.YthojbccoejdmeaaDoorJ4
namespace Go.Proofs.YthojbccoejdmeaaDoor
open Go.RowKit

theorem txt_size (p : Nat) : (txt p).size ≤ 16 := by
  unfold txt
  split
  · decide
  · split
    · decide
    · split
      · decide
      · rw [htx_size]; exact Nat.le_refl _
theorem cut40 (s : ByteArray) (hs : s.size ≤ 9223372036854775807) (w : World) :
    Calls Tryd.prog 31 #[.string s, .int .i64 40] w fun e w' => (∃ t : ByteArray, t.size ≤ 40 ∧ e = .returned (.string t)) ∧ w' = w := by
  by_cases h : s.size ≤ 40
  · have hi : (s.size : Int) ≤ 40 := by omega
    go_enter Tryd.func31, Tryd.ntmps31
    go_wp2
    go_ret
    exact ⟨⟨s, h, rfl⟩, rfl⟩
  · have hi : (40 : Int) < s.size := by omega
    go_enter Tryd.func31, Tryd.ntmps31
    go_wp2
    go_ret
    exact ⟨⟨s.extract 0 40, by simp; omega, rfl⟩, rfl⟩
set_option maxRecDepth 100000 in
theorem texts_walk (p : Nat) (hp : p < 18446744073709551616) (s : ByteArray) (hs : s.size ≤ 9223372036854775807) (w : World) (ht : Tab w) (he : Errs w) :
    Calls Tryd.prog 8 #[.int .u64 (p : Nat), .string s] w fun e w' => e = .returned (.bool true) ∧ Below w.heap.size w w' := by
  have tab : ∀ {w w' : World}, Tab w → Below w.heap.size w w' → Hid (Tab w') := fun {w w'} ht hbl => ⟨by rw [hbl.cell (show 6 < w.heap.size from ht.s)]; exact ht.c, Nat.lt_of_lt_of_le ht.s hbl.size⟩
  have err : ∀ {w w' : World}, Errs w → Below w.heap.size w w' → Hid (Errs w') := fun he hb => he.below hb
  have hb := frombits
  have hf := fbits
  go_enter Tryd.func8, Tryd.ntmps8
  go_wp2_with fail
  go_call (awake_any w ht.c ht.s) as e w1 ⟨rfl, hb1⟩
  have ht1 := tab ht hb1
  have he1 := err he hb1
  have HB1 : Hid (Below w.heap.size w w1) := hb1
  clear hb1 ht he
  go_wp2_with fail
  go_call (text_any p hp w1 ht1.out.c ht1.out.s) as e w2 ⟨rfl, hb2⟩
  have ht2 := tab ht1.out hb2
  have he2 := err he1.out hb2
  have HB2 : Hid (Below w.heap.size w w2) := HB1.out.trans (hb2.mono HB1.out.size)
  clear hb2 ht1 he1 HB1
  go_wp2_with fail
  go_call (parse_any (txt p) (Nat.le_trans (txt_size p) (by omega)) w2 ht2.out he2.out) as e w3 ⟨⟨z, b, hz, hzl, rfl⟩, hb3⟩
  have ht3 := tab ht2.out hb3
  have he3 := err he2.out hb3
  have HB3 : Hid (Below w.heap.size w w3) := HB2.out.trans (hb3.mono HB2.out.size)
  clear hb3 ht2 he2 HB2
  obtain ⟨rfl, hsm⟩ := isp_txt p z b hp hz
  clear hz
  go_wp2_with fail
  go_call (rtext_any p hp w3) as e w4 ⟨rfl, hb4⟩
  have ht4 := tab ht3.out hb4
  have he4 := err he3.out hb4
  have HB4 : Hid (Below w.heap.size w w4) := HB3.out.trans (hb4.mono HB3.out.size)
  clear hb4 ht3 he3 HB3
  go_wp2_with fail
  go_call (same_any p z hp hzl w4) as e w4 ⟨rfl, rfl⟩
  go_wp2_with fail
  go_call (cut40 s hs w4) as e w4 ⟨⟨t, htl, rfl⟩, rfl⟩
  go_wp2_with fail
  go_call (parse_any t (by omega) w4 ht4.out he4.out) as e w5 ⟨⟨y, b, hy, hyl, rfl⟩, hb5⟩
  have ht5 := tab ht4.out hb5
  have he5 := err he4.out hb5
  have HB5 : Hid (Below w.heap.size w w5) := HB4.out.trans (hb5.mono HB4.out.size)
  clear hb5 ht4 he4 HB4
  cases b
  · obtain rfl := isp_no t y hy
    have hf0 : ∀ w, (callFunc 25 #[.float .f64 0]).run Tryd.prog w = .ok (.value (.int .u64 0)) w := fbits 0
    go_wp2
    go_ret
    exact ⟨rfl, HB5.out⟩
  · have hyt := isp_back t y hy
    clear hy
    go_wp2_with fail
    go_call (rtext_any y hyl w5) as e w6 ⟨rfl, hb6⟩
    have HB6 : Hid (Below w.heap.size w w6) := HB5.out.trans (hb6.mono HB5.out.size)
    clear hb6 HB5
    rw [hyt]
    go_wp2
    go_ret
    exact ⟨by simp, HB6.out⟩
end Go.Proofs.YthojbccoejdmeaaDoor
