/- What mix.Text answers, as a call: for every text and every number below 2^64 one plain function of the text's bytes, where the table of rounds reads as the program's text lays it; nothing that was there has turned. -/
import Derived.Test.YtbbapaphfijpcaaDoorA
import Derived.Test.YtbbapaphfijpcaaDoorP
import Derived.Test.YtbbapaphfijpcaaDoorRows
import Derived.WalkKit
import Derived.Sort.Grow
import Derived.Deep.Draws
import Derived.WalkSpells
import Derived.WalkLawsBesides
import Derived.Handy
import Derived.Deep.MidRow
import Derived.Laws.MakeOwn
import Derived.Laws.OwnMore
namespace Go.Proofs.YtbbapaphfijpcaaDoor
open Go.RowKit
theorem xr_bits (a b : Nat) (ha : a < 18446744073709551616) (hb : b < 18446744073709551616) : bits .xor .u64 (a : Int) (b : Int) = ((xr a b : Nat) : Int) := bits_xor_u64_nat a b ha hb
theorem add_u64 (u v : Nat) : IntKind.u64.wrap ((u : Int) + (v : Int)) = (((u + v) % 18446744073709551616 : Nat) : Int) := by
  rw [IntKind.wrap_u64]; omega

structure Tab (w : World) : Prop where
  c0 : w.cell? ⟨0, 0, none⟩ = some (.int .u64 30)
  c1 : w.cell? ⟨0, 1, none⟩ = some (.int .u64 13787848793156543929)
  c2 : w.cell? ⟨0, 2, none⟩ = some (.int .u64 10871156337175269513)
  c3 : w.cell? ⟨0, 3, none⟩ = some (.int .u64 27)
  c4 : w.cell? ⟨0, 4, none⟩ = some (.int .u64 10723151780598845931)
  c5 : w.cell? ⟨0, 5, none⟩ = some (.int .u64 3573116690164977347)
  c6 : w.cell? ⟨0, 6, none⟩ = some (.int .u64 31)
  c7 : w.cell? ⟨0, 7, none⟩ = some (.int .u64 1)
  c8 : w.cell? ⟨0, 8, none⟩ = some (.int .u64 1)

theorem Tab.size {w : World} (h : Tab w) : 0 < w.heap.size := by
  rcases Nat.eq_zero_or_pos w.heap.size with h0 | h0
  · have := h.c0
    simp [World.cell?, Array.size_eq_zero_iff.1 h0] at this
  · exact h0
theorem Tab.below {w w' : World} (h : Tab w) {n : Nat} (hn : 0 < n) (hg : Below n w w') : Tab w' := by
  have hc : ∀ o, w'.cell? ⟨0, o, none⟩ = w.cell? ⟨0, o, none⟩ := fun o => hg.cell hn
  exact ⟨(hc _).trans h.c0, (hc _).trans h.c1, (hc _).trans h.c2, (hc _).trans h.c3, (hc _).trans h.c4, (hc _).trans h.c5, (hc _).trans h.c6, (hc _).trans h.c7, (hc _).trans h.c8⟩
theorem ix0 (w : World) : (Instr.index 75 (.agg #[.int .u64 30, .int .u64 13787848793156543929, .int .u64 10871156337175269513, .int .u64 27, .int .u64 10723151780598845931, .int .u64 3573116690164977347, .int .u64 31, .int .u64 1, .int .u64 1]) (.int .i64 0)).run Tryd.prog w = .ok (.agg #[.int .u64 30, .int .u64 13787848793156543929, .int .u64 10871156337175269513]) w := by kernel_rfl
theorem ix1 (w : World) : (Instr.index 75 (.agg #[.int .u64 30, .int .u64 13787848793156543929, .int .u64 10871156337175269513, .int .u64 27, .int .u64 10723151780598845931, .int .u64 3573116690164977347, .int .u64 31, .int .u64 1, .int .u64 1]) (.int .i64 1)).run Tryd.prog w = .ok (.agg #[.int .u64 27, .int .u64 10723151780598845931, .int .u64 3573116690164977347]) w := by kernel_rfl
theorem ix2 (w : World) : (Instr.index 75 (.agg #[.int .u64 30, .int .u64 13787848793156543929, .int .u64 10871156337175269513, .int .u64 27, .int .u64 10723151780598845931, .int .u64 3573116690164977347, .int .u64 31, .int .u64 1, .int .u64 1]) (.int .i64 2)).run Tryd.prog w = .ok (.agg #[.int .u64 31, .int .u64 1, .int .u64 1]) w := by kernel_rfl

theorem xd_shift (x k : Nat) (hx : x < 18446744073709551616) : bits .xor .u64 (x : Int) ((x : Int) / ((2 ^ k : Nat) : Int)) = ((xd x k : Nat) : Int) :=
  xorShift_u64 x (2 ^ k) hx
theorem wrap_mul_nat (a b : Nat) : IntKind.u64.wrap ((a : Int) * (b : Int)) = ((tm a b : Nat) : Int) := by
  rw [IntKind.wrap_u64]; unfold tm; rw [Int.natCast_emod, Int.natCast_mul]; rfl
theorem wrap_nat (a : Nat) (ha : a < 18446744073709551616) : IntKind.u64.wrap (a : Int) = (a : Int) := by
  rw [IntKind.wrap_u64]; omega

/-- Nothing that was there has turned; new blocks may lie behind; draws were made. -/
def Gr (w w' : World) : Prop := Below w.heap.size w w' ∧ w.drawn ≤ w'.drawn
theorem Gr.refl (w : World) : Gr w w := ⟨Below.refl _ _, Nat.le_refl _⟩
theorem Gr.trans {a b c : World} (h : Gr a b) (k : Gr b c) : Gr a c := ⟨h.1.trans (k.1.mono h.1.size), Nat.le_trans h.2 k.2⟩
theorem Gr.drew {a b : World} (h : Gr a b) : Gr a b.drew := ⟨h.1.drew, Nat.le_trans h.2 (Nat.le_succ _)⟩
theorem Gr.alloc {a b : World} (h : Gr a b) (o : Obj) : Gr a (b.alloc o) := ⟨h.1.alloc h.1.size o, h.2⟩
theorem Gr.setCell {a b : World} (h : Gr a b) {p : Addr} (hp : a.heap.size ≤ p.block) (v : Value) : Gr a (b.setCell p v) := ⟨h.1.setCell hp v, h.2⟩
theorem Gr.grow {w w' : World} (h : Gr w w') : ∃ q os, w' = Sort.grow (w.drewN q) os := by
  obtain ⟨⟨h1, h2, h3, h4, h5⟩, h6⟩ := h
  refine ⟨w'.drawn - w.drawn, w'.heap.extract w.heap.size w'.heap.size, ?_⟩
  obtain ⟨hp, tp, dr, os, out⟩ := w'
  obtain ⟨hp0, tp0, dr0, os0, out0⟩ := w
  simp only at h1 h2 h3 h4 h5 h6
  subst h1 h2 h3
  have e1 : hp0 ++ hp.extract hp0.size hp.size = hp := by
    apply Array.ext_getElem?
    intro i
    rw [Array.getElem?_append]
    split
    · rename_i hi; exact (h5 i hi).symm
    · rename_i hi
      rw [Array.getElem?_extract]
      simp only [Nat.min_self]
      by_cases hlt : i < hp.size
      · rw [if_pos (by omega)]; congr 1; omega
      · rw [if_neg (by omega), Array.getElem?_eq_none (by omega)]
  have e2 : dr0 + (dr - dr0) = dr := by omega
  simp only [Sort.grow, World.drewN, e1, e2]

set_option maxHeartbeats 400000 in
theorem mix_any (x : Nat) (hx : x < 18446744073709551616) (w : World) (ht : Tab w) :
    Calls Tryd.prog 39 #[.int .u64 x] w fun e w' => e = .returned (.int .u64 (mixN x)) ∧ Gr w w' := by
  obtain ⟨h0, h1, h2, h3, h4, h5, h6, h7, h8⟩ := ht
  have i0 := ix0
  have i1 := ix1
  have i2 := ix2
  have hm : mixN x = xd (tm (xd (tm (xd x 30) 13787848793156543929) 27) 10723151780598845931) 31 := rfl
  have e1 : bits .xor .u64 (x : Int) ((x : Int) / 1073741824) = _ := xd_shift x 30 hx
  have l1 := xd_lt x 30 hx
  generalize xd x 30 = x1 at *
  have f1 : IntKind.u64.wrap ((x1 : Int) * 13787848793156543929) = _ := wrap_mul_nat x1 13787848793156543929
  have l2 := tm_lt x1 13787848793156543929
  generalize tm x1 13787848793156543929 = x2 at *
  have e2 : bits .xor .u64 (x2 : Int) ((x2 : Int) / 134217728) = _ := xd_shift x2 27 l2
  have l3 := xd_lt x2 27 l2
  generalize xd x2 27 = x3 at *
  have f2 : IntKind.u64.wrap ((x3 : Int) * 10723151780598845931) = _ := wrap_mul_nat x3 10723151780598845931
  have l4 := tm_lt x3 10723151780598845931
  generalize tm x3 10723151780598845931 = x4 at *
  have e3 : bits .xor .u64 (x4 : Int) ((x4 : Int) / 2147483648) = _ := xd_shift x4 31 l4
  have f3 := wrap_nat (xd x4 31) (xd_lt _ _ l4)
  rw [hm]; clear hm
  go_enter Tryd.func39, Tryd.ntmps39
  go_wp2
  go_rounds 4
  go_ret
  refine ⟨rfl, ?_⟩
  repeat (first | exact Gr.refl _ | refine Gr.drew ?_ | refine Gr.alloc ?_ _ | refine Gr.setCell ?_ (by simp <;> omega) _)

def bn (s : ByteArray) (k : Nat) : Nat := if h : k < s.size then (s[k]'h).toNat else 0
theorem get_bn (s : ByteArray) : ∀ (n : Nat) (h : n < s.size), ((s[n]'h).toNat : Int) = (bn s n : Int) := fun n h => by unfold bn; rw [dif_pos h]
theorem bn_lt (s : ByteArray) (k : Nat) : bn s k < 256 := by
  unfold bn; split
  · exact (s[k]).toNat_lt
  · omega
def ad (a b : Nat) : Nat := (a + b) % 18446744073709551616
theorem ad_lt (a b : Nat) : ad a b < 18446744073709551616 := Nat.mod_lt _ (by decide)
def txt (s : ByteArray) (x0 : Nat) : Nat → Nat
  | 0 => x0
  | k + 1 => mixN (xr (txt s x0 k) (bn s k))
def textN (s : ByteArray) (seed : Nat) : Nat := txt s (mixN (ad seed s.size)) s.size
theorem txt_lt (s : ByteArray) (x0 : Nat) (h : x0 < 18446744073709551616) : ∀ k, txt s x0 k < 18446744073709551616
  | 0 => h
  | _ + 1 => mixN_lt _
theorem textN_lt (s : ByteArray) (seed : Nat) : textN s seed < 18446744073709551616 := txt_lt _ _ (mixN_lt _) _

set_option maxHeartbeats 400000 in
theorem text_any (s : ByteArray) (seed : Nat) (hs : s.size ≤ 9223372036854775807) (w : World) (ht : Tab w) :
    Calls Tryd.prog 29 #[.string s, .int .u64 seed] w fun e w' => e = .returned (.int .u64 (textN s seed)) ∧ Below w.heap.size w w' := by
  have e1 : IntKind.u64.wrap ((seed : Int) + (s.size : Int)) = ((ad seed s.size : Nat) : Int) := add_u64 _ _
  have l1 := ad_lt seed s.size
  have hm : textN s seed = txt s (mixN (ad seed s.size)) s.size := rfl
  have lx := mixN_lt (ad seed s.size)
  have hc := mix_any (ad seed s.size) l1 w ht
  rw [hm]; clear hm
  generalize mixN (ad seed s.size) = x0 at *
  go_enter Tryd.func29, Tryd.ntmps29
  go_wp2_with fail
  go_call hc as e w1 ⟨rfl, g1, _⟩
  have hb := get_bn s
  go_wp2
  go_loopw [5, 15] (fun v i wr => ∃ k : Nat, k ≤ s.size ∧ i = .int .i64 k ∧ v = .int .u64 (txt s x0 k) ∧ Below w.heap.size w wr)
    (fun _ i _ => s.size - (intOf i).toNat)
  case atStart => exact ⟨0, Nat.zero_le _, rfl, rfl, g1⟩
  case round =>
    obtain ⟨k, hk, rfl, rfl, gr⟩ := hrel
    have q1 := txt_lt s x0 lx k
    have q2 := bn_lt s k
    have q3 := xr_bits (txt s x0 k) (bn s k) q1 (by omega)
    have q4 := xr_lt (txt s x0 k) (bn s k) q1 (by omega)
    go_wp2_with fail
    · have hlt : k < s.size := by assumption
      go_call (mix_any (xr (txt s x0 k) (bn s k)) q4 wr (ht.below ht.size gr)) as e w2 ⟨rfl, g2, _⟩
      go_wp2
      go_roundw
      case rel => exact ⟨k + 1, by omega, by go_num, rfl, gr.trans (g2.mono gr.size)⟩
      case measure => simp only [intOf]; omega
    · have hge : ¬ k < s.size := by assumption
      have hk2 : k = s.size := by omega
      go_ret
      exact ⟨by rw [← hk2]; rfl, gr⟩

def pairN (a b : Nat) : Nat := mixN (xr a (mixN b))
theorem pairN_lt (a b : Nat) : pairN a b < 18446744073709551616 := mixN_lt _
set_option maxHeartbeats 400000 in
theorem pair_any (a b : Nat) (ha : a < 18446744073709551616) (hb : b < 18446744073709551616) (w : World) (ht : Tab w) :
    Calls Tryd.prog 31 #[.int .u64 a, .int .u64 b] w fun e w' => e = .returned (.int .u64 (pairN a b)) ∧ Gr w w' := by
  have hc := mix_any b hb w ht
  have lx := mixN_lt b
  have e1 := xr_bits a (mixN b) ha lx
  have lm := xr_lt a (mixN b) ha lx
  have hm : pairN a b = mixN (xr a (mixN b)) := rfl
  rw [hm]; clear hm
  generalize mixN b = y at *
  go_enter Tryd.func31, Tryd.ntmps31
  go_wp2_with fail
  go_call hc as e w1 ⟨rfl, g1⟩
  have hc2 := mix_any (xr a y) lm w1 (ht.below ht.size g1.1)
  go_wp2_with fail
  go_call hc2 as e w2 ⟨rfl, g2⟩
  go_wp2
  go_ret
  exact ⟨rfl, g1.trans g2⟩

end Go.Proofs.YtbbapaphfijpcaaDoor
