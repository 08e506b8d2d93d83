/- What the document's own functions (halving, adding, mixing by bits) answer, as calls: for every number below 2^64 they return the plain functions' numbers and leave memory as it was. -/
import Derived.Test.YtbbapaphfijpcaaDoorB
import Derived.WalkKit
import Derived.Shelf.SlSortCmp.QuietGrown
import Derived.Shelf.SlSortCmp.QuietGrown
import Derived.WalkSpells
import Derived.WalkLawsBesides
import Derived.Handy
namespace Go.Proofs.YtbbapaphfijpcaaDoor
open Go.RowKit

theorem half_u64 (v : Nat) (hv : v < 18446744073709551616) : IntKind.u64.wrap ((v : Int) / 2) = ((v / 2 : Nat) : Int) := by
  rw [IntKind.wrap_u64]; omega
set_option maxHeartbeats 400000 in
theorem down_any (x n : Nat) (hx : x < 18446744073709551616) (hn : n < 64) (w : World) :
    Calls Tryd.prog 33 #[.int .u64 x, .int .i64 n] w fun e w' => e = .returned (.int .u64 (dn x n)) ∧ w' = w := by
  go_enter Tryd.func33, Tryd.ntmps33
  go_wp2
  go_loop [0, 5] (fun v i => ∃ k : Nat, k ≤ n ∧ i = .int .i64 k ∧ v = .int .u64 (dn x k))
    (fun _ i => n - (intOf i).toNat)
  case atStart => exact ⟨0, Nat.zero_le _, rfl, by rw [dn_zero]⟩
  case round =>
    obtain ⟨k, hk, rfl, rfl⟩ := hrel
    go_wp2
    · have hlt : k < n := by assumption
      go_round
      case rel => exact ⟨k + 1, by omega, by go_num, by rw [half_u64 _ (dn_lt _ _ hx), dn_succ]⟩
      case measure => simp only [intOf]; omega
    · have hge : ¬ k < n := by assumption
      obtain rfl : k = n := by omega
      go_ret
      exact ⟨rfl, rfl⟩

set_option maxHeartbeats 400000 in
theorem times_any (a b : Nat) (ha : a < 18446744073709551616) (hb : b < 18446744073709551616) (w : World) :
    Calls Tryd.prog 32 #[.int .u64 a, .int .u64 b] w fun e w' => e = .returned (.int .u64 (tm a b)) ∧ w' = w := by
  go_enter Tryd.func32, Tryd.ntmps32
  go_wp2
  go_loop [0, 1, 5, 6] (fun x y s i => ∃ k : Nat, k ≤ 64 ∧ i = .int .i64 k ∧ x = .int .u64 (ta a k) ∧ y = .int .u64 (dn b k) ∧ s = .int .u64 (ts a b k))
    (fun _ _ _ i => 64 - (intOf i).toNat)
  case atStart => exact ⟨0, Nat.zero_le _, rfl, by rw [ta_zero a ha], by rw [dn_zero], by rw [ts_zero]; rfl⟩
  case round =>
    obtain ⟨k, hk, rfl, rfl, rfl, rfl⟩ := hrel
    go_wp2
    · have hlt : (k : Int) < 64 := by assumption
      have hb1 : ((dn b k : Int) % 2 == 1) = true := by assumption
      have hb2 : dn b k % 2 = 1 := by have := beq_iff_eq.1 hb1; omega
      go_round
      case rel => exact ⟨k + 1, by omega, by go_num, by rw [add_u64, ta_succ], by rw [half_u64 _ (dn_lt _ _ hb), dn_succ], by rw [add_u64, ts_succ1 _ _ _ hb2]⟩
      case measure => simp only [intOf]; omega
    · have hlt : (k : Int) < 64 := by assumption
      have hb1 : ((dn b k : Int) % 2 == 1) = false := by assumption
      have hb2 : dn b k % 2 = 0 := by have := beq_eq_false_iff_ne.1 hb1; omega
      go_round
      case rel => exact ⟨k + 1, by omega, by go_num, by rw [add_u64, ta_succ], by rw [half_u64 _ (dn_lt _ _ hb), dn_succ], by rw [ts_succ0 _ _ _ hb2]⟩
      case measure => simp only [intOf]; omega
    · have hge : (64 : Int) ≤ k := by assumption
      obtain rfl : k = 64 := by omega
      go_ret
      exact ⟨by rw [ts_end a b hb]; rfl, rfl⟩

theorem times_c1 (a : Nat) (ha : a < 18446744073709551616) (w : World) :
    Calls Tryd.prog 32 #[.int .u64 a, .int .u64 13787848793156543929] w fun e w' => e = .returned (.int .u64 (tm a 13787848793156543929)) ∧ w' = w :=
  times_any a 13787848793156543929 ha (by decide) w
theorem times_c2 (a : Nat) (ha : a < 18446744073709551616) (w : World) :
    Calls Tryd.prog 32 #[.int .u64 a, .int .u64 10723151780598845931] w fun e w' => e = .returned (.int .u64 (tm a 10723151780598845931)) ∧ w' = w :=
  times_any a 10723151780598845931 ha (by decide) w
theorem down_30 (x : Nat) (hx : x < 18446744073709551616) (w : World) :
    Calls Tryd.prog 33 #[.int .u64 x, .int .i64 30] w fun e w' => e = .returned (.int .u64 (dn x 30)) ∧ w' = w := down_any x 30 hx (by decide) w
theorem down_27 (x : Nat) (hx : x < 18446744073709551616) (w : World) :
    Calls Tryd.prog 33 #[.int .u64 x, .int .i64 27] w fun e w' => e = .returned (.int .u64 (dn x 27)) ∧ w' = w := down_any x 27 hx (by decide) w
theorem down_31 (x : Nat) (hx : x < 18446744073709551616) (w : World) :
    Calls Tryd.prog 33 #[.int .u64 x, .int .i64 31] w fun e w' => e = .returned (.int .u64 (dn x 31)) ∧ w' = w := down_any x 31 hx (by decide) w

theorem xd_bits (x k : Nat) (hx : x < 18446744073709551616) : bits .xor .u64 (x : Int) (dn x k : Int) = ((xd x k : Nat) : Int) := xr_bits x (dn x k) hx (dn_lt _ _ hx)

set_option maxHeartbeats 400000 in
theorem refMix_any (x : Nat) (hx : x < 18446744073709551616) (w : World) :
    Calls Tryd.prog 20 #[.int .u64 x] w fun e w' => e = .returned (.int .u64 (mixN x)) ∧ w' = w := by
  have hm : mixN x = xd (tm (xd (tm (xd x 30) 13787848793156543929) 27) 10723151780598845931) 31 := rfl
  have e1 := xd_bits x 30 hx
  have l1 := xd_lt x 30 hx
  generalize xd x 30 = x1 at *
  have l2 := tm_lt x1 13787848793156543929
  generalize hx2 : tm x1 13787848793156543929 = x2 at *
  have e2 := xd_bits x2 27 l2
  have l3 := xd_lt x2 27 l2
  generalize xd x2 27 = x3 at *
  have l4 := tm_lt x3 10723151780598845931
  generalize hx4 : tm x3 10723151780598845931 = x4 at *
  have e3 := xd_bits x4 31 l4
  rw [hm]; clear hm
  go_enter Tryd.func20, Tryd.ntmps20
  go_wp2_with fail
  go_call (down_30 x hx) as e w1 ⟨rfl, rfl⟩
  go_wp2_with fail
  go_call (times_c1 x1 l1) as e w1 ⟨rfl, rfl⟩
  go_wp2_with fail
  go_call (down_27 x2 l2) as e w1 ⟨rfl, rfl⟩
  go_wp2_with fail
  go_call (times_c2 x3 l3) as e w1 ⟨rfl, rfl⟩
  go_wp2_with fail
  go_call (down_31 x4 l4) as e w1 ⟨rfl, rfl⟩
  go_wp2
  go_ret
  exact ⟨rfl, rfl⟩
set_option maxHeartbeats 400000 in
theorem refText_any (s : ByteArray) (seed : Nat) (hs : s.size ≤ 9223372036854775807) (w : World) :
    Calls Tryd.prog 21 #[.string s, .int .u64 seed] w fun e w' => e = .returned (.int .u64 (textN s seed)) ∧ w' = w := by
  have e1 : IntKind.u64.wrap ((seed : Int) + (s.size : Int)) = ((ad seed s.size : Nat) : Int) := add_u64 _ _
  have l1 := ad_lt seed s.size
  have hm : textN s seed = txt s (mixN (ad seed s.size)) s.size := rfl
  have lx := mixN_lt (ad seed s.size)
  have hc := refMix_any (ad seed s.size) l1 w
  rw [hm]; clear hm
  generalize mixN (ad seed s.size) = x0 at *
  go_enter Tryd.func21, Tryd.ntmps21
  go_wp2_with fail
  go_call hc as e w1 ⟨rfl, rfl⟩
  have hb := get_bn s
  go_wp2
  go_loop [5, 6] (fun v i => ∃ k : Nat, k ≤ s.size ∧ i = .int .i64 k ∧ v = .int .u64 (txt s x0 k))
    (fun _ i => s.size - (intOf i).toNat)
  case atStart => exact ⟨0, Nat.zero_le _, rfl, rfl⟩
  case round =>
    obtain ⟨k, hk, rfl, rfl⟩ := hrel
    have q1 := txt_lt s x0 lx k
    have q2 := bn_lt s k
    have q3 := xr_bits (txt s x0 k) (bn s k) q1 (by omega)
    have q4 := xr_lt (txt s x0 k) (bn s k) q1 (by omega)
    go_wp2_with fail
    · have hlt : k < s.size := by assumption
      go_call (refMix_any (xr (txt s x0 k) (bn s k)) q4 w1) as e w2 ⟨rfl, rfl⟩
      go_wp2
      go_round
      case rel => exact ⟨k + 1, by omega, by go_num, rfl⟩
      case measure => simp only [intOf]; omega
    · have hge : ¬ k < s.size := by assumption
      have hk2 : k = s.size := by omega
      go_ret
      exact ⟨by rw [← hk2]; rfl, rfl⟩

theorem extract_all (s : ByteArray) (n : Nat) (h : s.size ≤ n) : s.extract 0 n = s := by
  apply ByteArray.ext
  rw [ByteArray.data_extract, Array.extract_eq_self_of_le h]

set_option maxHeartbeats 400000 in
theorem cut_any (s : ByteArray) (n : Nat) (_hs : s.size ≤ 9223372036854775807) (hn : n ≤ 1000) (w : World) :
    Calls Tryd.prog 8 #[.string s, .int .i64 n] w fun e w' => e = .returned (.string (s.extract 0 n)) ∧ w' = w := by
  go_enter Tryd.func8, Tryd.ntmps8
  go_wp2
  · go_ret
    exact ⟨rfl, rfl⟩
  · have hge : ¬ n < s.size := by assumption
    go_ret
    refine ⟨?_, rfl⟩
    rw [extract_all s n (by omega)]
    rfl
theorem pair_left (x y : Nat) (hx : x < 18446744073709551616) (hy : y < 18446744073709551616) (b : Nat) (h : pairN x b = pairN y b) : x = y := by
  have h1 := mix_inj _ _ (xr_lt _ _ hx (mixN_lt b)) (xr_lt _ _ hy (mixN_lt b)) h
  have h2 : xr (xr x (mixN b)) (mixN b) = xr (xr y (mixN b)) (mixN b) := by rw [h1]
  rwa [xr_assoc, xr_assoc, xr_self, xr_zero, xr_zero] at h2
theorem pair_right (x y : Nat) (hx : x < 18446744073709551616) (hy : y < 18446744073709551616) (a : Nat) (ha : a < 18446744073709551616) (h : pairN a x = pairN a y) : x = y := by
  have h1 := mix_inj _ _ (xr_lt _ _ ha (mixN_lt x)) (xr_lt _ _ ha (mixN_lt y)) h
  have h2 : xr a (xr a (mixN x)) = xr a (xr a (mixN y)) := by rw [h1]
  rw [← xr_assoc, ← xr_assoc, xr_self, zero_xr, zero_xr] at h2
  exact mix_inj _ _ hx hy h2

/-- What a key's device weighs. -/
def wt (k : ByteArray) (s : Int) : Nat := pairN (textN k 0) (s % 18446744073709551616).toNat
theorem wt_lt (k : ByteArray) (s : Int) : wt k s < 18446744073709551616 := pairN_lt _ _
theorem wt_inj {k : ByteArray} {a b : Int} (ha : 0 ≤ a ∧ a ≤ 1000) (hb : 0 ≤ b ∧ b ≤ 1000) (h : wt k a = wt k b) : a = b := by
  have := pair_right _ _ (by omega) (by omega) (textN k 0) (textN_lt _ _) h
  omega
set_option maxHeartbeats 400000 in
theorem refWeight_any (k : ByteArray) (hk : k.size ≤ 9223372036854775807) (s : Int) (hs : 0 ≤ s ∧ s ≤ 1000) (w : World) :
    Calls Tryd.prog 14 #[.string k, .int .i64 s] w fun e w' => e = .returned (.int .u64 (wt k s)) ∧ w' = w := by
  have h1 := refText_any k 0 hk w
  obtain ⟨n, rfl⟩ : ∃ n : Nat, s = (n : Int) := ⟨s.toNat, by omega⟩
  have hn : n < 18446744073709551616 := by omega
  have hw := wrap_nat n hn
  have h2 := refMix_any n hn w
  have lx := mixN_lt n
  have lt := textN_lt k 0
  have e1 := xr_bits (textN k 0) (mixN n) lt lx
  have h3 := refMix_any (xr (textN k 0) (mixN n)) (xr_lt _ _ lt lx) w
  have hm : wt k (n : Int) = mixN (xr (textN k 0) (mixN n)) := by unfold wt pairN; rw [show ((n : Int) % 18446744073709551616).toNat = n by omega]
  rw [hm]; clear hm
  generalize textN k 0 = t at *
  generalize mixN n = y at *
  go_enter Tryd.func14, Tryd.ntmps14
  go_wp2_with fail
  go_call h1 as e w1 ⟨rfl, rfl⟩
  go_wp2_with fail
  go_call h2 as e w1 ⟨rfl, rfl⟩
  go_wp2_with fail
  go_call h3 as e w1 ⟨rfl, rfl⟩
  go_wp2
  go_ret
  exact ⟨rfl, rfl⟩
set_option maxHeartbeats 400000 in
/-- weighing's closure: its key's number lies in a box of its own. -/
theorem clos30 (k : ByteArray) (s : Int) (X : Nat) (w : World) (ht : Tab w) (hX : w.cell? ⟨X, 0, none⟩ = some (.int .u64 (textN k 0 : Nat))) :
    Calls Tryd.prog 30 #[.int .i64 s, .pointer (some ⟨X, 0, none⟩)] w fun e w' => e = .returned (.int .u64 (wt k s)) ∧ Gr w w' := by
  obtain ⟨n, hn0⟩ : ∃ n : Nat, (s % 18446744073709551616).toNat = n := ⟨_, rfl⟩
  have hn : n < 18446744073709551616 := by omega
  have hw : IntKind.u64.wrap s = (n : Int) := by rw [IntKind.wrap_u64]; omega
  have h3 := pair_any (textN k 0) n (textN_lt _ _) hn w ht
  have hm : wt k s = pairN (textN k 0) n := by unfold wt; rw [hn0]
  rw [hm]; clear hm hn0
  generalize textN k 0 = t at *
  go_enter Tryd.func30, Tryd.ntmps30
  go_wp2_with fail
  go_call h3 as e w1 ⟨rfl, g⟩
  go_wp2
  go_ret
  exact ⟨rfl, g⟩
theorem cell_of {w : World} {b : Nat} {c : Array Value} {t : TypeId} (h : w.heap[b]? = some (.cells c t)) (k : Nat) : w.cell? ⟨b, k, none⟩ = c[k]? := by
  simp [World.cell?, h]
theorem frz_of {w : World} {b : Nat} {c : Array Value} {t : TypeId} (h : w.heap[b]? = some (.cells c t)) (k : Nat) : w.frozen? ⟨b, k, none⟩ = false := by
  simp [World.frozen?, h]
theorem getElem?_lt {w : World} {j : Nat} {o : Obj} (e : w.heap[j]? = some o) : j < w.heap.size := (Array.getElem?_eq_some_iff.1 e).1
theorem heap_new (w : World) (o : Obj) : (w.alloc o).heap[w.heap.size]? = some o := by
  show (w.heap.push _)[w.heap.size]? = _
  rw [Array.getElem?_push, if_pos rfl]
theorem Gr.of (w : World) (n : Nat) (os : Array Obj) : Gr w (Sort.grow (w.drewN n) os) := by
  refine ⟨⟨rfl, rfl, rfl, ?_, fun k hk => ?_⟩, Nat.le_add_right _ _⟩
  · show w.heap.size ≤ (w.heap ++ os).size
    simp
  · show (w.heap ++ os)[k]? = _
    rw [Array.getElem?_append_left hk]
/-- A key's weighing: a closure over a box that has the key's number. -/
def Wg (k : ByteArray) (v : Value) (X : Nat) (w : World) : Prop := v = .func (.func 30) #[] #[.pointer (some ⟨X, 0, none⟩)] ∧ w.heap[X]? = some (.cells #[.int .u64 (textN k 0 : Nat)] 28)
set_option maxHeartbeats 400000 in
theorem weighing19 (k : ByteArray) (hk : k.size ≤ 9223372036854775807) (w : World) (ht : Tab w) :
    Calls Tryd.prog 19 #[.string k] w fun e w' => ∃ v X, e = .returned v ∧ Wg k v X w' ∧ w.heap.size ≤ X ∧ Below w.heap.size w w' := by
  have h1 := text_any k 0 hk w ht
  go_enter Tryd.func19, Tryd.ntmps19
  go_wp2_with fail
  go_call h1 as e w1 ⟨rfl, g⟩
  have hz := g.size
  go_wp2
  go_ret
  exact ⟨_, w1.heap.size, rfl, ⟨rfl, heap_new _ _⟩, hz, g.alloc hz _⟩
set_option maxHeartbeats 400000 in
/-- Weight: what a device weighs. -/
theorem weight13 (k : ByteArray) (hk : k.size ≤ 9223372036854775807) (s : Int) (w : World) (ht : Tab w) :
    Calls Tryd.prog 13 #[.string k, .int .i64 s] w fun e w' => e = .returned (.int .u64 (wt k s)) ∧ Below w.heap.size w w' := by
  have h1 := weighing19 k hk w ht
  go_enter Tryd.func13, Tryd.ntmps13
  go_wp2_with fail
  go_call h1 as e w1 ⟨v, X, rfl, ⟨rfl, hX⟩, hz, g⟩
  have h2 := clos30 k s X w1 (ht.below ht.size g) (cell_of hX 0)
  go_wp2_with fail
  go_call h2 as e w2 ⟨rfl, g2⟩
  go_wp2
  go_ret
  exact ⟨rfl, g.trans (g2.1.mono g.size)⟩
theorem nan38 (x : Nat) (w : World) : Calls Tryd.prog 38 #[.int .u64 x] w fun e w' => e = .returned (.bool false) ∧ w' = w := by
  go_enter Tryd.func38, Tryd.ntmps38
  go_wp2
  go_ret
  exact ⟨by simp, rfl⟩
/-- a against b, as cmp.Compare has it. -/
def cmpN (a b : Nat) : Int := if a < b then -1 else if b < a then 1 else 0
set_option maxHeartbeats 400000 in
theorem compare28 (a b : Nat) (w : World) : Calls Tryd.prog 28 #[.int .u64 a, .int .u64 b] w fun e w' => e = .returned (.int .i64 (cmpN a b)) ∧ w' = w := by
  have h1 := nan38 a w
  have h2 := nan38 b w
  unfold cmpN
  rcases Nat.lt_trichotomy a b with h | h | h
  · rw [if_pos h]
    go_enter Tryd.func28, Tryd.ntmps28
    go_wp2_with fail
    go_call h1 as e w1 ⟨rfl, rfl⟩
    go_wp2_with fail
    go_call h2 as e w1 ⟨rfl, rfl⟩
    go_wp2
    go_ret
    exact ⟨rfl, rfl⟩
  · subst h
    rw [if_neg (Nat.lt_irrefl _)]
    go_enter Tryd.func28, Tryd.ntmps28
    go_wp2_with fail
    go_call h1 as e w1 ⟨rfl, rfl⟩
    go_wp2_with fail
    go_call h2 as e w1 ⟨rfl, rfl⟩
    go_wp2
    go_ret
    exact ⟨rfl, rfl⟩
  · rw [if_neg (by omega), if_pos h]
    go_enter Tryd.func28, Tryd.ntmps28
    go_wp2_with fail
    go_call h1 as e w1 ⟨rfl, rfl⟩
    go_wp2_with fail
    go_call h2 as e w1 ⟨rfl, rfl⟩
    go_wp2
    go_ret
    exact ⟨rfl, rfl⟩
set_option maxHeartbeats 400000 in
/-- sorted's closure: the weights of two devices, the greater one first. -/
theorem clos27 (k : ByteArray) (x y : Int) (V X : Nat) (v : Value) (w : World) (ht : Tab w) (hw : Wg k v X w) (hV : w.heap[V]? = some (.cells #[v] 41)) :
    Calls Tryd.prog 27 #[.int .i64 x, .int .i64 y, .pointer (some ⟨V, 0, none⟩)] w fun e w' => e = .returned (.int .i64 (cmpN (wt k y) (wt k x))) ∧ Gr w w' := by
  obtain ⟨rfl, hX⟩ := hw
  have mixed : Tryd.prog.follows .mixedOrders = true := by kernel_rfl
  have cV : ∀ n os, (Sort.grow (w.drewN n) os).cell? ⟨V, 0, none⟩ = some (.func (.func 30) #[] #[.pointer (some ⟨X, 0, none⟩)]) := fun n os => ((Gr.of w n os).1.cell (getElem?_lt hV)).trans (cell_of hV 0)
  have h1 : ∀ (s : Int) n os, Calls Tryd.prog 30 #[.int .i64 s, .pointer (some ⟨X, 0, none⟩)] (Sort.grow (w.drewN n) os) fun e w' => e = .returned (.int .u64 (wt k s)) ∧ ∃ q os', w' = Sort.grow ((Sort.grow (w.drewN n) os).drewN q) os' := fun s n os =>
    (clos30 k s X _ (ht.below ht.size (Gr.of w n os).1) (((Gr.of w n os).1.cell (getElem?_lt hX)).trans (cell_of hX 0))).mono fun e w' ⟨a, b⟩ => ⟨a, b.grow⟩
  have h3 : ∀ (a b : Nat) n os, Calls Tryd.prog 28 #[.int .u64 a, .int .u64 b] (Sort.grow (w.drewN n) os) fun e w' => e = .returned (.int .i64 (cmpN a b)) ∧ ∃ q os', w' = Sort.grow ((Sort.grow (w.drewN n) os).drewN q) os' := fun a b n os =>
    (compare28 a b _).mono fun e w' ⟨h, hw⟩ => ⟨h, by subst hw; exact (Gr.refl _).grow⟩
  clear ht hX hV
  go_enter Tryd.func27, Tryd.ntmps27
  go_wp2_with fail
  go_quiet_grown (first | refine Calls.grown_of (h1 _ _ _) | refine Calls.grown_of (h3 _ _ _ _))
  go_wp2
  go_ret
  exact ⟨rfl, Gr.of _ _ _⟩
end Go.Proofs.YtbbapaphfijpcaaDoor
