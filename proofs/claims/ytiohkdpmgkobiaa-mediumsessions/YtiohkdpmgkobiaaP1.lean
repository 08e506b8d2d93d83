/- Where a sector stands among those that are loose, as a call. -/
import Derived.Test.YtiohkdpmgkobiaaM
import Derived.Deep.MidRow
namespace Go.Proofs.Ytiohkdpmgkobiaa
open Go.RowKit
theorem ent108 (args : Array Value) (W : World) : (callFunc 108 args).run Try.prog W = .ok (.enter 108 args) W := enter_of Try.func108 (by kernel_rfl) (by kernel_rfl) args W
theorem size149 : (Try.prog.info? 149).map (·.size) = some 65 := by kernel_rfl
theorem size147 : (Try.prog.info? 147).map (·.size) = some 64 := by kernel_rfl
theorem pless_any (c : List Value) (a t : Int) (hc : c[0]? = some (.int .i64 a)) (w : World) :
    Calls Try.prog 108 #[.agg c.toArray, .int .i64 t] w fun e w' => e = .returned (.int .i64 (sg a t)) ∧ Below w.heap.size w w' := by
  have h0 : (w.alloc (.cells c.toArray 149)).cell? ⟨w.heap.size, 0, none⟩ = some (.int .i64 a) := by
    rw [cell_of (heap_new _ _) 0]; simpa using hc
  have HB : Hid (Below w.heap.size w (w.alloc (.cells c.toArray 149))) := Below.alloc (Below.refl _ _) (Nat.le_refl _) _
  generalize hA : c.toArray = A at *
  go_enter Try.func108, Try.ntmps108
  go_wp2_with fail
  go_call (cmp_any a t _) as e w1 ⟨rfl, rfl⟩
  go_wp2
  go_returns
  exact ⟨rfl, HB.out⟩
theorem psearch_nil (t : Int) (w : World) :
    Calls Try.prog 107 #[.slice none 0 0, .int .i64 t, .func (.func 108) #[] #[]] w fun e w' => e = .returned (.tuple #[.int .i64 0, .bool false]) ∧ w' = w := by
  go_enter Try.func107, Try.ntmps107
  go_wp2
  go_loop [9, 10] (fun lo hi => lo = .int .i64 0 ∧ hi = .int .i64 0) (fun _ _ => 0)
  case atStart => exact ⟨rfl, rfl⟩
  case round =>
    obtain ⟨rfl, rfl⟩ := hrel
    go_wp2
    go_returns
    exact ⟨rfl, rfl⟩
/-- The loose ones in memory: places and whole. -/
structure Pasts (w : World) (g n : Nat) (ss : Nat → Int) (el : Nat → List Value) : Prop where
  len : ∀ j, j < n → (el j).length = 65
  at0 : ∀ j, j < n → (el j)[0]? = some (.int .i64 (ss j))
  lies : ∀ j, j < n → w.rangeAt g (j * 65) (el j)
  lt : g < w.heap.size
theorem Pasts.below {w w' : World} {g n : Nat} {ss : Nat → Int} {el : Nat → List Value} (h : Pasts w g n ss el) (hb : Below w.heap.size w w') : Pasts w' g n ss el :=
  ⟨h.len, h.at0, fun j hj k v e => by rw [hb.cell (by exact h.lt)]; exact h.lies j hj k v e, Nat.lt_of_lt_of_le h.lt hb.size⟩
theorem Pasts.load {w : World} {g n : Nat} {ss : Nat → Int} {el : Nat → List Value} (h : Pasts w g n ss el) (m : Nat) (hm : m < n) : (Instr.loadAt 149 (.pointer (some ⟨g, m * 65, none⟩))).run Try.prog w = .ok (.agg (el m).toArray) w :=
  run_loadAt_mid w g (m * 65) 149 (el m) _ (h.lies m hm) Try.underlying149 rfl (by rw [size149, h.len m hm])
set_option maxRecDepth 100000 in
theorem psearch_end (g cap n : Nat) (ss : Nat → Int) (el : Nat → List Value) (t : Int) (hn : n ≤ 5000) (w : World) (hP : Pasts w g n ss el) (h1 : ∀ j, j < n → ss j < t) :
    Calls Try.prog 107 #[.slice (some ⟨g, 0, none⟩) n cap, .int .i64 t, .func (.func 108) #[] #[]] w fun e w' => e = .returned (.tuple #[.int .i64 (n : Nat), .bool false]) ∧ Below w.heap.size w w' := by
  have HP : Hid (Pasts w g n ss el) := hP
  have HB : Hid (Below w.heap.size w w) := Below.refl _ _
  have H1 : Hid (∀ j, j < n → ss j < t) := h1
  clear hP h1
  go_enter Try.func107, Try.ntmps107
  go_wp2
  go_loopw [9, 10] (fun lo hi wr => ∃ a b : Nat, lo = .int .i64 (a : Nat) ∧ hi = .int .i64 (b : Nat) ∧ a ≤ n ∧ b = n ∧ Hid (Below w.heap.size w wr)) (fun lo hi _ => (intOf hi).toNat - (intOf lo).toNat)
  case atStart => exact ⟨0, n, rfl, rfl, by omega, rfl, HB⟩
  case round =>
    obtain ⟨a, b, rfl, rfl, ha, hbn, hbl⟩ := hrel
    subst hbn
    clear HB
    have HPr : Hid (Pasts wr g b ss el) := HP.out.below hbl.out
    have hent := ent108
    by_cases hab : a < b
    · obtain ⟨m, hm⟩ : ∃ m, m = (a + b) / 2 := ⟨_, rfl⟩
      have hmn : m < b := by omega
      have hma : a ≤ m := by omega
      have hmb : m < b := by omega
      have hlr := HPr.out.lies m hmn
      have hl65 : (Try.prog.info? 149).map (·.size) = some (el m).length := by rw [size149, HPr.out.len m hmn]
      have hl := pless_any (el m) (ss m) t (HPr.out.at0 m hmn) wr
      have hmz : ((a : Int) + (b : Int)) / 2 = (m : Int) := by omega
      obtain ⟨x, hx⟩ : ∃ x, x = sg (ss m) t := ⟨_, rfl⟩
      rw [← hx] at hl
      have hs : x < 0 := by have := H1.out m hmn; rw [hx]; unfold sg; rw [if_pos this]; decide
      clear hm hx
      go_wp2_with (refine wpList_load_mid rfl 149 _ rfl g (m * 65) rfl (el m) _ hlr Try.underlying149 rfl hl65 ?_)
      go_call hl as e w2 ⟨rfl, hb2⟩
      have HB2 : Hid (Below w.heap.size w w2) := hbl.out.trans (hb2.mono hbl.out.size)
      clear hl hb2 hlr
      go_wp2
      go_roundw
      case rel => exact ⟨m + 1, b, rfl, rfl, by omega, rfl, HB2⟩
      case measure => simp only [intOf]; omega
    · obtain rfl : a = b := by omega
      go_wp2
      go_returns
      exact ⟨rfl, hbl.out⟩
end Go.Proofs.Ytiohkdpmgkobiaa
