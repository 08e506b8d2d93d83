/- Contracts on roster: where a member stands among members, as calls. -/
import Derived.Test.YtknmipbjkkeebaaRows
import Derived.WalkKit
import Derived.WalkSpells
import Derived.WalkLawsBesides
import Derived.Handy
import Derived.Deep.MidRow
import Derived.Laws.MakeOwn
import Derived.Laws.OwnMore
namespace Go.Proofs.Ytknmipbjkkeebaa
open Go.RowKit

def sg (x y : Int) : Int := if x < y then -1 else if x > y then 1 else 0
theorem nan_any (x : Int) (w : World) : Calls Try.prog 108 #[.int .i64 x] w fun e w' => e = .returned (.bool false) ∧ w' = w := by
  go_enter Try.func108, Try.ntmps108
  go_wp2
  go_returns
  exact ⟨rfl, rfl⟩
theorem cmp_any (x y : Int) (w : World) : Calls Try.prog 89 #[.int .i64 x, .int .i64 y] w fun e w' => e = .returned (.int .i64 (sg x y)) ∧ w' = w := by
  go_enter Try.func89, Try.ntmps89
  go_wp2_with fail
  go_call (nan_any x w) as e w1 ⟨rfl, rfl⟩
  go_wp2_with fail
  go_call (nan_any y w1) as e w2 ⟨rfl, rfl⟩
  by_cases h1 : x < y
  · go_wp2
    go_returns
    exact ⟨by simp [sg, h1], rfl⟩
  · by_cases h2 : y < x
    · go_wp2
      go_returns
      exact ⟨by simp [sg, h1, h2], rfl⟩
    · go_wp2
      go_returns
      exact ⟨by unfold sg; rw [if_neg (by omega), if_neg (by omega)]; rfl, rfl⟩
theorem enter_of {f : FuncId} {fn : Func} (hf : Try.prog.funcs[f]? = some fn) (hname : (fn.name == "runtime.NumGoroutine") = false) (hb : fn.body.isNone = false) (args : Array Value) (W : World) : (callFunc f args).run Try.prog W = .ok (.enter f args) W := by
  have h1 : fn.name ≠ "runtime.NumGoroutine" := by simpa using hname
  simp [callFunc, hf, h1]
  intro h; rw [h] at hb; cases hb
theorem cell_of {w : World} {b : Nat} {c : Array Value} {t : TypeId} (h : w.heap[b]? = some (.cells c t)) (k : Nat) : w.cell? ⟨b, k, none⟩ = c[k]? := by
  simp only [World.cell?, h]; rfl
theorem frz_of {w : World} {b : Nat} {c : Array Value} {t : TypeId} (h : w.heap[b]? = some (.cells c t)) (k : Nat) : w.frozen? ⟨b, k, none⟩ = false := by
  simp only [World.frozen?, h]; simp
theorem getElem?_lt {w : World} {j : Nat} {o : Obj} (e : w.heap[j]? = some o) : j < w.heap.size := (Array.getElem?_eq_some_iff.1 e).1
theorem heap_new (w : World) (o : Obj) : (w.alloc o).heap[w.heap.size]? = some o := by
  show (w.heap.push _)[w.heap.size]? = _
  rw [Array.getElem?_push, if_pos rfl]
theorem block_set {w : World} {g i : Nat} {cs : Array Value} {t : TypeId} (h : w.heap[g]? = some (.cells cs t)) (v : Value) : (w.setCell ⟨g, i, none⟩ v).heap[g]? = some (.cells (cs.setIfInBounds i v) t) := by
  simp [World.setCell, Array.getElem?_modify, h]
theorem ent102 (args : Array Value) (W : World) : (callFunc 102 args).run Try.prog W = .ok (.enter 102 args) W := enter_of Try.func102 (by kernel_rfl) (by kernel_rfl) args W
theorem size85 : (Try.prog.info? 85).map (·.size) = some 3 := by kernel_rfl
theorem mless_any (c : List Value) (a t : Int) (hc : c[0]? = some (.int .i64 a)) (w : World) :
    Calls Try.prog 102 #[.agg c.toArray, .int .i64 t] w fun e w' => e = .returned (.int .i64 (sg a t)) ∧ Below w.heap.size w w' := by
  have h0 : (w.alloc (.cells c.toArray 85)).cell? ⟨w.heap.size, 0, none⟩ = some (.int .i64 a) := by
    rw [cell_of (heap_new _ _) 0]; simpa using hc
  have HB : Hid (Below w.heap.size w (w.alloc (.cells c.toArray 85))) := Below.alloc (Below.refl _ _) (Nat.le_refl _) _
  generalize hA : c.toArray = A at *
  go_enter Try.func102, Try.ntmps102
  go_wp2_with fail
  go_call (cmp_any a t _) as e w1 ⟨rfl, rfl⟩
  go_wp2
  go_returns
  exact ⟨rfl, HB.out⟩
theorem msearch_nil (t : Int) (w : World) :
    Calls Try.prog 101 #[.slice none 0 0, .int .i64 t, .func (.func 102) #[] #[]] w fun e w' => e = .returned (.tuple #[.int .i64 0, .bool false]) ∧ w' = w := by
  go_enter Try.func101, Try.ntmps101
  go_wp2
  go_loop [9, 10] (fun lo hi => lo = .int .i64 0 ∧ hi = .int .i64 0) (fun _ _ => 0)
  case atStart => exact ⟨rfl, rfl⟩
  case round =>
    obtain ⟨rfl, rfl⟩ := hrel
    go_wp2
    go_returns
    exact ⟨rfl, rfl⟩
/-- The members in memory: places and whole. -/
structure Mems (w : World) (g n : Nat) (ss : Nat → Int) (el : Nat → List Value) : Prop where
  len : ∀ j, j < n → (el j).length = 3
  at0 : ∀ j, j < n → (el j)[0]? = some (.int .i64 (ss j))
  lies : ∀ j, j < n → w.rangeAt g (j * 3) (el j)
  lt : g < w.heap.size
theorem Mems.below {w w' : World} {g n : Nat} {ss : Nat → Int} {el : Nat → List Value} (h : Mems w g n ss el) (hb : Below w.heap.size w w') : Mems w' g n ss el :=
  ⟨h.len, h.at0, fun j hj k v e => by rw [hb.cell (by exact h.lt)]; exact h.lies j hj k v e, Nat.lt_of_lt_of_le h.lt hb.size⟩
theorem wpList_load_guard {P : Program} {ops : Array Oper} {rest : List Oper} {op : Oper} {a : Act} {w : World} {Q : Exit → Act → World → Prop} (hw : Region.wanted op (yielded ops a.tmps) = true) (ty : TypeId) (x : Operand) (ho : op.op = .load ty x)
    (b o : Nat) (hx : a.eval x = .pointer (some ⟨b, o, none⟩)) (cs : List Value) (d : TypeDesc) (hc : w.rangeAt b o cs)
    (hu : P.underlying ty = some d) (hd : d.isRow = true) (hi : (P.info? ty).map (·.size) = some cs.length)
    (h : wpList P ops Q rest (a.put op.dst (.agg cs.toArray)) w) : wpList P ops Q (op :: rest) a w :=
  wpList_step fun K hK => by
    rw [if_pos hw]
    exact wp_load_mid ty x ho b o hx cs d hc hu hd hi (hK _ _ h)
set_option maxRecDepth 100000 in
theorem msearch_any (g cap n : Nat) (ss : Nat → Int) (el : Nat → List Value) (t : Int) (i : Nat) (hi : i ≤ n) (hn : n ≤ 5000) (w : World) (hP : Mems w g n ss el) (h1 : ∀ j, j < i → ss j < t) (h2 : ∀ j, i ≤ j → j < n → t ≤ ss j) :
    Calls Try.prog 101 #[.slice (some ⟨g, 0, none⟩) n cap, .int .i64 t, .func (.func 102) #[] #[]] w fun e w' => e = .returned (.tuple #[.int .i64 (i : Nat), .bool (decide (i < n ∧ ss i = t))]) ∧ Below w.heap.size w w' := by
  have HP : Hid (Mems w g n ss el) := hP
  have HB : Hid (Below w.heap.size w w) := Below.refl _ _
  have H1 : Hid (∀ j, j < i → ss j < t) := h1
  have H2 : Hid (∀ j, i ≤ j → j < n → t ≤ ss j) := h2
  obtain ⟨r, hr⟩ : ∃ r, r = decide (i < n ∧ ss i = t) := ⟨_, rfl⟩
  rw [← hr]
  have HR : Hid _ := hr
  clear hP h1 h2 hr
  go_enter Try.func101, Try.ntmps101
  go_wp2
  go_loopw [9, 10] (fun lo hi wr => ∃ a b : Nat, lo = .int .i64 (a : Nat) ∧ hi = .int .i64 (b : Nat) ∧ a ≤ i ∧ i ≤ b ∧ b ≤ n ∧ Hid (Below w.heap.size w wr)) (fun lo hi _ => (intOf hi).toNat - (intOf lo).toNat)
  case atStart => exact ⟨0, n, rfl, rfl, by omega, hi, Nat.le_refl _, HB⟩
  case round =>
    obtain ⟨a, b, rfl, rfl, ha, hib, hbn, hbl⟩ := hrel
    clear HB
    have HPr : Hid (Mems wr g n ss el) := HP.out.below hbl.out
    have hent := ent102
    by_cases hab : a < b
    · obtain ⟨m, hm⟩ : ∃ m, m = (a + b) / 2 := ⟨_, rfl⟩
      have hmn : m < n := by omega
      have hma : a ≤ m := by omega
      have hmb : m < b := by omega
      have hlr := HPr.out.lies m hmn
      have hl3 : (Try.prog.info? 85).map (·.size) = some (el m).length := by rw [size85, HPr.out.len m hmn]
      have hl := mless_any (el m) (ss m) t (HPr.out.at0 m hmn) wr
      have hmz : ((a : Int) + (b : Int)) / 2 = (m : Int) := by omega
      obtain ⟨x, hx⟩ : ∃ x, x = sg (ss m) t := ⟨_, rfl⟩
      rw [← hx] at hl
      clear hm
      by_cases hmi : m < i
      · have hs : x < 0 := by have := H1.out m hmi; rw [hx]; unfold sg; rw [if_pos this]; decide
        clear hx
        go_wp2_with (refine wpList_load_mid rfl 85 _ rfl g (m * 3) rfl (el m) _ hlr Try.underlying85 rfl hl3 ?_)
        go_call hl as e w2 ⟨rfl, hb2⟩
        have HB2 : Hid (Below w.heap.size w w2) := hbl.out.trans (hb2.mono hbl.out.size)
        clear hl hb2 hlr
        go_wp2
        go_roundw
        case rel => exact ⟨m + 1, b, rfl, rfl, by omega, hib, hbn, HB2⟩
        case measure => simp only [intOf]; omega
      · have hs : ¬ x < 0 := by
          have := H2.out m (by omega) hmn
          rw [hx]; unfold sg; rw [if_neg (by omega)]; split <;> decide
        clear hx
        go_wp2_with (refine wpList_load_mid rfl 85 _ rfl g (m * 3) rfl (el m) _ hlr Try.underlying85 rfl hl3 ?_)
        go_call hl as e w2 ⟨rfl, hb2⟩
        have HB2 : Hid (Below w.heap.size w w2) := hbl.out.trans (hb2.mono hbl.out.size)
        clear hl hb2 hlr
        go_wp2
        go_roundw
        case rel => exact ⟨a, m, rfl, rfl, ha, by omega, by omega, HB2⟩
        case measure => simp only [intOf]; omega
    · obtain rfl : i = a := by omega
      obtain rfl : i = b := by omega
      rcases Nat.lt_or_ge i n with hin | hin
      · have hlr := HPr.out.lies i hin
        have hl3 : (Try.prog.info? 85).map (·.size) = some (el i).length := by rw [size85, HPr.out.len i hin]
        have hl := mless_any (el i) (ss i) t (HPr.out.at0 i hin) wr
        obtain ⟨x, hx⟩ : ∃ x, x = sg (ss i) t := ⟨_, rfl⟩
        rw [← hx] at hl
        have hxr : (x == 0) = r := by
          have := H2.out i (Nat.le_refl _) hin
          rw [HR.out, hx]
          unfold sg
          rw [if_neg (by omega)]
          by_cases e : ss i = t
          · rw [if_neg (by omega)]; simp [hin, e]
          · rw [if_pos (by omega)]; simp [e]
        clear hx
        go_wp2_with (refine wpList_load_guard rfl 85 _ rfl g (i * 3) rfl (el i) _ hlr Try.underlying85 rfl hl3 ?_)
        go_call hl as e w2 ⟨rfl, hb2⟩
        have HB2 : Hid (Below w.heap.size w w2) := hbl.out.trans (hb2.mono hbl.out.size)
        clear hl hb2 hlr
        go_wp2
        go_returns
        exact ⟨rfl, HB2.out⟩
      · have hrf : r = false := by rw [HR.out]; exact decide_eq_false (fun h => absurd h.1 (by omega))
        subst hrf
        obtain rfl : i = n := by omega
        go_wp2
        go_returns
        exact ⟨rfl, hbl.out⟩
end Go.Proofs.Ytknmipbjkkeebaa
