/- Contracts on flash: where a device stands among the devices, as calls. -/
import Derived.Test.YtiohkdpmgkobiaaRows
import Derived.WalkKit
import Derived.WalkSpells
import Derived.WalkLawsBesides
import Derived.Handy
import Derived.Defers
import Derived.Recover
namespace Go.Proofs.Ytiohkdpmgkobiaa
open Go.RowKit

def sg (x y : Int) : Int := if x < y then -1 else if x > y then 1 else 0
theorem nan_any (x : Int) (w : World) : Calls Try.prog 116 #[.int .i64 x] w fun e w' => e = .returned (.bool false) ∧ w' = w := by
  go_enter Try.func116, Try.ntmps116
  go_wp2
  go_returns
  exact ⟨rfl, rfl⟩
theorem cmp_any (x y : Int) (w : World) : Calls Try.prog 102 #[.int .i64 x, .int .i64 y] w fun e w' => e = .returned (.int .i64 (sg x y)) ∧ w' = w := by
  go_enter Try.func102, Try.ntmps102
  go_wp2_with fail
  go_call (nan_any x w) as e w1 ⟨rfl, rfl⟩
  go_wp2_with fail
  go_call (nan_any y w1) as e w2 ⟨rfl, rfl⟩
  by_cases h1 : x < y
  · go_wp2
    go_returns
    exact ⟨by simp [sg, h1], rfl⟩
  · by_cases h2 : y < x
    · go_wp2
      go_returns
      exact ⟨by simp [sg, h1, h2], rfl⟩
    · go_wp2
      go_returns
      exact ⟨by unfold sg; rw [if_neg (by omega), if_neg (by omega)]; rfl, rfl⟩
theorem less_any (D : Nat) (s t : Int) (w : World) (h : w.cell? ⟨D, 0, none⟩ = some (.int .i64 s)) :
    Calls Try.prog 101 #[.pointer (some ⟨D, 0, none⟩), .int .i64 t] w fun e w' => e = .returned (.int .i64 (sg s t)) ∧ w' = w := by
  go_enter Try.func101, Try.ntmps101
  go_wp2_with fail
  go_call (cmp_any s t w) as e w1 ⟨rfl, rfl⟩
  go_wp2
  go_returns
  exact ⟨rfl, rfl⟩
theorem enter_of {f : FuncId} {fn : Func} (hf : Try.prog.funcs[f]? = some fn) (hname : (fn.name == "runtime.NumGoroutine") = false) (hb : fn.body.isNone = false) (args : Array Value) (W : World) : (callFunc f args).run Try.prog W = .ok (.enter f args) W := by
  have h1 : fn.name ≠ "runtime.NumGoroutine" := by simpa using hname
  simp [callFunc, hf, h1]
  intro h; rw [h] at hb; cases hb
theorem ent101 (args : Array Value) (W : World) : (callFunc 101 args).run Try.prog W = .ok (.enter 101 args) W := enter_of Try.func101 (by kernel_rfl) (by kernel_rfl) args W
theorem search_nil (cap : Nat) (t : Int) (w : World) :
    Calls Try.prog 100 #[.slice none 0 cap, .int .i64 t, .func (.func 101) #[] #[]] w fun e w' => e = .returned (.tuple #[.int .i64 0, .bool false]) ∧ w' = w := by
  go_enter Try.func100, Try.ntmps100
  go_wp2
  go_loop [9, 10] (fun lo hi => lo = .int .i64 0 ∧ hi = .int .i64 0) (fun _ _ => 0)
  case atStart => exact ⟨rfl, rfl⟩
  case round =>
    obtain ⟨rfl, rfl⟩ := hrel
    go_wp2
    go_returns
    exact ⟨rfl, rfl⟩
theorem search_any (R cap n : Nat) (ds : Nat → Nat) (ss : Nat → Int) (t : Int) (i : Nat) (hi : i ≤ n) (hn : n ≤ 1000) (w : World)
    (hrow : ∀ j, j < n → w.cell? ⟨R, j, none⟩ = some (.pointer (some ⟨ds j, 0, none⟩))) (hser : ∀ j, j < n → w.cell? ⟨ds j, 0, none⟩ = some (.int .i64 (ss j)))
    (h1 : ∀ j, j < i → ss j < t) (h2 : ∀ j, i ≤ j → j < n → t ≤ ss j) :
    Calls Try.prog 100 #[.slice (some ⟨R, 0, none⟩) n cap, .int .i64 t, .func (.func 101) #[] #[]] w fun e w' => e = .returned (.tuple #[.int .i64 (i : Nat), .bool (decide (i < n ∧ ss i = t))]) ∧ w' = w := by
  obtain ⟨r, hr⟩ : ∃ r, r = decide (i < n ∧ ss i = t) := ⟨_, rfl⟩
  rw [← hr]
  have HR : Hid (r = decide (i < n ∧ ss i = t)) := hr
  clear hr
  go_enter Try.func100, Try.ntmps100
  go_wp2
  go_loop [9, 10] (fun lo hi => ∃ a b : Nat, lo = .int .i64 (a : Nat) ∧ hi = .int .i64 (b : Nat) ∧ a ≤ i ∧ i ≤ b ∧ b ≤ n) (fun lo hi => (intOf hi).toNat - (intOf lo).toNat)
  case atStart => exact ⟨0, n, rfl, rfl, by omega, by omega, by omega⟩
  case round =>
    obtain ⟨a, b, rfl, rfl, ha, hb, hbn⟩ := hrel
    by_cases hab : a < b
    · obtain ⟨m, hm⟩ : ∃ m, m = (a + b) / 2 := ⟨_, rfl⟩
      have hmn : m < n := by omega
      have hma : a ≤ m := by omega
      have hmb : m < b := by omega
      have c1 := hrow m hmn
      have c2 := hser m hmn
      have hl := less_any (ds m) (ss m) t w c2
      by_cases hmi : m < i
      · have hs : sg (ss m) t = -1 := by unfold sg; rw [if_pos (h1 m hmi)]
        rw [hs] at hl
        have hmz : ((a : Int) + (b : Int)) / 2 = (m : Int) := by omega
        have hent := ent101
        clear hrow hser h1 h2 hs hm
        go_wp2_with fail
        go_call hl as e w1 ⟨rfl, rfl⟩
        go_wp2
        go_round
        case rel => exact ⟨m + 1, b, rfl, rfl, by omega, by omega, by omega⟩
        case measure => simp only [intOf]; omega
      · have hs : ¬ sg (ss m) t < 0 := by
          have := h2 m (by omega) hmn
          unfold sg; rw [if_neg (by omega)]; split <;> omega
        obtain ⟨g, hg⟩ : ∃ g, g = sg (ss m) t := ⟨_, rfl⟩
        rw [← hg] at hl hs
        have hmz : ((a : Int) + (b : Int)) / 2 = (m : Int) := by omega
        have hent := ent101
        clear hrow hser h1 h2 hg hm
        go_wp2_with fail
        go_call hl as e w1 ⟨rfl, rfl⟩
        go_wp2
        go_round
        case rel => exact ⟨a, m, rfl, rfl, by omega, by omega, by omega⟩
        case measure => simp only [intOf]; omega
    · obtain rfl : a = b := by omega
      obtain rfl : a = i := by omega
      have hent := ent101
      by_cases han : a < n
      · have c1 := hrow a han
        have c2 := hser a han
        have hl := less_any (ds a) (ss a) t w c2
        have hge := h2 a (by omega) han
        obtain ⟨g, hg⟩ : ∃ g, g = sg (ss a) t := ⟨_, rfl⟩
        rw [← hg] at hl
        have hres : decide (a < n ∧ ss a = t) = decide (g = 0) := by
          apply decide_eq_decide.2
          rw [hg]; unfold sg
          constructor
          · rintro ⟨_, h⟩; rw [if_neg (by omega), if_neg (by omega)]
          · intro h
            refine ⟨han, ?_⟩
            by_cases h3 : ss a > t
            · rw [if_neg (by omega), if_pos h3] at h; omega
            · omega
        have hr := HR.out
        rw [hres] at hr
        subst hr
        clear hres hrow hser h1 h2 hg hge HR
        go_wp2_with fail
        go_call hl as e w1 ⟨rfl, rfl⟩
        go_wp2
        go_returns
        exact ⟨rfl, rfl⟩
      · have hres : decide (a < n ∧ ss a = t) = false := by simp [han]
        have hr := HR.out
        rw [hres] at hr
        subst hr
        clear hres hrow hser h1 h2 HR
        go_wp2
        go_returns
        exact ⟨rfl, rfl⟩
end Go.Proofs.Ytiohkdpmgkobiaa
