/- Where a sector stands, or would stand, among those that are loose, as a call. -/
import Derived.Test.YtiohkdpmgkobiaaP1
namespace Go.Proofs.Ytiohkdpmgkobiaa
open Go.RowKit
theorem wpList_load_guard {P : Program} {ops : Array Oper} {rest : List Oper} {op : Oper} {a : Act} {w : World} {Q : Exit → Act → World → Prop} (hw : Region.wanted op (yielded ops a.tmps) = true) (ty : TypeId) (x : Operand) (ho : op.op = .load ty x)
    (b o : Nat) (hx : a.eval x = .pointer (some ⟨b, o, none⟩)) (cs : List Value) (d : TypeDesc) (hc : w.rangeAt b o cs)
    (hu : P.underlying ty = some d) (hd : d.isRow = true) (hi : (P.info? ty).map (·.size) = some cs.length)
    (h : wpList P ops Q rest (a.put op.dst (.agg cs.toArray)) w) : wpList P ops Q (op :: rest) a w :=
  wpList_step fun K hK => by
    rw [if_pos hw]
    exact wp_load_mid ty x ho b o hx cs d hc hu hd hi (hK _ _ h)
set_option maxRecDepth 100000 in
theorem psearch_any (g cap n : Nat) (ss : Nat → Int) (el : Nat → List Value) (t : Int) (i : Nat) (hi : i ≤ n) (hn : n ≤ 5000) (w : World) (hP : Pasts w g n ss el) (h1 : ∀ j, j < i → ss j < t) (h2 : ∀ j, i ≤ j → j < n → t ≤ ss j) :
    Calls Try.prog 107 #[.slice (some ⟨g, 0, none⟩) n cap, .int .i64 t, .func (.func 108) #[] #[]] w fun e w' => e = .returned (.tuple #[.int .i64 (i : Nat), .bool (decide (i < n ∧ ss i = t))]) ∧ Below w.heap.size w w' := by
  have HP : Hid (Pasts w g n ss el) := hP
  have HB : Hid (Below w.heap.size w w) := Below.refl _ _
  have H1 : Hid (∀ j, j < i → ss j < t) := h1
  have H2 : Hid (∀ j, i ≤ j → j < n → t ≤ ss j) := h2
  obtain ⟨r, hr⟩ : ∃ r, r = decide (i < n ∧ ss i = t) := ⟨_, rfl⟩
  rw [← hr]
  have HR : Hid _ := hr
  clear hP h1 h2 hr
  go_enter Try.func107, Try.ntmps107
  go_wp2
  go_loopw [9, 10] (fun lo hi wr => ∃ a b : Nat, lo = .int .i64 (a : Nat) ∧ hi = .int .i64 (b : Nat) ∧ a ≤ i ∧ i ≤ b ∧ b ≤ n ∧ Hid (Below w.heap.size w wr)) (fun lo hi _ => (intOf hi).toNat - (intOf lo).toNat)
  case atStart => exact ⟨0, n, rfl, rfl, by omega, hi, Nat.le_refl _, HB⟩
  case round =>
    obtain ⟨a, b, rfl, rfl, ha, hib, hbn, hbl⟩ := hrel
    clear HB
    have HPr : Hid (Pasts wr g n ss el) := HP.out.below hbl.out
    have hent := ent108
    by_cases hab : a < b
    · obtain ⟨m, hm⟩ : ∃ m, m = (a + b) / 2 := ⟨_, rfl⟩
      have hmn : m < n := by omega
      have hma : a ≤ m := by omega
      have hmb : m < b := by omega
      have hlr := HPr.out.lies m hmn
      have hl65 : (Try.prog.info? 149).map (·.size) = some (el m).length := by rw [size149, HPr.out.len m hmn]
      have hl := pless_any (el m) (ss m) t (HPr.out.at0 m hmn) wr
      have hmz : ((a : Int) + (b : Int)) / 2 = (m : Int) := by omega
      obtain ⟨x, hx⟩ : ∃ x, x = sg (ss m) t := ⟨_, rfl⟩
      rw [← hx] at hl
      clear hm
      by_cases hmi : m < i
      · have hs : x < 0 := by have := H1.out m hmi; rw [hx]; unfold sg; rw [if_pos this]; decide
        clear hx
        go_wp2_with (refine wpList_load_mid rfl 149 _ rfl g (m * 65) rfl (el m) _ hlr Try.underlying149 rfl hl65 ?_)
        go_call hl as e w2 ⟨rfl, hb2⟩
        have HB2 : Hid (Below w.heap.size w w2) := hbl.out.trans (hb2.mono hbl.out.size)
        clear hl hb2 hlr
        go_wp2
        go_roundw
        case rel => exact ⟨m + 1, b, rfl, rfl, by omega, hib, hbn, HB2⟩
        case measure => simp only [intOf]; omega
      · have hs : ¬ x < 0 := by
          have := H2.out m (by omega) hmn
          rw [hx]; unfold sg; rw [if_neg (by omega)]; split <;> decide
        clear hx
        go_wp2_with (refine wpList_load_mid rfl 149 _ rfl g (m * 65) rfl (el m) _ hlr Try.underlying149 rfl hl65 ?_)
        go_call hl as e w2 ⟨rfl, hb2⟩
        have HB2 : Hid (Below w.heap.size w w2) := hbl.out.trans (hb2.mono hbl.out.size)
        clear hl hb2 hlr
        go_wp2
        go_roundw
        case rel => exact ⟨a, m, rfl, rfl, ha, by omega, by omega, HB2⟩
        case measure => simp only [intOf]; omega
    · obtain rfl : i = a := by omega
      obtain rfl : i = b := by omega
      rcases Nat.lt_or_ge i n with hin | hin
      · have hlr := HPr.out.lies i hin
        have hl65 : (Try.prog.info? 149).map (·.size) = some (el i).length := by rw [size149, HPr.out.len i hin]
        have hl := pless_any (el i) (ss i) t (HPr.out.at0 i hin) wr
        obtain ⟨x, hx⟩ : ∃ x, x = sg (ss i) t := ⟨_, rfl⟩
        rw [← hx] at hl
        have hxr : (x == 0) = r := by
          have := H2.out i (Nat.le_refl _) hin
          rw [HR.out, hx]
          unfold sg
          rw [if_neg (by omega)]
          by_cases e : ss i = t
          · rw [if_neg (by omega)]; simp [hin, e]
          · rw [if_pos (by omega)]; simp [e]
        clear hx
        go_wp2_with (refine wpList_load_guard rfl 149 _ rfl g (i * 65) rfl (el i) _ hlr Try.underlying149 rfl hl65 ?_)
        go_call hl as e w2 ⟨rfl, hb2⟩
        have HB2 : Hid (Below w.heap.size w w2) := hbl.out.trans (hb2.mono hbl.out.size)
        clear hl hb2 hlr
        go_wp2
        go_returns
        exact ⟨rfl, HB2.out⟩
      · have hrf : r = false := by rw [HR.out]; exact decide_eq_false (fun h => absurd h.1 (by omega))
        subst hrf
        obtain rfl : i = n := by omega
        go_wp2
        go_returns
        exact ⟨rfl, hbl.out⟩
end Go.Proofs.Ytiohkdpmgkobiaa
