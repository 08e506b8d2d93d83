/- The pool's Write, of a pool of one device, into a sector that is behind all loose ones, or isn't there, as a call. -/
import Derived.Test.YtiohkdpmgkobiaaQ1
namespace Go.Proofs.Ytiohkdpmgkobiaa
open Go.RowKit
theorem ent67 (args : Array Value) (W : World) : (callFunc 67 args).run Try.prog W = .ok (.enter 67 args) W := enter_of Try.func67 (by kernel_rfl) (by kernel_rfl) args W
theorem ent69 (args : Array Value) (W : World) : (callFunc 69 args).run Try.prog W = .ok (.enter 69 args) W := enter_of Try.func69 (by kernel_rfl) (by kernel_rfl) args W
/-- All that is loose stands ahead of i. -/
structure LooseEnd (st : St) (i : Nat) : Prop where
  len : st.loose.length = st.ln * 65
  few : st.ln ≤ 5000
  at0 : ∀ j, j < st.ln → ∃ a : Int, st.loose[j * 65]? = some (.int .i64 a) ∧ a < (i : Int)
theorem LooseEnd.next {st : St} {i k : Nat} (h : LooseEnd st i) (hs : SecOk st) (hi : i < st.n) (hk : i < k) (hf : st.ln + 1 ≤ 5000) (s : ByteArray) : LooseEnd (wrote st i s) k := by
  have hl : (ent st i).length = 65 := by unfold ent; rw [List.length_cons, sec_length hs hi]
  refine ⟨?_, hf, fun j hj => ?_⟩
  · show (st.loose ++ ent st i).length = (st.ln + 1) * 65
    rw [List.length_append, h.len, hl]; omega
  · show ∃ a : Int, (st.loose ++ ent st i)[j * 65]? = some (.int .i64 a) ∧ a < (k : Int)
    have hj' : j < st.ln + 1 := hj
    rcases Nat.lt_or_ge j st.ln with h1 | h1
    · obtain ⟨a, e, ha⟩ := h.at0 j h1
      refine ⟨a, ?_, by omega⟩
      rw [List.getElem?_append_left (by rw [h.len]; omega)]; exact e
    · obtain rfl : j = st.ln := by omega
      refine ⟨i, ?_, by omega⟩
      rw [List.getElem?_append_right (by rw [h.len]; omega), h.len, Nat.sub_self]; rfl
theorem SecOk.wrote {st : St} {i : Nat} (h : SecOk st) (hi : i < st.n) (s : ByteArray) (hs : s.size = 64) : SecOk (wrote st i s) := by
  have hm : (i + 1) * 64 ≤ st.n * 64 := Nat.mul_le_mul_right _ hi
  have hl : st.secs.toList.length = st.n * 64 := by rw [Array.length_toList]; exact h.size
  have hb : (Lib.byteCells s.data.toList).length = 64 := by rw [Lib.byteCells_length, Array.length_toList]; exact hs
  refine ⟨?_, fun u hu => ?_⟩
  · show (setSec st.secs i s).size = st.n * 64
    unfold setSec
    rw [List.size_toArray, List.length_append, List.length_append, List.length_take, List.length_drop, hl, hb]
    omega
  · have hu' : u ∈ st.secs.toList.take (i * 64) ++ Lib.byteCells s.data.toList ++ st.secs.toList.drop (i * 64 + 64) := by
      exact hu
    rcases List.mem_append.1 hu' with h1 | h1
    · rcases List.mem_append.1 h1 with h2 | h2
      · exact h.bytes u (List.mem_of_mem_take h2)
      · unfold Lib.byteCells at h2
        obtain ⟨b, _, rfl⟩ := List.mem_map.1 h2
        exact ⟨b, rfl⟩
    · exact h.bytes u (List.mem_of_mem_drop h1)
section
variable {b0 : Nat} {w0 : World} {L : Loc} {st : St} {lv : Value} {oth : List (Nat × Obj)} {w : World}
theorem One.psearch (h : One b0 w0 L st lv oth w) (i : Nat) (he : LooseEnd st i) : Calls Try.prog 107 #[lv, .int .i64 (i : Nat), .func (.func 108) #[] #[]] w fun e w' => e = .returned (.tuple #[.int .i64 (st.ln : Nat), .bool false]) ∧ Below w.heap.size w w' := by
  rcases h.own.2 with ⟨rfl, h1⟩ | ⟨g, cap, cur, rfl, hb, hg, hn, hm, hsz, htk⟩
  · rw [h1]
    exact (psearch_nil i w).mono (by rintro e w' ⟨rfl, rfl⟩; exact ⟨rfl, Below.refl _ _⟩)
  · obtain ⟨ats, hats⟩ : ∃ ats : Nat → Int, ∀ j, j < st.ln → st.loose[j * 65]? = some (.int .i64 (ats j)) ∧ ats j < (i : Int) := by
      refine ⟨fun j => if hj : j < st.ln then (he.at0 j hj).choose else 0, fun j hj => ?_⟩
      simp only [hj, dif_pos]
      exact (he.at0 j hj).choose_spec
    have hrow : ∀ k, k < st.ln * 65 → w.cell? ⟨g, k, none⟩ = st.loose[k]? := by
      intro k hk
      rw [cell_of hg, ← htk, List.getElem?_take, if_pos hk, Array.getElem?_toList]
    refine psearch_end g cap st.ln ats (fun j => (st.loose.drop (j * 65)).take 65) i he.few w ⟨fun j hj => ?_, fun j hj => ?_, fun j hj k v e => ?_, getElem?_lt hg⟩ (fun j hj => (hats j hj).2)
    · have : (j + 1) * 65 ≤ st.ln * 65 := Nat.mul_le_mul_right _ hj
      rw [List.length_take, List.length_drop, he.len]; omega
    · rw [List.getElem?_take, if_pos (by omega), List.getElem?_drop]; exact (hats j hj).1
    · have : (j + 1) * 65 ≤ st.ln * 65 := Nat.mul_le_mul_right _ hj
      rw [List.getElem?_take] at e
      split at e
      · rw [List.getElem?_drop] at e
        rw [hrow _ (by omega)]; exact e
      · cases e
theorem One.inrange (h : One b0 w0 L st lv oth w) (i : Int) : Calls Try.prog 68 #[.pointer (some ⟨L.D, 0, none⟩), .int .i64 i] w fun e w' => e = .returned (.int .i64 (if 0 ≤ i ∧ i < (st.n : Int) then 0 else 6)) ∧ w' = w := by
  have d3 := h.dc.2.2.2.1
  have hh : Calls Try.prog 106 #[.pointer (some ⟨L.D, 0, none⟩), .int .i64 i] w fun e w' => e = .returned (.bool (decide (0 ≤ i ∧ i < (st.n : Int)))) ∧ w' = w := by
    by_cases h0 : 0 ≤ i
    · go_enter Try.func106, Try.ntmps106
      go_wp2
      go_returns
      exact ⟨by simp [h0], rfl⟩
    · go_enter Try.func106, Try.ntmps106
      go_wp2
      go_returns
      exact ⟨by rw [decide_eq_false (by omega)]; rfl, rfl⟩
  clear h d3
  by_cases hi : 0 ≤ i ∧ i < (st.n : Int)
  · rw [if_pos hi]
    rw [decide_eq_true hi] at hh
    go_enter Try.func68, Try.ntmps68
    go_wp2_with fail
    go_call hh as e w1 ⟨rfl, rfl⟩
    go_wp2
    go_returns
    exact ⟨rfl, rfl⟩
  · rw [if_neg hi]
    rw [decide_eq_false hi] at hh
    go_enter Try.func68, Try.ntmps68
    go_wp2_with fail
    go_call hh as e w1 ⟨rfl, rfl⟩
    go_wp2
    go_returns
    exact ⟨rfl, rfl⟩
theorem One.wrong67 (h : One b0 w0 L st lv oth w) (I T : Nat) (i : Int) (s : ByteArray) (hs : s.size = 64) (hI : (I, .cells #[.int .i64 i] 3) ∈ oth) (hT : (T, .cells #[.string s] 9) ∈ oth) :
    Calls Try.prog 67 #[.pointer (some ⟨L.D, 0, none⟩), .pointer (some ⟨I, 0, none⟩), .pointer (some ⟨T, 0, none⟩)] w fun e w' => e = .returned (.int .i64 (if 0 ≤ i ∧ i < (st.n : Int) then 0 else 6)) ∧ w' = w := by
  have hr := h.inrange i
  have c1 : w.cell? ⟨I, 0, none⟩ = some (.int .i64 i) := cell_of (h.oth _ hI).1 0
  have c2 : w.cell? ⟨T, 0, none⟩ = some (.string s) := cell_of (h.oth _ hT).1 0
  have hs2 : (s.size : Int) = 64 := by omega
  clear h
  by_cases hi : 0 ≤ i ∧ i < (st.n : Int)
  · rw [if_pos hi] at hr ⊢
    clear hi
    go_enter Try.func67, Try.ntmps67
    go_wp2_with fail
    go_call hr as e w1 ⟨rfl, rfl⟩
    go_wp2
    go_returns
    exact ⟨rfl, rfl⟩
  · rw [if_neg hi] at hr ⊢
    clear hi
    go_enter Try.func67, Try.ntmps67
    go_wp2_with fail
    go_call hr as e w1 ⟨rfl, rfl⟩
    go_wp2
    go_returns
    exact ⟨rfl, rfl⟩
theorem One.do69 (h : One b0 w0 L st lv oth w) (I T : Nat) (i : Nat) (s : ByteArray) (hs : s.size = 64) (hI : (I, .cells #[.int .i64 (i : Nat)] 3) ∈ oth) (hT : (T, .cells #[.string s] 9) ∈ oth) (hi : i < st.n) (hs8 : SecOk st) (he : LooseEnd st i) (hnb : st.n ≤ 9223372036854775807) :
    Calls Try.prog 69 #[.pointer (some ⟨L.D, 0, none⟩), .pointer (some ⟨I, 0, none⟩), .pointer (some ⟨T, 0, none⟩)] w fun e w' => e = .returned (.tuple #[]) ∧ ∃ lv', One b0 w0 L (wrote st i s) lv' oth w' := by
  have hd := h.dwrite i hi hs8 he.few hnb s hs (h.psearch i he)
  have c1 : w.cell? ⟨I, 0, none⟩ = some (.int .i64 (i : Nat)) := cell_of (h.oth _ hI).1 0
  have c2 : w.cell? ⟨T, 0, none⟩ = some (.string s) := cell_of (h.oth _ hT).1 0
  clear h
  go_enter Try.func69, Try.ntmps69
  go_wp2_with fail
  go_call hd as e w1 ⟨rfl, v', h1⟩
  have H1 : Hid _ := h1
  clear h1 hd
  go_wp2
  go_returns
  exact ⟨rfl, v', H1.out⟩
def wbox (B : Nat) (s q i : Int) (t : ByteArray) (oth : List (Nat × Obj)) : List (Nat × Obj) := (B + 2, .cells #[.string t] 9) :: (B + 1, .cells #[.int .i64 i] 3) :: (B, .cells #[.int .i64 s, .int .i64 q] 30) :: oth
theorem One.wboxed (h : One b0 w0 L st lv oth w) (s q i : Int) (t : ByteArray) : One b0 w0 L st lv (wbox w.heap.size s q i t oth) (((w.alloc (.cells #[.int .i64 s, .int .i64 q] 30)).alloc (.cells #[.int .i64 i] 3)).alloc (.cells #[.string t] 9)) := by
  have := ((h.alloc (.cells #[.int .i64 s, .int .i64 q] 30) (apart_of (by decide))).alloc (.cells #[.int .i64 i] 3) (apart_of (by decide))).alloc (.cells #[.string t] 9) (apart_of (by decide))
  simpa [wbox] using this
theorem mem_wbox {B : Nat} {s q i : Int} {t : ByteArray} {oth : List (Nat × Obj)} {p : Nat × Obj} (h : p ∈ oth) : p ∈ wbox B s q i t oth := by simp [wbox, h]
theorem One.pwrite_ok (h : One b0 w0 L st lv oth w) (i : Nat) (s : ByteArray) (hs : s.size = 64) (hdn : st.down = false) (ht : st.there = true) (haw : st.aw = false) (hhw : st.hw = false) (hi : i < st.n) (hs8 : SecOk st) (he : LooseEnd st i) (hnb : st.n ≤ 9223372036854775807) (hc : 0 ≤ st.count ∧ st.count ≤ 1000000) :
    Calls Try.prog 17 #[.pointer (some ⟨L.P, 0, none⟩), hnd st.serial st.session, .int .i64 (i : Nat), .string s] w fun e w' => e = .returned (.int .i64 0) ∧ ∃ lv', One b0 w0 L { wrote st i s with count := st.count + 1 } lv' oth w' := by
  have hmf : ∀ (fn : Fn) (first cap : Array Value) (w : World), (Instr.makeFunc fn first cap).run Try.prog w = .ok (.func fn first cap) w := fun _ _ _ _ => rfl
  have hb := h.wboxed st.serial st.session i s
  have ho := hb.operate_ok hdn ht haw hhw 67 #[.pointer (some ⟨w.heap.size + 1, 0, none⟩), .pointer (some ⟨w.heap.size + 2, 0, none⟩)] 69 #[.pointer (some ⟨w.heap.size + 1, 0, none⟩), .pointer (some ⟨w.heap.size + 2, 0, none⟩)] ent67 ent69
    (fun W hW => by have := hW.wrong67 (w.heap.size + 1) (w.heap.size + 2) i s hs (by simp [wbox]) (by simp [wbox]); rw [if_pos (by omega)] at this; exact this)
    (wrote st i s) (wbox w.heap.size st.serial st.session i s oth) ⟨hhw, hc⟩ (fun W hW => hW.do69 (w.heap.size + 1) (w.heap.size + 2) i s hs (by simp [wbox]) (by simp [wbox]) hi hs8 he hnb)
  clear h hb
  unfold hnd at *
  go_enter Try.func17, Try.ntmps17
  go_wp2_with fail
  go_call ho as e w1 ⟨rfl, lv', h1⟩
  have H1 : Hid _ := h1
  clear ho h1
  go_wp2
  go_returns
  exact ⟨rfl, lv', H1.out.forget (fun p hp => mem_wbox hp)⟩
theorem One.pwrite_no (h : One b0 w0 L st lv oth w) (i : Int) (s : ByteArray) (hs : s.size = 64) (hdn : st.down = false) (ht : st.there = true) (hi : ¬ (0 ≤ i ∧ i < (st.n : Int))) :
    Calls Try.prog 17 #[.pointer (some ⟨L.P, 0, none⟩), hnd st.serial st.session, .int .i64 i, .string s] w fun e w' => e = .returned (.int .i64 6) ∧ One b0 w0 L st lv oth w' := by
  have hmf : ∀ (fn : Fn) (first cap : Array Value) (w : World), (Instr.makeFunc fn first cap).run Try.prog w = .ok (.func fn first cap) w := fun _ _ _ _ => rfl
  have hb := h.wboxed st.serial st.session i s
  have ho := hb.operate_wrong hdn ht 6 (by decide) 67 #[.pointer (some ⟨w.heap.size + 1, 0, none⟩), .pointer (some ⟨w.heap.size + 2, 0, none⟩)] (.func (.func 69) #[] #[.pointer (some ⟨w.heap.size + 1, 0, none⟩), .pointer (some ⟨w.heap.size + 2, 0, none⟩)]) ent67
    (fun W hW => by have := hW.wrong67 (w.heap.size + 1) (w.heap.size + 2) i s hs (by simp [wbox]) (by simp [wbox]); rw [if_neg hi] at this; exact this)
  clear h hb hi
  unfold hnd at *
  go_enter Try.func17, Try.ntmps17
  go_wp2_with fail
  go_call ho as e w1 ⟨rfl, h1⟩
  have H1 : Hid _ := h1
  clear ho h1
  go_wp2
  go_returns
  exact ⟨rfl, H1.out.forget (fun p hp => mem_wbox hp)⟩
end
end Go.Proofs.Ytiohkdpmgkobiaa
