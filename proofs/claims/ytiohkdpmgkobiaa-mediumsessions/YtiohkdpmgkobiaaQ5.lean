/- The pool's Write to a device that is armed; Made and Cut, as calls. -/
import Derived.Test.YtiohkdpmgkobiaaQ4
namespace Go.Proofs.Ytiohkdpmgkobiaa
open Go.RowKit
theorem cut_any (s : ByteArray) (n : Nat) (hn : n ≤ 1000000) (w : World) : Calls Try.prog 28 #[.string s, .int .i64 (n : Nat)] w fun e w' => e = .returned (.string (s.extract 0 n)) ∧ w' = w := by
  by_cases h : n < s.size
  · have h2 : (n : Int) < (s.size : Int) := by omega
    go_enter Try.func28, Try.ntmps28
    go_wp2
    go_returns
    exact ⟨rfl, rfl⟩
  · have h2 : ¬ (n : Int) < (s.size : Int) := by omega
    have he : s.extract 0 n = s := by
      apply ByteArray.ext
      rw [ByteArray.data_extract]
      have : s.data.size ≤ n := by show s.size ≤ n; omega
      exact Array.extract_eq_self_of_le this
    rw [he]
    go_enter Try.func28, Try.ntmps28
    go_wp2
    go_returns
    exact ⟨rfl, rfl⟩
section
variable {b0 : Nat} {w0 : World} {L : Loc} {st : St} {lv : Value} {oth : List (Nat × Obj)} {w : World}
theorem One.pwrite_wait (h : One b0 w0 L st lv oth w) (i : Nat) (s : ByteArray) (hs : s.size = 64) (hdn : st.down = false) (ht : st.there = true) (haw : st.aw = true) (hal : 0 < st.al) (hal2 : st.al ≤ 1000000) (hhw : st.hw = false) (hi : i < st.n) (hs8 : SecOk st) (he : LooseEnd st i) (hnb : st.n ≤ 9223372036854775807) (hc : 0 ≤ st.count ∧ st.count ≤ 1000000) :
    Calls Try.prog 17 #[.pointer (some ⟨L.P, 0, none⟩), hnd st.serial st.session, .int .i64 (i : Nat), .string s] w fun e w' => e = .returned (.int .i64 0) ∧ ∃ lv', One b0 w0 L { wrote { st with al := st.al - 1 } i s with count := st.count + 1 } lv' oth w' := by
  have hmf : ∀ (fn : Fn) (first cap : Array Value) (w : World), (Instr.makeFunc fn first cap).run Try.prog w = .ok (.func fn first cap) w := fun _ _ _ _ => rfl
  have hb := h.wboxed st.serial st.session i s
  have ho := hb.operate_wait hdn ht haw hal hal2 hhw 67 #[.pointer (some ⟨w.heap.size + 1, 0, none⟩), .pointer (some ⟨w.heap.size + 2, 0, none⟩)] 69 #[.pointer (some ⟨w.heap.size + 1, 0, none⟩), .pointer (some ⟨w.heap.size + 2, 0, none⟩)] ent67 ent69
    (fun W hW => by have := hW.wrong67 (w.heap.size + 1) (w.heap.size + 2) i s hs (by simp [wbox]) (by simp [wbox]); rw [if_pos (by omega)] at this; exact this)
    (wrote { st with al := st.al - 1 } i s) (wbox w.heap.size st.serial st.session i s oth) ⟨hhw, hc⟩ (fun W hW => hW.do69 (w.heap.size + 1) (w.heap.size + 2) i s hs (by simp [wbox]) (by simp [wbox]) hi ⟨hs8.size, hs8.bytes⟩ ⟨he.len, he.few, he.at0⟩ hnb)
  clear h hb
  unfold hnd at *
  go_enter Try.func17, Try.ntmps17
  go_wp2_with fail
  go_call ho as e w1 ⟨rfl, lv', h1⟩
  have H1 : Hid _ := h1
  clear ho h1
  go_wp2
  go_returns
  exact ⟨rfl, lv', H1.out.forget (fun p hp => mem_wbox hp)⟩
theorem One.pwrite_now (h : One b0 w0 L st lv oth w) (i : Nat) (s : ByteArray) (hs : s.size = 64) (hdn : st.down = false) (ht : st.there = true) (haw : st.aw = true) (hal : st.al = 0) (hi : i < st.n) (hs8 : SecOk st) (he : LooseEnd st i) (hnb : st.n ≤ 9223372036854775807) :
    Calls Try.prog 17 #[.pointer (some ⟨L.P, 0, none⟩), hnd st.serial st.session, .int .i64 (i : Nat), .string s] w fun e w' => e = .returned (.int .i64 7) ∧ ∃ lv', One b0 w0 L (if st.ad = true then wrote { st with aw := false } i s else { st with aw := false }) lv' oth w' := by
  have hmf : ∀ (fn : Fn) (first cap : Array Value) (w : World), (Instr.makeFunc fn first cap).run Try.prog w = .ok (.func fn first cap) w := fun _ _ _ _ => rfl
  have hb := h.wboxed st.serial st.session i s
  have ho : Calls Try.prog 66 #[.pointer (some ⟨L.P, 0, none⟩), hnd st.serial st.session, .func (.func 67) #[] #[.pointer (some ⟨w.heap.size + 1, 0, none⟩), .pointer (some ⟨w.heap.size + 2, 0, none⟩)], .func (.func 69) #[] #[.pointer (some ⟨w.heap.size + 1, 0, none⟩), .pointer (some ⟨w.heap.size + 2, 0, none⟩)]] (((w.alloc (.cells #[.int .i64 st.serial, .int .i64 st.session] 30)).alloc (.cells #[.int .i64 (i : Nat)] 3)).alloc (.cells #[.string s] 9)) fun e w' => e = .returned (.int .i64 7) ∧ ∃ lv', One b0 w0 L (if st.ad = true then wrote { st with aw := false } i s else { st with aw := false }) lv' (wbox w.heap.size st.serial st.session i s oth) w' := by
    by_cases hd : st.ad = true
    · rw [if_pos hd]
      exact hb.operate_now_done hdn ht haw hal hd 67 #[.pointer (some ⟨w.heap.size + 1, 0, none⟩), .pointer (some ⟨w.heap.size + 2, 0, none⟩)] 69 #[.pointer (some ⟨w.heap.size + 1, 0, none⟩), .pointer (some ⟨w.heap.size + 2, 0, none⟩)] ent67 ent69
        (fun W hW => by have := hW.wrong67 (w.heap.size + 1) (w.heap.size + 2) i s hs (by simp [wbox]) (by simp [wbox]); rw [if_pos (by omega)] at this; exact this)
        (wrote { st with aw := false } i s) (wbox w.heap.size st.serial st.session i s oth) (fun W hW => hW.do69 (w.heap.size + 1) (w.heap.size + 2) i s hs (by simp [wbox]) (by simp [wbox]) hi ⟨hs8.size, hs8.bytes⟩ ⟨he.len, he.few, he.at0⟩ hnb)
    · rw [if_neg hd]
      refine (hb.operate_now_not hdn ht haw hal (by simpa using hd) 67 #[.pointer (some ⟨w.heap.size + 1, 0, none⟩), .pointer (some ⟨w.heap.size + 2, 0, none⟩)] (.func (.func 69) #[] #[.pointer (some ⟨w.heap.size + 1, 0, none⟩), .pointer (some ⟨w.heap.size + 2, 0, none⟩)]) ent67
        (fun W hW => by have := hW.wrong67 (w.heap.size + 1) (w.heap.size + 2) i s hs (by simp [wbox]) (by simp [wbox]); rw [if_pos (by omega)] at this; exact this)).mono ?_
      rintro e w' ⟨rfl, h1⟩
      exact ⟨rfl, lv, h1⟩
  generalize (if st.ad = true then wrote { st with aw := false } i s else { st with aw := false }) = S at *
  clear h hb hdn ht haw hal
  unfold hnd at *
  go_enter Try.func17, Try.ntmps17
  go_wp2_with fail
  go_call ho as e w1 ⟨rfl, lv', h1⟩
  have H1 : Hid _ := h1
  clear ho h1
  go_wp2
  go_returns
  exact ⟨rfl, lv', H1.out.forget (fun p hp => mem_wbox hp)⟩
end
theorem made_any (b0 : Nat) (w0 w : World) (oth : List (Nat × Obj)) (hb : Below b0 w0 w) (hbw : b0 ≤ w.heap.size) (ho : ∀ p ∈ oth, w.heap[p.1]? = some p.2 ∧ Obj.apart p.2 ∧ b0 ≤ p.1) (serial : Int) (hs1 : 1 ≤ serial) (hs2 : serial ≤ 1000) (n : Nat) (hn1 : 1 ≤ n) (hn2 : n ≤ 4096) :
    Calls Try.prog 25 #[.int .i64 serial, .int .i64 (n : Nat)] w fun e w' => ∃ L M, e = .returned (.tuple #[.pointer (some ⟨L.P, 0, none⟩), .pointer (some ⟨M, 0, none⟩)]) ∧ One b0 w0 L (st0 serial n) (.slice none 0 0) ((M, med L.P serial 1) :: oth) w' := by
  have b1 : Below b0 w0 (w.alloc (.cells #[.slice none 0 0, .bool false, .int .i64 0, .bool false, .int .i64 0] 95)) := Below.alloc hb hbw _
  have hA := add_one b0 w.heap.size w0 (w.alloc (.cells #[.slice none 0 0, .bool false, .int .i64 0, .bool false, .int .i64 0] 95)) oth b1 hbw (heap_new _ _)
    (fun p hp => by
      obtain ⟨o1, o2, o3⟩ := ho p hp
      have := getElem?_lt o1
      exact ⟨by rw [Below.heap_alloc _ _ _ this]; exact o1, by omega, o2, o3⟩) serial hs1 hs2 n hn1 hn2
  clear b1 ho
  go_enter Try.func25, Try.ntmps25
  go_wp2_with fail
  go_call (new_any w) as e w1 ⟨rfl, rfl⟩
  go_wp2_with fail
  go_call hA as e w2 ⟨rfl, L, hLP, o2⟩
  clear hA
  rw [← hLP]
  clear hLP
  go_wp2_with fail
  go_call (o2.of_any rfl) as e w3 ⟨M, rfl, o3⟩
  have O3 : Hid _ := o3
  clear o2 o3
  go_wp2
  go_returns
  exact ⟨L, M, rfl, O3.out⟩
end Go.Proofs.Ytiohkdpmgkobiaa
