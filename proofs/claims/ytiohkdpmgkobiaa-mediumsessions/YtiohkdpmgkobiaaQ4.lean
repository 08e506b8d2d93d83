/- An operation of a pool of one device that is armed, as a call; Arm. -/
import Derived.Test.YtiohkdpmgkobiaaQ3
namespace Go.Proofs.Ytiohkdpmgkobiaa
open Go.RowKit
section
variable {b0 : Nat} {w0 : World} {L : Loc} {st : St} {lv : Value} {oth : List (Nat × Obj)} {w : World}
set_option maxHeartbeats 1000000 in
theorem One.operate_wait (h : One b0 w0 L st lv oth w) (hdn : st.down = false) (ht : st.there = true) (haw : st.aw = true) (hal : 0 < st.al) (hal2 : st.al ≤ 1000000) (hhw : st.hw = false) (f1 : Nat) (cap1 : Array Value) (f2 : Nat) (cap2 : Array Value) (ent1 : ∀ args W, (callFunc f1 args).run Try.prog W = .ok (.enter f1 args) W) (ent2 : ∀ args W, (callFunc f2 args).run Try.prog W = .ok (.enter f2 args) W)
    (hwr : ∀ W, One b0 w0 L st lv oth W → Calls Try.prog f1 (#[.pointer (some ⟨L.D, 0, none⟩)] ++ cap1) W fun e W' => e = .returned (.int .i64 0) ∧ W' = W)
    (st' : St) (oth' : List (Nat × Obj)) (hc : st'.hw = false ∧ 0 ≤ st'.count ∧ st'.count ≤ 1000000)
    (hdo : ∀ W, One b0 w0 L { st with al := st.al - 1 } lv oth W → Calls Try.prog f2 (#[.pointer (some ⟨L.D, 0, none⟩)] ++ cap2) W fun e W' => e = .returned (.tuple #[]) ∧ ∃ lv', One b0 w0 L st' lv' oth' W') :
    Calls Try.prog 66 #[.pointer (some ⟨L.P, 0, none⟩), hnd st.serial st.session, .func (.func f1) #[] cap1, .func (.func f2) #[] cap2] w fun e w' => e = .returned (.int .i64 0) ∧ ∃ lv', One b0 w0 L { st' with count := st'.count + 1 } lv' oth' w' := by
  have hl := fun o => h.laid o
  have hf := fun o => (hl o).find
  have hd1 := fun o => (hl o).dc.2.1
  have hd2 := fun o => (hl o).dc.2.2.1
  have hd5 := fun o n => ((hl o).drewN n).dc.2.2.2.2.2.1
  have hd6 := fun o n => ((hl o).drewN n).dc.2.2.2.2.2.2.1
  have hf6 := fun o n => ((hl o).drewN n).df 6
  have hs6 := fun o n => ((hl o).drewN n).updD 6 (.int .i64 (st.al - 1)) { st with al := st.al - 1 } lv ⟨rfl, rfl, rfl, rfl, rfl⟩ rfl (((hl o).drewN n).ownD _ _)
  have HS : Hid _ := hs6
  clear hs6
  have hp3 := fun o => (hl o).pc.2.2.2.1
  rw [hdn] at hp3
  rw [ht] at hd2
  rw [haw] at hd5
  have HL : Hid _ := hl
  have HW : Hid _ := hwr
  have HD : Hid _ := hdo
  clear hl h hwr hdo
  unfold hnd
  go_enter Try.func66, Try.ntmps66
  go_wp2_with fail
  go_call (hf _) as e w1 ⟨rfl, rfl⟩
  clear hf
  go_wp2
  go_quiet (fail)
  go_wp2_with fail
  go_call (HW.out _ ((HL.out _).drewN _)) as e w2 ⟨rfl, rfl⟩
  go_wp2_with fail
  go_call (due_wait L.D 5 st.al hal hal2 _ (hd5 _ _) (hd6 _ _) (hf6 _ _)) as e w3 ⟨rfl, hw3⟩
  have h3 := HS.out (.cells #[.int .i64 st.serial, .int .i64 st.session] 30) nq
  rw [← hw3] at h3
  have hp1 := h3.pc.2.1
  replace hp1 : w3.cell? ⟨L.P, 1, none⟩ = some (.bool st.hw) := hp1
  rw [hhw] at hp1
  clear hw3
  have H3 : Hid _ := h3
  clear h3
  go_wp2_with fail
  go_call (due_idle L.P 1 _ hp1) as e w4 ⟨rfl, rfl⟩
  go_wp2_with fail
  go_call (HD.out _ H3.out) as e w5 ⟨rfl, lv', h5⟩
  obtain ⟨c0, c1, c2, c3, c4⟩ := h5.pc
  have f4 := h5.pf 4
  have HF : Hid (One b0 w0 L { st' with count := st'.count + 1 } lv' oth' (w5.setCell ⟨L.P, 4, none⟩ (.int .i64 (st'.count + 1)))) := h5.updP 4 _ _ ⟨rfl, rfl, rfl, rfl, rfl, rfl, rfl, rfl, rfl, rfl⟩ rfl
  clear h5 HL HW HD hd1 hd2 hd5 hd6 hf6 hp1 hp3 HS H3
  obtain ⟨hc1, hc2, hc3⟩ := hc
  go_wp2
  go_returns
  exact ⟨rfl, lv', HF.out⟩
set_option maxHeartbeats 1000000 in
theorem One.operate_now_done (h : One b0 w0 L st lv oth w) (hdn : st.down = false) (ht : st.there = true) (haw : st.aw = true) (hal : st.al = 0) (had : st.ad = true) (f1 : Nat) (cap1 : Array Value) (f2 : Nat) (cap2 : Array Value) (ent1 : ∀ args W, (callFunc f1 args).run Try.prog W = .ok (.enter f1 args) W) (ent2 : ∀ args W, (callFunc f2 args).run Try.prog W = .ok (.enter f2 args) W)
    (hwr : ∀ W, One b0 w0 L st lv oth W → Calls Try.prog f1 (#[.pointer (some ⟨L.D, 0, none⟩)] ++ cap1) W fun e W' => e = .returned (.int .i64 0) ∧ W' = W)
    (st' : St) (oth' : List (Nat × Obj)) 
    (hdo : ∀ W, One b0 w0 L { st with aw := false } lv oth W → Calls Try.prog f2 (#[.pointer (some ⟨L.D, 0, none⟩)] ++ cap2) W fun e W' => e = .returned (.tuple #[]) ∧ ∃ lv', One b0 w0 L st' lv' oth' W') :
    Calls Try.prog 66 #[.pointer (some ⟨L.P, 0, none⟩), hnd st.serial st.session, .func (.func f1) #[] cap1, .func (.func f2) #[] cap2] w fun e w' => e = .returned (.int .i64 7) ∧ ∃ lv', One b0 w0 L st' lv' oth' w' := by
  have hl := fun o => h.laid o
  have hf := fun o => (hl o).find
  have hd1 := fun o => (hl o).dc.2.1
  have hd2 := fun o => (hl o).dc.2.2.1
  have hd5 := fun o n => ((hl o).drewN n).dc.2.2.2.2.2.1
  have hd6 := fun o n => ((hl o).drewN n).dc.2.2.2.2.2.2.1
  have hf5 := fun o n => ((hl o).drewN n).df 5
  have hs5 := fun o n => ((hl o).drewN n).updD 5 (.bool false) { st with aw := false } lv ⟨rfl, rfl, rfl, rfl, rfl⟩ rfl (((hl o).drewN n).ownD _ _)
  have HS : Hid _ := hs5
  clear hs5
  have hp3 := fun o => (hl o).pc.2.2.2.1
  rw [hdn] at hp3
  rw [ht] at hd2
  rw [haw] at hd5
  rw [hal] at hd6
  have HL : Hid _ := hl
  have HW : Hid _ := hwr
  have HD : Hid _ := hdo
  clear hl h hwr hdo
  unfold hnd
  go_enter Try.func66, Try.ntmps66
  go_wp2_with fail
  go_call (hf _) as e w1 ⟨rfl, rfl⟩
  clear hf
  go_wp2
  go_quiet (fail)
  go_wp2_with fail
  go_call (HW.out _ ((HL.out _).drewN _)) as e w2 ⟨rfl, rfl⟩
  go_wp2_with fail
  go_call (due_now L.D 5 _ (hd5 _ _) (hf5 _ _) (hd6 _ _)) as e w3 ⟨rfl, hw3⟩
  have h3 := HS.out (.cells #[.int .i64 st.serial, .int .i64 st.session] 30) nq
  rw [← hw3] at h3
  have hp7 := h3.dc.2.2.2.2.2.2.2
  replace hp7 : w3.cell? ⟨L.D, 7, none⟩ = some (.bool st.ad) := hp7
  rw [had] at hp7
  clear hw3
  have H3 : Hid _ := h3
  clear h3
  go_wp2_with fail
  go_call (HD.out _ H3.out) as e w5 ⟨rfl, lv', h5⟩
  have H5 : Hid _ := h5
  clear h5 HL HW HD HS H3
  go_wp2
  go_returns
  exact ⟨rfl, lv', H5.out⟩
set_option maxHeartbeats 1000000 in
theorem One.operate_now_not (h : One b0 w0 L st lv oth w) (hdn : st.down = false) (ht : st.there = true) (haw : st.aw = true) (hal : st.al = 0) (had : st.ad = false) (f1 : Nat) (cap1 : Array Value) (v2 : Value) (ent1 : ∀ args W, (callFunc f1 args).run Try.prog W = .ok (.enter f1 args) W)
    (hwr : ∀ W, One b0 w0 L st lv oth W → Calls Try.prog f1 (#[.pointer (some ⟨L.D, 0, none⟩)] ++ cap1) W fun e W' => e = .returned (.int .i64 0) ∧ W' = W) :
    Calls Try.prog 66 #[.pointer (some ⟨L.P, 0, none⟩), hnd st.serial st.session, .func (.func f1) #[] cap1, v2] w fun e w' => e = .returned (.int .i64 7) ∧ One b0 w0 L { st with aw := false } lv oth w' := by
  have hl := fun o => h.laid o
  have hf := fun o => (hl o).find
  have hd1 := fun o => (hl o).dc.2.1
  have hd2 := fun o => (hl o).dc.2.2.1
  have hd5 := fun o n => ((hl o).drewN n).dc.2.2.2.2.2.1
  have hd6 := fun o n => ((hl o).drewN n).dc.2.2.2.2.2.2.1
  have hf5 := fun o n => ((hl o).drewN n).df 5
  have hs5 := fun o n => ((hl o).drewN n).updD 5 (.bool false) { st with aw := false } lv ⟨rfl, rfl, rfl, rfl, rfl⟩ rfl (((hl o).drewN n).ownD _ _)
  have HS : Hid _ := hs5
  clear hs5
  have hp3 := fun o => (hl o).pc.2.2.2.1
  rw [hdn] at hp3
  rw [ht] at hd2
  rw [haw] at hd5
  rw [hal] at hd6
  have HL : Hid _ := hl
  have HW : Hid _ := hwr
  clear hl h hwr
  unfold hnd
  go_enter Try.func66, Try.ntmps66
  go_wp2_with fail
  go_call (hf _) as e w1 ⟨rfl, rfl⟩
  clear hf
  go_wp2
  go_quiet (fail)
  go_wp2_with fail
  go_call (HW.out _ ((HL.out _).drewN _)) as e w2 ⟨rfl, rfl⟩
  go_wp2_with fail
  go_call (due_now L.D 5 _ (hd5 _ _) (hf5 _ _) (hd6 _ _)) as e w3 ⟨rfl, hw3⟩
  have h3 := HS.out (.cells #[.int .i64 st.serial, .int .i64 st.session] 30) nq
  rw [← hw3] at h3
  have hp7 := h3.dc.2.2.2.2.2.2.2
  replace hp7 : w3.cell? ⟨L.D, 7, none⟩ = some (.bool st.ad) := hp7
  rw [had] at hp7
  clear hw3
  have H3 : Hid _ := h3
  clear h3
  go_wp2
  go_returns
  exact ⟨rfl, H3.out⟩
theorem One.arm (h : One b0 w0 L st lv oth w) (a : Int) (ha : 0 ≤ a) (d : Bool) : Calls Try.prog 35 #[.pointer (some ⟨L.P, 0, none⟩), .int .i64 st.serial, .int .i64 a, .bool d] w fun e w' => e = .returned (.int .i64 0) ∧ One b0 w0 L { st with aw := true, al := a, ad := d } lv oth w' := by
  have hf := h.find
  obtain ⟨d0, d1, d2, d3, d4, d5, d6, d7⟩ := h.dc
  have f5 := h.df 5
  have f6 := h.df 6
  have f7 := h.df 7
  have h5 := h.updD 5 (.bool true) { st with aw := true } lv ⟨rfl, rfl, rfl, rfl, rfl⟩ rfl (h.ownD _ _)
  have h6 := h5.updD 6 (.int .i64 a) { st with aw := true, al := a } lv ⟨rfl, rfl, rfl, rfl, rfl⟩ rfl (h5.ownD _ _)
  have h7 := h6.updD 7 (.bool d) { st with aw := true, al := a, ad := d } lv ⟨rfl, rfl, rfl, rfl, rfl⟩ rfl (h6.ownD _ _)
  have HF : Hid _ := h7
  have hmx : max a 0 = a := by omega
  clear h h5 h6 h7
  go_enter Try.func35, Try.ntmps35
  go_wp2_with fail
  go_call hf as e w1 ⟨rfl, rfl⟩
  go_wp2
  go_returns
  exact ⟨rfl, HF.out⟩
end
end Go.Proofs.Ytiohkdpmgkobiaa
