/- An operation of a pool of one device, as a call; what it is to do is a premise. -/
import Derived.Test.YtiohkdpmgkobiaaP3
namespace Go.Proofs.Ytiohkdpmgkobiaa
open Go.RowKit
theorem due_idle (B o : Nat) (w : World) (h : w.cell? ⟨B, o, none⟩ = some (.bool false)) : Calls Try.prog 105 #[.pointer (some ⟨B, o, none⟩)] w fun e w' => e = .returned (.bool false) ∧ w' = w := by
  go_enter Try.func105, Try.ntmps105
  go_wp2
  go_returns
  exact ⟨rfl, rfl⟩
theorem due_wait (B o : Nat) (n : Int) (hn : 0 < n) (hn2 : n ≤ 1000000) (w : World) (h : w.cell? ⟨B, o, none⟩ = some (.bool true)) (h1 : w.cell? ⟨B, o + 1, none⟩ = some (.int .i64 n)) (f1 : w.frozen? ⟨B, o + 1, none⟩ = false) : Calls Try.prog 105 #[.pointer (some ⟨B, o, none⟩)] w fun e w' => e = .returned (.bool false) ∧ w' = w.setCell ⟨B, o + 1, none⟩ (.int .i64 (n - 1)) := by
  go_enter Try.func105, Try.ntmps105
  go_wp2
  go_returns
  exact ⟨rfl, rfl⟩
theorem due_now (B o : Nat) (w : World) (h : w.cell? ⟨B, o, none⟩ = some (.bool true)) (f0 : w.frozen? ⟨B, o, none⟩ = false) (h1 : w.cell? ⟨B, o + 1, none⟩ = some (.int .i64 0)) : Calls Try.prog 105 #[.pointer (some ⟨B, o, none⟩)] w fun e w' => e = .returned (.bool true) ∧ w' = w.setCell ⟨B, o, none⟩ (.bool false) := by
  go_enter Try.func105, Try.ntmps105
  go_wp2
  go_returns
  exact ⟨rfl, rfl⟩
section
variable {b0 : Nat} {w0 : World} {L : Loc} {st : St} {lv : Value} {oth : List (Nat × Obj)} {w : World}
theorem One.updP (h : One b0 w0 L st lv oth w) (k : Nat) (v : Value) (st' : St) (hd : st'.serial = st.serial ∧ st'.session = st.session ∧ st'.there = st.there ∧ st'.n = st.n ∧ st'.aw = st.aw ∧ st'.al = st.al ∧ st'.ad = st.ad ∧ st'.secs = st.secs ∧ st'.ln = st.ln ∧ st'.loose = st.loose)
    (hp : (#[.slice (some ⟨L.R, 0, none⟩) 1 L.cap, .bool st.hw, .int .i64 st.hl, .bool st.down, .int .i64 st.count] : Array Value).setIfInBounds k v = #[.slice (some ⟨L.R, 0, none⟩) 1 L.cap, .bool st'.hw, .int .i64 st'.hl, .bool st'.down, .int .i64 st'.count]) : One b0 w0 L st' lv oth (w.setCell ⟨L.P, k, none⟩ v) := by
  obtain ⟨t1, t2, t3⟩ := h.tne
  obtain ⟨p1, p2, p3, p4, p5, p6, p7, p8, p9, p10⟩ := hd
  refine h.upd (KO.set (Or.inl rfl) v) ?_ ?_ ?_ ⟨?_, ?_⟩
  · rw [block_set h.pool, hp]
  · rw [Below.heap_setCell _ _ _ _ (by exact t1), h.dev, p1, p2, p3, p4, p5, p6, p7]
  · rw [Below.heap_setCell _ _ _ _ (by exact Ne.symm t3), h.sec, p8]
  · rw [p9, p10]; exact h.own.1
  · rw [p9, p10]
    rcases h.own.2 with h1 | ⟨g, cap, cur, e, h2, h3, h4⟩
    · exact Or.inl h1
    · refine Or.inr ⟨g, cap, cur, e, h2, ?_, h4⟩
      rw [Below.heap_setCell _ _ _ _ (by show g ≠ L.P; intro e2; have := h.pool; rw [← e2, h3] at this; injection this with this; injection this with _ t _; exact absurd t (by decide))]
      exact h3
set_option maxHeartbeats 1000000 in
theorem One.operate_wrong (h : One b0 w0 L st lv oth w) (hdn : st.down = false) (ht : st.there = true) (er : Int) (her : ¬ er = 0) (f1 : Nat) (cap1 : Array Value) (v2 : Value) (ent1 : ∀ args W, (callFunc f1 args).run Try.prog W = .ok (.enter f1 args) W)
    (hwr : ∀ W, One b0 w0 L st lv oth W → Calls Try.prog f1 (#[.pointer (some ⟨L.D, 0, none⟩)] ++ cap1) W fun e W' => e = .returned (.int .i64 er) ∧ W' = W) :
    Calls Try.prog 66 #[.pointer (some ⟨L.P, 0, none⟩), hnd st.serial st.session, .func (.func f1) #[] cap1, v2] w fun e w' => e = .returned (.int .i64 er) ∧ One b0 w0 L st lv oth w' := by
  have hl := fun o => h.laid o
  have hf := fun o => (hl o).find
  have hd1 := fun o => (hl o).dc.2.1
  have hd2 := fun o => (hl o).dc.2.2.1
  have hp3 := fun o => (hl o).pc.2.2.2.1
  rw [hdn] at hp3
  rw [ht] at hd2
  have HL : Hid _ := hl
  have HW : Hid _ := hwr
  clear hl h hwr
  unfold hnd
  go_enter Try.func66, Try.ntmps66
  go_wp2_with fail
  go_call (hf _) as e w1 ⟨rfl, rfl⟩
  clear hf
  go_wp2
  go_quiet (fail)
  go_wp2_with fail
  go_call (HW.out _ ((HL.out _).drewN _)) as e w2 ⟨rfl, rfl⟩
  go_wp2
  go_returns
  exact ⟨rfl, (HL.out _).drewN _⟩
set_option maxHeartbeats 1000000 in
theorem One.operate_ok (h : One b0 w0 L st lv oth w) (hdn : st.down = false) (ht : st.there = true) (haw : st.aw = false) (hhw : st.hw = false) (f1 : Nat) (cap1 : Array Value) (f2 : Nat) (cap2 : Array Value) (ent1 : ∀ args W, (callFunc f1 args).run Try.prog W = .ok (.enter f1 args) W) (ent2 : ∀ args W, (callFunc f2 args).run Try.prog W = .ok (.enter f2 args) W)
    (hwr : ∀ W, One b0 w0 L st lv oth W → Calls Try.prog f1 (#[.pointer (some ⟨L.D, 0, none⟩)] ++ cap1) W fun e W' => e = .returned (.int .i64 0) ∧ W' = W)
    (st' : St) (oth' : List (Nat × Obj)) (hc : st'.hw = false ∧ 0 ≤ st'.count ∧ st'.count ≤ 1000000)
    (hdo : ∀ W, One b0 w0 L st lv oth W → Calls Try.prog f2 (#[.pointer (some ⟨L.D, 0, none⟩)] ++ cap2) W fun e W' => e = .returned (.tuple #[]) ∧ ∃ lv', One b0 w0 L st' lv' oth' W') :
    Calls Try.prog 66 #[.pointer (some ⟨L.P, 0, none⟩), hnd st.serial st.session, .func (.func f1) #[] cap1, .func (.func f2) #[] cap2] w fun e w' => e = .returned (.int .i64 0) ∧ ∃ lv', One b0 w0 L { st' with count := st'.count + 1 } lv' oth' w' := by
  have hl := fun o => h.laid o
  have hf := fun o => (hl o).find
  have hd1 := fun o => (hl o).dc.2.1
  have hd2 := fun o => (hl o).dc.2.2.1
  have hd5 := fun o n => ((hl o).drewN n).dc.2.2.2.2.2.1
  have hp1 := fun o n => ((hl o).drewN n).pc.2.1
  have hp3 := fun o => (hl o).pc.2.2.2.1
  rw [hdn] at hp3
  rw [ht] at hd2
  rw [haw] at hd5
  rw [hhw] at hp1
  have HL : Hid _ := hl
  have HW : Hid _ := hwr
  have HD : Hid _ := hdo
  clear hl h hwr hdo
  unfold hnd
  go_enter Try.func66, Try.ntmps66
  go_wp2_with fail
  go_call (hf _) as e w1 ⟨rfl, rfl⟩
  clear hf
  go_wp2
  go_quiet (fail)
  go_wp2_with fail
  go_call (HW.out _ ((HL.out _).drewN _)) as e w2 ⟨rfl, rfl⟩
  go_wp2_with fail
  go_call (due_idle L.D 5 _ (hd5 _ _)) as e w3 ⟨rfl, rfl⟩
  go_wp2_with fail
  go_call (due_idle L.P 1 _ (hp1 _ _)) as e w4 ⟨rfl, rfl⟩
  go_wp2_with fail
  go_call (HD.out _ ((HL.out _).drewN _)) as e w5 ⟨rfl, lv', h5⟩
  obtain ⟨c0, c1, c2, c3, c4⟩ := h5.pc
  have f4 := h5.pf 4
  have HF : Hid (One b0 w0 L { st' with count := st'.count + 1 } lv' oth' (w5.setCell ⟨L.P, 4, none⟩ (.int .i64 (st'.count + 1)))) := h5.updP 4 _ _ ⟨rfl, rfl, rfl, rfl, rfl, rfl, rfl, rfl, rfl, rfl⟩ rfl
  clear h5 HL HW HD hd1 hd2 hd5 hp1 hp3
  obtain ⟨hc1, hc2, hc3⟩ := hc
  go_wp2
  go_returns
  exact ⟨rfl, lv', HF.out⟩
end
end Go.Proofs.Ytiohkdpmgkobiaa
