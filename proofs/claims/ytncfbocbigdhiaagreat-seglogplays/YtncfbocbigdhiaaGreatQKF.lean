/- Texts of this seat, one behind the other: JA, JB, JC, JD. -/
import Derived.Test.YtncfbocbigdhiaaGreatQKD
import Derived.Test.YtncfbocbigdhiaaGreatQKE
/- An operation of a pool of one device, idle, armed, or halted, as a call: what it does is a predicate; Halt. -/
namespace Go.Proofs.YtncfbocbigdhiaaGreat.F
set_option maxRecDepth 100000
set_option maxRecDepth 100000
open Go.RowKit
section
variable {b0:Nat} {w0:World} {L:Loc} {st:St} {lv:Value} {oth:List (Nat × Obj)} {w:World}
set_option maxHeartbeats 1000000 in
theorem One.op_idle (h:One b0 w0 L st lv oth w) (hdn:st.down = false) (ht:st.there = true) (haw:st.aw = false) (hhw:st.hw = false) (f1:Nat) (cap1:Array Value) (f2:Nat) (cap2:Array Value) (ent1:∀ args W,(callFunc f1 args).run Tryz.prog W = .ok (.enter f1 args) W) (ent2:∀ args W,(callFunc f2 args).run Tryz.prog W = .ok (.enter f2 args) W)
    (hwr:∀ W,One b0 w0 L st lv oth W → Calls Tryz.prog f1 (#[.pointer (some ⟨L.D,0,none⟩)] ++ cap1) W fun e W'=>e = .returned (.int .i64 0) ∧ W' = W)
    (oth':List (Nat × Obj)) (Q:St → Prop) (hQ:∀ s,Q s → 0 ≤ s.count ∧ s.count ≤ 100000000)
    (hdo:∀ W,One b0 w0 L st lv oth W → Calls Tryz.prog f2 (#[.pointer (some ⟨L.D,0,none⟩)] ++ cap2) W fun e W'=>e = .returned (.tuple #[]) ∧ ∃ st' lv',One b0 w0 L st' lv' oth' W' ∧ Q st') :
    Calls Tryz.prog 103 #[.pointer (some ⟨L.P,0,none⟩),hnd st.serial st.session,.func (.func f1) #[] cap1,.func (.func f2) #[] cap2] w fun e w'=>e = .returned (.int .i64 0) ∧ ∃ st' lv',One b0 w0 L { st' with count:=st'.count + 1 } lv' oth' w' ∧ Q st':=by
  have hl:=fun o=>h.laid o
  have hf:=fun o=>(hl o).find
  have hd1:=fun o=>(hl o).dc.2.1
  have hd2:=fun o=>(hl o).dc.2.2.1
  have hd5:=fun o n=>((hl o).drewN n).dc.2.2.2.2.2.1
  have hp1:=fun o n=>((hl o).drewN n).pc.2.1
  have hp3:=fun o=>(hl o).pc.2.2.2.1
  rw [hdn] at hp3
  rw [ht] at hd2
  rw [haw] at hd5
  rw [hhw] at hp1
  have HL:Hid _:=hl
  have HW:Hid _:=hwr
  have HD:Hid _:=hdo
  have HQ:Hid _:=hQ
  clear hl h hwr hdo hQ
  unfold hnd
  go_enter Tryz.func103,Tryz.ntmps103
  go_wp2_with fail
  go_call (hf _) as e w1 ⟨rfl,rfl⟩
  clear hf
  go_wp2
  go_quiet (fail)
  go_wp2_with fail
  go_call (HW.out _ ((HL.out _).drewN _)) as e w2 ⟨rfl,rfl⟩
  go_wp2_with fail
  go_call (due_idle L.D 5 _ (hd5 _ _)) as e w3 ⟨rfl,rfl⟩
  go_wp2_with fail
  go_call (due_idle L.P 1 _ (hp1 _ _)) as e w4 ⟨rfl,rfl⟩
  go_wp2_with fail
  go_call (HD.out _ ((HL.out _).drewN _)) as e w5 ⟨rfl,st',lv',h5,hq5⟩
  obtain ⟨c0,c1,c2,c3,c4⟩:=h5.pc
  have f4:=h5.pf 4
  have HF:Hid (One b0 w0 L { st' with count:=st'.count + 1 } lv' oth' (w5.setCell ⟨L.P,4,none⟩ (.int .i64 (st'.count + 1)))):=h5.updP 4 _ _ ⟨rfl,rfl,rfl,rfl,rfl,rfl,rfl,rfl,rfl,rfl⟩ rfl
  obtain ⟨hc2,hc3⟩:=HQ.out _ hq5
  have HQ5:Hid _:=hq5
  clear h5 hq5 HL HW HD hd1 hd2 hd5 hp3 HQ hp1
  go_wp2
  go_returns
  exact ⟨rfl,st',lv',HF.out,HQ5.out⟩
set_option maxHeartbeats 1000000 in
theorem One.op_await (h:One b0 w0 L st lv oth w) (hdn:st.down = false) (ht:st.there = true) (haw:st.aw = true) (hal:0 < st.al) (hal2:st.al ≤ 1000000) (hhw:st.hw = false) (f1:Nat) (cap1:Array Value) (f2:Nat) (cap2:Array Value) (ent1:∀ args W,(callFunc f1 args).run Tryz.prog W = .ok (.enter f1 args) W) (ent2:∀ args W,(callFunc f2 args).run Tryz.prog W = .ok (.enter f2 args) W)
    (hwr:∀ W,One b0 w0 L st lv oth W → Calls Tryz.prog f1 (#[.pointer (some ⟨L.D,0,none⟩)] ++ cap1) W fun e W'=>e = .returned (.int .i64 0) ∧ W' = W)
    (oth':List (Nat × Obj)) (Q:St → Prop) (hQ:∀ s,Q s → 0 ≤ s.count ∧ s.count ≤ 100000000)
    (hdo:∀ W,One b0 w0 L { st with al:=st.al - 1 } lv oth W → Calls Tryz.prog f2 (#[.pointer (some ⟨L.D,0,none⟩)] ++ cap2) W fun e W'=>e = .returned (.tuple #[]) ∧ ∃ st' lv',One b0 w0 L st' lv' oth' W' ∧ Q st') :
    Calls Tryz.prog 103 #[.pointer (some ⟨L.P,0,none⟩),hnd st.serial st.session,.func (.func f1) #[] cap1,.func (.func f2) #[] cap2] w fun e w'=>e = .returned (.int .i64 0) ∧ ∃ st' lv',One b0 w0 L { st' with count:=st'.count + 1 } lv' oth' w' ∧ Q st':=by
  have hl:=fun o=>h.laid o
  have hf:=fun o=>(hl o).find
  have hd1:=fun o=>(hl o).dc.2.1
  have hd2:=fun o=>(hl o).dc.2.2.1
  have hd5:=fun o n=>((hl o).drewN n).dc.2.2.2.2.2.1
  have hd6:=fun o n=>((hl o).drewN n).dc.2.2.2.2.2.2.1
  have hf6:=fun o n=>((hl o).drewN n).df 6
  have hs6:=fun o n=>((hl o).drewN n).updD 6 (.int .i64 (st.al - 1)) { st with al:=st.al - 1 } lv ⟨rfl,rfl,rfl,rfl,rfl⟩ rfl (((hl o).drewN n).ownD _ _)
  have HS:Hid _:=hs6
  clear hs6
  have hp3:=fun o=>(hl o).pc.2.2.2.1
  rw [hdn] at hp3
  rw [ht] at hd2
  rw [haw] at hd5
  have HL:Hid _:=hl
  have HW:Hid _:=hwr
  have HD:Hid _:=hdo
  have HQ:Hid _:=hQ
  clear hl h hwr hdo hQ
  unfold hnd
  go_enter Tryz.func103,Tryz.ntmps103
  go_wp2_with fail
  go_call (hf _) as e w1 ⟨rfl,rfl⟩
  clear hf
  go_wp2
  go_quiet (fail)
  go_wp2_with fail
  go_call (HW.out _ ((HL.out _).drewN _)) as e w2 ⟨rfl,rfl⟩
  go_wp2_with fail
  go_call (due_wait L.D 5 st.al hal hal2 _ (hd5 _ _) (hd6 _ _) (hf6 _ _)) as e w3 ⟨rfl,hw3⟩
  have h3:=HS.out (.cells #[.int .i64 st.serial,.int .i64 st.session] 105) nq
  rw [← hw3] at h3
  have hp1:=h3.pc.2.1
  replace hp1:w3.cell? ⟨L.P,1,none⟩ = some (.bool st.hw):=hp1
  rw [hhw] at hp1
  clear hw3
  have H3:Hid _:=h3
  clear h3
  go_wp2_with fail
  go_call (due_idle L.P 1 _ hp1) as e w4 ⟨rfl,rfl⟩
  go_wp2_with fail
  go_call (HD.out _ H3.out) as e w5 ⟨rfl,st',lv',h5,hq5⟩
  obtain ⟨c0,c1,c2,c3,c4⟩:=h5.pc
  have f4:=h5.pf 4
  have HF:Hid (One b0 w0 L { st' with count:=st'.count + 1 } lv' oth' (w5.setCell ⟨L.P,4,none⟩ (.int .i64 (st'.count + 1)))):=h5.updP 4 _ _ ⟨rfl,rfl,rfl,rfl,rfl,rfl,rfl,rfl,rfl,rfl⟩ rfl
  obtain ⟨hc2,hc3⟩:=HQ.out _ hq5
  have HQ5:Hid _:=hq5
  clear h5 hq5 HL HW HD hd1 hd2 hd5 hp3 HQ hp1 hd6 hf6 HS H3
  go_wp2
  go_returns
  exact ⟨rfl,st',lv',HF.out,HQ5.out⟩
set_option maxHeartbeats 1000000 in
theorem One.op_anow (h:One b0 w0 L st lv oth w) (hdn:st.down = false) (ht:st.there = true) (haw:st.aw = true) (hal:st.al = 0) (had:st.ad = true) (f1:Nat) (cap1:Array Value) (f2:Nat) (cap2:Array Value) (ent1:∀ args W,(callFunc f1 args).run Tryz.prog W = .ok (.enter f1 args) W) (ent2:∀ args W,(callFunc f2 args).run Tryz.prog W = .ok (.enter f2 args) W)
    (hwr:∀ W,One b0 w0 L st lv oth W → Calls Tryz.prog f1 (#[.pointer (some ⟨L.D,0,none⟩)] ++ cap1) W fun e W'=>e = .returned (.int .i64 0) ∧ W' = W)
    (oth':List (Nat × Obj)) (Q:St → Prop) (hQ:∀ s,Q s → 0 ≤ s.count ∧ s.count ≤ 100000000)
    (hdo:∀ W,One b0 w0 L { st with aw:=false } lv oth W → Calls Tryz.prog f2 (#[.pointer (some ⟨L.D,0,none⟩)] ++ cap2) W fun e W'=>e = .returned (.tuple #[]) ∧ ∃ st' lv',One b0 w0 L st' lv' oth' W' ∧ Q st') :
    Calls Tryz.prog 103 #[.pointer (some ⟨L.P,0,none⟩),hnd st.serial st.session,.func (.func f1) #[] cap1,.func (.func f2) #[] cap2] w fun e w'=>e = .returned (.int .i64 7) ∧ ∃ st' lv',One b0 w0 L st' lv' oth' w' ∧ Q st':=by
  have hl:=fun o=>h.laid o
  have hf:=fun o=>(hl o).find
  have hd1:=fun o=>(hl o).dc.2.1
  have hd2:=fun o=>(hl o).dc.2.2.1
  have hd5:=fun o n=>((hl o).drewN n).dc.2.2.2.2.2.1
  have hd6:=fun o n=>((hl o).drewN n).dc.2.2.2.2.2.2.1
  have hf5:=fun o n=>((hl o).drewN n).df 5
  have hs5:=fun o n=>((hl o).drewN n).updD 5 (.bool false) { st with aw:=false } lv ⟨rfl,rfl,rfl,rfl,rfl⟩ rfl (((hl o).drewN n).ownD _ _)
  have HS:Hid _:=hs5
  clear hs5
  have hp3:=fun o=>(hl o).pc.2.2.2.1
  rw [hdn] at hp3
  rw [ht] at hd2
  rw [haw] at hd5
  rw [hal] at hd6
  have HL:Hid _:=hl
  have HW:Hid _:=hwr
  have HD:Hid _:=hdo
  have HQ:Hid _:=hQ
  clear hl h hwr hdo hQ
  unfold hnd
  go_enter Tryz.func103,Tryz.ntmps103
  go_wp2_with fail
  go_call (hf _) as e w1 ⟨rfl,rfl⟩
  clear hf
  go_wp2
  go_quiet (fail)
  go_wp2_with fail
  go_call (HW.out _ ((HL.out _).drewN _)) as e w2 ⟨rfl,rfl⟩
  go_wp2_with fail
  go_call (due_now L.D 5 _ (hd5 _ _) (hf5 _ _) (hd6 _ _)) as e w3 ⟨rfl,hw3⟩
  have h3:=HS.out (.cells #[.int .i64 st.serial,.int .i64 st.session] 105) nq
  rw [← hw3] at h3
  have hp7:=h3.dc.2.2.2.2.2.2.2
  replace hp7:w3.cell? ⟨L.D,7,none⟩ = some (.bool st.ad):=hp7
  rw [had] at hp7
  clear hw3
  have H3:Hid _:=h3
  clear h3
  go_wp2_with fail
  go_call (HD.out _ H3.out) as e w5 ⟨rfl,st',lv',h5,hq5⟩
  have H5:Hid _:=h5
  have HQ5:Hid _:=hq5
  clear h5 hq5 HL HW HD HS H3 HQ
  go_wp2
  go_returns
  exact ⟨rfl,st',lv',H5.out,HQ5.out⟩
set_option maxHeartbeats 1000000 in
theorem One.op_hwait (h:One b0 w0 L st lv oth w) (hdn:st.down = false) (ht:st.there = true) (haw:st.aw = false) (hhw:st.hw = true) (hhl:0 < st.hl) (hhl2:st.hl ≤ 1000000) (f1:Nat) (cap1:Array Value) (f2:Nat) (cap2:Array Value) (ent1:∀ args W,(callFunc f1 args).run Tryz.prog W = .ok (.enter f1 args) W) (ent2:∀ args W,(callFunc f2 args).run Tryz.prog W = .ok (.enter f2 args) W)
    (hwr:∀ W,One b0 w0 L st lv oth W → Calls Tryz.prog f1 (#[.pointer (some ⟨L.D,0,none⟩)] ++ cap1) W fun e W'=>e = .returned (.int .i64 0) ∧ W' = W)
    (oth':List (Nat × Obj)) (Q:St → Prop) (hQ:∀ s,Q s → 0 ≤ s.count ∧ s.count ≤ 100000000)
    (hdo:∀ W,One b0 w0 L { st with hl:=st.hl - 1 } lv oth W → Calls Tryz.prog f2 (#[.pointer (some ⟨L.D,0,none⟩)] ++ cap2) W fun e W'=>e = .returned (.tuple #[]) ∧ ∃ st' lv',One b0 w0 L st' lv' oth' W' ∧ Q st') :
    Calls Tryz.prog 103 #[.pointer (some ⟨L.P,0,none⟩),hnd st.serial st.session,.func (.func f1) #[] cap1,.func (.func f2) #[] cap2] w fun e w'=>e = .returned (.int .i64 0) ∧ ∃ st' lv',One b0 w0 L { st' with count:=st'.count + 1 } lv' oth' w' ∧ Q st':=by
  have hl:=fun o=>h.laid o
  have hf:=fun o=>(hl o).find
  have hd1:=fun o=>(hl o).dc.2.1
  have hd2:=fun o=>(hl o).dc.2.2.1
  have hd5:=fun o n=>((hl o).drewN n).dc.2.2.2.2.2.1
  have hp1:=fun o n=>((hl o).drewN n).pc.2.1
  have hp2:=fun o n=>((hl o).drewN n).pc.2.2.1
  have hf2:=fun o n=>((hl o).drewN n).pf 2
  have hs2:=fun o n=>((hl o).drewN n).updP 2 (.int .i64 (st.hl - 1)) { st with hl:=st.hl - 1 } ⟨rfl,rfl,rfl,rfl,rfl,rfl,rfl,rfl,rfl,rfl⟩ rfl
  have HS:Hid _:=hs2
  clear hs2
  have hp3:=fun o=>(hl o).pc.2.2.2.1
  rw [hdn] at hp3
  rw [ht] at hd2
  rw [haw] at hd5
  rw [hhw] at hp1
  have HL:Hid _:=hl
  have HW:Hid _:=hwr
  have HD:Hid _:=hdo
  have HQ:Hid _:=hQ
  clear hl h hwr hdo hQ
  unfold hnd
  go_enter Tryz.func103,Tryz.ntmps103
  go_wp2_with fail
  go_call (hf _) as e w1 ⟨rfl,rfl⟩
  clear hf
  go_wp2
  go_quiet (fail)
  go_wp2_with fail
  go_call (HW.out _ ((HL.out _).drewN _)) as e w2 ⟨rfl,rfl⟩
  go_wp2_with fail
  go_call (due_idle L.D 5 _ (hd5 _ _)) as e w3 ⟨rfl,rfl⟩
  go_wp2_with fail
  go_call (due_wait L.P 1 st.hl hhl hhl2 _ (hp1 _ _) (hp2 _ _) (hf2 _ _)) as e w4 ⟨rfl,hw4⟩
  have h4:=HS.out (.cells #[.int .i64 st.serial,.int .i64 st.session] 105) nq
  rw [← hw4] at h4
  clear hw4
  have H4:Hid _:=h4
  clear h4
  go_wp2_with fail
  go_call (HD.out _ H4.out) as e w5 ⟨rfl,st',lv',h5,hq5⟩
  obtain ⟨c0,c1,c2,c3,c4⟩:=h5.pc
  have f4:=h5.pf 4
  have HF:Hid (One b0 w0 L { st' with count:=st'.count + 1 } lv' oth' (w5.setCell ⟨L.P,4,none⟩ (.int .i64 (st'.count + 1)))):=h5.updP 4 _ _ ⟨rfl,rfl,rfl,rfl,rfl,rfl,rfl,rfl,rfl,rfl⟩ rfl
  obtain ⟨hc2,hc3⟩:=HQ.out _ hq5
  have HQ5:Hid _:=hq5
  clear h5 hq5 HL HW HD hd1 hd2 hd5 hp3 HQ hp1 hp2 hf2 HS H4
  go_wp2
  go_returns
  exact ⟨rfl,st',lv',HF.out,HQ5.out⟩
set_option maxHeartbeats 1000000 in
theorem One.op_halt (h:One b0 w0 L st lv oth w) (hdn:st.down = false) (ht:st.there = true) (haw:st.aw = false) (hhw:st.hw = true) (hhl:st.hl = 0) (f1:Nat) (cap1:Array Value) (v2:Value) (ent1:∀ args W,(callFunc f1 args).run Tryz.prog W = .ok (.enter f1 args) W)
    (hwr:∀ W,One b0 w0 L st lv oth W → Calls Tryz.prog f1 (#[.pointer (some ⟨L.D,0,none⟩)] ++ cap1) W fun e W'=>e = .returned (.int .i64 0) ∧ W' = W) :
    Calls Tryz.prog 103 #[.pointer (some ⟨L.P,0,none⟩),hnd st.serial st.session,.func (.func f1) #[] cap1,v2] w fun e w'=>e = .returned (.int .i64 9) ∧ One b0 w0 L { st with hw:=false,down:=true } lv oth w':=by
  have hl:=fun o=>h.laid o
  have hf:=fun o=>(hl o).find
  have hd1:=fun o=>(hl o).dc.2.1
  have hd2:=fun o=>(hl o).dc.2.2.1
  have hd5:=fun o n=>((hl o).drewN n).dc.2.2.2.2.2.1
  have hp1:=fun o n=>((hl o).drewN n).pc.2.1
  have hp2:=fun o n=>((hl o).drewN n).pc.2.2.1
  have hf1:=fun o n=>((hl o).drewN n).pf 1
  have hs1:=fun o n=>((hl o).drewN n).updP 1 (.bool false) { st with hw:=false } ⟨rfl,rfl,rfl,rfl,rfl,rfl,rfl,rfl,rfl,rfl⟩ rfl
  have HS:Hid _:=hs1
  clear hs1
  have hp3:=fun o=>(hl o).pc.2.2.2.1
  rw [hdn] at hp3
  rw [ht] at hd2
  rw [haw] at hd5
  rw [hhw] at hp1
  rw [hhl] at hp2
  have HL:Hid _:=hl
  have HW:Hid _:=hwr
  clear hl h hwr
  unfold hnd
  go_enter Tryz.func103,Tryz.ntmps103
  go_wp2_with fail
  go_call (hf _) as e w1 ⟨rfl,rfl⟩
  clear hf
  go_wp2
  go_quiet (fail)
  go_wp2_with fail
  go_call (HW.out _ ((HL.out _).drewN _)) as e w2 ⟨rfl,rfl⟩
  go_wp2_with fail
  go_call (due_idle L.D 5 _ (hd5 _ _)) as e w3 ⟨rfl,rfl⟩
  go_wp2_with fail
  go_call (due_now L.P 1 _ (hp1 _ _) (hf1 _ _) (hp2 _ _)) as e w4 ⟨rfl,hw4⟩
  have h4:=HS.out (.cells #[.int .i64 st.serial,.int .i64 st.session] 105) nq
  rw [← hw4] at h4
  clear hw4
  have c3:=h4.pc.2.2.2.1
  replace c3:w4.cell? ⟨L.P,3,none⟩ = some (.bool st.down):=c3
  have f3:=h4.pf 3
  have HF:Hid (One b0 w0 L { st with hw:=false,down:=true } lv oth (w4.setCell ⟨L.P,3,none⟩ (.bool true))):=h4.updP 3 _ _ ⟨rfl,rfl,rfl,rfl,rfl,rfl,rfl,rfl,rfl,rfl⟩ rfl
  clear h4 HL HW hd1 hd2 hd5 hp1 hp2 hp3 hf1 HS
  go_wp2
  go_returns
  exact ⟨rfl,HF.out⟩
end
end Go.Proofs.YtncfbocbigdhiaaGreat.F
/- Guard of what may fail; Flush over any invariant, well or failing; as calls. -/
namespace Go.Proofs.YtncfbocbigdhiaaGreat.F
set_option maxRecDepth 100000
open Go.RowKit
end Go.Proofs.YtncfbocbigdhiaaGreat.F
/- What a pool may be in: idle, down behind so many operations, a device armed; Write and Flush in each, in the words of what sectors are. -/
namespace Go.Proofs.YtncfbocbigdhiaaGreat.F
set_option maxRecDepth 100000
open Go.RowKit
inductive Mode where
  | idle:Mode
  | halt (k:Nat):Mode
  | arm (k:Nat) (d:Bool):Mode
  | over:Mode
def Mode.is:Mode → St → Prop
  | .idle,st=>st.down = false ∧ st.aw = false ∧ st.hw = false
  | .halt k,st=>st.down = false ∧ st.aw = false ∧ st.hw = true ∧ st.hl = (k:Int) ∧ k ≤ 1000
  | .arm k d,st=>st.down = false ∧ st.aw = true ∧ st.al = (k:Int) ∧ st.ad = d ∧ st.hw = false ∧ k ≤ 1000
  | .over,_=>True
def Mode.er:Mode → Int
  | .idle=>0
  | .halt 0=>9
  | .halt (_ + 1)=>0
  | .arm 0 _=>7
  | .arm (_ + 1) _=>0
  | .over=>9
def Mode.next:Mode → Mode
  | .idle=>.idle
  | .halt 0=>.over
  | .halt (k + 1)=>.halt k
  | .arm 0 _=>.over
  | .arm (k + 1) d=>.arm k d
  | .over=>.over
theorem updS_self (f:Nat → ByteArray) (i:Nat) (s:ByteArray):updS f i s i = s:=if_pos rfl
theorem updS_ne (f:Nat → ByteArray) (i j:Nat) (s:ByteArray) (h:j ≠ i):updS f i s j = f j:=if_neg h
structure Kp (st st2:St):Prop where
  serial:st2.serial = st.serial
  session:st2.session = st.session
  there:st2.there = st.there
  n:st2.n = st.n
theorem Kp.refl (st:St):Kp st st:=⟨rfl,rfl,rfl,rfl⟩
theorem Kp.trans {a b c:St} (h:Kp a b) (k:Kp b c):Kp a c:=⟨k.serial.trans h.serial,k.session.trans h.session,k.there.trans h.there,k.n.trans h.n⟩
structure Did (st:St) (m:Mode) (now sure now1 sure1:Nat → ByteArray) (st2:St):Prop where
  kp:Kp st st2
  md:m.next.is st2
  c0:st.count ≤ st2.count
  c1:st2.count ≤ st.count + 1
  dv:∃ ats now2 sure2,Dv st2 ats now2 sure2 ∧ ((now2 = now1 ∧ sure2 = sure1) ∨ (m.er ≠ 0 ∧ now2 = now ∧ sure2 = sure))
section
variable {b0:Nat} {w0:World} {L:Loc} {st:St} {lv:Value} {oth:List (Nat × Obj)} {w:World}
theorem One.dwrite_dv (h:One b0 w0 L st lv oth w) {ats:Nat → Nat} {now sure:Nat → ByteArray} (hd:Dv st ats now sure) (i:Nat) (s:ByteArray) (hs:s.size = 64) (hi:i < st.n) (hn:st.n ≤ 4096) :
    Calls Tryz.prog 107 #[.pointer (some ⟨L.D,0,none⟩),.int .i64 (i:Nat),.string s] w fun e w'=>e = .returned (.tuple #[]) ∧ ∃ st' v',One b0 w0 L st' v' oth w' ∧ Kept st st' ∧ st'.count = st.count ∧ ∃ ats',Dv st' ats' (updS now i s) sure:=by
  obtain ⟨p,hp,h1,h2⟩:=hd.place i
  have hfew:=hd.few
  by_cases hf:p < st.ln ∧ ats p = i
  · have hse:=h.psearch_dv hd.lis i p hp h1 h2
    rw [decide_eq_true hf] at hse
    refine (h.dwriteF p i hi hd.ok (by omega) s hs hse).mono ?_
    rintro e w' ⟨rfl,h3⟩
    exact ⟨rfl,_,_,h3,⟨rfl,rfl,rfl,rfl,rfl,rfl,rfl,rfl,rfl,rfl⟩,rfl,ats,(hd.found p i hi hf.1 hf.2 s hs).same rfl rfl rfl rfl⟩
  · have hse:=h.psearch_dv hd.lis i p hp h1 h2
    rw [decide_eq_false hf] at hse
    refine (h.dwriteM (p:=p) i hi hd.ok (by omega) hp hd.lis.one (by omega) s hs hse).mono ?_
    rintro e w' ⟨rfl,v',h3⟩
    exact ⟨rfl,_,_,h3,⟨rfl,rfl,rfl,rfl,rfl,rfl,rfl,rfl,rfl,rfl⟩,rfl,_,(hd.put p i hi hn hp h1 h2 hf s hs).same rfl rfl rfl rfl⟩
theorem One.op_md (h:One b0 w0 L st lv oth w) (ht:st.there = true) (m:Mode) (hm:m.is st) (ho:m ≠ .over) (hc:0 ≤ st.count ∧ st.count ≤ 90000000) {ats:Nat → Nat} {now sure:Nat → ByteArray} (hd:Dv st ats now sure) (now1 sure1:Nat → ByteArray)
    (f1:Nat) (cap1:Array Value) (f2:Nat) (cap2:Array Value) (ent1:∀ args W,(callFunc f1 args).run Tryz.prog W = .ok (.enter f1 args) W) (ent2:∀ args W,(callFunc f2 args).run Tryz.prog W = .ok (.enter f2 args) W)
    (hwr:∀ W,One b0 w0 L st lv oth W → Calls Tryz.prog f1 (#[.pointer (some ⟨L.D,0,none⟩)] ++ cap1) W fun e W'=>e = .returned (.int .i64 0) ∧ W' = W)
    (hdo:∀ st1 W,st1.n = st.n → (∃ ats,Dv st1 ats now sure) → One b0 w0 L st1 lv oth W → Calls Tryz.prog f2 (#[.pointer (some ⟨L.D,0,none⟩)] ++ cap2) W fun e W'=>e = .returned (.tuple #[]) ∧ ∃ st' lv',One b0 w0 L st' lv' oth W' ∧ Kept st1 st' ∧ st'.count = st1.count ∧ ∃ ats',Dv st' ats' now1 sure1) :
    Calls Tryz.prog 103 #[.pointer (some ⟨L.P,0,none⟩),hnd st.serial st.session,.func (.func f1) #[] cap1,.func (.func f2) #[] cap2] w fun e w'=>e = .returned (.int .i64 m.er) ∧ ∃ st2 lv',One b0 w0 L st2 lv' oth w' ∧ Did st m now sure now1 sure1 st2:=by
  cases m with
  | over=>exact absurd rfl ho
  | idle=>
    obtain ⟨m1,m2,m3⟩:=hm
    refine (h.op_idle m1 ht m2 m3 f1 cap1 f2 cap2 ent1 ent2 hwr oth (fun st'=>Kept st st' ∧ st'.count = st.count ∧ ∃ ats',Dv st' ats' now1 sure1) (fun s q=>by rw [q.2.1]; omega) (fun W hW=>hdo st W rfl ⟨ats,hd⟩ hW)).mono ?_
    rintro e w' ⟨rfl,st',lv',o1,k,c,ats',d⟩
    exact ⟨rfl,_,lv',o1,⟨⟨k.serial,k.session,k.there,k.n⟩,⟨by show st'.down = _; rw [k.down]; exact m1,by show st'.aw = _; rw [k.aw]; exact m2,by show st'.hw = _; rw [k.hw]; exact m3⟩,by show _ ≤ st'.count + 1; omega,by show st'.count + 1 ≤ _; omega,ats',_,_,d.same rfl rfl rfl rfl,Or.inl ⟨rfl,rfl⟩⟩⟩
  | halt k=>
    obtain ⟨m1,m2,m3,m4,m5⟩:=hm
    cases k with
    | zero=>
      refine (h.op_halt m1 ht m2 m3 (by rw [m4]; rfl) f1 cap1 _ ent1 hwr).mono ?_
      rintro e w' ⟨rfl,o1⟩
      exact ⟨rfl,_,lv,o1,⟨⟨rfl,rfl,rfl,rfl⟩,trivial,Int.le_refl _,by show st.count ≤ _; omega,ats,now,sure,hd.same rfl rfl rfl rfl,Or.inr ⟨by decide,rfl,rfl⟩⟩⟩
    | succ k=>
      refine (h.op_hwait m1 ht m2 m3 (by rw [m4]; omega) (by rw [m4]; omega) f1 cap1 f2 cap2 ent1 ent2 hwr oth (fun st'=>Kept { st with hl:=st.hl - 1 } st' ∧ st'.count = st.count ∧ ∃ ats',Dv st' ats' now1 sure1) (fun s q=>by rw [q.2.1]; omega) (fun W hW=>hdo { st with hl:=st.hl - 1 } W rfl ⟨ats,hd.same rfl rfl rfl rfl⟩ hW)).mono ?_
      rintro e w' ⟨rfl,st',lv',o1,kk,c,ats',d⟩
      exact ⟨rfl,_,lv',o1,⟨⟨kk.serial,kk.session,kk.there,kk.n⟩,⟨by show st'.down = _; rw [kk.down]; exact m1,by show st'.aw = _; rw [kk.aw]; exact m2,by show st'.hw = _; rw [kk.hw]; exact m3,by show st'.hl = _; rw [kk.hl]; show st.hl - 1 = _; rw [m4]; omega,by omega⟩,by show _ ≤ st'.count + 1; omega,by show st'.count + 1 ≤ _; omega,ats',_,_,d.same rfl rfl rfl rfl,Or.inl ⟨rfl,rfl⟩⟩⟩
  | arm k dn=>
    obtain ⟨m1,m2,m3,m4,m5,m6⟩:=hm
    cases k with
    | zero=>
      cases hdn:dn with
      | true=>
        rw [hdn] at m4
        refine (h.op_anow m1 ht m2 (by rw [m3]; rfl) m4 f1 cap1 f2 cap2 ent1 ent2 hwr oth (fun st'=>Kept { st with aw:=false } st' ∧ st'.count = st.count ∧ ∃ ats',Dv st' ats' now1 sure1) (fun s q=>by rw [q.2.1]; omega) (fun W hW=>hdo { st with aw:=false } W rfl ⟨ats,hd.same rfl rfl rfl rfl⟩ hW)).mono ?_
        rintro e w' ⟨rfl,st',lv',o1,kk,c,ats',d⟩
        exact ⟨rfl,_,lv',o1,⟨⟨kk.serial,kk.session,kk.there,kk.n⟩,trivial,by omega,by omega,ats',_,_,d,Or.inl ⟨rfl,rfl⟩⟩⟩
      | false=>
        rw [hdn] at m4
        refine (h.operate_now_not m1 ht m2 (by rw [m3]; rfl) m4 f1 cap1 _ ent1 hwr).mono ?_
        rintro e w' ⟨rfl,o1⟩
        exact ⟨rfl,_,lv,o1,⟨⟨rfl,rfl,rfl,rfl⟩,trivial,Int.le_refl _,by show st.count ≤ _; omega,ats,now,sure,hd.same rfl rfl rfl rfl,Or.inr ⟨by decide,rfl,rfl⟩⟩⟩
    | succ k=>
      refine (h.op_await m1 ht m2 (by rw [m3]; omega) (by rw [m3]; omega) m5 f1 cap1 f2 cap2 ent1 ent2 hwr oth (fun st'=>Kept { st with al:=st.al - 1 } st' ∧ st'.count = st.count ∧ ∃ ats',Dv st' ats' now1 sure1) (fun s q=>by rw [q.2.1]; omega) (fun W hW=>hdo { st with al:=st.al - 1 } W rfl ⟨ats,hd.same rfl rfl rfl rfl⟩ hW)).mono ?_
      rintro e w' ⟨rfl,st',lv',o1,kk,c,ats',d⟩
      exact ⟨rfl,_,lv',o1,⟨⟨kk.serial,kk.session,kk.there,kk.n⟩,⟨by show st'.down = _; rw [kk.down]; exact m1,by show st'.aw = _; rw [kk.aw]; exact m2,by show st'.al = _; rw [kk.al]; show st.al - 1 = _; rw [m3]; omega,by show st'.ad = _; rw [kk.ad]; exact m4,by show st'.hw = _; rw [kk.hw]; exact m5,by omega⟩,by show _ ≤ st'.count + 1; omega,by show st'.count + 1 ≤ _; omega,ats',_,_,d.same rfl rfl rfl rfl,Or.inl ⟨rfl,rfl⟩⟩⟩
theorem One.pwrite_md (h:One b0 w0 L st lv oth w) (ht:st.there = true) (m:Mode) (hm:m.is st) (ho:m ≠ .over) (hc:0 ≤ st.count ∧ st.count ≤ 90000000) {ats:Nat → Nat} {now sure:Nat → ByteArray} (hd:Dv st ats now sure) (i:Nat) (s:ByteArray) (hs:s.size = 64) (hi:i < st.n) (hn:st.n ≤ 4096) :
    Calls Tryz.prog 64 #[.pointer (some ⟨L.P,0,none⟩),hnd st.serial st.session,.int .i64 (i:Nat),.string s] w fun e w'=>e = .returned (.int .i64 m.er) ∧ ∃ st2 lv',One b0 w0 L st2 lv' oth w' ∧ Did st m now sure (updS now i s) sure st2:=by
  have hmf:∀ (fn:Fn) (first cap:Array Value) (w:World),(Instr.makeFunc fn first cap).run Tryz.prog w = .ok (.func fn first cap) w:=fun _ _ _ _=>rfl
  have hb:=h.wboxed st.serial st.session i s
  have ho:=hb.op_md ht m hm ho hc hd (updS now i s) sure 104 #[.pointer (some ⟨w.heap.size + 1,0,none⟩),.pointer (some ⟨w.heap.size + 2,0,none⟩)] 106 #[.pointer (some ⟨w.heap.size + 1,0,none⟩),.pointer (some ⟨w.heap.size + 2,0,none⟩)] ent67 ent69
    (fun W hW=>by have:=hW.wrong67 (w.heap.size + 1) (w.heap.size + 2) i s hs (by simp [wbox]) (by simp [wbox]); rw [if_pos (by omega)] at this; exact this)
    (fun st1 W hn1 ⟨ats1,hd1⟩ hW=>by
      have c1:W.cell? ⟨w.heap.size + 1,0,none⟩ = some (.int .i64 (i:Nat)):=cell_of (hW.oth (w.heap.size + 1,.cells #[.int .i64 (i:Nat)] 3) (by simp [wbox])).1 0
      have c2:W.cell? ⟨w.heap.size + 2,0,none⟩ = some (.string s):=cell_of (hW.oth (w.heap.size + 2,.cells #[.string s] 9) (by simp [wbox])).1 0
      have hdw:=hW.dwrite_dv hd1 i s hs (by omega) (by omega)
      clear hd hd1 hW hb h
      go_enter Tryz.func106,Tryz.ntmps106
      go_wp2_with fail
      go_call hdw as e w1 ⟨rfl,st',v',h1,h2⟩
      have H1:Hid _:=h1
      have H2:Hid _:=h2
      clear hdw h1 h2
      go_wp2
      go_returns
      exact ⟨rfl,st',v',H1.out,H2.out⟩)
  generalize m.er = er at *
  have HO:Hid (∀ st2,Did st m now sure (updS now i s) sure st2 → Did st m now sure (updS now i s) sure st2):=fun _ h=>h
  clear h hb hd hm hc
  unfold hnd at *
  go_enter Tryz.func64,Tryz.ntmps64
  go_wp2_with fail
  go_call ho as e w1 ⟨rfl,st2,lv',h1,h2⟩
  have H1:Hid _:=h1
  have H2:Hid _:=h2
  clear ho h1 h2
  go_wp2
  go_returns
  exact ⟨rfl,st2,lv',H1.out.forget (fun p hp=>mem_wbox hp),H2.out⟩
end
end Go.Proofs.YtncfbocbigdhiaaGreat.F
/- medium.Write and Flush in any mode: they end, or are broken off, and then each sector is what it was, or what was to come. -/
namespace Go.Proofs.YtncfbocbigdhiaaGreat.F
set_option maxRecDepth 100000
open Go.RowKit
def Mode.iter (m:Mode):Nat → Mode
  | 0=>m
  | k + 1=>(m.iter k).next
theorem Mode.next_ne (m:Mode) (h:m ≠ .over) (he:m.er = 0):m.next ≠ .over:=by
  cases m with
  | idle=>exact fun e=>by cases e
  | over=>exact absurd rfl h
  | halt k=>
    cases k with
    | zero=>exact absurd he (by decide)
    | succ k=>exact fun e=>by cases e
  | arm k d=>
    cases k with
    | zero=>exact absurd (show (7:Int) = 0 from he) (by decide)
    | succ k=>exact fun e=>by cases e
theorem Mode.iter_ne (m:Mode) (h:m ≠ .over):∀ k,(∀ j,j < k → (m.iter j).er = 0) → m.iter k ≠ .over
  | 0,_=>h
  | k + 1,he=>Mode.next_ne _ (Mode.iter_ne m h k fun j hj=>he j (by omega)) (he k (by omega))
def lay (now:Nat → ByteArray) (frm:Nat) (y:ByteArray) (k:Nat):Nat → ByteArray:=fun i=>if frm ≤ i ∧ i < frm + k then pad (chunk y (i - frm)) else now i
def Fr (now:Nat → ByteArray) (frm:Nat) (y:ByteArray) (i:Nat) (v:ByteArray):Prop:=v = now i ∨ (frm ≤ i ∧ i < frm + parts y ∧ v = pad (chunk y (i - frm)))
theorem lay_zero (now:Nat → ByteArray) (frm:Nat) (y:ByteArray):lay now frm y 0 = now:=by
  funext i; exact if_neg (by omega)
theorem lay_succ (now:Nat → ByteArray) (frm:Nat) (y:ByteArray) (k:Nat):updS (lay now frm y k) (frm + k) (pad (chunk y k)) = lay now frm y (k + 1):=by
  funext i
  by_cases h:i = frm + k
  · subst h
    rw [updS_self]
    unfold lay
    rw [if_pos (by omega),Nat.add_sub_cancel_left]
  · rw [updS_ne _ _ _ _ h]
    unfold lay
    by_cases h2:frm ≤ i ∧ i < frm + k
    · rw [if_pos h2,if_pos (by omega)]
    · rw [if_neg h2,if_neg (by omega)]
theorem lay_fr (now:Nat → ByteArray) (frm:Nat) (y:ByteArray) (k:Nat) (hk:k ≤ parts y) (i:Nat):Fr now frm y i (lay now frm y k i):=by
  unfold lay
  split
  · rename_i h; exact Or.inr ⟨h.1,by omega,rfl⟩
  · exact Or.inl rfl
section
variable {b0:Nat} {w0:World} {L:Loc} {st:St} {lv:Value} {oth:List (Nat × Obj)} {w:World}
set_option maxHeartbeats 1000000 in
theorem One.mwrite_md (h:One b0 w0 L st lv oth w) (M:Nat) (hM:(M,med L.P st.serial st.session) ∈ oth) (ht:st.there = true) (m:Mode) (hm:m.is st) (hmo:m ≠ .over) (hc:0 ≤ st.count ∧ st.count ≤ 80000000) {ats:Nat → Nat} {now sure:Nat → ByteArray} (hd:Dv st ats now sure) (hn:st.n ≤ 1000)
    (frm:Nat) (y:ByteArray) (hy:y.size ≤ 10000) (hfit:frm + parts y ≤ st.n) :
    Calls Tryz.prog 28 #[.pointer (some ⟨M,0,none⟩),.int .i64 (frm:Nat),.string y] w fun e w'=>
      (e = .returned (.tuple #[]) ∧ (∀ j,j < parts y → (m.iter j).er = 0) ∧ ∃ st' lv',One b0 w0 L st' lv' oth w' ∧ Kp st st' ∧ st.count ≤ st'.count ∧ st'.count ≤ st.count + (parts y:Nat) ∧ (m.iter (parts y)).is st' ∧ ∃ ats',Dv st' ats' (lay now frm y (parts y)) sure) ∨
      (∃ E,e = .panicked [fl st.serial E] ∧ (∃ j,(m.iter j).er ≠ 0) ∧ ∃ st' lv',One b0 w0 L st' lv' oth w' ∧ Kp st st' ∧ st.count ≤ st'.count ∧ st'.count ≤ st.count + (parts y:Nat) ∧ ∃ ats' now2,Dv st' ats' now2 sure ∧ ∀ i,Fr now frm y i (now2 i)):=by
  have hp2:parts y ≤ 200:=by unfold parts; omega
  refine (mwrite_any M L.P st.serial st.session (frm:Nat) y hy (by omega) (fun k W=>∃ st' lv',One b0 w0 L st' lv' oth W ∧ Kp st st' ∧ st.count ≤ st'.count ∧ st'.count ≤ st.count + (k:Nat) ∧ ((∀ j,j < k → (m.iter j).er = 0) → (m.iter k).is st' ∧ ∃ ats',Dv st' ats' (lay now frm y k) sure) ∧ ∃ ats' now2,Dv st' ats' now2 sure ∧ ∀ i,Fr now frm y i (now2 i)) (fun k=>(m.iter k).er)
    (fun k W W' ⟨st',lv',h,hi⟩ hb=>⟨st',lv',h.ofBelow hb,hi⟩) (fun k W ⟨st',lv',h,_⟩=>(h.oth _ hM).1) ?_ w ⟨st,lv,h,Kp.refl st,Int.le_refl _,by omega,fun _=>⟨hm,ats,by rw [lay_zero]; exact hd⟩,ats,now,hd,fun i=>Or.inl rfl⟩).mono ?_
  · rintro k W hk hz ⟨st',lv',h1,kp,c0,c1,hgo,_⟩
    obtain ⟨hm1,ats1,hd1⟩:=hgo hz
    have hps:=pad_size (chunk y k) (chunk_size y k)
    have hw:=h1.pwrite_md (by rw [kp.there]; exact ht) (m.iter k) hm1 (Mode.iter_ne m hmo k hz) ⟨by omega,by omega⟩ hd1 (frm + k) (pad (chunk y k)) hps (by rw [kp.n]; omega) (by rw [kp.n]; omega)
    rw [kp.serial,kp.session,show (((frm + k:Nat):Int)) = (frm:Int) + (k:Nat) by omega] at hw
    refine hw.mono ?_
    rintro e W' ⟨rfl,st2,lv2,h2,did⟩
    obtain ⟨ats2,now2,sure2,hd2,hor⟩:=did.dv
    refine ⟨rfl,st2,lv2,h2,kp.trans did.kp,by have:=did.c0; omega,by have:=did.c1; omega,fun hz2=>?_,?_⟩
    · have hek:(m.iter k).er = 0:=hz2 k (by omega)
      rcases hor with ⟨rfl,rfl⟩ | ⟨hne,_⟩
      · rw [lay_succ] at hd2
        exact ⟨did.md,ats2,hd2⟩
      · exact absurd hek hne
    · rcases hor with ⟨rfl,rfl⟩ | ⟨_,rfl,rfl⟩
      · rw [lay_succ] at hd2
        exact ⟨ats2,_,hd2,fun i=>lay_fr now frm y (k + 1) (by omega) i⟩
      · exact ⟨ats2,_,hd2,fun i=>lay_fr now frm y k (by omega) i⟩
  · rintro e w' (⟨k,hk,hz,hne,rfl,st',lv',h1,kp,c0,c1,_,hbad⟩ | ⟨hz,rfl,st',lv',h1,kp,c0,c1,hgo,_⟩)
    · exact Or.inr ⟨_,rfl,⟨k,hne⟩,st',lv',h1,kp,c0,by omega,hbad⟩
    · obtain ⟨hm1,hd1⟩:=hgo hz
      exact Or.inl ⟨rfl,hz,st',lv',h1,kp,c0,c1,hm1,hd1⟩
end
end Go.Proofs.YtncfbocbigdhiaaGreat.F
