/- Texts of this seat, one behind the other: FQ1, FQ2, FQ3, FQ4, FQ5. -/
import Derived.Test.YtncfbocbigdhiaaGreatQKB
/- An operation of a pool of one device, as a call; what it is to do is a premise. -/
namespace Go.Proofs.YtncfbocbigdhiaaGreat.F
set_option maxRecDepth 100000
set_option maxRecDepth 100000
open Go.RowKit
theorem due_idle (B o:Nat) (w:World) (h:w.cell? ⟨B,o,none⟩ = some (.bool false)):Calls Tryz.prog 133 #[.pointer (some ⟨B,o,none⟩)] w fun e w'=>e = .returned (.bool false) ∧ w' = w:=by
  go_enter Tryz.func133,Tryz.ntmps133
  go_wp2
  go_returns
  exact ⟨rfl,rfl⟩
theorem due_wait (B o:Nat) (n:Int) (hn:0 < n) (hn2:n ≤ 1000000) (w:World) (h:w.cell? ⟨B,o,none⟩ = some (.bool true)) (h1:w.cell? ⟨B,o + 1,none⟩ = some (.int .i64 n)) (f1:w.frozen? ⟨B,o + 1,none⟩ = false):Calls Tryz.prog 133 #[.pointer (some ⟨B,o,none⟩)] w fun e w'=>e = .returned (.bool false) ∧ w' = w.setCell ⟨B,o + 1,none⟩ (.int .i64 (n - 1)):=by
  go_enter Tryz.func133,Tryz.ntmps133
  go_wp2
  go_returns
  exact ⟨rfl,rfl⟩
theorem due_now (B o:Nat) (w:World) (h:w.cell? ⟨B,o,none⟩ = some (.bool true)) (f0:w.frozen? ⟨B,o,none⟩ = false) (h1:w.cell? ⟨B,o + 1,none⟩ = some (.int .i64 0)):Calls Tryz.prog 133 #[.pointer (some ⟨B,o,none⟩)] w fun e w'=>e = .returned (.bool true) ∧ w' = w.setCell ⟨B,o,none⟩ (.bool false):=by
  go_enter Tryz.func133,Tryz.ntmps133
  go_wp2
  go_returns
  exact ⟨rfl,rfl⟩
section
variable {b0:Nat} {w0:World} {L:Loc} {st:St} {lv:Value} {oth:List (Nat × Obj)} {w:World}
theorem One.updP (h:One b0 w0 L st lv oth w) (k:Nat) (v:Value) (st':St) (hd:st'.serial = st.serial ∧ st'.session = st.session ∧ st'.there = st.there ∧ st'.n = st.n ∧ st'.aw = st.aw ∧ st'.al = st.al ∧ st'.ad = st.ad ∧ st'.secs = st.secs ∧ st'.ln = st.ln ∧ st'.loose = st.loose)
    (hp:(#[.slice (some ⟨L.R,0,none⟩) 1 L.cap,.bool st.hw,.int .i64 st.hl,.bool st.down,.int .i64 st.count]:Array Value).setIfInBounds k v = #[.slice (some ⟨L.R,0,none⟩) 1 L.cap,.bool st'.hw,.int .i64 st'.hl,.bool st'.down,.int .i64 st'.count]):One b0 w0 L st' lv oth (w.setCell ⟨L.P,k,none⟩ v):=by
  obtain ⟨t1,t2,t3⟩:=h.tne
  obtain ⟨p1,p2,p3,p4,p5,p6,p7,p8,p9,p10⟩:=hd
  refine h.upd (KO.set (Or.inl rfl) v) ?_ ?_ ?_ ⟨?_,?_⟩
  · rw [block_set h.pool,hp]
  · rw [Below.heap_setCell _ _ _ _ (by exact t1),h.dev,p1,p2,p3,p4,p5,p6,p7]
  · rw [Below.heap_setCell _ _ _ _ (by exact Ne.symm t3),h.sec,p8]
  · rw [p9,p10]; exact h.own.1
  · rw [p9,p10]
    rcases h.own.2 with h1 | ⟨g,cap,cur,e,h2,h3,h4⟩
    · exact Or.inl h1
    · refine Or.inr ⟨g,cap,cur,e,h2,?_,h4⟩
      rw [Below.heap_setCell _ _ _ _ (by show g ≠ L.P; intro e2; have:=h.pool; rw [← e2,h3] at this; injection this with this; injection this with _ t _; exact absurd t (by decide))]
      exact h3
set_option maxHeartbeats 1000000 in
theorem One.operate_wrong (h:One b0 w0 L st lv oth w) (hdn:st.down = false) (ht:st.there = true) (er:Int) (her:¬ er = 0) (f1:Nat) (cap1:Array Value) (v2:Value) (ent1:∀ args W,(callFunc f1 args).run Tryz.prog W = .ok (.enter f1 args) W)
    (hwr:∀ W,One b0 w0 L st lv oth W → Calls Tryz.prog f1 (#[.pointer (some ⟨L.D,0,none⟩)] ++ cap1) W fun e W'=>e = .returned (.int .i64 er) ∧ W' = W) :
    Calls Tryz.prog 103 #[.pointer (some ⟨L.P,0,none⟩),hnd st.serial st.session,.func (.func f1) #[] cap1,v2] w fun e w'=>e = .returned (.int .i64 er) ∧ One b0 w0 L st lv oth w':=by
  have hl:=fun o=>h.laid o
  have hf:=fun o=>(hl o).find
  have hd1:=fun o=>(hl o).dc.2.1
  have hd2:=fun o=>(hl o).dc.2.2.1
  have hp3:=fun o=>(hl o).pc.2.2.2.1
  rw [hdn] at hp3
  rw [ht] at hd2
  have HL:Hid _:=hl
  have HW:Hid _:=hwr
  clear hl h hwr
  unfold hnd
  go_enter Tryz.func103,Tryz.ntmps103
  go_wp2_with fail
  go_call (hf _) as e w1 ⟨rfl,rfl⟩
  clear hf
  go_wp2
  go_quiet (fail)
  go_wp2_with fail
  go_call (HW.out _ ((HL.out _).drewN _)) as e w2 ⟨rfl,rfl⟩
  go_wp2
  go_returns
  exact ⟨rfl,(HL.out _).drewN _⟩
set_option maxHeartbeats 1000000 in
theorem One.operate_ok (h:One b0 w0 L st lv oth w) (hdn:st.down = false) (ht:st.there = true) (haw:st.aw = false) (hhw:st.hw = false) (f1:Nat) (cap1:Array Value) (f2:Nat) (cap2:Array Value) (ent1:∀ args W,(callFunc f1 args).run Tryz.prog W = .ok (.enter f1 args) W) (ent2:∀ args W,(callFunc f2 args).run Tryz.prog W = .ok (.enter f2 args) W)
    (hwr:∀ W,One b0 w0 L st lv oth W → Calls Tryz.prog f1 (#[.pointer (some ⟨L.D,0,none⟩)] ++ cap1) W fun e W'=>e = .returned (.int .i64 0) ∧ W' = W)
    (st':St) (oth':List (Nat × Obj)) (hc:st'.hw = false ∧ 0 ≤ st'.count ∧ st'.count ≤ 100000000)
    (hdo:∀ W,One b0 w0 L st lv oth W → Calls Tryz.prog f2 (#[.pointer (some ⟨L.D,0,none⟩)] ++ cap2) W fun e W'=>e = .returned (.tuple #[]) ∧ ∃ lv',One b0 w0 L st' lv' oth' W') :
    Calls Tryz.prog 103 #[.pointer (some ⟨L.P,0,none⟩),hnd st.serial st.session,.func (.func f1) #[] cap1,.func (.func f2) #[] cap2] w fun e w'=>e = .returned (.int .i64 0) ∧ ∃ lv',One b0 w0 L { st' with count:=st'.count + 1 } lv' oth' w':=by
  have hl:=fun o=>h.laid o
  have hf:=fun o=>(hl o).find
  have hd1:=fun o=>(hl o).dc.2.1
  have hd2:=fun o=>(hl o).dc.2.2.1
  have hd5:=fun o n=>((hl o).drewN n).dc.2.2.2.2.2.1
  have hp1:=fun o n=>((hl o).drewN n).pc.2.1
  have hp3:=fun o=>(hl o).pc.2.2.2.1
  rw [hdn] at hp3
  rw [ht] at hd2
  rw [haw] at hd5
  rw [hhw] at hp1
  have HL:Hid _:=hl
  have HW:Hid _:=hwr
  have HD:Hid _:=hdo
  clear hl h hwr hdo
  unfold hnd
  go_enter Tryz.func103,Tryz.ntmps103
  go_wp2_with fail
  go_call (hf _) as e w1 ⟨rfl,rfl⟩
  clear hf
  go_wp2
  go_quiet (fail)
  go_wp2_with fail
  go_call (HW.out _ ((HL.out _).drewN _)) as e w2 ⟨rfl,rfl⟩
  go_wp2_with fail
  go_call (due_idle L.D 5 _ (hd5 _ _)) as e w3 ⟨rfl,rfl⟩
  go_wp2_with fail
  go_call (due_idle L.P 1 _ (hp1 _ _)) as e w4 ⟨rfl,rfl⟩
  go_wp2_with fail
  go_call (HD.out _ ((HL.out _).drewN _)) as e w5 ⟨rfl,lv',h5⟩
  obtain ⟨c0,c1,c2,c3,c4⟩:=h5.pc
  have f4:=h5.pf 4
  have HF:Hid (One b0 w0 L { st' with count:=st'.count + 1 } lv' oth' (w5.setCell ⟨L.P,4,none⟩ (.int .i64 (st'.count + 1)))):=h5.updP 4 _ _ ⟨rfl,rfl,rfl,rfl,rfl,rfl,rfl,rfl,rfl,rfl⟩ rfl
  clear h5 HL HW HD hd1 hd2 hd5 hp1 hp3
  obtain ⟨hc1,hc2,hc3⟩:=hc
  go_wp2
  go_returns
  exact ⟨rfl,lv',HF.out⟩
end
end Go.Proofs.YtncfbocbigdhiaaGreat.F
/- The pool's Write, of a pool of one device, into a sector that is behind all loose ones, or isn't there, as a call. -/
namespace Go.Proofs.YtncfbocbigdhiaaGreat.F
set_option maxRecDepth 100000
open Go.RowKit
theorem ent67 (args:Array Value) (W:World):(callFunc 104 args).run Tryz.prog W = .ok (.enter 104 args) W:=enter_of Tryz.func104 (by kernel_rfl) (by kernel_rfl) args W
theorem ent69 (args:Array Value) (W:World):(callFunc 106 args).run Tryz.prog W = .ok (.enter 106 args) W:=enter_of Tryz.func106 (by kernel_rfl) (by kernel_rfl) args W
structure LooseEnd (st:St) (i:Nat):Prop where
  len:st.loose.length = st.ln * 65
  few:st.ln ≤ 5000
  at0:∀ j,j < st.ln → ∃ a:Int,st.loose[j * 65]? = some (.int .i64 a) ∧ a < (i:Int)
theorem SecOk.wrote {st:St} {i:Nat} (h:SecOk st) (hi:i < st.n) (s:ByteArray) (hs:s.size = 64):SecOk (wrote st i s):=by
  have hm:(i + 1) * 64 ≤ st.n * 64:=Nat.mul_le_mul_right _ hi
  have hl:st.secs.toList.length = st.n * 64:=by rw [Array.length_toList]; exact h.size
  have hb:(Lib.byteCells s.data.toList).length = 64:=by rw [Lib.byteCells_length,Array.length_toList]; exact hs
  refine ⟨?_,fun u hu=>?_⟩
  · show (setSec st.secs i s).size = st.n * 64
    unfold setSec
    rw [List.size_toArray,List.length_append,List.length_append,List.length_take,List.length_drop,hl,hb]
    omega
  · have hu':u ∈ st.secs.toList.take (i * 64) ++ Lib.byteCells s.data.toList ++ st.secs.toList.drop (i * 64 + 64):=by
      exact hu
    rcases List.mem_append.1 hu' with h1 | h1
    · rcases List.mem_append.1 h1 with h2 | h2
      · exact h.bytes u (List.mem_of_mem_take h2)
      · unfold Lib.byteCells at h2
        obtain ⟨b,_,rfl⟩:=List.mem_map.1 h2
        exact ⟨b,rfl⟩
    · exact h.bytes u (List.mem_of_mem_drop h1)
section
variable {b0:Nat} {w0:World} {L:Loc} {st:St} {lv:Value} {oth:List (Nat × Obj)} {w:World}
theorem One.inrange (h:One b0 w0 L st lv oth w) (i:Int):Calls Tryz.prog 105 #[.pointer (some ⟨L.D,0,none⟩),.int .i64 i] w fun e w'=>e = .returned (.int .i64 (if 0 ≤ i ∧ i < (st.n:Int) then 0 else 6)) ∧ w' = w:=by
  have d3:=h.dc.2.2.2.1
  have hh:Calls Tryz.prog 134 #[.pointer (some ⟨L.D,0,none⟩),.int .i64 i] w fun e w'=>e = .returned (.bool (decide (0 ≤ i ∧ i < (st.n:Int)))) ∧ w' = w:=by
    by_cases h0:0 ≤ i
    · go_enter Tryz.func134,Tryz.ntmps134
      go_wp2
      go_returns
      exact ⟨by simp [h0],rfl⟩
    · go_enter Tryz.func134,Tryz.ntmps134
      go_wp2
      go_returns
      exact ⟨by rw [decide_eq_false (by omega)]; rfl,rfl⟩
  clear h d3
  by_cases hi:0 ≤ i ∧ i < (st.n:Int)
  · rw [if_pos hi]
    rw [decide_eq_true hi] at hh
    go_enter Tryz.func105,Tryz.ntmps105
    go_wp2_with fail
    go_call hh as e w1 ⟨rfl,rfl⟩
    go_wp2
    go_returns
    exact ⟨rfl,rfl⟩
  · rw [if_neg hi]
    rw [decide_eq_false hi] at hh
    go_enter Tryz.func105,Tryz.ntmps105
    go_wp2_with fail
    go_call hh as e w1 ⟨rfl,rfl⟩
    go_wp2
    go_returns
    exact ⟨rfl,rfl⟩
theorem One.wrong67 (h:One b0 w0 L st lv oth w) (I T:Nat) (i:Int) (s:ByteArray) (hs:s.size = 64) (hI:(I,.cells #[.int .i64 i] 3) ∈ oth) (hT:(T,.cells #[.string s] 9) ∈ oth) :
    Calls Tryz.prog 104 #[.pointer (some ⟨L.D,0,none⟩),.pointer (some ⟨I,0,none⟩),.pointer (some ⟨T,0,none⟩)] w fun e w'=>e = .returned (.int .i64 (if 0 ≤ i ∧ i < (st.n:Int) then 0 else 6)) ∧ w' = w:=by
  have hr:=h.inrange i
  have c1:w.cell? ⟨I,0,none⟩ = some (.int .i64 i):=cell_of (h.oth _ hI).1 0
  have c2:w.cell? ⟨T,0,none⟩ = some (.string s):=cell_of (h.oth _ hT).1 0
  have hs2:(s.size:Int) = 64:=by omega
  clear h
  by_cases hi:0 ≤ i ∧ i < (st.n:Int)
  · rw [if_pos hi] at hr ⊢
    clear hi
    go_enter Tryz.func104,Tryz.ntmps104
    go_wp2_with fail
    go_call hr as e w1 ⟨rfl,rfl⟩
    go_wp2
    go_returns
    exact ⟨rfl,rfl⟩
  · rw [if_neg hi] at hr ⊢
    clear hi
    go_enter Tryz.func104,Tryz.ntmps104
    go_wp2_with fail
    go_call hr as e w1 ⟨rfl,rfl⟩
    go_wp2
    go_returns
    exact ⟨rfl,rfl⟩
def wbox (B:Nat) (s q i:Int) (t:ByteArray) (oth:List (Nat × Obj)):List (Nat × Obj):=(B + 2,.cells #[.string t] 9) :: (B + 1,.cells #[.int .i64 i] 3) :: (B,.cells #[.int .i64 s,.int .i64 q] 105) :: oth
theorem One.wboxed (h:One b0 w0 L st lv oth w) (s q i:Int) (t:ByteArray):One b0 w0 L st lv (wbox w.heap.size s q i t oth) (((w.alloc (.cells #[.int .i64 s,.int .i64 q] 105)).alloc (.cells #[.int .i64 i] 3)).alloc (.cells #[.string t] 9)):=by
  have:=((h.alloc (.cells #[.int .i64 s,.int .i64 q] 105) (apart_of (by decide))).alloc (.cells #[.int .i64 i] 3) (apart_of (by decide))).alloc (.cells #[.string t] 9) (apart_of (by decide))
  simpa [wbox] using this
theorem mem_wbox {B:Nat} {s q i:Int} {t:ByteArray} {oth:List (Nat × Obj)} {p:Nat × Obj} (h:p ∈ oth):p ∈ wbox B s q i t oth:=by simp [wbox,h]
end
end Go.Proofs.YtncfbocbigdhiaaGreat.F
/- The pool's Read and Flush, of a pool of one device, as calls. -/
namespace Go.Proofs.YtncfbocbigdhiaaGreat.F
set_option maxRecDepth 100000
open Go.RowKit
theorem ent75 (args:Array Value) (W:World):(callFunc 154 args).run Tryz.prog W = .ok (.enter 154 args) W:=enter_of Tryz.func154 (by kernel_rfl) (by kernel_rfl) args W
theorem ent76 (args:Array Value) (W:World):(callFunc 155 args).run Tryz.prog W = .ok (.enter 155 args) W:=enter_of Tryz.func155 (by kernel_rfl) (by kernel_rfl) args W
theorem ent71 (args:Array Value) (W:World):(callFunc 128 args).run Tryz.prog W = .ok (.enter 128 args) W:=enter_of Tryz.func128 (by kernel_rfl) (by kernel_rfl) args W
theorem ent72 (args:Array Value) (W:World):(callFunc 129 args).run Tryz.prog W = .ok (.enter 129 args) W:=enter_of Tryz.func129 (by kernel_rfl) (by kernel_rfl) args W
def byteOf:Value → UInt8
  | .int _ n=>UInt8.ofNat n.toNat
  | _=>0
def rdB (st:St) (i:Nat):List UInt8:=(secl st i).map byteOf
def rd (st:St) (i:Nat):ByteArray:=⟨(rdB st i).toArray⟩
theorem byteOf_byte (b:UInt8):byteOf (.int .u8 (b.toNat:Nat)) = b:=by
  show UInt8.ofNat (((b.toNat:Nat):Int).toNat) = b
  rw [Int.toNat_natCast]; exact UInt8.ofNat_toNat
section
variable {b0:Nat} {w0:World} {L:Loc} {st:St} {lv:Value} {oth:List (Nat × Obj)} {w:World}
theorem One.other {T:Nat} {o o':Obj} {w':World} (h:One b0 w0 L st lv ((T,o) :: oth) w) (hne:∀ p ∈ oth,p.1 ≠ T) (hos:w'.os = w.os) (htp:w'.tape = w.tape) (hou:w'.output = w.output) (hsz:w.heap.size ≤ w'.heap.size)
    (hbl:∀ k,k < w.heap.size → k ≠ T → w'.heap[k]? = w.heap[k]?) (hT:w'.heap[T]? = some o') (ho:Obj.apart o'):One b0 w0 L st lv ((T,o') :: oth) w':=by
  obtain ⟨j1,j2,j3,j4⟩:=h.oth (T,o) (List.mem_cons_self ..)
  have same:∀ {j:Nat} {o:Obj},w.heap[j]? = some o → j ≠ T → w'.heap[j]? = some o:=fun e h1=>(hbl _ (getElem?_lt e) h1).trans e
  refine ⟨?_,h.bP,h.bR,h.bD,h.bS,same h.pool j2.1.symm,same h.rowb j2.2.1.symm,h.rc0,same h.dev j2.2.2.1.symm,same h.sec j2.2.2.2.symm,⟨h.own.1,?_⟩,?_⟩
  · refine ⟨hos.trans h.below.os,htp.trans h.below.tape,hou.trans h.below.output,Nat.le_trans h.below.size hsz,fun j hj=>?_⟩
    have j4':b0 ≤ T:=j4
    have hs:j < w.heap.size:=by have:=getElem?_lt h.pool; have:=h.bP; omega
    rw [hbl j hs (by omega)]
    exact h.below.block j hj
  · rcases h.own.2 with h1 | ⟨g,cap,cur,e,h2,h3,h4⟩
    · exact Or.inl h1
    · refine Or.inr ⟨g,cap,cur,e,h2,same h3 ?_,h4⟩
      intro e2; rw [e2] at h3; rw [h3] at j1; injection j1 with j1; exact j3 _ j1.symm
  · intro p hp
    rcases List.mem_cons.1 hp with rfl | hp
    · exact ⟨hT,j2,ho,j4⟩
    · obtain ⟨o1,o2,o3,o4⟩:=h.oth p (List.mem_cons_of_mem _ hp)
      exact ⟨same o1 (hne p hp),o2,o3,o4⟩
theorem One.setOther {T:Nat} {v0 v:Value} {t:TypeId} (h:One b0 w0 L st lv ((T,.cells #[v0] t) :: oth) w) (hne:∀ p ∈ oth,p.1 ≠ T) (ht:t ≠ 152):One b0 w0 L st lv ((T,.cells #[v] t) :: oth) (w.setCell ⟨T,0,none⟩ v):=by
  refine h.other hne rfl rfl rfl (by simp [World.setCell]) (fun k _ hk=>Below.heap_setCell _ _ _ _ (by exact hk)) ?_ (apart_of ht)
  rw [block_set (h.oth _ (List.mem_cons_self ..)).1]; rfl
theorem One.dread (h:One b0 w0 L st lv oth w) (i:Nat) (hi:i < st.n) (hs8:SecOk st) (_hnb:st.n ≤ 9223372036854775807):Calls Tryz.prog 156 #[.pointer (some ⟨L.D,0,none⟩),.int .i64 (i:Nat)] w fun e w'=>e = .returned (.string (rd st i)) ∧ w' = w:=by
  have d3:=h.dc.2.2.2.1
  have hl:=sec_length hs8 hi
  have hlb:(rdB st i).length = 64:=by unfold rdB; rw [List.length_map,hl]
  have hcv:(convert 75 9 (.slice (some ⟨L.S,i * 64,none⟩) 64 64)).run Tryz.prog w = .ok (.string (rd st i)) w:=by
    have:=run_convert_bytes_back (P:=Tryz.prog) w 75 9 5 ⟨L.S,i * 64,none⟩ 64 (rdB st i) Tryz.underlying75 Tryz.underlying5 Tryz.underlying9 (by
      intro j hj
      rw [Addr.add_mid]
      have hj2:j < (secl st i).length:=by unfold rdB at hj; rwa [List.length_map] at hj
      have hr:=sec_range (i:=i) h.sec j (secl st i)[j] (List.getElem?_eq_getElem hj2)
      rw [hr]
      have hm:(secl st i)[j] ∈ st.secs.toList:=List.mem_of_mem_drop (List.mem_of_mem_take (List.getElem_mem hj2))
      obtain ⟨b,hb⟩:=hs8.bytes _ hm
      have e:(rdB st i)[j] = b:=by
        have:(rdB st i)[j]? = some b:=by
          unfold rdB
          rw [List.getElem?_map,List.getElem?_eq_getElem hj2,hb]
          show some (byteOf _) = some b
          rw [byteOf_byte]
        rw [List.getElem?_eq_getElem hj] at this
        exact Option.some.inj this
      rw [e,hb])
    rw [hlb] at this
    exact this
  generalize rd st i = r at *
  clear h hl hlb
  go_enter Tryz.func156,Tryz.ntmps156
  go_wp2
  go_returns
  exact ⟨rfl,rfl⟩
theorem One.wrong75 (h:One b0 w0 L st lv oth w) (I:Nat) (i:Int) (hI:(I,.cells #[.int .i64 i] 3) ∈ oth) :
    Calls Tryz.prog 154 #[.pointer (some ⟨L.D,0,none⟩),.pointer (some ⟨I,0,none⟩)] w fun e w'=>e = .returned (.int .i64 (if 0 ≤ i ∧ i < (st.n:Int) then 0 else 6)) ∧ w' = w:=by
  have hr:=h.inrange i
  have c1:w.cell? ⟨I,0,none⟩ = some (.int .i64 i):=cell_of (h.oth _ hI).1 0
  generalize (if 0 ≤ i ∧ i < (st.n:Int) then (0:Int) else 6) = z at *
  clear h
  go_enter Tryz.func154,Tryz.ntmps154
  go_wp2_with fail
  go_call hr as e w1 ⟨rfl,rfl⟩
  go_wp2
  go_returns
  exact ⟨rfl,rfl⟩
theorem One.do76 (I T:Nat) (v0:ByteArray) (h:One b0 w0 L st lv ((T,.cells #[.string v0] 9) :: oth) w) (hne:∀ p ∈ oth,p.1 ≠ T) (i:Nat) (hI:(I,.cells #[.int .i64 (i:Nat)] 3) ∈ oth) (hi:i < st.n) (hs8:SecOk st) (hnb:st.n ≤ 9223372036854775807) :
    Calls Tryz.prog 155 #[.pointer (some ⟨L.D,0,none⟩),.pointer (some ⟨I,0,none⟩),.pointer (some ⟨T,0,none⟩)] w fun e w'=>e = .returned (.tuple #[]) ∧ ∃ lv',One b0 w0 L st lv' ((T,.cells #[.string (rd st i)] 9) :: oth) w':=by
  have hd:=h.dread i hi hs8 hnb
  have c1:w.cell? ⟨I,0,none⟩ = some (.int .i64 (i:Nat)):=cell_of (h.oth _ (List.mem_cons_of_mem _ hI)).1 0
  have c2:w.cell? ⟨T,0,none⟩ = some (.string v0):=cell_of (h.oth _ (List.mem_cons_self ..)).1 0
  have f2:w.frozen? ⟨T,0,none⟩ = false:=frz_of (h.oth _ (List.mem_cons_self ..)).1 0
  have HF:Hid (One b0 w0 L st lv ((T,.cells #[.string (rd st i)] 9) :: oth) (w.setCell ⟨T,0,none⟩ (.string (rd st i)))):=h.setOther hne (by decide)
  generalize rd st i = r at *
  clear h
  go_enter Tryz.func155,Tryz.ntmps155
  go_wp2_with fail
  go_call hd as e w1 ⟨rfl,rfl⟩
  go_wp2
  go_returns
  exact ⟨rfl,lv,HF.out⟩
theorem One.lts (h:One b0 w0 L st lv oth w):∀ p ∈ oth,p.1 < w.heap.size:=fun p hp=>getElem?_lt (h.oth p hp).1
theorem One.pread_ok (h:One b0 w0 L st lv oth w) (i:Nat) (hdn:st.down = false) (ht:st.there = true) (haw:st.aw = false) (hhw:st.hw = false) (hi:i < st.n) (hs8:SecOk st) (hnb:st.n ≤ 9223372036854775807) (hc:0 ≤ st.count ∧ st.count ≤ 100000000) :
    Calls Tryz.prog 132 #[.pointer (some ⟨L.P,0,none⟩),hnd st.serial st.session,.int .i64 (i:Nat)] w fun e w'=>e = .returned (.tuple #[.string (rd st i),.int .i64 0]) ∧ ∃ lv',One b0 w0 L { st with count:=st.count + 1 } lv' oth w':=by
  have hmf:∀ (fn:Fn) (first cap:Array Value) (w:World),(Instr.makeFunc fn first cap).run Tryz.prog w = .ok (.func fn first cap) w:=fun _ _ _ _=>rfl
  have hb:=h.wboxed st.serial st.session i ⟨#[]⟩
  have hne:∀ p ∈ (w.heap.size + 1,Obj.cells #[.int .i64 (i:Nat)] 3) :: (w.heap.size,Obj.cells #[.int .i64 st.serial,.int .i64 st.session] 105) :: oth,p.1 ≠ w.heap.size + 2:=by
    intro p hp
    rcases List.mem_cons.1 hp with rfl | hp
    · show w.heap.size + 1 ≠ _; omega
    · rcases List.mem_cons.1 hp with rfl | hp
      · show w.heap.size ≠ _; omega
      · have:=h.lts p hp; omega
  have ho:=hb.operate_ok hdn ht haw hhw 154 #[.pointer (some ⟨w.heap.size + 1,0,none⟩)] 155 #[.pointer (some ⟨w.heap.size + 1,0,none⟩),.pointer (some ⟨w.heap.size + 2,0,none⟩)] ent75 ent76
    (fun W hW=>by have:=hW.wrong75 (w.heap.size + 1) i (by simp [wbox]); rw [if_pos (by omega)] at this; exact this)
    st (wbox w.heap.size st.serial st.session i (rd st i) oth) ⟨hhw,hc⟩ (fun W hW=>One.do76 (w.heap.size + 1) (w.heap.size + 2) ⟨#[]⟩ hW hne i (by simp) hi hs8 hnb)
  clear h hb hne
  unfold hnd at *
  generalize rd st i = r at *
  go_enter Tryz.func132,Tryz.ntmps132
  go_wp2_with fail
  go_call ho as e w1 ⟨rfl,lv',h1⟩
  have c2:w1.cell? ⟨w.heap.size + 2,0,none⟩ = some (.string r):=cell_of (h1.oth (w.heap.size + 2,.cells #[.string r] 9) (by simp [wbox])).1 0
  have H1:Hid _:=h1
  clear ho h1
  go_wp2
  go_returns
  exact ⟨rfl,lv',H1.out.forget (fun p hp=>mem_wbox hp)⟩
end
end Go.Proofs.YtncfbocbigdhiaaGreat.F
/- An operation of a pool of one device that is armed, as a call; Arm. -/
namespace Go.Proofs.YtncfbocbigdhiaaGreat.F
set_option maxRecDepth 100000
open Go.RowKit
section
variable {b0:Nat} {w0:World} {L:Loc} {st:St} {lv:Value} {oth:List (Nat × Obj)} {w:World}
set_option maxHeartbeats 1000000 in
theorem One.operate_now_not (h:One b0 w0 L st lv oth w) (hdn:st.down = false) (ht:st.there = true) (haw:st.aw = true) (hal:st.al = 0) (had:st.ad = false) (f1:Nat) (cap1:Array Value) (v2:Value) (ent1:∀ args W,(callFunc f1 args).run Tryz.prog W = .ok (.enter f1 args) W)
    (hwr:∀ W,One b0 w0 L st lv oth W → Calls Tryz.prog f1 (#[.pointer (some ⟨L.D,0,none⟩)] ++ cap1) W fun e W'=>e = .returned (.int .i64 0) ∧ W' = W) :
    Calls Tryz.prog 103 #[.pointer (some ⟨L.P,0,none⟩),hnd st.serial st.session,.func (.func f1) #[] cap1,v2] w fun e w'=>e = .returned (.int .i64 7) ∧ One b0 w0 L { st with aw:=false } lv oth w':=by
  have hl:=fun o=>h.laid o
  have hf:=fun o=>(hl o).find
  have hd1:=fun o=>(hl o).dc.2.1
  have hd2:=fun o=>(hl o).dc.2.2.1
  have hd5:=fun o n=>((hl o).drewN n).dc.2.2.2.2.2.1
  have hd6:=fun o n=>((hl o).drewN n).dc.2.2.2.2.2.2.1
  have hf5:=fun o n=>((hl o).drewN n).df 5
  have hs5:=fun o n=>((hl o).drewN n).updD 5 (.bool false) { st with aw:=false } lv ⟨rfl,rfl,rfl,rfl,rfl⟩ rfl (((hl o).drewN n).ownD _ _)
  have HS:Hid _:=hs5
  clear hs5
  have hp3:=fun o=>(hl o).pc.2.2.2.1
  rw [hdn] at hp3
  rw [ht] at hd2
  rw [haw] at hd5
  rw [hal] at hd6
  have HL:Hid _:=hl
  have HW:Hid _:=hwr
  clear hl h hwr
  unfold hnd
  go_enter Tryz.func103,Tryz.ntmps103
  go_wp2_with fail
  go_call (hf _) as e w1 ⟨rfl,rfl⟩
  clear hf
  go_wp2
  go_quiet (fail)
  go_wp2_with fail
  go_call (HW.out _ ((HL.out _).drewN _)) as e w2 ⟨rfl,rfl⟩
  go_wp2_with fail
  go_call (due_now L.D 5 _ (hd5 _ _) (hf5 _ _) (hd6 _ _)) as e w3 ⟨rfl,hw3⟩
  have h3:=HS.out (.cells #[.int .i64 st.serial,.int .i64 st.session] 105) nq
  rw [← hw3] at h3
  have hp7:=h3.dc.2.2.2.2.2.2.2
  replace hp7:w3.cell? ⟨L.D,7,none⟩ = some (.bool st.ad):=hp7
  rw [had] at hp7
  clear hw3
  have H3:Hid _:=h3
  clear h3
  go_wp2
  go_returns
  exact ⟨rfl,H3.out⟩
end
end Go.Proofs.YtncfbocbigdhiaaGreat.F
/- The pool's Write to a device that is armed; Made and Cut, as calls. -/
namespace Go.Proofs.YtncfbocbigdhiaaGreat.F
set_option maxRecDepth 100000
open Go.RowKit
section
variable {b0:Nat} {w0:World} {L:Loc} {st:St} {lv:Value} {oth:List (Nat × Obj)} {w:World}
end
theorem made_any (b0:Nat) (w0 w:World) (oth:List (Nat × Obj)) (hb:Below b0 w0 w) (hbw:b0 ≤ w.heap.size) (ho:∀ p ∈ oth,w.heap[p.1]? = some p.2 ∧ Obj.apart p.2 ∧ b0 ≤ p.1) (serial:Int) (hs1:1 ≤ serial) (hs2:serial ≤ 1000) (n:Nat) (hn1:1 ≤ n) (hn2:n ≤ 4096) :
    Calls Tryz.prog 12 #[.int .i64 serial,.int .i64 (n:Nat)] w fun e w'=>∃ L M,e = .returned (.tuple #[.pointer (some ⟨L.P,0,none⟩),.pointer (some ⟨M,0,none⟩)]) ∧ One b0 w0 L (st0 serial n) (.slice none 0 0) ((M,med L.P serial 1) :: oth) w':=by
  have b1:Below b0 w0 (w.alloc (.cells #[.slice none 0 0,.bool false,.int .i64 0,.bool false,.int .i64 0] 101)):=Below.alloc hb hbw _
  have hA:=add_one b0 w.heap.size w0 (w.alloc (.cells #[.slice none 0 0,.bool false,.int .i64 0,.bool false,.int .i64 0] 101)) oth b1 hbw (heap_new _ _)
    (fun p hp=>by
      obtain ⟨o1,o2,o3⟩:=ho p hp
      have:=getElem?_lt o1
      exact ⟨by rw [Below.heap_alloc _ _ _ this]; exact o1,by omega,o2,o3⟩) serial hs1 hs2 n hn1 hn2
  clear b1 ho
  go_enter Tryz.func12,Tryz.ntmps12
  go_wp2_with fail
  go_call (new_any w) as e w1 ⟨rfl,rfl⟩
  go_wp2_with fail
  go_call hA as e w2 ⟨rfl,L,hLP,o2⟩
  clear hA
  rw [← hLP]
  clear hLP
  go_wp2_with fail
  go_call (o2.of_any rfl) as e w3 ⟨M,rfl,o3⟩
  have O3:Hid _:=o3
  clear o2 o3
  go_wp2
  go_returns
  exact ⟨L,M,rfl,O3.out⟩
end Go.Proofs.YtncfbocbigdhiaaGreat.F
