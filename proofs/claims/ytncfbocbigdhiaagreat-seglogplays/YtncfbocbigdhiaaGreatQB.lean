/- Texts of this seat, one behind the other. -/
import Derived.Test.YtncfbocbigdhiaaGreatQA
import Derived.Defers
import Derived.Recover
/- What is taken of an In, as calls: bytes, numbers, texts, noughts; what is wanting breaks it off; for every text shorter than a million bytes. -/
namespace Go.Proofs.YtncfbocbigdhiaaGreat.O
set_option maxRecDepth 100000
set_option maxRecDepth 100000
set_option maxRecDepth 100000
open Go.RowKit
structure InIs (w:World) (I:Nat) (s:ByteArray) (y:Int):Prop where
  c0:w.cell? ⟨I,0,none⟩ = some (.string s)
  c1:w.cell? ⟨I,1,none⟩ = some (.int .i64 y)
  f0:w.frozen? ⟨I,0,none⟩ = false
  f1:w.frozen? ⟨I,1,none⟩ = false
structure KI (I:Nat) (w w':World):Prop where
  os:w'.os = w.os
  tape:w'.tape = w.tape
  output:w'.output = w.output
  size:w.heap.size ≤ w'.heap.size
  block:∀ k,k < w.heap.size → k ≠ I → w'.heap[k]? = w.heap[k]?
theorem KI.trans {I:Nat} {a b c:World} (h:KI I a b) (k:KI I b c):KI I a c:=
  ⟨k.os.trans h.os,k.tape.trans h.tape,k.output.trans h.output,Nat.le_trans h.size k.size,fun i hi hne=>(k.block i (Nat.lt_of_lt_of_le hi h.size) hne).trans (h.block i hi hne)⟩
theorem KI.set (I o:Nat) (w:World) (v:Value):KI I w (w.setCell ⟨I,o,none⟩ v):=
  ⟨rfl,rfl,rfl,by simp [World.setCell],fun k _ hne=>Below.heap_setCell _ _ _ _ (by exact hne)⟩
theorem KI.ofBelow {I:Nat} {w w':World} (h:Below w.heap.size w w'):KI I w w':=⟨h.os,h.tape,h.output,h.size,fun k hk _=>h.block k hk⟩
theorem InIs.lt {w:World} {I:Nat} {s:ByteArray} {y:Int} (h:InIs w I s y):I < w.heap.size:=World.block_lt_of_cell? w _ h.c0
theorem InIs.below {w w':World} {I:Nat} {s:ByteArray} {y:Int} (h:InIs w I s y) (hb:Below w.heap.size w w'):InIs w' I s y:=
  ⟨(hb.cell (by exact h.lt)).trans h.c0,(hb.cell (by exact h.lt)).trans h.c1,(hb.frozen (by exact h.lt)).trans h.f0,(hb.frozen (by exact h.lt)).trans h.f1⟩
theorem InIs.left {w:World} {I:Nat} {s:ByteArray} {y:Int} (h:InIs w I s y) (t:ByteArray):InIs (w.setCell ⟨I,0,none⟩ (.string t)) I t y:=
  ⟨World.cell?_setCell_same w _ _ h.c0,by rw [World.cell?_setCell_other w _ _ _ (by intro e; have:=congrArg Addr.off e; simp at this)]; exact h.c1,by rw [World.frozen?_setCell]; exact h.f0,by rw [World.frozen?_setCell]; exact h.f1⟩
theorem InIs.why {w:World} {I:Nat} {s:ByteArray} {y:Int} (h:InIs w I s y) (z:Int):InIs (w.setCell ⟨I,1,none⟩ (.int .i64 z)) I s z:=
  ⟨by rw [World.cell?_setCell_other w _ _ _ (by intro e; have:=congrArg Addr.off e; simp at this)]; exact h.c0,World.cell?_setCell_same w _ _ h.c1,by rw [World.frozen?_setCell]; exact h.f0,by rw [World.frozen?_setCell]; exact h.f1⟩
def brk (I:Nat):PanicEntry:={ v:=.iface 217 (.agg #[.pointer (some ⟨I,0,none⟩)]),recovered:=false }
theorem fail_ok (I:Nat) (w:World) :
    Calls Tryz.prog 171 #[.pointer (some ⟨I,0,none⟩),.int .i64 0] w fun e w'=>e = .returned (.tuple #[]) ∧ w' = w:=by
  go_enter Tryz.func171,Tryz.ntmps171
  go_wp2
  go_returns
  exact ⟨rfl,rfl⟩
theorem fail_any (I:Nat) (s:ByteArray) (y:Int) (hy:¬ y = 0) (w:World) (h:InIs w I s 0) :
    Calls Tryz.prog 171 #[.pointer (some ⟨I,0,none⟩),.int .i64 y] w fun e w'=>e = .panicked [brk I] ∧ InIs w' I s y ∧ KI I w w':=by
  have h2:=h.why y
  obtain ⟨c0,c1,f0,f1⟩:=h
  have H2:Hid _:=h2
  clear h2
  go_enter Tryz.func171,Tryz.ntmps171
  go_wp2
  exact ⟨rfl,rfl,H2.out,KI.set I 1 w _⟩
theorem raw_in (I:Nat) (s:ByteArray) (n:Int) (k:Nat) (hk:n.toNat = k) (hn:k ≤ s.size) (hs:s.size ≤ 1000000) (w:World) (h:InIs w I s 0) :
    Calls Tryz.prog 173 #[.pointer (some ⟨I,0,none⟩),.int .i64 n] w fun e w'=>e = .returned (.string (s.extract 0 k)) ∧ InIs w' I (s.extract k s.size) 0 ∧ KI I w w':=by
  have h2:=h.left (s.extract k s.size)
  obtain ⟨c0,c1,f0,f1⟩:=h
  have H2:Hid _:=h2
  clear h2
  by_cases h0:0 < n
  · obtain ⟨m,rfl⟩:∃ m:Nat,n = (m:Int):=⟨n.toNat,by omega⟩
    obtain rfl:m = k:=by omega
    have hn1:¬ ((s.size:Int) < (m:Int)):=by omega
    have h0':0 < m:=by omega
    clear hk
    go_enter Tryz.func173,Tryz.ntmps173
    go_wp2
    go_ret
    exact ⟨rfl,H2.out,KI.set I 0 w _⟩
  · obtain rfl:k = 0:=by omega
    have e1:s.extract 0 0 = ⟨#[]⟩:=by apply ByteArray.ext; simp
    have e2:=extract_all s
    rw [e1]
    rw [e2] at H2
    have hn1:¬ ((s.size:Int) < 0):=by omega
    clear hk
    go_enter Tryz.func173,Tryz.ntmps173
    go_wp2
    go_ret
    exact ⟨rfl,H2.out,KI.set I 0 w _⟩
theorem left_any (I:Nat) (s:ByteArray) (y:Int) (w:World) (h:InIs w I s y) :
    Calls Tryz.prog 180 #[.pointer (some ⟨I,0,none⟩)] w fun e w'=>e = .returned (.int .i64 (s.size:Nat)) ∧ w' = w:=by
  obtain ⟨c0,c1,f0,f1⟩:=h
  go_enter Tryz.func180,Tryz.ntmps180
  go_wp2
  go_ret
  exact ⟨rfl,rfl⟩
def nv (s:ByteArray):Nat → Nat
  | 0=>0
  | k + 1=>nv s k * 256 + bn s k
theorem nv_lt (s:ByteArray) (k:Nat):nv s k < 256 ^ k:=by
  induction k with
  | zero=>exact Nat.zero_lt_one
  | succ k ih=>
    have:=bn_lt s k
    simp only [nv,Nat.pow_succ]
    omega
theorem nv_lt64 (s:ByteArray) (k:Nat) (hk:k ≤ 8):nv s k < 18446744073709551616:=
  Nat.lt_of_lt_of_le (nv_lt s k) (Nat.le_trans (Nat.pow_le_pow_right (by decide) hk) (by decide))
theorem bn_list (s:ByteArray) (k:Nat):bn s k = ((s.data.toList[k]?).map UInt8.toNat).getD 0:=by
  have:=bn_tx s.data.toList k
  rwa [tx_toList] at this
theorem bn_extract (s:ByteArray) (k j:Nat) (hj:j < k):bn (s.extract 0 k) j = bn s j:=by
  rw [bn_list,bn_list]
  congr 2
  simp only [ByteArray.data_extract,Array.toList_extract,List.extract_eq_take_drop,List.drop_zero,Nat.sub_zero]
  rw [List.getElem?_take,if_pos hj]
theorem nv_extract (s:ByteArray) (k j:Nat) (hj:j ≤ k):nv (s.extract 0 k) j = nv s j:=by
  induction j with
  | zero=>rfl
  | succ j ih=>simp only [nv]; rw [ih (by omega),bn_extract s k j (by omega)]
theorem ext_size (s:ByteArray) (k:Nat) (h:k ≤ s.size):(s.extract 0 k).size = k:=by simp [ByteArray.size_extract]; omega
set_option maxHeartbeats 800000 in
theorem num_in (I:Nat) (s:ByteArray) (n:Int) (hn:wd n ≤ s.size) (hs:s.size ≤ 1000000) (w:World) (h:InIs w I s 0) :
    Calls Tryz.prog 152 #[.pointer (some ⟨I,0,none⟩),.int .i64 n] w fun e w'=>e = .returned (.int .u64 (nv s (wd n):Nat)) ∧ InIs w' I (s.extract (wd n) s.size) 0 ∧ KI I w w':=by
  have hwc:=width_any n w
  have hw8:=wd_le n
  generalize wd n = k at *
  have hr:=raw_in I s (k:Int) k (by omega) hn hs w h
  have hsz:=ext_size s k hn
  have hnv:∀ j,j ≤ k → nv (s.extract 0 k) j = nv s j:=fun j hj=>nv_extract s k j hj
  generalize s.extract 0 k = d at *
  go_enter Tryz.func152,Tryz.ntmps152
  go_wp2_with fail
  go_call hwc as e w1 ⟨rfl,rfl⟩
  go_wp2_with fail
  go_call hr as e w2 ⟨rfl,h1,h2⟩
  obtain ⟨w3,cap3,hcv,hcell,hb3,hlt⟩:=conv_string d w2
  have HH:Hid (InIs w3 I (s.extract k s.size) 0 ∧ KI I w1 w3):=⟨h1.below hb3,h2.trans (KI.ofBelow hb3)⟩
  have HC:Hid (∀ j,j < d.size → w3.cell? ⟨w2.heap.size,j,none⟩ = some (.int .u8 (bn d j:Int))):=hcell
  have HN:Hid (∀ j,j ≤ k → nv d j = nv s j):=hnv
  have HS:Hid (d.size = k):=hsz
  clear hwc hr h h1 h2 hb3 hcell hnv
  rw [hsz] at hcv
  go_wp2_with fail
  clear hcv
  generalize w2.heap.size = B at *
  go_loop [5,14] (fun x i=>∃ j:Nat,j ≤ k ∧ i = .int .i64 j ∧ x = .int .u64 (nv d j:Nat))
    (fun _ i=>k - (intOf i).toNat)
  case atStart=>exact ⟨0,Nat.zero_le _,rfl,rfl⟩
  case round=>
    obtain ⟨j,hj,rfl,rfl⟩:=hrel
    by_cases hlt2:j < k
    · have hc1:=HC.out j (by rw [HS.out]; exact hlt2)
      have hbb:=bn_lt d j
      have hnl:=nv_lt64 d (j + 1) (by omega)
      have hnx:nv d (j + 1) = nv d j * 256 + bn d j:=rfl
      obtain ⟨y,hy⟩:∃ y,nv d (j + 1) = y:=⟨_,rfl⟩
      rw [hy] at hnl hnx
      have HY:Hid (nv d (j + 1) = y):=hy
      clear hy
      generalize nv d j = x at *
      generalize bn d j = b at *
      have ho:bits .or .u64 (IntKind.u64.wrap ((x:Int) * 256)) (b:Int) = (y:Int):=by
        have e:IntKind.u64.wrap ((x:Int) * 256) = ((256 * x:Nat):Int):=by rw [IntKind.wrap_u64]; omega
        rw [e,bits_or_u64_nat (256 * x) b (by omega) (by omega)]
        congr 1
        have h3:=Nat.two_pow_add_eq_or_of_lt (i:=8) (b:=b) (by omega) x
        rw [show (256:Nat) = 2 ^ 8 by decide,← h3]
        omega
      have ho2:bits .or .u64 ((x:Int) * 256 % 18446744073709551616) (b:Int) = (y:Int):=by
        have:IntKind.u64.wrap ((x:Int) * 256) = (x:Int) * 256 % 18446744073709551616:=by rw [IntKind.wrap_u64]
        rw [← this]; exact ho
      clear hnx HC HN HS
      go_wp2
      go_round
      case rel=>exact ⟨j + 1,by omega,by go_num,by rw [HY.out]⟩
      case measure=>simp only [intOf]; omega
    · obtain rfl:j = k:=by omega
      have e:=HN.out j (Nat.le_refl _)
      clear HC HN HS
      rw [e]
      go_wp2
      go_ret
      exact ⟨rfl,HH.out⟩
def zeros (s:ByteArray):Prop:=∀ j,j < s.size → bn s j = 0
set_option maxHeartbeats 800000 in
theorem zero_any (I:Nat) (s:ByteArray) (hs:s.size ≤ 1000000) (w:World) (h:InIs w I s 0) :
    Calls Tryz.prog 172 #[.pointer (some ⟨I,0,none⟩)] w fun e w'=>(zeros s → e = .returned (.tuple #[]) ∧ InIs w' I ⟨#[]⟩ 0) ∧ (¬ zeros s → e = .panicked [brk I] ∧ (∃ t,InIs w' I t 4)) ∧ KI I w w':=by
  have hl:=left_any I s 0 w h
  have hr:=raw_in I s (s.size:Int) s.size (by omega) (Nat.le_refl _) hs w h
  rw [extract_all s] at hr
  have hz0:s.extract s.size s.size = ⟨#[]⟩:=by apply ByteArray.ext; simp
  rw [hz0] at hr
  clear hz0
  go_enter Tryz.func172,Tryz.ntmps172
  go_wp2_with fail
  go_call hl as e w1 ⟨rfl,rfl⟩
  go_wp2_with fail
  go_call hr as e w2 ⟨rfl,h1,h2⟩
  obtain ⟨w3,cap3,hcv,hcell,hb3,hlt⟩:=conv_string s w2
  have HH:Hid (InIs w3 I ⟨#[]⟩ 0 ∧ KI I w1 w3):=⟨h1.below hb3,h2.trans (KI.ofBelow hb3)⟩
  have HC:Hid (∀ j,j < s.size → w3.cell? ⟨w2.heap.size,j,none⟩ = some (.int .u8 (bn s j:Int))):=hcell
  clear hl hr h h1 h2 hb3 hcell
  go_wp2_with fail
  clear hcv
  generalize w2.heap.size = B at *
  go_loop [10] (fun i=>∃ j:Nat,j ≤ s.size ∧ i = .int .i64 j ∧ Hid (∀ q,q < j → bn s q = 0))
    (fun i=>s.size - (intOf i).toNat)
  case atStart=>exact ⟨0,Nat.zero_le _,rfl,fun q hq=>absurd hq (by omega)⟩
  case round=>
    obtain ⟨j,hj,rfl,hq⟩:=hrel
    by_cases hlt2:j < s.size
    · have hc1:=HC.out j hlt2
      by_cases hb0:bn s j = 0
      · rw [hb0] at hc1
        have hqn:Hid (∀ q,q < j + 1 → bn s q = 0):=fun q hqq=>by
          by_cases e:q = j
          · subst e; exact hb0
          · exact hq.out q (by omega)
        clear hq hb0 HC
        go_wp2
        go_round
        case rel=>exact ⟨j + 1,by omega,by go_num,hqn⟩
        case measure=>simp only [intOf]; omega
      · have hnz:Hid (¬ zeros s):=fun hz=>hb0 (hz j hlt2)
        have hb1:¬ ((bn s j:Nat):Int) = 0:=by omega
        generalize bn s j = b at *
        clear hq HC
        go_wp2_with fail
        go_call (fail_any I ⟨#[]⟩ 4 (by decide) w3 HH.out.1) as e w4 ⟨rfl,h4,k4⟩
        have H4:Hid (InIs w4 I ⟨#[]⟩ 4 ∧ KI I w1 w4):=⟨h4,HH.out.2.trans k4⟩
        clear h4 k4 HH
        go_wp2
        exact ⟨rfl,fun hz=>absurd hz hnz.out,fun _=>⟨rfl,_,H4.out.1⟩,H4.out.2⟩
    · obtain rfl:j = s.size:=by omega
      have hyz:Hid (zeros s):=hq.out
      clear hq HC
      go_wp2
      go_returns
      exact ⟨fun _=>⟨rfl,HH.out.1⟩,fun hn=>absurd hyz.out hn,HH.out.2⟩
end Go.Proofs.YtncfbocbigdhiaaGreat.O

/- Take as a call: where what was handed in returns, its answer is what is left; where it is broken off, the error is told. -/
namespace Go.Proofs.YtncfbocbigdhiaaGreat.O
set_option maxRecDepth 100000
set_option maxRecDepth 100000
set_option maxRecDepth 100000
open Go.RowKit
theorem ended_ok (I:Nat) (s:ByteArray) (w:World) (h:InIs w I s 0) :
    Calls Tryz.prog 179 #[.pointer (some ⟨I,0,none⟩)] w fun e w'=>e = .returned (.tuple #[.string s,.int .i64 0]) ∧ w' = w:=by
  obtain ⟨c0,c1,f0,f1⟩:=h
  go_enter Tryz.func179,Tryz.ntmps179
  go_wp2
  go_returns
  exact ⟨rfl,rfl⟩
theorem lit22 (a b c v:Value):(#[a,b,c] ++ (Array.replicate 19 undef).setIfInBounds 3 v:Array Value) = #[a,b,c,undef,undef,undef,v,undef,undef,undef,undef,undef,undef,undef,undef,undef,undef,undef,undef,undef,undef,undef]:=by
  apply Array.ext'
  simp only [Array.toList_append,Array.toList_setIfInBounds,Array.toList_replicate]
  simp [List.replicate]
theorem catch_idle (L:Nat) (w:World) :
    CallsD Tryz.prog 178 #[.pointer (some ⟨L + 3,0,none⟩),.pointer (some ⟨L,0,none⟩),.pointer (some ⟨L + 1,0,none⟩)] .returning w fun e u' w'=>e = .returned (.tuple #[]) ∧ u' = .returning ∧ w' = w:=by
  refine callsD_of_wpS Tryz.func178 rfl fun c₀ cs hu=>?_
  apply wpS_seq
  apply wpS_region
  generalize hrest:(Code.block 0 _) = rest
  simp [wpOpsS,go_sem,recoverD,hu,Tryz.ntmps178,Exit.thenS]
  subst hrest
  refine wpS_of_wp ?_
  rw [lit22]
  go_wp2
  cases c₀
  simp_all [bodyPostS,results,Tryz.results178]
theorem assert_brk (I:Nat) (w:World):(Instr.typeAssert (.iface 217 (.agg #[.pointer (some ⟨I,0,none⟩)])) 20 217 true).run Tryz.prog w = .ok (.tuple #[.agg #[.pointer (some ⟨I,0,none⟩)],.bool true]) w:=by
  kernel_rfl
theorem equalIn_self (d:Nat) (p:Addr) (w:World):(Op.equalIn (d + 1) 192 (.pointer (some p)) (.pointer (some p))).run Tryz.prog w = .ok true w:=by
  simp [Op.equalIn,run_underlying Tryz.underlying192,sameAddr]
theorem equal_self (p:Addr) (w:World):(Op.equal 192 (.pointer (some p)) (.pointer (some p))).run Tryz.prog w = .ok true w:=equalIn_self 9999 p w
theorem neq_self (I:Nat) (w:World):(binOp .neq 192 (.pointer (some ⟨I,0,none⟩)) (.pointer (some ⟨I,0,none⟩))).run Tryz.prog w = .ok (.bool false) w:=by
  simp only [binOp]
  simp [equal_self ⟨I,0,none⟩ w]
structure KT (L:Nat) (w w':World):Prop where
  os:w'.os = w.os
  tape:w'.tape = w.tape
  output:w'.output = w.output
  size:w.heap.size ≤ w'.heap.size
  block:∀ k,k < w.heap.size → k ≠ L → k ≠ L + 1 → w'.heap[k]? = w.heap[k]?
theorem KT.sets (L:Nat) (w:World) (u v:Value):KT L w ((w.setCell ⟨L,0,none⟩ u).setCell ⟨L + 1,0,none⟩ v):=
  ⟨rfl,rfl,rfl,by simp [World.setCell],fun k _ h1 h2=>by rw [Below.heap_setCell _ _ _ _ (by exact h2),Below.heap_setCell _ _ _ _ (by exact h1)]⟩
theorem KT.refl (L:Nat) (w:World):KT L w w:=⟨rfl,rfl,rfl,Nat.le_refl _,fun _ _ _ _=>rfl⟩
theorem KT.trans {L:Nat} {a b c:World} (h:KT L a b) (k:KT L b c):KT L a c:=
  ⟨k.os.trans h.os,k.tape.trans h.tape,k.output.trans h.output,Nat.le_trans h.size k.size,fun i hi h1 h2=>(k.block i (Nat.lt_of_lt_of_le hi h.size) h1 h2).trans (h.block i hi h1 h2)⟩
theorem KT.alloc {L:Nat} {w w':World} (h:KT L w w') (o:Obj):KT L w (w'.alloc o):=
  ⟨h.os,h.tape,h.output,by have:=h.size; simp; omega,fun k hk h1 h2=>by rw [Below.heap_alloc _ _ _ (Nat.lt_of_lt_of_le hk h.size)]; exact h.block k hk h1 h2⟩
theorem catch_broken (L:Nat) (s:ByteArray) (y:Int) (older:List PanicEntry) (w:World) (h:InIs w (L + 2) s y) (hv:w.cell? ⟨L + 3,0,none⟩ = some (.pointer (some ⟨L + 2,0,none⟩)))
    (hl:w.cell? ⟨L,0,none⟩ = some (.string ⟨#[]⟩)) (hlf:w.frozen? ⟨L,0,none⟩ = false) (he:w.cell? ⟨L + 1,0,none⟩ = some (.int .i64 0)) (hef:w.frozen? ⟨L + 1,0,none⟩ = false) :
    CallsD Tryz.prog 178 #[.pointer (some ⟨L + 3,0,none⟩),.pointer (some ⟨L,0,none⟩),.pointer (some ⟨L + 1,0,none⟩)] (.panicking (brk (L + 2) :: older)) w fun e u' w'=>
      e = .returned (.tuple #[]) ∧ u' = .panicking ({ brk (L + 2) with recovered:=true } :: older) ∧ w'.cell? ⟨L,0,none⟩ = some (.string ⟨#[]⟩) ∧ w'.cell? ⟨L + 1,0,none⟩ = some (.int .i64 y) ∧ KT L w w':=by
  obtain ⟨c0,c1,f0,f1⟩:=h
  have hlt:L + 3 < w.heap.size:=World.block_lt_of_cell? w _ hv
  have k1:∀ o,(w.alloc o).cell? ⟨L + 3,0,none⟩ = some (.pointer (some ⟨L + 2,0,none⟩)):=fun o=>by rw [World.cell?_alloc_past _ _ _ hlt]; exact hv
  have k2:∀ o,(w.alloc o).cell? ⟨L + 2,1,none⟩ = some (.int .i64 y):=fun o=>by rw [World.cell?_alloc_past _ _ _ (by show L + 2 < _; omega)]; exact c1
  have k3:∀ o,(w.alloc o).cell? ⟨L,0,none⟩ = some (.string ⟨#[]⟩):=fun o=>by rw [World.cell?_alloc_past _ _ _ (by show L < _; omega)]; exact hl
  have k4:∀ o,(w.alloc o).cell? ⟨L + 1,0,none⟩ = some (.int .i64 0):=fun o=>by rw [World.cell?_alloc_past _ _ _ (by show L + 1 < _; omega)]; exact he
  have g3:∀ o,(w.alloc o).frozen? ⟨L,0,none⟩ = false:=fun o=>by rw [World.frozen?_alloc_past _ _ _ (by show L < _; omega)]; exact hlf
  have g4:∀ o,(w.alloc o).frozen? ⟨L + 1,0,none⟩ = false:=fun o=>by rw [World.frozen?_alloc_past _ _ _ (by show L + 1 < _; omega)]; exact hef
  have F1:∀ o,(((w.alloc o).setCell ⟨L,0,none⟩ (.string ⟨#[]⟩)).setCell ⟨L + 1,0,none⟩ (.int .i64 y)).cell? ⟨L,0,none⟩ = some (.string ⟨#[]⟩):=fun o=>by
    rw [World.cell?_setCell_other _ _ _ _ (by intro e; have:=congrArg Addr.block e; simp at this),World.cell?_setCell_same _ _ _ (k3 o)]
  have F2:∀ o,(((w.alloc o).setCell ⟨L,0,none⟩ (.string ⟨#[]⟩)).setCell ⟨L + 1,0,none⟩ (.int .i64 y)).cell? ⟨L + 1,0,none⟩ = some (.int .i64 y):=fun o=>
    World.cell?_setCell_same _ _ _ (by rw [World.cell?_setCell_other _ _ _ _ (by intro e; have:=congrArg Addr.block e; simp at this)]; exact k4 o)
  have F3:∀ o,KT L w (((w.alloc o).setCell ⟨L,0,none⟩ (.string ⟨#[]⟩)).setCell ⟨L + 1,0,none⟩ (.int .i64 y)):=fun o=>((KT.refl L w).alloc o).trans (KT.sets L _ _ _)
  have FF:Hid _:=And.intro F1 (And.intro F2 F3)
  clear F1 F2 F3
  have hta:=assert_brk (L + 2)
  have hnq:=neq_self (L + 2)
  unfold brk
  refine callsD_of_wpS Tryz.func178 rfl fun c₀ cs hu=>?_
  apply wpS_seq
  apply wpS_region
  generalize hrest:(Code.block 0 _) = rest
  simp [wpOpsS,go_sem,recoverD,hu,Tryz.ntmps178,Exit.thenS]
  subst hrest
  refine wpS_of_wp ?_
  rw [lit22]
  go_wp2
  obtain ⟨F1,F2,F3⟩:=FF.out
  clear k1 k2 k3 k4 g3 g4 hta hnq
  cases c₀
  simp [bodyPostS,results,Tryz.results178,F1,F2,F3]
end Go.Proofs.YtncfbocbigdhiaaGreat.O

/- Take as a call: where what was handed in returns, its answer is what is left; where it is broken off, the error is told. -/
namespace Go.Proofs.YtncfbocbigdhiaaGreat.O
set_option maxRecDepth 100000
set_option maxRecDepth 100000
set_option maxRecDepth 100000
open Go.RowKit
def W0 (w:World) (s:ByteArray):World:=
  (((w.alloc (.cells #[.string ⟨#[]⟩] 9)).alloc (.cells #[.int .i64 0] 35)).alloc (.cells #[.string s,.int .i64 0] 215)).alloc (.cells #[.pointer (some ⟨w.heap.size + 1 + 1,0,none⟩)] 192)
structure TK (L:Nat) (W:World):Prop where
  l:W.cell? ⟨L,0,none⟩ = some (.string ⟨#[]⟩)
  lf:W.frozen? ⟨L,0,none⟩ = false
  e:W.cell? ⟨L + 1,0,none⟩ = some (.int .i64 0)
  ef:W.frozen? ⟨L + 1,0,none⟩ = false
  v:W.cell? ⟨L + 3,0,none⟩ = some (.pointer (some ⟨L + 2,0,none⟩))
set_option maxHeartbeats 1000000 in
theorem take_ok (f:Nat) (cap:Array Value) (s t:ByteArray) (R:World → Prop) (w:World) (hent:∀ args W,(callFunc f args).run Tryz.prog W = .ok (.enter f args) W)
    (hdo:Calls Tryz.prog f (#[.pointer (some ⟨w.heap.size + 1 + 1,0,none⟩)] ++ cap) (W0 w s) fun e W=>e = .returned (.tuple #[]) ∧ InIs W (w.heap.size + 2) t 0 ∧ TK w.heap.size W ∧ R W) :
    Calls Tryz.prog 169 #[.string s,.func (.func f) #[] cap] w fun e w'=>e = .returned (.tuple #[.string t,.int .i64 0]) ∧ ∃ W,R W ∧ KT w.heap.size W w':=by
  have hmf:∀ (fn:Fn) (first cap:Array Value) (w:World),(Instr.makeFunc fn first cap).run Tryz.prog w = .ok (.func fn first cap) w:=fun _ _ _ _=>rfl
  go_enter_defers Tryz.func169,Tryz.ntmps169
  go_wp2_with fail
  go_call hdo as e W1 ⟨rfl,h1,h2,h3⟩
  clear hdo hent
  have hen:=ended_ok (w.heap.size + 2) t W1 h1
  obtain ⟨l,lf,e,ef,v⟩:=h2
  have HR:Hid (R W1):=h3
  clear h1 h3
  go_wp2_with fail
  go_call hen as e w2 ⟨rfl,rfl⟩
  clear hen
  have F1:((w2.setCell ⟨w.heap.size,0,none⟩ (.string t)).setCell ⟨w.heap.size + 1,0,none⟩ (.int .i64 0)).cell? ⟨w.heap.size,0,none⟩ = some (.string t):=by
    rw [World.cell?_setCell_other _ _ _ _ (by intro e; have:=congrArg Addr.block e; simp at this),World.cell?_setCell_same _ _ _ l]
  have F2:((w2.setCell ⟨w.heap.size,0,none⟩ (.string t)).setCell ⟨w.heap.size + 1,0,none⟩ (.int .i64 0)).cell? ⟨w.heap.size + 1,0,none⟩ = some (.int .i64 0):=
    World.cell?_setCell_same _ _ _ (by rw [World.cell?_setCell_other _ _ _ _ (by intro e; have:=congrArg Addr.block e; simp at this)]; exact e)
  have F3:=KT.sets w.heap.size w2 (.string t) (.int .i64 0)
  have FF:Hid _:=And.intro F1 (And.intro F2 F3)
  clear F1 F2 F3
  go_wp2
  obtain ⟨F1,F2,F3⟩:=FF.out
  generalize ((w2.setCell ⟨w.heap.size,0,none⟩ (.string t)).setCell ⟨w.heap.size + 1,0,none⟩ (.int .i64 0)) = w3 at *
  refine leaves_cons (f:=178) (args:=#[.pointer (some ⟨w.heap.size + 3,0,none⟩),.pointer (some ⟨w.heap.size,0,none⟩),.pointer (some ⟨w.heap.size + 1,0,none⟩)]) (by simp) (by simp [go_sem]) ?_
  refine (catch_idle w.heap.size _).mono ?_
  rintro e u' w'' ⟨rfl,rfl,rfl⟩
  have hend:Hid (∃ W,R W ∧ KT w.heap.size W w''):=⟨w2,HR.out,F3⟩
  simp [Leaves,settle,results,Tryz.results169,go_sem,F1,F2]
  exact hend.out
set_option maxHeartbeats 1000000 in
theorem take_no (f:Nat) (cap:Array Value) (s t:ByteArray) (y:Int) (R:World → Prop) (w:World) (hent:∀ args W,(callFunc f args).run Tryz.prog W = .ok (.enter f args) W)
    (hdo:Calls Tryz.prog f (#[.pointer (some ⟨w.heap.size + 1 + 1,0,none⟩)] ++ cap) (W0 w s) fun e W=>e = .panicked [brk (w.heap.size + 2)] ∧ InIs W (w.heap.size + 2) t y ∧ TK w.heap.size W ∧ R W) :
    Calls Tryz.prog 169 #[.string s,.func (.func f) #[] cap] w fun e w'=>e = .returned (.tuple #[.string ⟨#[]⟩,.int .i64 y]) ∧ ∃ W,R W ∧ KT w.heap.size W w':=by
  have hmf:∀ (fn:Fn) (first cap:Array Value) (w:World),(Instr.makeFunc fn first cap).run Tryz.prog w = .ok (.func fn first cap) w:=fun _ _ _ _=>rfl
  go_enter_defers Tryz.func169,Tryz.ntmps169
  go_wp2_with fail
  go_call hdo as e W1 ⟨rfl,h1,h2,h3⟩
  clear hdo hent
  go_wp2
  refine leaves_cons (f:=178) (args:=#[.pointer (some ⟨w.heap.size + 3,0,none⟩),.pointer (some ⟨w.heap.size,0,none⟩),.pointer (some ⟨w.heap.size + 1,0,none⟩)]) (by simp) (by simp [go_sem]) ?_
  refine (catch_broken w.heap.size t y [] W1 h1 h2.v h2.l h2.lf h2.e h2.ef).mono ?_
  rintro e u' w'' ⟨rfl,rfl,F1,F2,F3⟩
  have hend:Hid (∃ W,R W ∧ KT w.heap.size W w''):=⟨W1,h3,F3⟩
  simp [Leaves,settle,results,Tryz.results169,go_sem,F1,F2]
  exact hend.out
end Go.Proofs.YtncfbocbigdhiaaGreat.O

/- The law OctetLow as a call: for any number and any two counts it returns true, and nothing that was in memory is changed. -/
namespace Go.Proofs.YtncfbocbigdhiaaGreat.O
set_option maxRecDepth 100000
set_option maxRecDepth 100000
set_option maxRecDepth 100000
open Go.RowKit
theorem OutIs.of_blocks {w w':World} {B:Nat} {v:Value} {l:List UInt8} (h:OutIs w B v l) (hB:w'.heap[B]? = w.heap[B]?) (hv:∀ k,v.ownBlock = some k → w'.heap[k]? = w.heap[k]?):OutIs w' B v l:=by
  refine ⟨(World.cell?_of_block hB).trans h.cell,(World.frozen?_of_block hB).trans h.frz,h.own.1,?_⟩
  rcases h.own.2 with h2 | ⟨g,cap,cur,e,hbg,hg,r⟩
  · exact Or.inl h2
  · exact Or.inr ⟨g,cap,cur,e,hbg,(hv g (by rw [e]; rfl)).trans hg,r⟩
theorem OutIs.below {w w':World} {B:Nat} {v:Value} {l:List UInt8} (h:OutIs w B v l) (hb:Below w.heap.size w w'):OutIs w' B v l:=
  h.of_blocks (hb.block B h.lt) (fun k hk=>hb.block k (h.own.lt k hk).2)
theorem TK.keep {L:Nat} {w w':World} (h:TK L w) (hb:∀ k,k = L ∨ k = L + 1 ∨ k = L + 3 → w'.heap[k]? = w.heap[k]?):TK L w':=
  ⟨(World.cell?_of_block (hb L (Or.inl rfl))).trans h.l,(World.frozen?_of_block (hb L (Or.inl rfl))).trans h.lf,(World.cell?_of_block (hb (L + 1) (Or.inr (Or.inl rfl)))).trans h.e,
    (World.frozen?_of_block (hb (L + 1) (Or.inr (Or.inl rfl)))).trans h.ef,(World.cell?_of_block (hb (L + 3) (Or.inr (Or.inr rfl)))).trans h.v⟩
theorem W0_size (w:World) (s:ByteArray):(W0 w s).heap.size = w.heap.size + 4:=by simp [W0]
theorem W0_get (w:World) (s:ByteArray):(W0 w s).heap[w.heap.size]? = some (.cells #[.string ⟨#[]⟩] 9) ∧ (W0 w s).heap[w.heap.size + 1]? = some (.cells #[.int .i64 0] 35) ∧ (W0 w s).heap[w.heap.size + 2]? = some (.cells #[.string s,.int .i64 0] 215) ∧
    (W0 w s).heap[w.heap.size + 3]? = some (.cells #[.pointer (some ⟨w.heap.size + 1 + 1,0,none⟩)] 192):=by
  have e:(W0 w s).heap = (((w.heap.push (.cells #[.string ⟨#[]⟩] 9)).push (.cells #[.int .i64 0] 35)).push (.cells #[.string s,.int .i64 0] 215)).push (.cells #[.pointer (some ⟨w.heap.size + 1 + 1,0,none⟩)] 192):=rfl
  rw [e]
  refine ⟨?_,?_,?_,?_⟩
  · rw [Array.getElem?_push,if_neg (by simp; omega),Array.getElem?_push,if_neg (by simp; omega),Array.getElem?_push,if_neg (by simp),Array.getElem?_push,if_pos rfl]
  · rw [Array.getElem?_push,if_neg (by simp),Array.getElem?_push,if_neg (by simp),Array.getElem?_push,if_pos (by simp)]
  · rw [Array.getElem?_push,if_neg (by simp),Array.getElem?_push,if_pos (by simp)]
  · rw [Array.getElem?_push,if_pos (by simp)]
theorem W0_in (w:World) (s:ByteArray):InIs (W0 w s) (w.heap.size + 2) s 0:=by
  obtain ⟨_,_,h,_⟩:=W0_get w s
  refine ⟨?_,?_,?_,?_⟩
  · simp only [World.cell?,h]; rfl
  · simp only [World.cell?,h]; rfl
  · simp only [World.frozen?,h]; simp
  · simp only [World.frozen?,h]; simp
theorem W0_tk (w:World) (s:ByteArray):TK w.heap.size (W0 w s):=by
  obtain ⟨h1,h2,_,h3⟩:=W0_get w s
  refine ⟨?_,?_,?_,?_,?_⟩
  · simp only [World.cell?,h1]; rfl
  · simp only [World.frozen?,h1]; simp
  · simp only [World.cell?,h2]; rfl
  · simp only [World.frozen?,h2]; simp
  · simp only [World.cell?,h3]; rfl
theorem W0_below (w:World) (s:ByteArray):Below w.heap.size w (W0 w s):=
  (((Below.alloc (Below.refl _ _) (Nat.le_refl _) _).alloc (by simp) _).alloc (by simp; omega) _).alloc (by simp; omega) _
theorem enter_of {f : FuncId} {fn : Func} (hf : Tryz.prog.funcs[f]? = some fn) (hname : (fn.name == "runtime.NumGoroutine") = false) (hb : fn.body.isNone = false) (args : Array Value) (W : World) : (callFunc f args).run Tryz.prog W = .ok (.enter f args) W := by
  have h1 : fn.name ≠ "runtime.NumGoroutine" := by simpa using hname
  simp [callFunc,hf,h1]
  intro h; rw [h] at hb; cases hb
end Go.Proofs.YtncfbocbigdhiaaGreat.O

/- The law OctetLow as a call: for any number and any two counts it returns true, and nothing that was in memory is changed. -/
namespace Go.Proofs.YtncfbocbigdhiaaGreat.O
set_option maxRecDepth 100000
set_option maxRecDepth 100000
set_option maxRecDepth 100000
open Go.RowKit
theorem numB_get (x k j:Nat) (hj:j < k):(numB x k)[j]? = some (UInt8.ofNat (x / 256 ^ (k - 1 - j))):=by
  induction k generalizing j with
  | zero=>omega
  | succ k ih=>
    simp only [numB]
    cases j with
    | zero=>simp
    | succ j=>
      rw [List.getElem?_cons_succ,ih j (by omega)]
      congr 4; omega
theorem bn_numB (x k j:Nat) (r:List UInt8) (hj:j < k):bn (tx (numB x k ++ r)) j = x / 256 ^ (k - 1 - j) % 256:=by
  rw [bn_tx,List.getElem?_append_left (by rw [numB_length]; exact hj),numB_get x k j hj]
  simp
theorem nv_numB (x k j:Nat) (r:List UInt8) (hj:j ≤ k):nv (tx (numB x k ++ r)) j = x / 256 ^ (k - j) % 256 ^ j:=by
  induction j with
  | zero=>simp [nv,Nat.mod_one]
  | succ j ih=>
    simp only [nv]
    rw [ih (by omega),bn_numB x k j r (by omega)]
    have e1:k - j = (k - (j + 1)) + 1:=by omega
    have e2:k - 1 - j = k - (j + 1):=by omega
    rw [e1,e2,Nat.pow_succ,← Nat.div_div_eq_div_mul,Nat.pow_succ,Nat.mul_comm (256 ^ j) 256,Nat.mod_mul]
    omega
theorem nv_all (x k:Nat) (r:List UInt8):nv (tx (numB x k ++ r)) k = x % 256 ^ k:=by
  rw [nv_numB x k k r (Nat.le_refl _),Nat.sub_self,Nat.pow_zero,Nat.div_one]
theorem extract_tx (l:List UInt8) (k:Nat):(tx l).extract k (tx l).size = tx (l.drop k):=by
  apply ByteArray.ext
  apply Array.ext'
  have hsz:=tx_size l
  simp only [ByteArray.data_extract,Array.toList_extract,List.extract_eq_take_drop]
  rw [hsz]
  simp [tx]
  exact List.take_of_length_le (by simp)
theorem zeros_rep (n:Nat):zeros (tx (List.replicate n 0)):=by
  intro j hj
  rw [tx_size,List.length_replicate] at hj
  rw [bn_tx,List.getElem?_replicate,if_pos hj]; rfl
end Go.Proofs.YtncfbocbigdhiaaGreat.O
