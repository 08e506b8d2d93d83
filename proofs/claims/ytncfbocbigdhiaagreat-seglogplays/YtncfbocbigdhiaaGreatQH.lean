/- Texts of this seat, one behind the other. -/
import Derived.Test.YtncfbocbigdhiaaGreatQB
import Derived.Test.YtncfbocbigdhiaaGreatQC
import Derived.Test.YtncfbocbigdhiaaGreatQKD
/- A sector's tail, and a sector of a mark and whatever is written, as calls. -/
namespace Go.Proofs.YtncfbocbigdhiaaGreat
set_option maxRecDepth 100000
open Go.RowKit
def sm (x:ByteArray):Nat:=S.og (fun _=>x) 1
theorem sm_lt (x:ByteArray):sm x < 4294967296:=S.og_lt _ 1
theorem sum_one (x:ByteArray) (hx:x.size ≤ 1000) (b:Nat) (w:World) (h:w.cell? ⟨b,0,none⟩ = some (.string x)):Calls Tryz.prog 98 #[.slice (some ⟨b,0,none⟩) 1 1] w fun e w'=>e = .returned (.int .u32 (sm x:Nat)) ∧ w' = w:=
  S.of_any (fun _=>x) 1 b (by decide) (fun _=>by omega) w (fun j hj=>by
    obtain rfl:j = 0:=by omega
    exact h)
def tailL (x:ByteArray):List UInt8:=O.numB (sm x) 4
set_option maxHeartbeats 1000000 in
theorem tail_any (x:ByteArray) (hx:x.size ≤ 1000) (w:World):Calls Tryz.prog 111 #[.string x] w fun e w'=>e = .returned (.string (O.tx (tailL x))) ∧ Below w.heap.size w w':=by
  have ho:=O.out_new w
  have hq:=sm_lt x
  have hb1:Below (w.alloc (.cells #[.slice none 0 0] 158)).heap.size (w.alloc (.cells #[.slice none 0 0] 158)) ((w.alloc (.cells #[.slice none 0 0] 158)).alloc (.cells #[.string x] 9)):=Below.alloc (Below.refl _ _) (Nat.le_refl _) _
  have HO:Hid _:=ho.below hb1
  have hs:=sum_one x hx (w.heap.size + 1) ((w.alloc (.cells #[.slice none 0 0] 158)).alloc (.cells #[.string x] 9)) (by
    have e:(w.alloc (.cells #[.slice none 0 0] 158)).heap.size = w.heap.size + 1:=by simp
    rw [← e]; exact (F.cell_of (F.heap_new _ _) 0).trans rfl)
  have HB:Hid (Below w.heap.size w ((w.alloc (.cells #[.slice none 0 0] 158)).alloc (.cells #[.string x] 9))):=(Below.alloc (Below.refl _ _) (Nat.le_refl _) _).trans (hb1.mono (by simp))
  have HT:Hid (tailL x = O.numB (sm x) 4):=rfl
  clear ho hb1
  generalize sm x = q at *
  go_enter Tryz.func111,Tryz.ntmps111
  go_wp2_with fail
  go_call hs as e w2 ⟨rfl,hw2⟩
  rw [← hw2] at HO HB
  clear hs hw2
  have hnum:=O.num_any w.heap.size _ [] q 4 w2 HO.out (by omega) (by simp)
  rw [show O.wd 4 = 4 by decide] at hnum
  go_wp2_with fail
  go_call hnum as e w3 ⟨rfl,v3,hw3⟩
  have HB3:Hid (Below w.heap.size w w3):=HB.out.trans (hw3.below HO.out)
  have hby:=O.bytes_any w.heap.size v3 _ w3 hw3.out
  rw [List.nil_append,← HT.out] at hby
  replace hby:Calls Tryz.prog 110 #[.pointer (some ⟨w.heap.size,0,none⟩)] w3 fun e w'=>e = .returned (.string (O.tx (tailL x))) ∧ w' = w3:=hby
  clear hnum hw3 HO HB HT
  generalize hy:O.tx (tailL x) = y at hby
  have HY:Hid _:=hy
  clear hy
  go_wp2_with fail
  go_call hby as e w4 ⟨rfl,hw4⟩
  rw [← hw4] at HB3
  clear hby hw4
  go_wp2
  go_returns
  exact ⟨by show Ending.returned (.string y) = _; rw [← HY.out],HB3.out⟩
def bodyL (mark:Nat) (new:List UInt8):List UInt8:=(O.numB mark 1 ++ new) ++ List.replicate (60 - (1 + new.length)) 0
def secL (mark:Nat) (new:List UInt8):List UInt8:=bodyL mark new ++ tailL (O.tx (bodyL mark new))
theorem bodyL_length (mark:Nat) (new:List UInt8) (h:new.length ≤ 59):(bodyL mark new).length = 60:=by
  unfold bodyL; simp [O.numB_length]; omega
theorem secL_length (mark:Nat) (new:List UInt8) (h:new.length ≤ 59):(secL mark new).length = 64:=by
  unfold secL; rw [List.length_append,bodyL_length mark new h]; unfold tailL; rw [O.numB_length]
set_option maxHeartbeats 1000000 in
theorem sector_any (f:Nat) (cap:Array Value) (mark:Nat) (new:List UInt8) (w:World) (hm:mark < 256) (hn:new.length ≤ 59) (hent:∀ args W,(callFunc f args).run Tryz.prog W = .ok (.enter f args) W)
    (hdo:∀ v W,O.OutIs W w.heap.size v (O.numB mark 1) → Below w.heap.size w W → Calls Tryz.prog f (#[.pointer (some ⟨w.heap.size,0,none⟩)] ++ cap) W fun e W'=>e = .returned (.tuple #[]) ∧ ∃ v',O.Wr w.heap.size v (O.numB mark 1) new W v' W') :
    Calls Tryz.prog 66 #[.int .u64 (mark:Nat),.func (.func f) #[] cap] w fun e w'=>e = .returned (.string (O.tx (secL mark new))) ∧ Below w.heap.size w w':=by
  have ho:=O.out_new w
  have hnum:=O.num_any w.heap.size _ [] mark 1 _ ho (by omega) (by simp)
  rw [show O.wd 1 = 1 by decide] at hnum
  have HB0:Hid (Below w.heap.size w (w.alloc (.cells #[.slice none 0 0] 158))):=Below.alloc (Below.refl _ _) (Nat.le_refl _) _
  have HO:Hid _:=ho
  have HDO:Hid _:=hdo
  clear ho hdo
  go_enter Tryz.func66,Tryz.ntmps66
  go_wp2_with fail
  go_call hnum as e w1 ⟨rfl,v1,hw1⟩
  have HB1:Hid (Below w.heap.size w w1):=HB0.out.trans (hw1.below HO.out)
  have ho1:=hw1.out
  rw [List.nil_append] at ho1
  have hd:=HDO.out v1 w1 ho1 HB1.out
  have HO1:Hid _:=ho1
  clear hnum hw1 HO HB0 ho1 HDO
  have hq:=hent
  go_wp2_with fail
  go_call hd as e w2 ⟨rfl,v2,hw2⟩
  have HB2:Hid (Below w.heap.size w w2):=HB1.out.trans (hw2.below HO1.out)
  have ho2:=hw2.out
  have hl:(O.numB mark 1 ++ new).length = 1 + new.length:=by rw [List.length_append,O.numB_length]
  have hfl:=O.fill_any w.heap.size v2 _ 60 w2 ho2 (by decide) (by rw [hl]; omega)
  have hfn:O.fillN (O.numB mark 1 ++ new).length 60 = 60 - (1 + new.length):=by
    unfold O.fillN; rw [hl]
    by_cases h:1 + new.length = 60
    · rw [h]; rfl
    · rw [if_neg (by omega)]; omega
  rw [hfn] at hfl
  have HO2:Hid _:=ho2
  clear hd hw2 HO1 HB1 hfn hl ho2 hq
  go_wp2_with fail
  go_call hfl as e w3 ⟨rfl,v3,hw3⟩
  have HB3:Hid (Below w.heap.size w w3):=HB2.out.trans (hw3.below HO2.out)
  have hby:=O.bytes_any w.heap.size v3 _ w3 hw3.out
  replace hby:Calls Tryz.prog 110 #[.pointer (some ⟨w.heap.size,0,none⟩)] w3 fun e w'=>e = .returned (.string (O.tx (bodyL mark new))) ∧ w' = w3:=hby
  have hbs:(O.tx (bodyL mark new)).size = 60:=by rw [O.size_list]; show (bodyL mark new).toArray.toList.length = _; rw [List.toList_toArray]; exact bodyL_length mark new hn
  have htl:=fun W=>tail_any (O.tx (bodyL mark new)) (by omega) W
  have HS:Hid (O.tx (secL mark new) = O.tx (bodyL mark new) ++ O.tx (tailL (O.tx (bodyL mark new)))):=by
    show _ = _
    unfold secL
    generalize tailL (O.tx (bodyL mark new)) = b
    generalize bodyL mark new = a
    unfold O.tx
    apply ByteArray.ext
    simp
  have hts:(O.tx (tailL (O.tx (bodyL mark new)))).size = 4:=by rw [O.size_list]; show (tailL _).toArray.toList.length = _; rw [List.toList_toArray]; exact O.numB_length _ _
  clear hfl hw3 HO2 HB2
  generalize O.tx (tailL (O.tx (bodyL mark new))) = tl at *
  generalize O.tx (bodyL mark new) = bd at *
  go_wp2_with fail
  go_call hby as e w4 ⟨rfl,hw4⟩
  rw [← hw4] at HB3
  clear hby hw4
  go_wp2_with fail
  go_call (htl w4) as e w5 ⟨rfl,hb5⟩
  have HB5:Hid (Below w.heap.size w w5):=HB3.out.trans (hb5.mono HB3.out.size)
  clear htl hb5 HB3
  go_wp2
  go_returns
  exact ⟨by rw [HS.out]; rfl,HB5.out⟩
end Go.Proofs.YtncfbocbigdhiaaGreat

/- A Commit's sector, as a call. -/
namespace Go.Proofs.YtncfbocbigdhiaaGreat
open Go.RowKit
structure Cm where
  c:Nat
  j:Nat
  n:Nat
  a:Nat
  k:Nat
  s:Nat
def Cm.cs (p:Cm):Array Value:=#[.int .u64 (p.c:Nat),.int .u64 (p.j:Nat),.int .u64 (p.n:Nat),.int .i64 (p.a:Nat),.int .i64 (p.k:Nat),.int .u32 (p.s:Nat)]
structure Cm.Ok (p:Cm):Prop where
  c:p.c < 18446744073709551616
  j:p.j < 18446744073709551616
  n:p.n < 18446744073709551616
  a0:1 ≤ p.a
  k0:1 ≤ p.k
  ak:p.a + p.k ≤ 63
  s:p.s < 4294967296
def Cm.fl (p:Cm):List UInt8:=((O.numB p.c 8 ++ O.numB p.j 8) ++ O.numB p.n 8) ++ ((O.numB p.a 1 ++ O.numB p.k 1) ++ O.numB p.s 4)
theorem Cm.fl_length (p:Cm):p.fl.length = 30:=by
  unfold Cm.fl; simp [O.numB_length]
def Cm.sec (p:Cm):ByteArray:=O.tx (secL 67 p.fl)
theorem Cm.sec_size (p:Cm):p.sec.size = 64:=by
  rw [O.size_list]; show (secL 67 p.fl).toArray.toList.length = _; rw [List.toList_toArray]; exact secL_length _ _ (by rw [Cm.fl_length]; decide)
theorem ent67 (args:Array Value) (W:World):(callFunc 67 args).run Tryz.prog W = .ok (.enter 67 args) W:=O.enter_of Tryz.func67 (by kernel_rfl) (by kernel_rfl) args W
def wsB (a b c:Nat) (N1 N2 N3:List UInt8) (done:Nat → Bool):List UInt8:=((if done a then N1 else []) ++ (if done b then N2 else [])) ++ (if done c then N3 else [])
structure WPh (a b c X B:Nat) (bx:Array Value) (v0:Value) (l N1 N2 N3:List UInt8) (w0:World) (done:Nat → Bool) (W:World):Prop where
  x:W.heap[X]? = some (.cells bx 55)
  wr:∃ v,O.Wr B v0 l (wsB a b c N1 N2 N3 done) w0 v W
  ob:done b = true → done a = true
  oc:done c = true → done b = true
section
variable {a b c X B:Nat} {bx:Array Value} {v0:Value} {l N1 N2 N3:List UInt8} {w0:World} {done:Nat → Bool} {W W':World}
theorem WPh.pure (h:WPh a b c X B bx v0 l N1 N2 N3 w0 done W) (k:Nat) (hk:k ≠ a ∧ k ≠ b ∧ k ≠ c):WPh a b c X B bx v0 l N1 N2 N3 w0 (O.updB done k) W:=by
  have ea:O.updB done k a = done a:=if_neg (Ne.symm hk.1)
  have eb:O.updB done k b = done b:=if_neg (Ne.symm hk.2.1)
  have ec:O.updB done k c = done c:=if_neg (Ne.symm hk.2.2)
  refine ⟨h.x,?_,by rw [ea,eb]; exact h.ob,by rw [eb,ec]; exact h.oc⟩
  unfold wsB; rw [ea,eb,ec]; exact h.wr
theorem WPh.s1 (h:WPh a b c X B bx v0 l N1 N2 N3 w0 done W) (hX:X < B) (hab:a ≠ b) (hac:a ≠ c) (hd:done a = false):∃ v,O.OutIs W B v l ∧ ∀ v' W',O.Wr B v l N1 W v' W' → WPh a b c X B bx v0 l N1 N2 N3 w0 (O.updB done a) W':=by
  obtain ⟨v,hw⟩:=h.wr
  have hb:done b = false:=by
    cases hq:done b with
    | false=>rfl
    | true=>rw [h.ob hq] at hd; cases hd
  have hc:done c = false:=by
    cases hq:done c with
    | false=>rfl
    | true=>rw [h.oc hq] at hb; cases hb
  have e0:wsB a b c N1 N2 N3 done = []:=by unfold wsB; rw [hd,hb,hc]; rfl
  rw [e0] at hw
  have ho:=hw.out
  rw [List.append_nil] at ho
  refine ⟨v,ho,fun v' W' hw'=>?_⟩
  have ea:O.updB done a a = true:=if_pos rfl
  have eb:O.updB done a b = done b:=if_neg (Ne.symm hab)
  have ec:O.updB done a c = done c:=if_neg (Ne.symm hac)
  refine ⟨((hw'.below ho).block X hX).trans h.x,⟨v',?_⟩,fun _=>ea,fun e=>by rw [ec,hc] at e; cases e⟩
  have e1:wsB a b c N1 N2 N3 (O.updB done a) = [] ++ N1:=by unfold wsB; rw [ea,eb,ec,hb,hc]; simp
  rw [e1]
  exact hw.trans (by rw [List.append_nil]; exact hw')
theorem WPh.s2 (h:WPh a b c X B bx v0 l N1 N2 N3 w0 done W) (hX:X < B) (hab:a ≠ b) (hbc:b ≠ c) (ha:done a = true) (hd:done b = false):∃ v,O.OutIs W B v (l ++ N1) ∧ ∀ v' W',O.Wr B v (l ++ N1) N2 W v' W' → WPh a b c X B bx v0 l N1 N2 N3 w0 (O.updB done b) W':=by
  obtain ⟨v,hw⟩:=h.wr
  have hc:done c = false:=by
    cases hq:done c with
    | false=>rfl
    | true=>rw [h.oc hq] at hd; cases hd
  have e0:wsB a b c N1 N2 N3 done = N1:=by unfold wsB; rw [ha,hd,hc]; simp
  rw [e0] at hw
  have ho:=hw.out
  refine ⟨v,ho,fun v' W' hw'=>?_⟩
  have ea:O.updB done b a = done a:=if_neg hab
  have eb:O.updB done b b = true:=if_pos rfl
  have ec:O.updB done b c = done c:=if_neg (Ne.symm hbc)
  refine ⟨((hw'.below ho).block X hX).trans h.x,⟨v',?_⟩,fun _=>by rw [ea]; exact ha,fun _=>eb⟩
  have e1:wsB a b c N1 N2 N3 (O.updB done b) = N1 ++ N2:=by unfold wsB; rw [ea,eb,ec,ha,hc]; simp
  rw [e1]
  exact hw.trans hw'
theorem WPh.s3 (h:WPh a b c X B bx v0 l N1 N2 N3 w0 done W) (hX:X < B) (hac:a ≠ c) (hbc:b ≠ c) (hb:done b = true) (hd:done c = false):∃ v,O.OutIs W B v (l ++ (N1 ++ N2)) ∧ ∀ v' W',O.Wr B v (l ++ (N1 ++ N2)) N3 W v' W' → WPh a b c X B bx v0 l N1 N2 N3 w0 (O.updB done c) W':=by
  obtain ⟨v,hw⟩:=h.wr
  have ha:=h.ob hb
  have e0:wsB a b c N1 N2 N3 done = N1 ++ N2:=by unfold wsB; rw [ha,hb,hd]; simp
  rw [e0] at hw
  have ho:=hw.out
  refine ⟨v,ho,fun v' W' hw'=>?_⟩
  have ea:O.updB done c a = done a:=if_neg hac
  have eb:O.updB done c b = done b:=if_neg hbc
  have ec:O.updB done c c = true:=if_pos rfl
  refine ⟨((hw'.below ho).block X hX).trans h.x,⟨v',?_⟩,fun _=>by rw [ea]; exact ha,fun _=>by rw [eb]; exact hb⟩
  have e1:wsB a b c N1 N2 N3 (O.updB done c) = (N1 ++ N2) ++ N3:=by unfold wsB; rw [ea,eb,ec,ha,hb]; simp
  rw [e1]
  exact hw.trans hw'
end
def CmV0 (X B c j n:Nat):Nat → Value → Prop
  | 0,v=>v = .pointer (some ⟨B,0,none⟩)
  | 1,v=>v = .pointer (some ⟨X,0,none⟩)
  | 2,v=>v = .int .u64 (c:Nat)
  | 3,v=>v = .pointer (some ⟨B,0,none⟩)
  | 4,v=>v = .pointer (some ⟨X,1,none⟩)
  | 5,v=>v = .int .u64 (j:Nat)
  | 6,v=>v = .pointer (some ⟨B,0,none⟩)
  | 7,v=>v = .pointer (some ⟨X,2,none⟩)
  | 8,v=>v = .int .u64 (n:Nat)
  | 9,v=>v = .pointer (some ⟨B,0,none⟩)
  | _,_=>True
def CmV1 (X B a m s:Nat):Nat → Value → Prop
  | 0,v=>v = .pointer (some ⟨B,0,none⟩)
  | 1,v=>v = .pointer (some ⟨X,3,none⟩)
  | 2,v=>v = .int .i64 (a:Nat)
  | 3,v=>v = .int .u64 (a:Nat)
  | 4,v=>v = .pointer (some ⟨B,0,none⟩)
  | 5,v=>v = .pointer (some ⟨X,4,none⟩)
  | 6,v=>v = .int .i64 (m:Nat)
  | 7,v=>v = .int .u64 (m:Nat)
  | 8,v=>v = .pointer (some ⟨B,0,none⟩)
  | 9,v=>v = .pointer (some ⟨X,5,none⟩)
  | 10,v=>v = .int .u32 (s:Nat)
  | 11,v=>v = .int .u64 (s:Nat)
  | 12,v=>v = .pointer (some ⟨B,0,none⟩)
  | _,_=>True
set_option maxHeartbeats 2000000 in
set_option maxRecDepth 100000 in
theorem cmw_any (p:Cm) (hp:p.Ok) (X B:Nat) (v:Value) (l:List UInt8) (w:World) (hx:w.heap[X]? = some (.cells p.cs 55)) (hX:X < B) (ho:O.OutIs w B v l) (hl:l.length ≤ 1000) :
    Calls Tryz.prog 67 #[.pointer (some ⟨B,0,none⟩),.pointer (some ⟨X,0,none⟩)] w fun e w'=>e = .returned (.tuple #[]) ∧ ∃ v',O.Wr B v l p.fl w v' w':=by
  obtain ⟨c,j,n,a,m,s⟩:=p
  have HO:Hid _:=ho
  have HX:Hid (w.heap[X]? = some (.cells #[.int .u64 (c:Nat),.int .u64 (j:Nat),.int .u64 (n:Nat),.int .i64 (a:Nat),.int .i64 (m:Nat),.int .u32 (s:Nat)] 55)):=hx
  have hc1:c < 18446744073709551616:=hp.c
  have hj1:j < 18446744073709551616:=hp.j
  have hn1:n < 18446744073709551616:=hp.n
  have hm1:a + m ≤ 63:=hp.ak
  have hs1:s < 4294967296:=hp.s
  have HFL:Hid ((Cm.mk c j n a m s).fl = ((O.numB c 8 ++ O.numB j 8) ++ O.numB n 8) ++ ((O.numB a 1 ++ O.numB m 1) ++ O.numB s 4)):=rfl
  clear ho hx hp
  go_enter Tryz.func67,Tryz.ntmps67
  go_wp2
  refine O.wp_region_ph (fun f=>⟨#[.pointer (some ⟨B,0,none⟩),.pointer (some ⟨X,0,none⟩),undef,f 0,f 1,f 2,f 3,f 4,f 5,f 6,f 7,f 8,f 9,undef,undef,undef,undef,undef,undef,undef,undef,undef,undef,undef,undef,undef],[]⟩) (CmV0 X B c j n) (fun done _ W=>WPh 3 6 9 X B #[.int .u64 (c:Nat),.int .u64 (j:Nat),.int .u64 (n:Nat),.int .i64 (a:Nat),.int .i64 (m:Nat),.int .u32 (s:Nat)] v l (O.numB c 8) (O.numB j 8) (O.numB n 8) w done W) (fun i=>[undef,undef,undef,undef,undef,undef,undef,undef,undef,undef].getD i undef) (by kernel_rfl) rfl rfl ?hIa ?hputa ?stepa ?fina
  case hIa=>exact ⟨HX.out,⟨v,by show O.OutIs _ _ _ (l ++ []); rw [List.append_nil]; exact HO.out.below (Below.refl _ _).drew,⟨rfl,rfl,rfl,Nat.le_refl _,fun _ _ _ _=>rfl⟩,Or.inl rfl⟩,(fun e=>by cases e),(fun e=>by cases e)⟩
  case fina=>
    intro f w1 hP hV
    replace hP:WPh 3 6 9 X B #[.int .u64 (c:Nat),.int .u64 (j:Nat),.int .u64 (n:Nat),.int .i64 (a:Nat),.int .i64 (m:Nat),.int .u32 (s:Nat)] v l (O.numB c 8) (O.numB j 8) (O.numB n 8) w (fun i=>decide (i < 10)) w1:=hP
    have u0:f 0 = .pointer (some ⟨B,0,none⟩):=hV 0 (by decide)
    have u1:f 1 = .pointer (some ⟨X,0,none⟩):=hV 1 (by decide)
    have u2:f 2 = .int .u64 (c:Nat):=hV 2 (by decide)
    have u3:f 3 = .pointer (some ⟨B,0,none⟩):=hV 3 (by decide)
    have u4:f 4 = .pointer (some ⟨X,1,none⟩):=hV 4 (by decide)
    have u5:f 5 = .int .u64 (j:Nat):=hV 5 (by decide)
    have u6:f 6 = .pointer (some ⟨B,0,none⟩):=hV 6 (by decide)
    have u7:f 7 = .pointer (some ⟨X,2,none⟩):=hV 7 (by decide)
    have u8:f 8 = .int .u64 (n:Nat):=hV 8 (by decide)
    have u9:f 9 = .pointer (some ⟨B,0,none⟩):=hV 9 (by decide)
    clear hV
    generalize f 0 = x0 at *
    subst u0
    generalize f 1 = x1 at *
    subst u1
    generalize f 2 = x2 at *
    subst u2
    generalize f 3 = x3 at *
    subst u3
    generalize f 4 = x4 at *
    subst u4
    generalize f 5 = x5 at *
    subst u5
    generalize f 6 = x6 at *
    subst u6
    generalize f 7 = x7 at *
    subst u7
    generalize f 8 = x8 at *
    subst u8
    generalize f 9 = x9 at *
    subst u9
    obtain ⟨v1,hw1⟩:=hP.wr
    have HX1:Hid _:=hP.x
    have HW1:Hid (O.Wr B v l ((O.numB c 8 ++ O.numB j 8) ++ O.numB n 8) w v1 w1):=hw1
    have ho1:=HW1.out.out
    obtain ⟨ll,hll⟩:∃ ll,ll = l ++ ((O.numB c 8 ++ O.numB j 8) ++ O.numB n 8):=⟨_,rfl⟩
    have hlen:ll.length ≤ 1024:=by rw [hll]; simp [O.numB_length]; omega
    rw [← hll] at ho1
    have HO1:Hid _:=ho1
    have HLL:Hid _:=hll
    clear hP hw1 ho1 hll f
    go_wp2
    refine O.wp_region_ph (fun f=>⟨#[.pointer (some ⟨B,0,none⟩),.pointer (some ⟨X,0,none⟩),undef,.pointer (some ⟨B,0,none⟩),.pointer (some ⟨X,0,none⟩),.int .u64 (c:Int),.pointer (some ⟨B,0,none⟩),.pointer (some ⟨X,1,none⟩),.int .u64 (j:Int),.pointer (some ⟨B,0,none⟩),.pointer (some ⟨X,2,none⟩),.int .u64 (n:Int),.pointer (some ⟨B,0,none⟩),f 0,f 1,f 2,f 3,f 4,f 5,f 6,f 7,f 8,f 9,f 10,f 11,f 12],[]⟩) (CmV1 X B a m s) (fun done _ W=>WPh 4 8 12 X B #[.int .u64 (c:Nat),.int .u64 (j:Nat),.int .u64 (n:Nat),.int .i64 (a:Nat),.int .i64 (m:Nat),.int .u32 (s:Nat)] v1 ll (O.numB a 1) (O.numB m 1) (O.numB s 4) w1 done W) (fun i=>[undef,undef,undef,undef,undef,undef,undef,undef,undef,undef,undef,undef,undef].getD i undef) (by kernel_rfl) rfl rfl ?hIb ?hputb ?stepb ?finb
    case hIb=>exact ⟨HX1.out,⟨v1,by show O.OutIs _ _ _ (ll ++ []); rw [List.append_nil]; exact HO1.out.below (Below.refl _ _).drew,⟨rfl,rfl,rfl,Nat.le_refl _,fun _ _ _ _=>rfl⟩,Or.inl rfl⟩,(fun e=>by cases e),(fun e=>by cases e)⟩
    case finb=>
      intro f w2 hP hV
      replace hP:WPh 4 8 12 X B #[.int .u64 (c:Nat),.int .u64 (j:Nat),.int .u64 (n:Nat),.int .i64 (a:Nat),.int .i64 (m:Nat),.int .u32 (s:Nat)] v1 ll (O.numB a 1) (O.numB m 1) (O.numB s 4) w1 (fun i=>decide (i < 13)) w2:=hP
      have u0:f 0 = .pointer (some ⟨B,0,none⟩):=hV 0 (by decide)
      have u1:f 1 = .pointer (some ⟨X,3,none⟩):=hV 1 (by decide)
      have u2:f 2 = .int .i64 (a:Nat):=hV 2 (by decide)
      have u3:f 3 = .int .u64 (a:Nat):=hV 3 (by decide)
      have u4:f 4 = .pointer (some ⟨B,0,none⟩):=hV 4 (by decide)
      have u5:f 5 = .pointer (some ⟨X,4,none⟩):=hV 5 (by decide)
      have u6:f 6 = .int .i64 (m:Nat):=hV 6 (by decide)
      have u7:f 7 = .int .u64 (m:Nat):=hV 7 (by decide)
      have u8:f 8 = .pointer (some ⟨B,0,none⟩):=hV 8 (by decide)
      have u9:f 9 = .pointer (some ⟨X,5,none⟩):=hV 9 (by decide)
      have u10:f 10 = .int .u32 (s:Nat):=hV 10 (by decide)
      have u11:f 11 = .int .u64 (s:Nat):=hV 11 (by decide)
      have u12:f 12 = .pointer (some ⟨B,0,none⟩):=hV 12 (by decide)
      clear hV
      generalize f 0 = x0 at *
      subst u0
      generalize f 1 = x1 at *
      subst u1
      generalize f 2 = x2 at *
      subst u2
      generalize f 3 = x3 at *
      subst u3
      generalize f 4 = x4 at *
      subst u4
      generalize f 5 = x5 at *
      subst u5
      generalize f 6 = x6 at *
      subst u6
      generalize f 7 = x7 at *
      subst u7
      generalize f 8 = x8 at *
      subst u8
      generalize f 9 = x9 at *
      subst u9
      generalize f 10 = x10 at *
      subst u10
      generalize f 11 = x11 at *
      subst u11
      generalize f 12 = x12 at *
      subst u12
      obtain ⟨v2,hw2⟩:=hP.wr
      have hw2':O.Wr B v1 ll ((O.numB a 1 ++ O.numB m 1) ++ O.numB s 4) w1 v2 w2:=by
        have e:wsB 4 8 12 (O.numB a 1) (O.numB m 1) (O.numB s 4) (fun i=>decide (i < 13)) = (O.numB a 1 ++ O.numB m 1) ++ O.numB s 4:=by unfold wsB; simp
        rw [e] at hw2; exact hw2
      rw [HLL.out] at hw2'
      have HW2:Hid _:=HW1.out.trans hw2'
      rw [← HFL.out] at HW2
      clear hP hw2 hw2'
      go_wp2
      go_returns
      exact ⟨rfl,v2,HW2.out⟩
    case hputb=>
      repeat (refine ⟨fun f v=>rfl,?_⟩)
      trivial
    case stepb=>
      refine ⟨?_,?_⟩
      · intro done f W hP hdn hd K hK
        clear hd
        replace hP:WPh 4 8 12 X B #[.int .u64 (c:Nat),.int .u64 (j:Nat),.int .u64 (n:Nat),.int .i64 (a:Nat),.int .i64 (m:Nat),.int .u32 (s:Nat)] v1 ll (O.numB a 1) (O.numB m 1) (O.numB s 4) w1 done W:=hP
        go_simp
        exact hK _ _ rfl (hP.pure _ (by decide))
      refine ⟨?_,?_⟩
      · intro done f W hP hdn hd K hK
        clear hd
        replace hP:WPh 4 8 12 X B #[.int .u64 (c:Nat),.int .u64 (j:Nat),.int .u64 (n:Nat),.int .i64 (a:Nat),.int .i64 (m:Nat),.int .u32 (s:Nat)] v1 ll (O.numB a 1) (O.numB m 1) (O.numB s 4) w1 done W:=hP
        go_simp
        exact hK _ _ rfl (hP.pure _ (by decide))
      refine ⟨?_,?_⟩
      · intro done f W hP hdn hd K hK
        have d1:=(hd.1 rfl).2
        have e1:done 1 = true:=(hd.1 rfl).1
        clear hd
        replace d1:f 1 = .pointer (some ⟨X,3,none⟩):=d1
        replace hP:WPh 4 8 12 X B #[.int .u64 (c:Nat),.int .u64 (j:Nat),.int .u64 (n:Nat),.int .i64 (a:Nat),.int .i64 (m:Nat),.int .u32 (s:Nat)] v1 ll (O.numB a 1) (O.numB m 1) (O.numB s 4) w1 done W:=hP
        generalize f 1 = x1 at *
        subst d1
        clear e1
        have qc:=F.cell_of hP.x 3
        simp at qc
        go_simp
        exact hK _ _ rfl (hP.pure _ (by decide))
      refine ⟨?_,?_⟩
      · intro done f W hP hdn hd K hK
        have d2:=(hd.1 rfl).2
        have e2:done 2 = true:=(hd.1 rfl).1
        clear hd
        replace d2:f 2 = .int .i64 (a:Nat):=d2
        replace hP:WPh 4 8 12 X B #[.int .u64 (c:Nat),.int .u64 (j:Nat),.int .u64 (n:Nat),.int .i64 (a:Nat),.int .i64 (m:Nat),.int .u32 (s:Nat)] v1 ll (O.numB a 1) (O.numB m 1) (O.numB s 4) w1 done W:=hP
        generalize f 2 = x2 at *
        subst d2
        clear e2
        have qw:IntKind.u64.wrap ((a:Nat):Int) = ((a:Nat):Int):=by rw [IntKind.wrap_u64]; omega
        go_simp
        exact hK _ _ rfl (hP.pure _ (by decide))
      refine ⟨?_,?_⟩
      · intro done f W hP hdn hd K hK
        have d0:=(hd.1 rfl).2
        have e0:done 0 = true:=(hd.1 rfl).1
        have d3:=(hd.2.1 rfl).2
        have e3:done 3 = true:=(hd.2.1 rfl).1
        clear hd
        replace d0:f 0 = .pointer (some ⟨B,0,none⟩):=d0
        replace d3:f 3 = .int .u64 (a:Nat):=d3
        replace hP:WPh 4 8 12 X B #[.int .u64 (c:Nat),.int .u64 (j:Nat),.int .u64 (n:Nat),.int .i64 (a:Nat),.int .i64 (m:Nat),.int .u32 (s:Nat)] v1 ll (O.numB a 1) (O.numB m 1) (O.numB s 4) w1 done W:=hP
        generalize f 0 = x0 at *
        subst d0
        clear e0
        generalize f 3 = x3 at *
        subst d3
        clear e3
        have hdn4:done 4 = false:=hdn
        obtain ⟨v,hout,hnx⟩:=hP.s1 hX (by decide) (by decide) hdn4
        go_simp
        refine (O.num_any B v ll a 1 W hout (by omega) (by omega)).mono ?_
        rintro e W' ⟨rfl,v',hw⟩
        exact hK _ _ rfl (hnx v' W' (by rw [show O.wd 1 = 1 by decide] at hw; exact hw))
      refine ⟨?_,?_⟩
      · intro done f W hP hdn hd K hK
        clear hd
        replace hP:WPh 4 8 12 X B #[.int .u64 (c:Nat),.int .u64 (j:Nat),.int .u64 (n:Nat),.int .i64 (a:Nat),.int .i64 (m:Nat),.int .u32 (s:Nat)] v1 ll (O.numB a 1) (O.numB m 1) (O.numB s 4) w1 done W:=hP
        go_simp
        exact hK _ _ rfl (hP.pure _ (by decide))
      refine ⟨?_,?_⟩
      · intro done f W hP hdn hd K hK
        have d5:=(hd.1 rfl).2
        have e5:done 5 = true:=(hd.1 rfl).1
        clear hd
        replace d5:f 5 = .pointer (some ⟨X,4,none⟩):=d5
        replace hP:WPh 4 8 12 X B #[.int .u64 (c:Nat),.int .u64 (j:Nat),.int .u64 (n:Nat),.int .i64 (a:Nat),.int .i64 (m:Nat),.int .u32 (s:Nat)] v1 ll (O.numB a 1) (O.numB m 1) (O.numB s 4) w1 done W:=hP
        generalize f 5 = x5 at *
        subst d5
        clear e5
        have qc:=F.cell_of hP.x 4
        simp at qc
        go_simp
        exact hK _ _ rfl (hP.pure _ (by decide))
      refine ⟨?_,?_⟩
      · intro done f W hP hdn hd K hK
        have d6:=(hd.1 rfl).2
        have e6:done 6 = true:=(hd.1 rfl).1
        clear hd
        replace d6:f 6 = .int .i64 (m:Nat):=d6
        replace hP:WPh 4 8 12 X B #[.int .u64 (c:Nat),.int .u64 (j:Nat),.int .u64 (n:Nat),.int .i64 (a:Nat),.int .i64 (m:Nat),.int .u32 (s:Nat)] v1 ll (O.numB a 1) (O.numB m 1) (O.numB s 4) w1 done W:=hP
        generalize f 6 = x6 at *
        subst d6
        clear e6
        have qw:IntKind.u64.wrap ((m:Nat):Int) = ((m:Nat):Int):=by rw [IntKind.wrap_u64]; omega
        go_simp
        exact hK _ _ rfl (hP.pure _ (by decide))
      refine ⟨?_,?_⟩
      · intro done f W hP hdn hd K hK
        have d4:=(hd.1 rfl).2
        have e4:done 4 = true:=(hd.1 rfl).1
        have d7:=(hd.2.1 rfl).2
        have e7:done 7 = true:=(hd.2.1 rfl).1
        clear hd
        replace d4:f 4 = .pointer (some ⟨B,0,none⟩):=d4
        replace d7:f 7 = .int .u64 (m:Nat):=d7
        replace hP:WPh 4 8 12 X B #[.int .u64 (c:Nat),.int .u64 (j:Nat),.int .u64 (n:Nat),.int .i64 (a:Nat),.int .i64 (m:Nat),.int .u32 (s:Nat)] v1 ll (O.numB a 1) (O.numB m 1) (O.numB s 4) w1 done W:=hP
        generalize f 4 = x4 at *
        subst d4
        generalize f 7 = x7 at *
        subst d7
        have hdn8:done 8 = false:=hdn
        obtain ⟨v,hout,hnx⟩:=hP.s2 hX (by decide) (by decide) e4 hdn8
        go_simp
        refine (O.num_any B v _ m 1 W hout (by omega) (by rw [List.length_append,O.numB_length]; omega)).mono ?_
        rintro e W' ⟨rfl,v',hw⟩
        exact hK _ _ rfl (hnx v' W' (by rw [show O.wd 1 = 1 by decide] at hw; exact hw))
      refine ⟨?_,?_⟩
      · intro done f W hP hdn hd K hK
        clear hd
        replace hP:WPh 4 8 12 X B #[.int .u64 (c:Nat),.int .u64 (j:Nat),.int .u64 (n:Nat),.int .i64 (a:Nat),.int .i64 (m:Nat),.int .u32 (s:Nat)] v1 ll (O.numB a 1) (O.numB m 1) (O.numB s 4) w1 done W:=hP
        go_simp
        exact hK _ _ rfl (hP.pure _ (by decide))
      refine ⟨?_,?_⟩
      · intro done f W hP hdn hd K hK
        have d9:=(hd.1 rfl).2
        have e9:done 9 = true:=(hd.1 rfl).1
        clear hd
        replace d9:f 9 = .pointer (some ⟨X,5,none⟩):=d9
        replace hP:WPh 4 8 12 X B #[.int .u64 (c:Nat),.int .u64 (j:Nat),.int .u64 (n:Nat),.int .i64 (a:Nat),.int .i64 (m:Nat),.int .u32 (s:Nat)] v1 ll (O.numB a 1) (O.numB m 1) (O.numB s 4) w1 done W:=hP
        generalize f 9 = x9 at *
        subst d9
        clear e9
        have qc:=F.cell_of hP.x 5
        simp at qc
        go_simp
        exact hK _ _ rfl (hP.pure _ (by decide))
      refine ⟨?_,?_⟩
      · intro done f W hP hdn hd K hK
        have d10:=(hd.1 rfl).2
        have e10:done 10 = true:=(hd.1 rfl).1
        clear hd
        replace d10:f 10 = .int .u32 (s:Nat):=d10
        replace hP:WPh 4 8 12 X B #[.int .u64 (c:Nat),.int .u64 (j:Nat),.int .u64 (n:Nat),.int .i64 (a:Nat),.int .i64 (m:Nat),.int .u32 (s:Nat)] v1 ll (O.numB a 1) (O.numB m 1) (O.numB s 4) w1 done W:=hP
        generalize f 10 = x10 at *
        subst d10
        clear e10
        have qw:IntKind.u64.wrap ((s:Nat):Int) = ((s:Nat):Int):=by rw [IntKind.wrap_u64]; omega
        go_simp
        exact hK _ _ rfl (hP.pure _ (by decide))
      refine ⟨?_,?_⟩
      · intro done f W hP hdn hd K hK
        have d8:=(hd.1 rfl).2
        have e8:done 8 = true:=(hd.1 rfl).1
        have d11:=(hd.2.1 rfl).2
        have e11:done 11 = true:=(hd.2.1 rfl).1
        clear hd
        replace d8:f 8 = .pointer (some ⟨B,0,none⟩):=d8
        replace d11:f 11 = .int .u64 (s:Nat):=d11
        replace hP:WPh 4 8 12 X B #[.int .u64 (c:Nat),.int .u64 (j:Nat),.int .u64 (n:Nat),.int .i64 (a:Nat),.int .i64 (m:Nat),.int .u32 (s:Nat)] v1 ll (O.numB a 1) (O.numB m 1) (O.numB s 4) w1 done W:=hP
        generalize f 8 = x8 at *
        subst d8
        generalize f 11 = x11 at *
        subst d11
        have hdn12:done 12 = false:=hdn
        obtain ⟨v,hout,hnx⟩:=hP.s3 hX (by decide) (by decide) e8 hdn12
        go_simp
        refine (O.num_any B v _ s 4 W hout (by omega) (by simp [O.numB_length]; omega)).mono ?_
        rintro e W' ⟨rfl,v',hw⟩
        exact hK _ _ rfl (hnx v' W' (by rw [show O.wd 4 = 4 by decide] at hw; exact hw))
      trivial
  case hputa=>
    repeat (refine ⟨fun f v=>rfl,?_⟩)
    trivial
  case stepa=>
    refine ⟨?_,?_⟩
    · intro done f W hP hdn hd K hK
      clear hd
      replace hP:WPh 3 6 9 X B #[.int .u64 (c:Nat),.int .u64 (j:Nat),.int .u64 (n:Nat),.int .i64 (a:Nat),.int .i64 (m:Nat),.int .u32 (s:Nat)] v l (O.numB c 8) (O.numB j 8) (O.numB n 8) w done W:=hP
      go_simp
      exact hK _ _ rfl (hP.pure _ (by decide))
    refine ⟨?_,?_⟩
    · intro done f W hP hdn hd K hK
      clear hd
      replace hP:WPh 3 6 9 X B #[.int .u64 (c:Nat),.int .u64 (j:Nat),.int .u64 (n:Nat),.int .i64 (a:Nat),.int .i64 (m:Nat),.int .u32 (s:Nat)] v l (O.numB c 8) (O.numB j 8) (O.numB n 8) w done W:=hP
      go_simp
      exact hK _ _ rfl (hP.pure _ (by decide))
    refine ⟨?_,?_⟩
    · intro done f W hP hdn hd K hK
      have d1:=(hd.1 rfl).2
      have e1:done 1 = true:=(hd.1 rfl).1
      clear hd
      replace d1:f 1 = .pointer (some ⟨X,0,none⟩):=d1
      replace hP:WPh 3 6 9 X B #[.int .u64 (c:Nat),.int .u64 (j:Nat),.int .u64 (n:Nat),.int .i64 (a:Nat),.int .i64 (m:Nat),.int .u32 (s:Nat)] v l (O.numB c 8) (O.numB j 8) (O.numB n 8) w done W:=hP
      generalize f 1 = x1 at *
      subst d1
      clear e1
      have qc:=F.cell_of hP.x 0
      simp at qc
      go_simp
      exact hK _ _ rfl (hP.pure _ (by decide))
    refine ⟨?_,?_⟩
    · intro done f W hP hdn hd K hK
      have d0:=(hd.1 rfl).2
      have e0:done 0 = true:=(hd.1 rfl).1
      have d2:=(hd.2.1 rfl).2
      have e2:done 2 = true:=(hd.2.1 rfl).1
      clear hd
      replace d0:f 0 = .pointer (some ⟨B,0,none⟩):=d0
      replace d2:f 2 = .int .u64 (c:Nat):=d2
      replace hP:WPh 3 6 9 X B #[.int .u64 (c:Nat),.int .u64 (j:Nat),.int .u64 (n:Nat),.int .i64 (a:Nat),.int .i64 (m:Nat),.int .u32 (s:Nat)] v l (O.numB c 8) (O.numB j 8) (O.numB n 8) w done W:=hP
      generalize f 0 = x0 at *
      subst d0
      clear e0
      generalize f 2 = x2 at *
      subst d2
      clear e2
      have hdn3:done 3 = false:=hdn
      obtain ⟨v,hout,hnx⟩:=hP.s1 hX (by decide) (by decide) hdn3
      go_simp
      refine (O.num_any B v l c 8 W hout (by omega) (by omega)).mono ?_
      rintro e W' ⟨rfl,v',hw⟩
      exact hK _ _ rfl (hnx v' W' (by rw [show O.wd 8 = 8 by decide] at hw; exact hw))
    refine ⟨?_,?_⟩
    · intro done f W hP hdn hd K hK
      clear hd
      replace hP:WPh 3 6 9 X B #[.int .u64 (c:Nat),.int .u64 (j:Nat),.int .u64 (n:Nat),.int .i64 (a:Nat),.int .i64 (m:Nat),.int .u32 (s:Nat)] v l (O.numB c 8) (O.numB j 8) (O.numB n 8) w done W:=hP
      go_simp
      exact hK _ _ rfl (hP.pure _ (by decide))
    refine ⟨?_,?_⟩
    · intro done f W hP hdn hd K hK
      have d4:=(hd.1 rfl).2
      have e4:done 4 = true:=(hd.1 rfl).1
      clear hd
      replace d4:f 4 = .pointer (some ⟨X,1,none⟩):=d4
      replace hP:WPh 3 6 9 X B #[.int .u64 (c:Nat),.int .u64 (j:Nat),.int .u64 (n:Nat),.int .i64 (a:Nat),.int .i64 (m:Nat),.int .u32 (s:Nat)] v l (O.numB c 8) (O.numB j 8) (O.numB n 8) w done W:=hP
      generalize f 4 = x4 at *
      subst d4
      clear e4
      have qc:=F.cell_of hP.x 1
      simp at qc
      go_simp
      exact hK _ _ rfl (hP.pure _ (by decide))
    refine ⟨?_,?_⟩
    · intro done f W hP hdn hd K hK
      have d3:=(hd.1 rfl).2
      have e3:done 3 = true:=(hd.1 rfl).1
      have d5:=(hd.2.1 rfl).2
      have e5:done 5 = true:=(hd.2.1 rfl).1
      clear hd
      replace d3:f 3 = .pointer (some ⟨B,0,none⟩):=d3
      replace d5:f 5 = .int .u64 (j:Nat):=d5
      replace hP:WPh 3 6 9 X B #[.int .u64 (c:Nat),.int .u64 (j:Nat),.int .u64 (n:Nat),.int .i64 (a:Nat),.int .i64 (m:Nat),.int .u32 (s:Nat)] v l (O.numB c 8) (O.numB j 8) (O.numB n 8) w done W:=hP
      generalize f 3 = x3 at *
      subst d3
      generalize f 5 = x5 at *
      subst d5
      have hdn6:done 6 = false:=hdn
      obtain ⟨v,hout,hnx⟩:=hP.s2 hX (by decide) (by decide) e3 hdn6
      go_simp
      refine (O.num_any B v _ j 8 W hout (by omega) (by rw [List.length_append,O.numB_length]; omega)).mono ?_
      rintro e W' ⟨rfl,v',hw⟩
      exact hK _ _ rfl (hnx v' W' (by rw [show O.wd 8 = 8 by decide] at hw; exact hw))
    refine ⟨?_,?_⟩
    · intro done f W hP hdn hd K hK
      clear hd
      replace hP:WPh 3 6 9 X B #[.int .u64 (c:Nat),.int .u64 (j:Nat),.int .u64 (n:Nat),.int .i64 (a:Nat),.int .i64 (m:Nat),.int .u32 (s:Nat)] v l (O.numB c 8) (O.numB j 8) (O.numB n 8) w done W:=hP
      go_simp
      exact hK _ _ rfl (hP.pure _ (by decide))
    refine ⟨?_,?_⟩
    · intro done f W hP hdn hd K hK
      have d7:=(hd.1 rfl).2
      have e7:done 7 = true:=(hd.1 rfl).1
      clear hd
      replace d7:f 7 = .pointer (some ⟨X,2,none⟩):=d7
      replace hP:WPh 3 6 9 X B #[.int .u64 (c:Nat),.int .u64 (j:Nat),.int .u64 (n:Nat),.int .i64 (a:Nat),.int .i64 (m:Nat),.int .u32 (s:Nat)] v l (O.numB c 8) (O.numB j 8) (O.numB n 8) w done W:=hP
      generalize f 7 = x7 at *
      subst d7
      clear e7
      have qc:=F.cell_of hP.x 2
      simp at qc
      go_simp
      exact hK _ _ rfl (hP.pure _ (by decide))
    refine ⟨?_,?_⟩
    · intro done f W hP hdn hd K hK
      have d6:=(hd.1 rfl).2
      have e6:done 6 = true:=(hd.1 rfl).1
      have d8:=(hd.2.1 rfl).2
      have e8:done 8 = true:=(hd.2.1 rfl).1
      clear hd
      replace d6:f 6 = .pointer (some ⟨B,0,none⟩):=d6
      replace d8:f 8 = .int .u64 (n:Nat):=d8
      replace hP:WPh 3 6 9 X B #[.int .u64 (c:Nat),.int .u64 (j:Nat),.int .u64 (n:Nat),.int .i64 (a:Nat),.int .i64 (m:Nat),.int .u32 (s:Nat)] v l (O.numB c 8) (O.numB j 8) (O.numB n 8) w done W:=hP
      generalize f 6 = x6 at *
      subst d6
      generalize f 8 = x8 at *
      subst d8
      have hdn9:done 9 = false:=hdn
      obtain ⟨v,hout,hnx⟩:=hP.s3 hX (by decide) (by decide) e6 hdn9
      go_simp
      refine (O.num_any B v _ n 8 W hout (by omega) (by simp [O.numB_length]; omega)).mono ?_
      rintro e W' ⟨rfl,v',hw⟩
      exact hK _ _ rfl (hnx v' W' (by rw [show O.wd 8 = 8 by decide] at hw; exact hw))
    trivial
set_option maxHeartbeats 1000000 in
set_option maxRecDepth 100000 in
theorem cpack_any (p:Cm) (hp:p.Ok) (w:World):Calls Tryz.prog 29 #[.agg p.cs] w fun e w'=>e = .returned (.string p.sec) ∧ Below w.heap.size w w':=by
  have hs:=sector_any 67 #[.pointer (some ⟨w.heap.size,0,none⟩)] 67 p.fl (w.alloc (.cells p.cs 55)) (by decide) (by rw [Cm.fl_length]; decide) ent67 (fun v W ho hb=>by
    have e:(w.alloc (.cells p.cs 55)).heap.size = w.heap.size + 1:=by simp
    exact cmw_any p hp w.heap.size _ v _ W ((hb.block _ (by simp)).trans (F.heap_new _ _)) (by simp) ho (by rw [O.numB_length]; decide))
  have HB:Hid (Below w.heap.size w (w.alloc (.cells p.cs 55))):=Below.alloc (Below.refl _ _) (Nat.le_refl _) _
  replace hs:Calls Tryz.prog 66 #[.int .u64 67,.func (.func 67) #[] #[.pointer (some ⟨w.heap.size,0,none⟩)]] (w.alloc (.cells p.cs 55)) fun e w'=>e = .returned (.string p.sec) ∧ Below (w.alloc (.cells p.cs 55)).heap.size (w.alloc (.cells p.cs 55)) w':=hs
  generalize hy:p.sec = y at *
  have HY:Hid _:=hy
  clear hy
  unfold Cm.cs at *
  go_enter Tryz.func29,Tryz.ntmps29
  go_wp2_with fail
  go_call hs as e w2 ⟨rfl,hb2⟩
  have HB2:Hid (Below w.heap.size w w2):=HB.out.trans (hb2.mono (by simp))
  clear hs hb2 HB
  go_wp2
  go_returns
  exact ⟨rfl,HB2.out⟩
end Go.Proofs.YtncfbocbigdhiaaGreat
