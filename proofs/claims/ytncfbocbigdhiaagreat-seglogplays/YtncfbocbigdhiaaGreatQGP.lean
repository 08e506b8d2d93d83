/- Texts of this seat, one behind the other. -/
import Derived.Test.YtncfbocbigdhiaaGreatQGL
/- How many sectors of payload the group at a place has: count. -/
namespace Go.Proofs.YtncfbocbigdhiaaGreat
open Go.RowKit
structure CT (b0:Nat) (w0:World) (L:F.Loc) (st:F.St) (oth:List (Nat × Obj)) (q:Cm) (done:Nat → Bool) (f:Nat → Value) (W:World):Prop where
  h:∃ lv cb,F.One b0 w0 L { st with count:=st.count + (if done 10 then 1 else 0) } lv (cb ++ oth) W ∧ (done 15 = false → cb = []) ∧ (done 15 = true → ∃ C,f 15 = .pointer (some ⟨C,0,none⟩) ∧ (∀ p ∈ oth,p.1 ≠ C) ∧ cb = [(C,.cells (if done 16 then q.cs else cmz) 55)])
  o:done 15 = false → done 16 = false
section
variable {b0:Nat} {w0:World} {L:F.Loc} {st:F.St} {oth:List (Nat × Obj)} {q:Cm} {done:Nat → Bool} {f:Nat → Value} {W W':World}
theorem CT.pure (h:CT b0 w0 L st oth q done f W) (i:Nat) (hi:i ≠ 10 ∧ i ≠ 15 ∧ i ≠ 16) (v:Value):CT b0 w0 L st oth q (F.updB done i) (F.upd f i v) W:=by
  have e1:F.updB done i 10 = done 10:=if_neg (Ne.symm hi.1)
  have e2:F.updB done i 15 = done 15:=if_neg (Ne.symm hi.2.1)
  have e3:F.updB done i 16 = done 16:=if_neg (Ne.symm hi.2.2)
  have e4:F.upd f i v 15 = f 15:=if_neg (Ne.symm hi.2.1)
  exact ⟨by rw [e1,e2,e3,e4]; exact h.h,by rw [e2,e3]; exact h.o⟩
theorem CT.below (h:CT b0 w0 L st oth q done f W) (i:Nat) (hi:i ≠ 10 ∧ i ≠ 15 ∧ i ≠ 16) (hb:Below W.heap.size W W') (v:Value):CT b0 w0 L st oth q (F.updB done i) (F.upd f i v) W':=by
  have h1:CT b0 w0 L st oth q done f W':=by
    obtain ⟨lv,cb,a,r⟩:=h.h
    exact ⟨⟨lv,cb,a.ofBelow hb,r⟩,h.o⟩
  exact h1.pure i hi v
theorem CT.mem (h:CT b0 w0 L st oth q done f W) {p:Nat × Obj} (hp:p ∈ oth):W.heap[p.1]? = some p.2:=by
  obtain ⟨lv,cb,a,_⟩:=h.h
  exact (a.oth p (List.mem_append_right _ hp)).1
theorem CT.read (h:CT b0 w0 L st oth q done f W) (h10:done 10 = false):∃ lv cb,(∀ p ∈ cb,∃ c,p.2 = .cells c 55) ∧ F.One b0 w0 L st lv (cb ++ oth) W ∧ ∀ v W' lv',F.One b0 w0 L { st with count:=st.count + 1 } lv' (cb ++ oth) W' → CT b0 w0 L st oth q (F.updB done 10) (F.upd f 10 v) W':=by
  have e1:F.updB done 10 10 = true:=if_pos rfl
  have e2:F.updB done 10 15 = done 15:=if_neg (by decide)
  have e3:F.updB done 10 16 = done 16:=if_neg (by decide)
  obtain ⟨lv,cb,a,r1,r2⟩:=h.h
  have es:({ st with count:=st.count + (if done 10 then 1 else 0) }:F.St) = st:=by rw [h10]; cases st; simp
  rw [es] at a
  refine ⟨lv,cb,fun p hp=>?_,a,fun v W' lv' ho=>⟨?_,by rw [e2,e3]; exact h.o⟩⟩
  · cases h15:done 15 with
    | false=>rw [r1 h15] at hp; cases hp
    | true=>
      obtain ⟨C,_,_,c3⟩:=r2 h15
      rw [c3] at hp
      rw [List.mem_singleton.1 hp]; exact ⟨_,rfl⟩
  · have e4:F.upd f 10 v 15 = f 15:=if_neg (by decide)
    rw [e1,e2,e3,e4]
    exact ⟨lv',cb,ho,r1,r2⟩
theorem CT.made (h:CT b0 w0 L st oth q done f W) (h15:done 15 = false):CT b0 w0 L st oth q (F.updB done 15) (F.upd f 15 (.pointer (some ⟨W.heap.size,0,none⟩))) (W.alloc (.cells cmz 55)):=by
  have e1:F.updB done 15 10 = done 10:=if_neg (by decide)
  have e2:F.updB done 15 15 = true:=if_pos rfl
  have e3:F.updB done 15 16 = done 16:=if_neg (by decide)
  have e4:F.upd f 15 (.pointer (some ⟨W.heap.size,0,none⟩)) 15 = .pointer (some ⟨W.heap.size,0,none⟩):=if_pos rfl
  obtain ⟨lv,cb,a,r1,_⟩:=h.h
  have hcb:=r1 h15
  subst hcb
  refine ⟨?_,by rw [e2]; exact (fun e=>by cases e)⟩
  rw [e1,e3,e4,h.o h15]
  refine ⟨lv,[(W.heap.size,.cells cmz 55)],a.alloc _ (F.apart_of (by decide)),by rw [e2]; exact (fun e=>by cases e),fun _=>⟨W.heap.size,rfl,fun p hp=>?_,rfl⟩⟩
  exact Nat.ne_of_lt (a.lts p hp)
theorem CT.filled (h:CT b0 w0 L st oth q done f W) (h15:done 15 = true) (h16:done 16 = false) (v:Value):∃ C,f 15 = .pointer (some ⟨C,0,none⟩) ∧ W.heap[C]? = some (.cells cmz 55) ∧ ∀ W',Off C W W' → W'.heap[C]? = some (.cells q.cs 55) → CT b0 w0 L st oth q (F.updB done 16) (F.upd f 16 v) W':=by
  have e1:F.updB done 16 10 = done 10:=if_neg (by decide)
  have e2:F.updB done 16 15 = done 15:=if_neg (by decide)
  have e3:F.updB done 16 16 = true:=if_pos rfl
  have e4:F.upd f 16 v 15 = f 15:=if_neg (by decide)
  obtain ⟨lv,cb,a,_,r2⟩:=h.h
  obtain ⟨C,c1,c2,c3⟩:=r2 h15
  rw [h16] at c3
  subst c3
  refine ⟨C,c1,(a.oth (C,_) (by simp)).1,fun W' ho hc=>⟨?_,by rw [e2,h15]; exact (fun e=>by cases e)⟩⟩
  rw [e1,e2,e3,e4]
  exact ⟨lv,[(C,.cells q.cs 55)],F.One.other a c2 ho.os ho.tape ho.output ho.size (fun k _ hk=>ho.block k hk) hc (F.apart_of (by decide)),by rw [h15]; exact (fun e=>by cases e),fun _=>⟨C,c1,c2,rfl⟩⟩
end
def V99 (Sb M b t:Nat) (y:ByteArray) (q:Cm) (er:Int):Nat → Value → Prop
  | 0,v=>v = .pointer (some ⟨Sb,0,none⟩)
  | 1,v=>v = .pointer (some ⟨Sb,0,none⟩)
  | 2,v=>v = .pointer (some ⟨Sb,0,none⟩)
  | 3,v=>v = .pointer (some ⟨M,0,none⟩)
  | 4,v=>v = .pointer (some ⟨Sb,0,none⟩)
  | 5,v=>v = .pointer (some ⟨Sb,0,none⟩)
  | 6,v=>v = .pointer (some ⟨Sb,4,none⟩)
  | 7,v=>v = .int .i64 (b:Nat)
  | 8,v=>v = .int .i64 (t:Nat)
  | 9,v=>v = .int .i64 ((b + t:Nat):Int)
  | 10,v=>v = .string y
  | 11,v=>v = .tuple #[.agg q.cs,.int .i64 er]
  | 12,v=>v = .tuple #[.agg q.cs,.int .i64 er]
  | 13,v=>v = .agg q.cs
  | 14,v=>v = .int .i64 er
  | 17,v=>v = .int .i64 er
  | _,_=>True
def V99b (Sb C t:Nat) (z:ByteArray) (q qz:Cm) (bo:Bool):Nat → Value → Prop
  | 0,v=>v = .agg q.cs
  | 1,v=>v = .pointer (some ⟨Sb,0,none⟩)
  | 2,v=>v = .int .i64 (t:Nat)
  | 3,v=>v = .pointer (some ⟨Sb,0,none⟩)
  | 4,v=>v = .int .i64 (t:Nat)
  | 5,v=>v = .pointer (some ⟨C,4,none⟩)
  | 6,v=>v = .int .i64 (q.k:Nat)
  | 7,v=>v = .string z
  | 8,v=>v = .agg qz.cs
  | 9,v=>v = .bool bo
  | _,_=>True
set_option maxHeartbeats 2000000 in
set_option maxRecDepth 100000 in
theorem count_in {b0:Nat} {w0:World} {L:F.Loc} {st:F.St} {lv:Value} {oth:List (Nat × Obj)} {w:World} {Sb:Nat} (s:Sg) (h:F.One b0 w0 L st lv ((Sb,.cells s.cs 44) :: oth) w) (hm:(s.M,F.med L.P st.serial st.session) ∈ oth) (h5:∀ p ∈ oth,∀ c fz,p.2 ≠ .cells c 5 fz)
    (hs:s.b ≤ 10000 ∧ s.p ≤ 64) (t:Nat) (htp:t < s.p) (hfit:s.b + t + 1 ≤ st.n) (hn:st.n ≤ 1000) (hdn:st.down = false) (hth:st.there = true) (haw:st.aw = false) (hhw:st.hw = false) (hok:F.SecOk st) (hc:0 ≤ st.count ∧ st.count ≤ 10000000)
    (q:Cm) (er:Int) (htc:∀ W,Calls Tryz.prog 131 #[.string ⟨(F.rdsL st (s.b + t) 1).toArray⟩] W fun e w'=>e = .returned (.tuple #[.agg q.cs,.int .i64 er]) ∧ Below W.heap.size W w')
    (z:ByteArray) (hz:z.size ≤ 100000) (c2:Int)
    (hrd:∀ C W lv',(∀ p ∈ (Sb,.cells s.cs 44) :: oth,p.1 ≠ C) → F.One b0 w0 L { st with count:=st.count + 1 } lv' ((C,.cells q.cs 55) :: (Sb,.cells s.cs 44) :: oth) W → Calls Tryz.prog 60 #[.pointer (some ⟨Sb,0,none⟩),.int .i64 (t:Nat),.int .i64 (q.k:Nat)] W fun e W'=>e = .returned (.string z) ∧ ∃ lv'',F.One b0 w0 L { st with count:=c2 } lv'' ((C,.cells q.cs 55) :: (Sb,.cells s.cs 44) :: oth) W') :
    Calls Tryz.prog 99 #[.pointer (some ⟨Sb,0,none⟩),.int .i64 (t:Nat)] w fun e w'=>∃ v:Nat,e = .returned (.int .i64 (v:Nat)) ∧ (q = s.cm t z → v = q.k) ∧ (q ≠ s.cm t z → v = 0) ∧ ∃ lv',F.One b0 w0 L { st with count:=c2 } lv' ((Sb,.cells s.cs 44) :: oth) w':=by
  obtain ⟨M,c,j,n,b,p,a⟩:=s
  have hb1:b ≤ 10000:=hs.1
  have hp1:p ≤ 64:=hs.2
  have htp1:t < p:=htp
  have c5:w.cell? ⟨Sb,5,none⟩ = some (.int .i64 (p:Nat)):=F.cell_of (h.oth (Sb,_) (List.mem_cons_self ..)).1 5
  have hgt:¬ (p:Int) ≤ (t:Int):=by omega
  have H0:Hid _:=h
  have HMD:Hid (∀ W lv2 cb,(∀ p ∈ cb,∃ c,p.2 = .cells c 55) → F.One b0 w0 L st lv2 (cb ++ (Sb,.cells (Sg.mk M c j n b p a).cs 44) :: oth) W → Calls Tryz.prog 101 #[.pointer (some ⟨M,0,none⟩),.int .i64 ((b + t:Nat):Int),.int .i64 1] W fun e w'=>e = .returned (.string ⟨(F.rdsL st (b + t) 1).toArray⟩) ∧ ∃ lv',F.One b0 w0 L { st with count:=st.count + 1 } lv' (cb ++ (Sb,.cells (Sg.mk M c j n b p a).cs 44) :: oth) w'):=fun W lv2 cb hcb ho=>by
    exact ho.mread M (List.mem_append_right _ (List.mem_cons_of_mem _ hm)) (by
      intro p hp c fz e
      rcases List.mem_append.1 hp with hp | hp
      · obtain ⟨c',e'⟩:=hcb p hp
        rw [e'] at e; injection e with _ e _; exact absurd e (by decide)
      · rcases List.mem_cons.1 hp with rfl | hp
        · injection e with _ e _; exact absurd e (by decide)
        · exact h5 p hp c fz e) (b + t) 1 (by omega) hn hdn hth haw hhw hok hc
  have HTC:Hid (∀ W,Calls Tryz.prog 131 #[.string ⟨(F.rdsL st (b + t) 1).toArray⟩] W fun e w'=>e = .returned (.tuple #[.agg q.cs,.int .i64 er]) ∧ Below W.heap.size W w'):=htc
  obtain ⟨y,hy⟩:∃ y:ByteArray,y = ⟨(F.rdsL st (b + t) 1).toArray⟩:=⟨_,rfl⟩
  rw [← hy] at HMD HTC
  have HRD:Hid (∀ C W lv',(∀ pr ∈ (Sb,.cells (Sg.mk M c j n b p a).cs 44) :: oth,pr.1 ≠ C) → F.One b0 w0 L { st with count:=st.count + 1 } lv' ((C,.cells q.cs 55) :: (Sb,.cells (Sg.mk M c j n b p a).cs 44) :: oth) W → Calls Tryz.prog 60 #[.pointer (some ⟨Sb,0,none⟩),.int .i64 (t:Nat),.int .i64 (q.k:Nat)] W fun e W'=>e = .returned (.string z) ∧ ∃ lv'',F.One b0 w0 L { st with count:=c2 } lv'' ((C,.cells q.cs 55) :: (Sb,.cells (Sg.mk M c j n b p a).cs 44) :: oth) W'):=hrd
  have HCM:Hid (∀ W,W.heap[Sb]? = some (.cells (Sg.mk M c j n b p a).cs 44) → Calls Tryz.prog 56 #[.pointer (some ⟨Sb,0,none⟩),.int .i64 (t:Nat),.string z] W fun e w'=>e = .returned (.agg ((Sg.mk M c j n b p a).cm t z).cs) ∧ Below W.heap.size W w'):=fun W hW=>commit_any _ Sb t z hz W hW
  obtain ⟨qz,hqz⟩:∃ qz,qz = (Sg.mk M c j n b p a).cm t z:=⟨_,rfl⟩
  rw [← hqz] at HCM ⊢
  obtain ⟨bo,hbo,hne⟩:=cm_ne q qz
  have HBO:Hid (bo = false ↔ q = qz):=hbo
  clear h hm h5 hs htp hfit hn hdn hth haw hhw hok hc htc hy hrd hz hqz hbo
  go_enter Tryz.func99,Tryz.ntmps99
  go_wp2
  refine F.wp_region_pb (fun f=>⟨#[.pointer (some ⟨Sb,0,none⟩),.int .i64 (t:Int),undef,undef,.int .i64 0,f 15,f 17,.int .i64 (t:Int),.pointer (some ⟨Sb,0,none⟩),.pointer (some ⟨Sb,0,none⟩),.pointer (some ⟨Sb,5,none⟩),.int .i64 (p:Int),.bool false,f 12,f 0,f 1,f 2,f 3,f 4,f 5,f 6,f 7,f 8,f 9,f 10,f 11,f 13,f 14,undef,undef,undef,undef,undef,undef,undef,undef,undef,undef,undef,undef],[]⟩) (V99 Sb M b t y q er) (CT b0 w0 L st ((Sb,.cells (Sg.mk M c j n b p a).cs 44) :: oth) q) (fun i=>[undef,undef,undef,undef,undef,undef,undef,undef,undef,undef,undef,undef,undef,undef,undef,undef,undef,undef].getD i undef) (by kernel_rfl) rfl rfl ?hIa ?hputa ?stepa ?fina
  case hIa=>exact ⟨⟨lv,[],by have:=H0.out.ofBelow (Below.refl _ _).drew; simpa using this,fun _=>rfl,(fun e=>by cases e)⟩,fun _=>rfl⟩
  case fina=>
    intro f W hP hV
    obtain ⟨lv2,cb,ho,_,r2⟩:=hP.h
    obtain ⟨C,u15,hne2,rfl⟩:=r2 rfl
    have H1:Hid (F.One b0 w0 L { st with count:=st.count + 1 } lv2 ((C,.cells q.cs 55) :: (Sb,.cells (Sg.mk M c j n b p a).cs 44) :: oth) W):=ho
    have HNE:Hid _:=hne2
    have u0:f 0 = .pointer (some ⟨Sb,0,none⟩):=hV 0 (by decide)
    have u1:f 1 = .pointer (some ⟨Sb,0,none⟩):=hV 1 (by decide)
    have u2:f 2 = .pointer (some ⟨Sb,0,none⟩):=hV 2 (by decide)
    have u3:f 3 = .pointer (some ⟨M,0,none⟩):=hV 3 (by decide)
    have u4:f 4 = .pointer (some ⟨Sb,0,none⟩):=hV 4 (by decide)
    have u5:f 5 = .pointer (some ⟨Sb,0,none⟩):=hV 5 (by decide)
    have u6:f 6 = .pointer (some ⟨Sb,4,none⟩):=hV 6 (by decide)
    have u7:f 7 = .int .i64 (b:Nat):=hV 7 (by decide)
    have u8:f 8 = .int .i64 (t:Nat):=hV 8 (by decide)
    have u9:f 9 = .int .i64 ((b + t:Nat):Int):=hV 9 (by decide)
    have u10:f 10 = .string y:=hV 10 (by decide)
    have u11:f 11 = .tuple #[.agg q.cs,.int .i64 er]:=hV 11 (by decide)
    have u12:f 12 = .tuple #[.agg q.cs,.int .i64 er]:=hV 12 (by decide)
    have u13:f 13 = .agg q.cs:=hV 13 (by decide)
    have u14:f 14 = .int .i64 er:=hV 14 (by decide)
    have u17:f 17 = .int .i64 er:=hV 17 (by decide)
    clear hV hP ho hne2 r2 HMD HTC H0
    generalize f 0 = z0 at *
    subst u0
    generalize f 1 = z1 at *
    subst u1
    generalize f 2 = z2 at *
    subst u2
    generalize f 3 = z3 at *
    subst u3
    generalize f 4 = z4 at *
    subst u4
    generalize f 5 = z5 at *
    subst u5
    generalize f 6 = z6 at *
    subst u6
    generalize f 7 = z7 at *
    subst u7
    generalize f 8 = z8 at *
    subst u8
    generalize f 9 = z9 at *
    subst u9
    generalize f 10 = z10 at *
    subst u10
    generalize f 11 = z11 at *
    subst u11
    generalize f 12 = z12 at *
    subst u12
    generalize f 13 = z13 at *
    subst u13
    generalize f 14 = z14 at *
    subst u14
    generalize f 15 = z15 at *
    subst u15
    generalize f 17 = z17 at *
    subst u17
    go_wp2
    refine F.wp_region_pb (fun f=>⟨#[.pointer (some ⟨Sb,0,none⟩),.int .i64 (t:Int),undef,undef,.int .i64 0,.pointer (some ⟨C,0,none⟩),.int .i64 er,.int .i64 (t:Int),.pointer (some ⟨Sb,0,none⟩),.pointer (some ⟨Sb,0,none⟩),.pointer (some ⟨Sb,5,none⟩),.int .i64 (p:Int),.bool false,.tuple #[.agg q.cs,.int .i64 er],.pointer (some ⟨Sb,0,none⟩),.pointer (some ⟨Sb,0,none⟩),.pointer (some ⟨Sb,0,none⟩),.pointer (some ⟨M,0,none⟩),.pointer (some ⟨Sb,0,none⟩),.pointer (some ⟨Sb,0,none⟩),.pointer (some ⟨Sb,4,none⟩),.int .i64 (b:Int),.int .i64 (t:Int),.int .i64 ↑(b + t),.string y,.tuple #[.agg q.cs,.int .i64 er],.agg q.cs,.int .i64 er,f 0,f 1,f 2,f 3,f 4,f 5,f 6,f 7,f 8,f 9,undef,undef],[]⟩) (V99b Sb C t z q qz bo) (F.Two 7 (fun W=>∃ lv,F.One b0 w0 L { st with count:=st.count + 1 } lv ((C,.cells q.cs 55) :: (Sb,.cells (Sg.mk M c j n b p a).cs 44) :: oth) W) (fun W=>∃ lv,F.One b0 w0 L { st with count:=c2 } lv ((C,.cells q.cs 55) :: (Sb,.cells (Sg.mk M c j n b p a).cs 44) :: oth) W)) (fun i=>[undef,undef,undef,undef,undef,undef,undef,undef,undef,undef].getD i undef) (by kernel_rfl) rfl rfl ?hIb ?hputb ?stepb ?finb
    case hIb=>exact ⟨fun _=>⟨lv2,H1.out.ofBelow (Below.refl _ _).drew⟩,(fun e=>by cases e)⟩
    case finb=>
      intro f W hP hV
      obtain ⟨lv3,ho⟩:=hP.b rfl
      have hC:=(ho.oth (C,_) (List.mem_cons_self ..)).1
      have q4:=F.cell_of hC 4
      replace q4:W.cell? ⟨C,4,none⟩ = some (.int .i64 (q.k:Nat)):=q4
      have H2:Hid (F.One b0 w0 L { st with count:=c2 } lv3 ((Sb,.cells (Sg.mk M c j n b p a).cs 44) :: oth) W):=ho.forget (fun p hp=>List.mem_cons_of_mem _ hp)
      have u0:f 0 = .agg q.cs:=hV 0 (by decide)
      have u1:f 1 = .pointer (some ⟨Sb,0,none⟩):=hV 1 (by decide)
      have u2:f 2 = .int .i64 (t:Nat):=hV 2 (by decide)
      have u3:f 3 = .pointer (some ⟨Sb,0,none⟩):=hV 3 (by decide)
      have u4:f 4 = .int .i64 (t:Nat):=hV 4 (by decide)
      have u5:f 5 = .pointer (some ⟨C,4,none⟩):=hV 5 (by decide)
      have u6:f 6 = .int .i64 (q.k:Nat):=hV 6 (by decide)
      have u7:f 7 = .string z:=hV 7 (by decide)
      have u8:f 8 = .agg qz.cs:=hV 8 (by decide)
      have u9:f 9 = .bool bo:=hV 9 (by decide)
      clear hV hP ho hC HRD HCM H1 HNE hne
      generalize f 0 = y0 at *
      subst u0
      generalize f 1 = y1 at *
      subst u1
      generalize f 2 = y2 at *
      subst u2
      generalize f 3 = y3 at *
      subst u3
      generalize f 4 = y4 at *
      subst u4
      generalize f 5 = y5 at *
      subst u5
      generalize f 6 = y6 at *
      subst u6
      generalize f 7 = y7 at *
      subst u7
      generalize f 8 = y8 at *
      subst u8
      generalize f 9 = y9 at *
      subst u9
      cases bo with
      | false=>
        have hq:Hid (q = qz):=HBO.out.1 rfl
        go_wp2
        go_returns
        exact ⟨q.k,rfl,fun _=>rfl,fun e=>absurd hq.out e,lv3,H2.out⟩
      | true=>
        have hq:Hid (q ≠ qz):=fun e=>by have:=HBO.out.2 e; cases this
        go_wp2
        go_returns
        exact ⟨0,rfl,fun e=>absurd e hq.out,fun _=>rfl,lv3,H2.out⟩
    case hputb=>
      repeat (refine ⟨fun f v=>rfl,?_⟩)
      trivial
    case stepb=>
      refine ⟨?_,?_⟩
      · intro done f W hP hdn hd K hK
        clear hd
        have hC:W.heap[C]? = some (.cells q.cs 55):=F.Two.any (R:=fun W=>W.heap[C]? = some (.cells q.cs 55)) (fun W ⟨lv,h⟩=>(h.oth (C,_) (List.mem_cons_self ..)).1) (fun W ⟨lv,h⟩=>(h.oth (C,_) (List.mem_cons_self ..)).1) hP
        refine pldp _ rfl C q.cs (Cm.cs_size _) rfl hC ?_
        exact hK _ _ rfl (hP.pure _ (by decide) _)
      refine ⟨?_,?_⟩
      · intro done f W hP hdn hd K hK
        clear hd
        go_simp
        exact hK _ _ rfl (hP.pure _ (by decide) _)
      refine ⟨?_,?_⟩
      · intro done f W hP hdn hd K hK
        clear hd
        go_simp
        exact hK _ _ rfl (hP.pure _ (by decide) _)
      refine ⟨?_,?_⟩
      · intro done f W hP hdn hd K hK
        clear hd
        go_simp
        exact hK _ _ rfl (hP.pure _ (by decide) _)
      refine ⟨?_,?_⟩
      · intro done f W hP hdn hd K hK
        clear hd
        go_simp
        exact hK _ _ rfl (hP.pure _ (by decide) _)
      refine ⟨?_,?_⟩
      · intro done f W hP hdn hd K hK
        clear hd
        go_simp
        exact hK _ _ rfl (hP.pure _ (by decide) _)
      refine ⟨?_,?_⟩
      · intro done f W hP hdn hd K hK
        have d5:=(hd.1 rfl).2
        have e5:done 5 = true:=(hd.1 rfl).1
        clear hd
        replace d5:f 5 = .pointer (some ⟨C,4,none⟩):=d5
        generalize f 5 = x5 at *
        subst d5
        clear e5
        have hC:W.heap[C]? = some (.cells q.cs 55):=F.Two.any (R:=fun W=>W.heap[C]? = some (.cells q.cs 55)) (fun W ⟨lv,h⟩=>(h.oth (C,_) (List.mem_cons_self ..)).1) (fun W ⟨lv,h⟩=>(h.oth (C,_) (List.mem_cons_self ..)).1) hP
        have q4:=F.cell_of hC 4
        replace q4:W.cell? ⟨C,4,none⟩ = some (.int .i64 (q.k:Nat)):=q4
        go_simp
        exact hK _ _ rfl (hP.pure _ (by decide) _)
      refine ⟨?_,?_⟩
      · intro done f W hP hdn hd K hK
        have d3:=(hd.1 rfl).2
        have e3:done 3 = true:=(hd.1 rfl).1
        have d4:=(hd.2.1 rfl).2
        have e4:done 4 = true:=(hd.2.1 rfl).1
        have d6:=(hd.2.2.1 rfl).2
        have e6:done 6 = true:=(hd.2.2.1 rfl).1
        clear hd
        replace d3:f 3 = .pointer (some ⟨Sb,0,none⟩):=d3
        replace d4:f 4 = .int .i64 (t:Nat):=d4
        replace d6:f 6 = .int .i64 (q.k:Nat):=d6
        generalize f 3 = x3 at *
        subst d3
        clear e3
        generalize f 4 = x4 at *
        subst d4
        clear e4
        generalize f 6 = x6 at *
        subst d6
        clear e6
        obtain ⟨lv3,ho3⟩:=hP.a hdn
        go_simp
        refine (HRD.out C W lv3 HNE.out ho3).mono ?_
        rintro e W' ⟨rfl,hr⟩
        exact hK _ _ rfl (hP.turn hr _)
      refine ⟨?_,?_⟩
      · intro done f W hP hdn hd K hK
        have d1:=(hd.1 rfl).2
        have e1:done 1 = true:=(hd.1 rfl).1
        have d2:=(hd.2.1 rfl).2
        have e2:done 2 = true:=(hd.2.1 rfl).1
        have d7:=(hd.2.2.1 rfl).2
        have e7:done 7 = true:=(hd.2.2.1 rfl).1
        clear hd
        replace d1:f 1 = .pointer (some ⟨Sb,0,none⟩):=d1
        replace d2:f 2 = .int .i64 (t:Nat):=d2
        replace d7:f 7 = .string z:=d7
        generalize f 1 = x1 at *
        subst d1
        clear e1
        generalize f 2 = x2 at *
        subst d2
        clear e2
        generalize f 7 = x7 at *
        subst d7
        clear e7
        have hS:W.heap[Sb]? = some (.cells (Sg.mk M c j n b p a).cs 44):=F.Two.any (R:=fun W=>W.heap[Sb]? = some (.cells (Sg.mk M c j n b p a).cs 44)) (fun W ⟨lv,h⟩=>(h.oth (Sb,_) (List.mem_cons_of_mem _ (List.mem_cons_self ..))).1) (fun W ⟨lv,h⟩=>(h.oth (Sb,_) (List.mem_cons_of_mem _ (List.mem_cons_self ..))).1) hP
        go_simp
        refine (HCM.out W hS).mono ?_
        rintro e W' ⟨rfl,hb⟩
        exact hK _ _ rfl (hP.below (by decide) (fun ⟨lv,h⟩=>⟨lv,h.ofBelow hb⟩) (fun ⟨lv,h⟩=>⟨lv,h.ofBelow hb⟩) _)
      refine ⟨?_,?_⟩
      · intro done f W hP hdn hd K hK
        have d0:=(hd.1 rfl).2
        have e0:done 0 = true:=(hd.1 rfl).1
        have d8:=(hd.2.1 rfl).2
        have e8:done 8 = true:=(hd.2.1 rfl).1
        clear hd
        replace d0:f 0 = .agg q.cs:=d0
        replace d8:f 8 = .agg qz.cs:=d8
        generalize f 0 = x0 at *
        subst d0
        clear e0
        generalize f 8 = x8 at *
        subst d8
        clear e8
        have hn2:=hne W
        go_simp
        exact hK _ _ rfl (hP.pure _ (by decide) _)
      trivial
  case hputa=>
    repeat (refine ⟨fun f v=>rfl,?_⟩)
    trivial
  case stepa=>
    refine ⟨?_,?_⟩
    · intro done f W hP hdn hd K hK
      clear hd
      go_simp
      exact hK _ _ rfl (hP.pure _ (by decide) _)
    refine ⟨?_,?_⟩
    · intro done f W hP hdn hd K hK
      have d0:=(hd.1 rfl).2
      have e0:done 0 = true:=(hd.1 rfl).1
      clear hd
      replace d0:f 0 = .pointer (some ⟨Sb,0,none⟩):=d0
      generalize f 0 = x0 at *
      subst d0
      clear e0
      go_simp
      exact hK _ _ rfl (hP.pure _ (by decide) _)
    refine ⟨?_,?_⟩
    · intro done f W hP hdn hd K hK
      have d1:=(hd.1 rfl).2
      have e1:done 1 = true:=(hd.1 rfl).1
      clear hd
      replace d1:f 1 = .pointer (some ⟨Sb,0,none⟩):=d1
      generalize f 1 = x1 at *
      subst d1
      clear e1
      go_simp
      exact hK _ _ rfl (hP.pure _ (by decide) _)
    refine ⟨?_,?_⟩
    · intro done f W hP hdn hd K hK
      have d2:=(hd.1 rfl).2
      have e2:done 2 = true:=(hd.1 rfl).1
      clear hd
      replace d2:f 2 = .pointer (some ⟨Sb,0,none⟩):=d2
      generalize f 2 = x2 at *
      subst d2
      clear e2
      have hb:=hP.mem (p:=(Sb,.cells (Sg.mk M c j n b p a).cs 44)) (List.mem_cons_self ..)
      have q0:=F.cell_of hb 0
      have q4:=F.cell_of hb 4
      replace q0:W.cell? ⟨Sb,0,none⟩ = some (.pointer (some ⟨M,0,none⟩)):=q0
      replace q4:W.cell? ⟨Sb,4,none⟩ = some (.int .i64 (b:Nat)):=q4
      go_simp
      exact hK _ _ rfl (hP.pure _ (by decide) _)
    refine ⟨?_,?_⟩
    · intro done f W hP hdn hd K hK
      clear hd
      go_simp
      exact hK _ _ rfl (hP.pure _ (by decide) _)
    refine ⟨?_,?_⟩
    · intro done f W hP hdn hd K hK
      have d4:=(hd.1 rfl).2
      have e4:done 4 = true:=(hd.1 rfl).1
      clear hd
      replace d4:f 4 = .pointer (some ⟨Sb,0,none⟩):=d4
      generalize f 4 = x4 at *
      subst d4
      clear e4
      go_simp
      exact hK _ _ rfl (hP.pure _ (by decide) _)
    refine ⟨?_,?_⟩
    · intro done f W hP hdn hd K hK
      have d5:=(hd.1 rfl).2
      have e5:done 5 = true:=(hd.1 rfl).1
      clear hd
      replace d5:f 5 = .pointer (some ⟨Sb,0,none⟩):=d5
      generalize f 5 = x5 at *
      subst d5
      clear e5
      go_simp
      exact hK _ _ rfl (hP.pure _ (by decide) _)
    refine ⟨?_,?_⟩
    · intro done f W hP hdn hd K hK
      have d6:=(hd.1 rfl).2
      have e6:done 6 = true:=(hd.1 rfl).1
      clear hd
      replace d6:f 6 = .pointer (some ⟨Sb,4,none⟩):=d6
      generalize f 6 = x6 at *
      subst d6
      clear e6
      have hb:=hP.mem (p:=(Sb,.cells (Sg.mk M c j n b p a).cs 44)) (List.mem_cons_self ..)
      have q0:=F.cell_of hb 0
      have q4:=F.cell_of hb 4
      replace q0:W.cell? ⟨Sb,0,none⟩ = some (.pointer (some ⟨M,0,none⟩)):=q0
      replace q4:W.cell? ⟨Sb,4,none⟩ = some (.int .i64 (b:Nat)):=q4
      go_simp
      exact hK _ _ rfl (hP.pure _ (by decide) _)
    refine ⟨?_,?_⟩
    · intro done f W hP hdn hd K hK
      clear hd
      go_simp
      exact hK _ _ rfl (hP.pure _ (by decide) _)
    refine ⟨?_,?_⟩
    · intro done f W hP hdn hd K hK
      have d7:=(hd.1 rfl).2
      have e7:done 7 = true:=(hd.1 rfl).1
      have d8:=(hd.2.1 rfl).2
      have e8:done 8 = true:=(hd.2.1 rfl).1
      clear hd
      replace d7:f 7 = .int .i64 (b:Nat):=d7
      replace d8:f 8 = .int .i64 (t:Nat):=d8
      generalize f 7 = x7 at *
      subst d7
      clear e7
      generalize f 8 = x8 at *
      subst d8
      clear e8
      go_simp
      exact hK _ _ (by first | rfl | (show Value.int .i64 _ = Value.int .i64 _; congr 1; first | omega | (rw [IntKind.wrap_i64]; omega))) (hP.pure _ (by decide) _)
    refine ⟨?_,?_⟩
    · intro done f W hP hdn hd K hK
      have d3:=(hd.1 rfl).2
      have e3:done 3 = true:=(hd.1 rfl).1
      have d9:=(hd.2.1 rfl).2
      have e9:done 9 = true:=(hd.2.1 rfl).1
      clear hd
      replace d3:f 3 = .pointer (some ⟨M,0,none⟩):=d3
      replace d9:f 9 = .int .i64 ((b + t:Nat):Int):=d9
      generalize f 3 = x3 at *
      subst d3
      clear e3
      generalize f 9 = x9 at *
      subst d9
      clear e9
      obtain ⟨lv2,cb,hcb,ho,hnx⟩:=hP.read hdn
      go_simp
      refine (HMD.out W lv2 cb hcb ho).mono ?_
      rintro e W' ⟨rfl,lv',ho'⟩
      exact hK _ _ rfl (hnx _ _ _ ho')
    refine ⟨?_,?_⟩
    · intro done f W hP hdn hd K hK
      have d10:=(hd.1 rfl).2
      have e10:done 10 = true:=(hd.1 rfl).1
      clear hd
      replace d10:f 10 = .string y:=d10
      generalize f 10 = x10 at *
      subst d10
      clear e10
      go_simp
      refine (HTC.out W).mono ?_
      rintro e W' ⟨rfl,hb⟩
      exact hK _ _ rfl (hP.below _ (by decide) hb _)
    refine ⟨?_,?_⟩
    · intro done f W hP hdn hd K hK
      have d11:=(hd.1 rfl).2
      have e11:done 11 = true:=(hd.1 rfl).1
      clear hd
      replace d11:f 11 = .tuple #[.agg q.cs,.int .i64 er]:=d11
      generalize f 11 = x11 at *
      subst d11
      clear e11
      go_simp
      exact hK _ _ rfl (hP.pure _ (by decide) _)
    refine ⟨?_,?_⟩
    · intro done f W hP hdn hd K hK
      have d12:=(hd.1 rfl).2
      have e12:done 12 = true:=(hd.1 rfl).1
      clear hd
      replace d12:f 12 = .tuple #[.agg q.cs,.int .i64 er]:=d12
      generalize f 12 = x12 at *
      subst d12
      clear e12
      go_simp
      exact hK _ _ rfl (hP.pure _ (by decide) _)
    refine ⟨?_,?_⟩
    · intro done f W hP hdn hd K hK
      have d12:=(hd.1 rfl).2
      have e12:done 12 = true:=(hd.1 rfl).1
      clear hd
      replace d12:f 12 = .tuple #[.agg q.cs,.int .i64 er]:=d12
      generalize f 12 = x12 at *
      subst d12
      clear e12
      go_simp
      exact hK _ _ rfl (hP.pure _ (by decide) _)
    refine ⟨?_,?_⟩
    · intro done f W hP hdn hd K hK
      clear hd
      have hm:=hP.made hdn
      go_simp
      exact hK _ _ trivial hm
    refine ⟨?_,?_⟩
    · intro done f W hP hdn hd K hK
      have d15:=(hd.1 rfl).2
      have e15:done 15 = true:=(hd.1 rfl).1
      have d13:=(hd.2.1 rfl).2
      have e13:done 13 = true:=(hd.2.1 rfl).1
      clear hd
      replace d13:f 13 = .agg q.cs:=d13
      generalize f 13 = x13 at *
      subst d13
      clear e13
      have e15':done 15 = true:=e15
      obtain ⟨C,c1,c2,hnx⟩:=hP.filled e15' hdn undef
      generalize f 15 = x15 at *
      subst c1
      refine cst6p _ _ rfl C _ rfl rfl rfl rfl c2 (Cm.cs_one _) (fun W' ho hk=>?_)
      exact hK _ _ trivial (hnx W' ho hk)
    refine ⟨?_,?_⟩
    · intro done f W hP hdn hd K hK
      have d14:=(hd.1 rfl).2
      have e14:done 14 = true:=(hd.1 rfl).1
      clear hd
      replace d14:f 14 = .int .i64 er:=d14
      generalize f 14 = x14 at *
      subst d14
      clear e14
      go_simp
      exact hK _ _ rfl (hP.pure _ (by decide) _)
    trivial
end Go.Proofs.YtncfbocbigdhiaaGreat

/- Rows of places: appended to, and kept through calls. -/
namespace Go.Proofs.YtncfbocbigdhiaaGreat
open Go.RowKit
def nv (t:Nat):Value:=.int .i64 (t:Nat)
section
variable {b0:Nat} {w0:World} {L:F.Loc} {st:F.St} {lv:Value} {oth:List (Nat × Obj)} {w w':World}
theorem F.One.grownI {row:Option Nat} (h:F.One b0 w0 L st lv oth w) (hg:w.grownBy w' row) (hr:∀ g,row = some g → b0 ≤ g ∧ ∃ c,w.heap[g]? = some (.cells c 3)) (ho:∀ p ∈ oth,row ≠ some p.1):F.One b0 w0 L st lv oth w':=by
  have tne:∀ {i:Nat} {d:Array Value} {t:TypeId},w.heap[i]? = some (.cells d t) → t ≠ 3 → some i ≠ row:=fun {i d t} e ht er=>by
    obtain ⟨_,c,hc⟩:=hr i er.symm
    rw [e] at hc
    injection hc with hc
    injection hc with _ hc _
    exact ht hc
  have same:∀ {j:Nat} {o:Obj},w.heap[j]? = some o → some j ≠ row → w'.heap[j]? = some o:=fun e h1=>(hg.block _ (F.getElem?_lt e) h1).trans e
  refine ⟨?_,h.bP,h.bR,h.bD,h.bS,same h.pool (tne h.pool (by decide)),same h.rowb (tne h.rowb (by decide)),h.rc0,same h.dev (tne h.dev (by decide)),same h.sec (tne h.sec (by decide)),⟨h.own.1,?_⟩,?_⟩
  · refine ⟨hg.os.trans h.below.os,hg.tape.trans h.below.tape,hg.output.trans h.below.output,Nat.le_trans h.below.size hg.size,fun j hj=>?_⟩
    rw [hg.block j (Nat.lt_of_lt_of_le hj (Nat.le_trans h.bP (Nat.le_of_lt (F.getElem?_lt h.pool)))) (fun e=>by have:=(hr j e.symm).1; omega)]
    exact h.below.block j hj
  · rcases h.own.2 with h1 | ⟨g,cap,cur,e,h2,h3,h4⟩
    · exact Or.inl h1
    · exact Or.inr ⟨g,cap,cur,e,h2,same h3 (tne h3 (by decide)),h4⟩
  · intro p hp
    obtain ⟨o1,o2,o3,o4⟩:=h.oth p hp
    exact ⟨same o1 (fun e=>ho p hp e.symm),o2,o3,o4⟩
theorem F.One.addI {g:Nat} {c:Array Value} (h:F.One b0 w0 L st lv oth w) (hg:w.heap[g]? = some (.cells c 3)) (hb:b0 ≤ g):F.One b0 w0 L st lv ((g,.cells c 3) :: oth) w:=by
  have tne:∀ {i:Nat} {d:Array Value} {t:TypeId},w.heap[i]? = some (.cells d t) → t ≠ 3 → g ≠ i:=fun e ht er=>by
    subst er
    rw [hg] at e
    injection e with e
    injection e with _ e _
    exact ht e.symm
  refine { h with oth:=?_ }
  intro p hp
  rcases List.mem_cons.1 hp with rfl | hp
  · exact ⟨hg,⟨tne h.pool (by decide),tne h.rowb (by decide),tne h.dev (by decide),tne h.sec (by decide)⟩,F.apart_of (by decide),hb⟩
  · exact h.oth p hp
end
def Plc (v:Value) (mays:List Nat) (ol:List (Nat × Obj)):Prop:=
  (v = .slice none 0 0 ∧ mays = [] ∧ ol = []) ∨ ∃ g cap cur,v = .slice (some ⟨g,0,none⟩) mays.length cap ∧ ol = [(g,.cells cur 3)] ∧ mays.length ≤ cap ∧ cap ≤ maxLen ∧ cur.size = cap ∧ cur.toList.take mays.length = mays.map nv
theorem Plc.own {b0:Nat} {w0:World} {L:F.Loc} {st:F.St} {lv:Value} {oth:List (Nat × Obj)} {w:World} {v:Value} {mays:List Nat} {ol:List (Nat × Obj)} (h:Plc v mays ol) (ho:F.One b0 w0 L st lv oth w) (hs:∀ p ∈ ol,p ∈ oth):w.ownsRow b0 3 1 v mays.length (mays.map nv):=by
  rcases h with ⟨rfl,rfl,rfl⟩ | ⟨g,cap,cur,rfl,rfl,h1,h2,h3,h4⟩
  · exact ⟨rfl,Or.inl ⟨rfl,rfl⟩⟩
  · obtain ⟨o1,_,_,o4⟩:=ho.oth (g,.cells cur 3) (hs _ (List.mem_singleton.2 rfl))
    exact ⟨by simp,Or.inr ⟨g,cap,cur,rfl,o4,o1,h1,h2,by rw [Nat.mul_one]; exact h3,by rw [Nat.mul_one]; exact h4⟩⟩
theorem Plc.len {v:Value} {mays:List Nat} {ol:List (Nat × Obj)} (h:Plc v mays ol):∃ ao cp,v = .slice ao mays.length cp:=by
  rcases h with ⟨rfl,rfl,rfl⟩ | ⟨g,cap,cur,rfl,rfl,h1,h2,h3,h4⟩
  · exact ⟨none,0,rfl⟩
  · exact ⟨_,_,rfl⟩
theorem iinfo:(Tryz.prog.info? 3).map (fun i=>(i.zero,i.size,i.bytes)) = some (some (.int .i64 0),1,8):=by kernel_rfl
theorem pappend {ops:Array Oper} {rest:List Oper} {o:Oper} {a:Act} {w:World} {Q:Exit → Act → World → Prop} (hgd:o.guard = none) (s x:Operand) (ho:o.op = .call { callee:=.builtin .append,args:=#[s,x],argTypes:=#[31,31] })
    (base:Nat) (v:Value) (mays:List Nat) (hs:a.eval s = v) (hown:w.ownsRow base 3 1 v mays.length (mays.map nv)) (G:Nat) (hx:a.eval x = .slice (some ⟨G,0,none⟩) 1 1) (t:Nat) (hG:w.heap[G]? = some (.cells #[nv t] 3)) (hl:mays.length ≤ 1001) (hb:base ≤ w.heap.size)
    (k:∀ (v':Value) (w':World),w'.ownsRow base 3 1 v' (mays ++ [t]).length ((mays ++ [t]).map nv) → w.grownBy w' v.ownBlock → wpList Tryz.prog ops Q rest (a.put o.dst v') w'):wpList Tryz.prog ops Q (o :: rest) a w:=by
  obtain ⟨i0,hi0,hz0,hs0,hby0⟩:=info_parts iinfo
  refine wpList_append_own w hgd s x 31 ho base 3 i0 (.int .i64 0) 1 8 Tryz.underlying31 hi0 hz0 hs0 hby0 (by kernel_rfl) (by decide) v mays.length (mays.map nv) hs hown ⟨G,0,none⟩ 1 1 [nv t] hx rfl ?_ ?_ (by unfold maxLen; omega) (by omega) hb ?_
  · intro j u hj
    rw [Addr.add_lit,Nat.zero_add,F.cell_of hG]
    simpa using hj
  · intro u hu
    simp at hu
    rcases hu with rfl; rfl
  · intro v' w' h1 h2 h3
    refine k v' w' ?_ h2
    rw [List.map_append,List.length_append]; exact h1
theorem Plc.grown {b0:Nat} {w0:World} {L:F.Loc} {st:F.St} {lv:Value} {oth:List (Nat × Obj)} {w w':World} {v v':Value} {mays mays':List Nat} {ol:List (Nat × Obj)} (h:Plc v mays ol) (ho:F.One b0 w0 L st lv (ol ++ oth) w) (hd:∀ p ∈ ol,∀ q ∈ oth,p.1 ≠ q.1) (hg:w.grownBy w' v.ownBlock) (hn:w'.ownsRow b0 3 1 v' mays'.length (mays'.map nv)) (hne:mays' ≠ []) :
    ∃ ol',Plc v' mays' ol' ∧ F.One b0 w0 L st lv (ol' ++ oth) w':=by
  have hr:∀ g,v.ownBlock = some g → b0 ≤ g ∧ ∃ c,w.heap[g]? = some (.cells c 3):=by
    intro g e
    rcases h with ⟨rfl,rfl,rfl⟩ | ⟨g',cap,cur,rfl,rfl,_⟩
    · cases e
    · injection e with e
      subst e
      obtain ⟨o1,_,_,o4⟩:=ho.oth (g',.cells cur 3) (by simp)
      exact ⟨o4,cur,o1⟩
  have h1:F.One b0 w0 L st lv oth w:=ho.forget (fun p hp=>List.mem_append_right _ hp)
  have h2:=h1.grownI hg hr (by
    intro p hp e
    rcases h with ⟨rfl,rfl,rfl⟩ | ⟨g',cap,cur,rfl,rfl,_⟩
    · cases e
    · injection e with e
      exact hd (g',.cells cur 3) (List.mem_singleton.2 rfl) p hp e)
  rcases hn.2 with ⟨_,e0⟩ | ⟨g,cap,cur,rfl,k1,k2,k3,k4,k5,k6⟩
  · exact absurd (List.eq_nil_of_length_eq_zero e0) hne
  · rw [Nat.mul_one] at k5 k6
    exact ⟨[(g,.cells cur 3)],Or.inr ⟨g,cap,cur,rfl,rfl,k3,k4,k5,k6⟩,h2.addI k2 k1⟩
end Go.Proofs.YtncfbocbigdhiaaGreat

/- Scan: the places of a segment's groups, as count finds them. -/
namespace Go.Proofs.YtncfbocbigdhiaaGreat
open Go.RowKit
inductive Way (cnt:Nat → Nat):List Nat → Nat → Prop
  | nil:Way cnt [] 1
  | next {ps:List Nat} {t:Nat}:Way cnt ps t → 0 < cnt t → Way cnt (ps ++ [t]) (t + 1 + cnt t)
theorem Way.len {cnt:Nat → Nat} {ps:List Nat} {t:Nat} (h:Way cnt ps t):2 * ps.length < t:=by
  induction h with
  | nil=>decide
  | next _ h2 ih=>simp; omega
theorem Way.le {cnt:Nat → Nat} {ps:List Nat} {t p:Nat} (hc:∀ t,0 < cnt t → t + cnt t < p) (hp:1 ≤ p) (h:Way cnt ps t):1 ≤ t ∧ t ≤ p:=by
  induction h with
  | nil=>omega
  | next h1 h2 ih=>have:=hc _ h2; omega
structure Mx (T1 Sb:Nat) (oth:List (Nat × Obj)):Prop where
  lt:∀ q ∈ oth,q.1 < T1
  sb:Sb < T1
  wit:T1 = Sb + 1 ∨ ∃ q ∈ oth,T1 = q.1 + 1
theorem Mx.of (Sb:Nat):∀ oth:List (Nat × Obj),∃ T1,Mx T1 Sb oth
  | []=>⟨Sb + 1,⟨fun q hq=>(by cases hq),Nat.lt_succ_self _,Or.inl rfl⟩⟩
  | q :: l=>by
    obtain ⟨T1,h⟩:=Mx.of Sb l
    rcases Nat.lt_or_ge q.1 T1 with hq | hq
    · refine ⟨T1,⟨fun p hp=>?_,h.sb,?_⟩⟩
      · rcases List.mem_cons.1 hp with rfl | hp
        · exact hq
        · exact h.lt p hp
      · rcases h.wit with h1 | ⟨p,hp,h1⟩
        · exact Or.inl h1
        · exact Or.inr ⟨p,List.mem_cons_of_mem _ hp,h1⟩
    · refine ⟨q.1 + 1,⟨fun p hp=>?_,by have:=h.sb; omega,Or.inr ⟨q,List.mem_cons_self ..,rfl⟩⟩⟩
      rcases List.mem_cons.1 hp with rfl | hp
      · omega
      · have:=h.lt p hp; omega
theorem Mx.le {T1 Sb:Nat} {oth:List (Nat × Obj)} (h:Mx T1 Sb oth) {b0:Nat} {w0:World} {L:F.Loc} {st:F.St} {lv:Value} {ol:List (Nat × Obj)} {o:Obj} {w:World} (ho:F.One b0 w0 L st lv (ol ++ (Sb,o) :: oth) w):b0 ≤ T1 ∧ T1 ≤ w.heap.size:=by
  rcases h.wit with h1 | ⟨q,hq,h1⟩
  · have e:=ho.oth (Sb,o) (List.mem_append_right _ (List.mem_cons_self ..))
    have:=F.getElem?_lt e.1
    have:=e.2.2.2
    have:b0 ≤ Sb:=this
    have:Sb < w.heap.size:=F.getElem?_lt e.1
    omega
  · have e:=ho.oth q (List.mem_append_right _ (List.mem_cons_of_mem _ hq))
    have:=F.getElem?_lt e.1
    have:=e.2.2.2
    omega
def SI (T1 b0:Nat) (w0:World) (L:F.Loc) (st:F.St) (Sb:Nat) (s:Sg) (oth:List (Nat × Obj)) (i:Nat) (ps:List Nat) (v:Value) (W:World):Prop:=
  ∃ c lv ol,Plc v ps ol ∧ F.One b0 w0 L { st with count:=c } lv (ol ++ (Sb,.cells s.cs 44) :: oth) W ∧ st.count ≤ c ∧ c ≤ st.count + i ∧ ∀ p ∈ ol,T1 ≤ p.1
section
variable {T1 b0:Nat} {w0:World} {L:F.Loc} {st:F.St} {Sb:Nat} {s:Sg} {oth:List (Nat × Obj)} {i:Nat} {ps:List Nat} {v:Value} {W W':World}
theorem SI.below (h:SI T1 b0 w0 L st Sb s oth i ps v W) (hb:Below W.heap.size W W'):SI T1 b0 w0 L st Sb s oth i ps v W':=by
  obtain ⟨c,lv,ol,h1,h2,h3⟩:=h
  exact ⟨c,lv,ol,h1,h2.ofBelow hb,h3⟩
theorem Plc.ty {ol:List (Nat × Obj)} (h:Plc v ps ol):∀ p ∈ ol,∃ c,p.2 = .cells c 3:=by
  rcases h with ⟨rfl,rfl,rfl⟩ | ⟨g,cap,cur,rfl,rfl,_⟩
  · intro p hp; cases hp
  · intro p hp; rw [List.mem_singleton.1 hp]; exact ⟨_,rfl⟩
theorem SI.apart (hx:Mx T1 Sb oth) {ol:List (Nat × Obj)} {o:Obj} (hm:∀ p ∈ ol,T1 ≤ p.1):∀ p ∈ ol,∀ q ∈ (Sb,o) :: oth,p.1 ≠ q.1:=by
  intro p hp q hq e
  have h1:=hm p hp
  rcases List.mem_cons.1 hq with rfl | hq
  · have:=hx.sb
    have:p.1 = Sb:=e
    omega
  · have:=hx.lt q hq; omega
theorem Plc.ownT {b0:Nat} {w0:World} {L:F.Loc} {st:F.St} {lv:Value} {oth:List (Nat × Obj)} {w:World} {v:Value} {mays:List Nat} {ol:List (Nat × Obj)} (h:Plc v mays ol) (ho:F.One b0 w0 L st lv oth w) (hs:∀ p ∈ ol,p ∈ oth) {T1:Nat} (hT:∀ p ∈ ol,T1 ≤ p.1):w.ownsRow T1 3 1 v mays.length (mays.map nv):=by
  rcases h with ⟨rfl,rfl,rfl⟩ | ⟨g,cap,cur,rfl,rfl,h1,h2,h3,h4⟩
  · exact ⟨rfl,Or.inl ⟨rfl,rfl⟩⟩
  · obtain ⟨o1,_,_,o4⟩:=ho.oth (g,.cells cur 3) (hs _ (List.mem_singleton.2 rfl))
    exact ⟨by simp,Or.inr ⟨g,cap,cur,rfl,hT _ (List.mem_singleton.2 rfl),o1,h1,h2,by rw [Nat.mul_one]; exact h3,by rw [Nat.mul_one]; exact h4⟩⟩
theorem Plc.grownT {T1 b0:Nat} {w0:World} {L:F.Loc} {st:F.St} {lv:Value} {oth:List (Nat × Obj)} {w w':World} {v v':Value} {mays mays':List Nat} {ol:List (Nat × Obj)} (h:Plc v mays ol) (ho:F.One b0 w0 L st lv (ol ++ oth) w) (hd:∀ p ∈ ol,∀ q ∈ oth,p.1 ≠ q.1) (hg:w.grownBy w' v.ownBlock) (hb0:b0 ≤ T1) (hn:w'.ownsRow T1 3 1 v' mays'.length (mays'.map nv)) (hne:mays' ≠ []) :
    ∃ ol',Plc v' mays' ol' ∧ F.One b0 w0 L st lv (ol' ++ oth) w' ∧ ∀ p ∈ ol',T1 ≤ p.1:=by
  have hr:∀ g,v.ownBlock = some g → b0 ≤ g ∧ ∃ c,w.heap[g]? = some (.cells c 3):=by
    intro g e
    rcases h with ⟨rfl,rfl,rfl⟩ | ⟨g',cap,cur,rfl,rfl,_⟩
    · cases e
    · injection e with e
      subst e
      obtain ⟨o1,_,_,o4⟩:=ho.oth (g',.cells cur 3) (by simp)
      exact ⟨o4,cur,o1⟩
  have h1:F.One b0 w0 L st lv oth w:=ho.forget (fun p hp=>List.mem_append_right _ hp)
  have h2:=h1.grownI hg hr (by
    intro p hp e
    rcases h with ⟨rfl,rfl,rfl⟩ | ⟨g',cap,cur,rfl,rfl,_⟩
    · cases e
    · injection e with e
      exact hd (g',.cells cur 3) (List.mem_singleton.2 rfl) p hp e)
  rcases hn.2 with ⟨_,e0⟩ | ⟨g,cap,cur,rfl,k1,k2,k3,k4,k5,k6⟩
  · exact absurd (List.eq_nil_of_length_eq_zero e0) hne
  · rw [Nat.mul_one] at k5 k6
    exact ⟨[(g,.cells cur 3)],Or.inr ⟨g,cap,cur,rfl,rfl,k3,k4,k5,k6⟩,h2.addI k2 (Nat.le_trans hb0 k1),fun p hp=>by rw [List.mem_singleton.1 hp]; exact k1⟩
theorem SI.step (hx:Mx T1 Sb oth) (h:SI T1 b0 w0 L st Sb s oth i ps v W) (t:Nat):W.ownsRow T1 3 1 v ps.length (ps.map nv) ∧ T1 ≤ W.heap.size ∧ ∀ v' w',w'.ownsRow T1 3 1 v' (ps ++ [t]).length ((ps ++ [t]).map nv) → W.grownBy w' v.ownBlock → SI T1 b0 w0 L st Sb s oth i (ps ++ [t]) v' w':=by
  obtain ⟨c,lv,ol,hm,ho,hc1,hc2,hr⟩:=h
  refine ⟨hm.ownT ho (fun p hp=>List.mem_append_left _ hp) hr,(hx.le ho).2,fun v' w' q1 q2=>?_⟩
  obtain ⟨ol2,m2,o2,o3⟩:=hm.grownT ho (SI.apart hx hr) q2 (hx.le ho).1 q1 (by simp)
  exact ⟨c,lv,ol2,m2,o2,hc1,hc2,o3⟩
theorem SI.box (h:SI T1 b0 w0 L st Sb s oth i ps v W):W.heap[Sb]? = some (.cells s.cs 44):=by
  obtain ⟨c,lv,ol,hm,ho,hc⟩:=h
  exact (ho.oth (Sb,_) (List.mem_append_right _ (List.mem_cons_self ..))).1
theorem SI.put (hx:Mx T1 Sb oth) (hne:∀ p ∈ oth,p.1 ≠ Sb) (h:SI T1 b0 w0 L st Sb s oth i ps v W) (s':Sg) (k:KS6 Sb W W') (hb:W'.heap[Sb]? = some (.cells s'.cs 44)):SI T1 b0 w0 L st Sb s' oth i ps v W':=by
  obtain ⟨c,lv,ol,hm,ho,hc⟩:=h
  have ha:=SI.apart (o:=.cells s.cs 44) hx hc.2.2
  have h1:F.One b0 w0 L { st with count:=c } lv ((Sb,.cells s.cs 44) :: (ol ++ oth)) W:=ho.forget (fun p hp=>by
    simp only [List.mem_cons,List.mem_append] at hp ⊢
    rcases hp with hp | hp | hp
    · exact Or.inr (Or.inl hp)
    · exact Or.inl hp
    · exact Or.inr (Or.inr hp))
  have h2:=h1.other6 (c:=s'.cs) (fun p hp=>by
    rcases List.mem_append.1 hp with hp | hp
    · exact ha p hp _ (List.mem_cons_self ..)
    · exact hne p hp) k hb
  exact ⟨c,lv,ol,hm,h2.forget (fun p hp=>by
    simp only [List.mem_cons,List.mem_append] at hp ⊢
    rcases hp with hp | hp | hp
    · exact Or.inr (Or.inl hp)
    · exact Or.inl hp
    · exact Or.inr (Or.inr hp)),hc⟩
end
set_option maxHeartbeats 2000000 in
set_option maxRecDepth 100000 in
theorem scan_any {b0:Nat} {w0:World} {L:F.Loc} {st:F.St} {lv:Value} {oth:List (Nat × Obj)} {w:World} {Sb:Nat} (s:Sg) (h:F.One b0 w0 L st lv ((Sb,.cells s.cs 44) :: oth) w) {T1:Nat} (hx:Mx T1 Sb oth) (hne:∀ p ∈ oth,p.1 ≠ Sb)
    (hp:1 ≤ s.p ∧ s.p ≤ 64) (cnt:Nat → Nat) (hcb:∀ t,0 < cnt t → t + cnt t < s.p)
    (hcnt:∀ ps v i t W,1 ≤ t → t ≤ s.p → i ≤ 5000 → SI T1 b0 w0 L st Sb s oth i ps v W → Calls Tryz.prog 99 #[.pointer (some ⟨Sb,0,none⟩),.int .i64 (t:Nat)] W fun e w'=>e = .returned (.int .i64 (cnt t:Nat)) ∧ SI T1 b0 w0 L st Sb s oth (i + 66) ps v w') :
    Calls Tryz.prog 59 #[.pointer (some ⟨Sb,0,none⟩)] w fun e w'=>∃ ps t v,Way cnt ps t ∧ cnt t = 0 ∧ e = .returned v ∧ SI T1 b0 w0 L st Sb { s with a:=t } oth (66 * ps.length + 66) ps v w':=by
  have H0:Hid (SI T1 b0 w0 L st Sb s oth 0 [] (.slice none 0 0) w):=⟨st.count,lv,[],Or.inl ⟨rfl,rfl,rfl⟩,by simpa using h,Int.le_refl _,by simp,fun p hp=>by cases hp⟩
  have HLE:Hid (∀ ps t,Way cnt ps t → 1 ≤ t ∧ t ≤ s.p ∧ 2 * ps.length < t):=fun ps t hw=>⟨(hw.le hcb hp.1).1,(hw.le hcb hp.1).2,hw.len⟩
  have HC:Hid _:=hcnt
  have HCB:Hid _:=hcb
  have h1:=hcnt [] (.slice none 0 0) 0 1 w (Nat.le_refl _) hp.1 (by omega) H0.out
  replace h1:Calls Tryz.prog 99 #[.pointer (some ⟨Sb,0,none⟩),.int .i64 1] w fun e w'=>e = .returned (.int .i64 (cnt 1:Nat)) ∧ SI T1 b0 w0 L st Sb s oth 66 [] (.slice none 0 0) w':=h1
  obtain ⟨hp1,hp2⟩:=hp
  clear h hcnt hcb
  go_enter Tryz.func59,Tryz.ntmps59
  go_wp2_with fail
  go_call h1 as e w1 ⟨rfl,k1⟩
  have K1:Hid _:=k1
  clear k1 h1 H0
  go_wp2
  go_loopw [3,4,5] (fun pv av nv' wr=>∃ (ps:List Nat) (t:Nat),av = .int .i64 (t:Nat) ∧ nv' = .int .i64 (cnt t:Nat) ∧ Hid (Way cnt ps t ∧ SI T1 b0 w0 L st Sb s oth (66 * ps.length + 66) ps pv wr)) (fun _ av _ _=>65 - (intOf av).toNat)
  case atStart=>exact ⟨[],1,rfl,rfl,Way.nil,K1.out⟩
  case round=>
    obtain ⟨ps,t,rfl,rfl,HI⟩:=hrel
    obtain ⟨ht1,ht2,hl2⟩:=HLE.out ps t HI.out.1
    obtain ⟨n,hn⟩:∃ n,n = cnt t:=⟨_,rfl⟩
    rw [← hn]
    have HN:Hid _:=hn
    clear hn K1
    rcases Nat.eq_zero_or_pos n with rfl | hpos
    · have hb4:=HI.out.2.box
      have g6:=F.cell_of hb4 6
      have k6:=F.frz_of hb4 6
      replace g6:wr.cell? ⟨Sb,6,none⟩ = some (.int .i64 (s.a:Nat)):=g6
      have HE:Hid (KS6 Sb wr (wr.setCell ⟨Sb,6,none⟩ (.int .i64 (t:Nat))) ∧ (wr.setCell ⟨Sb,6,none⟩ (.int .i64 (t:Nat))).heap[Sb]? = some (.cells (Sg.cs { s with a:=t }) 44)):=⟨KS6.set Sb wr 6 _,by rw [F.block_set hb4]; rfl⟩
      clear hb4
      go_wp2
      go_returns
      exact ⟨ps,t,_,HI.out.1,HN.out.symm,rfl,HI.out.2.put hx hne { s with a:=t } HE.out.1 HE.out.2⟩
    · have hpi:(0:Int) < (n:Int):=by omega
      have hnb:t + n < s.p:=by rw [HN.out]; exact HCB.out t (by rw [← HN.out]; exact hpos)
      have hni:(n:Int) ≤ 64:=by omega
      have hti:(t:Int) ≤ 64:=by omega
      have I7:Hid (SI T1 b0 w0 L st Sb s oth (66 * ps.length + 66) ps u3 (wr.alloc (.cells #[.int .i64 (t:Nat)] 3))):=HI.out.2.below (Below.alloc (Below.refl _ _) (Nat.le_refl _) _)
      obtain ⟨hown,hbw,hgr⟩:=I7.out.step hx t
      have hG:(wr.alloc (.cells #[.int .i64 (t:Nat)] 3)).heap[wr.heap.size]? = some (.cells #[nv t] 3):=F.heap_new _ _
      have HOWN:Hid _:=hown
      have HGR:Hid _:=hgr
      clear hown hgr
      go_wp2_with (first | refine pappend rfl _ _ rfl T1 u3 ps rfl HOWN.out wr.heap.size rfl t hG (by omega) hbw (fun v' w' q1 q2=>?_) | fail)
      have I8:SI T1 b0 w0 L st Sb s oth (66 * ps.length + 66) (ps ++ [t]) v' w':=HGR.out v' w' q1 q2
      have hcast:(t:Int) + (1 + (n:Int)) = ((t + 1 + n:Nat):Int):=by omega
      have hW2:Hid (Way cnt (ps ++ [t]) (t + 1 + n)):=by
        have q:=Way.next HI.out.1 (by rw [← HN.out]; exact hpos)
        rw [← HN.out] at q
        exact q
      have h2:=HC.out (ps ++ [t]) v' (66 * ps.length + 66) (t + 1 + n) w' (by omega) (by omega) (by omega) I8
      rw [← hcast] at h2
      clear q1 q2 I8 HGR HOWN hG hbw I7 HI
      go_call h2 as e w3 ⟨rfl,k3⟩
      have K3:Hid _:=k3
      clear k3 h2
      go_wp2
      go_roundw
      case rel=>exact ⟨ps ++ [t],t + 1 + n,by congr 1,rfl,hW2.out,by
        have q:=K3.out
        have e:66 * (ps ++ [t]).length + 66 = 66 * ps.length + 66 + 66:=by simp; omega
        rw [e]; exact q⟩
      case measure=>
        show 65 - (((t:Int) + 1 + (n:Int))).toNat < 65 - ((t:Nat):Int).toNat
        omega
end Go.Proofs.YtncfbocbigdhiaaGreat

/- A payload's sectors, and what is read of them: the payload. -/
namespace Go.Proofs.YtncfbocbigdhiaaGreat
open Go.RowKit
theorem secP_split (x:ByteArray):∀ n i,i < n → ∃ r,secP x n = secP x i ++ ((68 :: (ppart x i).data.toList) ++ r)
  | 0,i,h=>absurd h (Nat.not_lt_zero _)
  | n + 1,i,h=>by
    rcases Nat.lt_or_ge i n with h1 | h1
    · obtain ⟨r,hr⟩:=secP_split x n i h1
      refine ⟨r ++ (68 :: (ppart x n).data.toList),?_⟩
      rw [secP,hr]; simp
    · obtain rfl:i = n:=by omega
      exact ⟨[],by rw [secP]; simp⟩
theorem secP_mk (x:ByteArray) (n i:Nat) (hi:i < n) (hx:63 * n ≤ x.size):Mk (O.tx (secP x n)) i:=by
  obtain ⟨r,hr⟩:=secP_split x n i hi
  have hl:=secP_length x i (by omega)
  unfold Mk
  rw [hr]
  show ((secP x i ++ ((68 :: (ppart x i).data.toList) ++ r)).toArray)[64 * i]? = some 68
  rw [List.getElem?_toArray,List.getElem?_append_right (by omega),hl]
  simp
theorem secP_part (x:ByteArray) (n i:Nat) (hi:i < n) (hx:63 * n ≤ x.size):spart (O.tx (secP x n)) i = ppart x i:=by
  obtain ⟨r,hr⟩:=secP_split x n i hi
  have hl:=secP_length x i (by omega)
  have hp:(ppart x i).data.toList.length = 63:=by rw [← O.size_list]; exact ppart_size x i (by omega)
  apply ByteArray.ext
  apply Array.toList_inj.1
  unfold spart
  rw [hr]
  rw [ByteArray.data_extract]
  show (((secP x i ++ ((68 :: (ppart x i).data.toList) ++ r)).toArray).extract (64 * i + 1) (64 * i + 64)).toList = _
  rw [List.extract_toArray]
  show List.extract _ _ _ = _
  rw [List.extract_eq_take_drop]
  have e:64 * i + 64 - (64 * i + 1) = 63:=by omega
  rw [e,List.drop_append,hl]
  have e2:64 * i + 1 - 64 * i = 1:=by omega
  rw [e2,List.drop_of_length_le (by omega),List.nil_append]
  show List.take 63 ((ppart x i).data.toList ++ r) = _
  rw [List.take_append_of_le_length (by omega),List.take_of_length_le (by omega)]
theorem payL_secP (x:ByteArray) (n:Nat) (hx:63 * n ≤ x.size):∀ k,k ≤ n → payL (O.tx (secP x n)) k = x.data.toList.take (63 * k)
  | 0,_=>by simp [payL]
  | k + 1,h=>by
    rw [payL,payL_secP x n hx k (by omega),secP_part x n k (by omega) hx]
    unfold ppart
    rw [ByteArray.data_extract,Array.toList_extract,List.extract_eq_take_drop]
    have e:63 * (k + 1) = 63 * k + 63:=by omega
    have e2:63 * k + 63 - 63 * k = 63:=by omega
    rw [e,e2,List.take_add]
theorem rdp_secP (x:ByteArray) (n:Nat) (hx:x.size = 63 * n):rdp (O.tx (secP x n)) n = x:=by
  unfold rdp
  rw [if_pos (fun i hi=>secP_mk x n i hi (by omega)),payL_secP x n (by omega) n (Nat.le_refl _),List.take_of_length_le (by rw [← O.size_list]; omega)]
  rfl
end Go.Proofs.YtncfbocbigdhiaaGreat

/- Read and count where there is nothing to read. -/
namespace Go.Proofs.YtncfbocbigdhiaaGreat
open Go.RowKit
set_option maxHeartbeats 1000000 in
set_option maxRecDepth 100000 in
theorem sread_no (s:Sg) (hs:s.p ≤ 64) (Sb:Nat) (t k:Nat) (ht:1 ≤ t ∧ t ≤ 1000) (hk:k = 0 ∨ s.p ≤ t + k) (hk2:k ≤ 255) (w:World) (h:w.heap[Sb]? = some (.cells s.cs 44)) :
    Calls Tryz.prog 60 #[.pointer (some ⟨Sb,0,none⟩),.int .i64 (t:Nat),.int .i64 (k:Nat)] w fun e w'=>e = .returned (.string ⟨#[]⟩) ∧ Below w.heap.size w w':=by
  obtain ⟨M,c,j,n,b,p,a⟩:=s
  have hp1:p ≤ 64:=hs
  have c5:w.cell? ⟨Sb,5,none⟩ = some (.int .i64 (p:Nat)):=F.cell_of h 5
  have ht1:¬ (t:Int) < 1:=by omega
  have hwr:IntKind.i64.wrap ((p:Int) - (t:Int)) = (p:Int) - (t:Int):=by rw [IntKind.wrap_i64]; omega
  have HB:Hid (Below w.heap.size w w):=Below.refl _ _
  rcases Nat.eq_zero_or_pos k with rfl | hkp
  · clear h hs hk
    go_enter Tryz.func60,Tryz.ntmps60
    go_wp2
    go_returns
    exact ⟨rfl,HB.out⟩
  · have hk1:¬ (k:Int) < 1:=by omega
    have hkp:(p:Int) - (t:Int) ≤ (k:Int):=by
      have:p ≤ t + k:=by rcases hk with h | h; exact absurd h (by omega); exact h
      omega
    clear h hs hk
    go_enter Tryz.func60,Tryz.ntmps60
    go_wp2
    go_returns
    exact ⟨rfl,HB.out⟩
set_option maxHeartbeats 1000000 in
set_option maxRecDepth 100000 in
theorem count_out (s:Sg) (Sb:Nat) (t:Nat) (ht:s.p ≤ t) (w:World) (h:w.heap[Sb]? = some (.cells s.cs 44)) :
    Calls Tryz.prog 99 #[.pointer (some ⟨Sb,0,none⟩),.int .i64 (t:Nat)] w fun e w'=>e = .returned (.int .i64 0) ∧ Below w.heap.size w w':=by
  obtain ⟨M,c,j,n,b,p,a⟩:=s
  have hp1:p ≤ t:=ht
  have c5:w.cell? ⟨Sb,5,none⟩ = some (.int .i64 (p:Nat)):=F.cell_of h 5
  have hpi:(p:Int) ≤ (t:Int):=by omega
  have HB:Hid (Below w.heap.size w w):=Below.refl _ _
  clear h ht
  go_enter Tryz.func99,Tryz.ntmps99
  go_wp2
  go_returns
  exact ⟨rfl,HB.out⟩
end Go.Proofs.YtncfbocbigdhiaaGreat

/- A sector with another mark: read fails. -/
namespace Go.Proofs.YtncfbocbigdhiaaGreat
open Go.RowKit
structure RdN (I m:Nat) (w:World) (r:List UInt8) (done:Nat → Bool) (W:World):Prop where
  k:O.KI I w W
  a:done 1 = false → O.InIs W I (O.tx (O.numB m 1 ++ r)) 0
  b:done 1 = true → O.InIs W I (O.tx r) 0
theorem RdN.pure {I m:Nat} {w:World} {r:List UInt8} {done:Nat → Bool} {W:World} (h:RdN I m w r done W) (k:Nat) (hk:k ≠ 1):RdN I m w r (O.updB done k) W:=by
  have e:O.updB done k 1 = done 1:=if_neg (Ne.symm hk)
  exact ⟨h.k,by rw [e]; exact h.a,by rw [e]; exact h.b⟩
def RnV (I m:Nat):Nat → Value → Prop
  | 0,v=>v = .pointer (some ⟨I,0,none⟩)
  | 1,v=>v = .int .u64 (m:Nat)
  | 2,v=>v = .int .u64 67
  | 3,v=>v = .bool true
  | _,_=>True
set_option maxHeartbeats 2000000 in
set_option maxRecDepth 100000 in
theorem rdin_no (m:Nat) (hm:m ≠ 67) (hm2:m < 256) (r:List UInt8) (hr:r.length ≤ 900) (I M F1 X:Nat) (w:World) (h:O.InIs w I (O.tx (O.numB m 1 ++ r)) 0)
    (hM:w.heap[M]? = some (.cells #[.int .u64 67] 42)) (nM:M ≠ I) :
    Calls Tryz.prog 170 #[.pointer (some ⟨I,0,none⟩),.pointer (some ⟨M,0,none⟩),.pointer (some ⟨F1,0,none⟩),.pointer (some ⟨X,0,none⟩)] w fun e w'=>e = .panicked [O.brk I] ∧ O.InIs w' I (O.tx r) 4 ∧ O.KI I w w':=by
  have HI:Hid _:=h
  have HM:Hid _:=hM
  have HMB:Hid _:=hm2
  have HMI:Hid (¬ (m:Int) = 67):=by show ¬ _; omega
  have HLN:Hid _:=hr
  have HNM:Hid _:=nM
  have lM:M < w.heap.size:=(Array.getElem?_eq_some_iff.1 hM).1
  have HLM:Hid _:=lM
  clear h hM nM lM hm hm2 hr
  go_enter Tryz.func170,Tryz.ntmps170
  go_wp2
  refine O.wp_region_ph (fun f=>⟨#[.pointer (some ⟨I,0,none⟩),.pointer (some ⟨M,0,none⟩),.pointer (some ⟨F1,0,none⟩),.pointer (some ⟨X,0,none⟩),undef,undef,f 0,f 1,f 2,f 3,undef,undef,undef,undef,undef,undef,undef,undef],[]⟩) (RnV I m) (fun done _ W=>RdN I m w r done W) (fun i=>[undef,undef,undef,undef].getD i undef) (by kernel_rfl) rfl rfl ?hIa ?hputa ?stepa ?fina
  case hIa=>exact ⟨O.KI.ofBelow (Below.refl _ _).drew,fun _=>HI.out.below (Below.refl _ _).drew,(fun e=>by cases e)⟩
  case fina=>
    intro f w1 hP hV
    replace hP:RdN I m w r (fun i=>decide (i < 4)) w1:=hP
    have u0:f 0 = .pointer (some ⟨I,0,none⟩):=hV 0 (by decide)
    have u1:f 1 = .int .u64 (m:Nat):=hV 1 (by decide)
    have u2:f 2 = .int .u64 67:=hV 2 (by decide)
    have u3:f 3 = .bool true:=hV 3 (by decide)
    clear hV
    generalize f 0 = x0 at *
    subst u0
    generalize f 1 = x1 at *
    subst u1
    generalize f 2 = x2 at *
    subst u2
    generalize f 3 = x3 at *
    subst u3
    have I1:Hid _:=hP.b rfl
    have K1:Hid _:=hP.k
    have hfl:=O.fail_any I (O.tx r) 4 (by decide) w1 I1.out
    clear hP
    go_wp2_with fail
    go_call hfl as e w2 ⟨rfl,q1,q2⟩
    exact ⟨rfl,rfl,q1,K1.out.trans q2⟩
  case hputa=>
    repeat (refine ⟨fun f v=>rfl,?_⟩)
    trivial
  case stepa=>
    refine ⟨?_,?_⟩
    · intro done f W hP hdn hd K hK
      clear hd
      replace hP:RdN I m w r done W:=hP
      go_simp
      exact hK _ _ rfl (hP.pure _ (by decide))
    refine ⟨?_,?_⟩
    · intro done f W hP hdn hd K hK
      have d0:=(hd.1 rfl).2
      have e0:done 0 = true:=(hd.1 rfl).1
      clear hd
      replace d0:f 0 = .pointer (some ⟨I,0,none⟩):=d0
      replace hP:RdN I m w r done W:=hP
      generalize f 0 = x0 at *
      subst d0
      clear e0
      have hdn1:done 1 = false:=hdn
      go_simp
      refine (num_step I m 1 r W (by decide) (by have:=HMB.out; omega) (by have:=HLN.out; omega) (hP.a hdn1)).mono ?_
      rintro e W' ⟨rfl,h1,h2⟩
      exact hK _ _ rfl ⟨hP.k.trans h2,(fun e=>by cases e),fun _=>h1⟩
    refine ⟨?_,?_⟩
    · intro done f W hP hdn hd K hK
      clear hd
      replace hP:RdN I m w r done W:=hP
      have kb:=(hP.k.block M HLM.out HNM.out).trans HM.out
      have qc:=F.cell_of kb 0
      simp at qc
      go_simp
      exact hK _ _ rfl (hP.pure _ (by decide))
    refine ⟨?_,?_⟩
    · intro done f W hP hdn hd K hK
      have d1:=(hd.1 rfl).2
      have e1:done 1 = true:=(hd.1 rfl).1
      have d2:=(hd.2.1 rfl).2
      have e2:done 2 = true:=(hd.2.1 rfl).1
      clear hd
      replace d1:f 1 = .int .u64 (m:Nat):=d1
      replace d2:f 2 = .int .u64 67:=d2
      replace hP:RdN I m w r done W:=hP
      generalize f 1 = x1 at *
      subst d1
      clear e1
      generalize f 2 = x2 at *
      subst d2
      clear e2
      have hmi:((m:Int) != 67) = true:=bne_iff_ne.2 HMI.out
      go_simp
      exact hK _ _ (by first | rfl | (show Value.bool _ = Value.bool _; rw [hmi])) (hP.pure _ (by decide))
    trivial
set_option maxHeartbeats 2000000 in
set_option maxRecDepth 100000 in
theorem read_mark (s bd tl:ByteArray) (m:Nat) (hm:m ≠ 67) (hm2:m < 256) (r:List UInt8) (w:World) (hs:s.size = 64) (h1:s.extract 0 60 = bd) (h2:s.extract 60 64 = tl) (hbd:bd.size = 60) (hb:bd = O.tx (O.numB m 1 ++ r)) (ht:tl = O.tx (tailL bd)) :
    Calls Tryz.prog 150 #[.string s,.int .u64 67,.func (.func 151) #[] #[]] w fun e w'=>e = .returned (.tuple #[.agg cmz,.int .i64 4]) ∧ Below w.heap.size w w':=by
  have HRL:Hid (r.length ≤ 900):=by
    show _ ≤ _
    have:=hbd
    rw [hb,tx_size,List.length_append] at this
    omega
  have HTA:Hid _:=fun W=>tail_any bd (by omega) W
  obtain ⟨U,hU⟩:∃ U:World,U = (((w.alloc (.cells #[.int .u64 67] 42)).alloc (.cells #[.func (.func 151) #[] #[]] 195)).alloc (.cells cmz 55)).alloc (.cells cmz 55):=⟨_,rfl⟩
  have HU:Hid (_ = (((w.alloc (.cells #[.int .u64 67] 42)).alloc (.cells #[.func (.func 151) #[] #[]] 195)).alloc (.cells #[.int .u64 0,.int .u64 0,.int .u64 0,.int .i64 0,.int .i64 0,.int .u32 0] 55)).alloc (.cells #[.int .u64 0,.int .u64 0,.int .u64 0,.int .i64 0,.int .i64 0,.int .u32 0] 55)):=hU
  have HR0:Hid (Rd w cmz cmz U):=by rw [hU]; exact rd_start w
  have HS:Hid _:=hs
  have H1:Hid _:=h1
  have H2:Hid _:=h2
  have HBD:Hid _:=hbd
  have HM67:Hid _:=hm
  have HM256:Hid _:=hm2
  have HBB:Hid _:=hb
  rw [← ht] at HTA
  clear hm hm2 hb ht
  clear hU
  go_enter Tryz.func150,Tryz.ntmps150
  go_wp2
  rw [← HU.out]
  refine O.wp_region_ph (fun f=>⟨#[.string s,.int .u64 67,.func (.func 151) #[] #[],undef,.pointer (some ⟨w.heap.size,0,none⟩),.pointer (some ⟨w.heap.size + 1,0,none⟩),.pointer (some ⟨w.heap.size + 1 + 1,0,none⟩),.int .i64 0,.pointer (some ⟨w.heap.size + 1 + 1 + 1,0,none⟩),.string bd,undef,undef,.string s,.int .i64 64,.bool false,undef,.string s,.string bd,f 0,f 1,f 2,f 3,f 4,undef,undef,undef,undef,undef,undef,undef,undef,undef],[]⟩) (RgV s tl bd) (fun _ _ W=>Rd w cmz cmz W) (fun i=>[undef,undef,undef,undef,undef].getD i undef) (by kernel_rfl) rfl rfl ?hIa ?hputa ?stepa ?fina
  case hIa=>exact HR0.out.below (Below.refl _ _).drew
  case fina=>
    intro f w1 hP hV
    have u0:f 0 = .string s:=hV 0 (by decide)
    have u1:f 1 = .string tl:=hV 1 (by decide)
    have u2:f 2 = .string bd:=hV 2 (by decide)
    have u3:f 3 = .string tl:=hV 3 (by decide)
    have u4:f 4 = .bool false:=hV 4 (by decide)
    clear hV
    generalize f 0 = x0 at *
    subst u0
    generalize f 1 = x1 at *
    subst u1
    generalize f 2 = x2 at *
    subst u2
    generalize f 3 = x3 at *
    subst u3
    generalize f 4 = x4 at *
    subst u4
    replace hP:Rd w cmz cmz w1:=hP
    have R1:Hid _:=hP
    clear hP f
    have hl1:=R1.out.lt
    have hW:=O.W0_below w1 bd
    have hsz:=O.W0_size w1 bd
    have hin:=O.W0_in w1 bd
    have htk0:=O.W0_tk w1 bd
    have hRW:=R1.out.below hW
    have htk:=O.take_no 170 #[.pointer (some ⟨w.heap.size,0,none⟩),.pointer (some ⟨w.heap.size + 1,0,none⟩),.pointer (some ⟨w.heap.size + 3,0,none⟩)] bd (O.tx r) 4 (fun W=>W.heap[w.heap.size + 3]? = some (.cells cmz 55) ∧ W.heap[w.heap.size + 2]? = some (.cells cmz 55) ∧ Below w.heap.size w W) w1 ent170 (by
      have hin2:=hin
      conv at hin2=>arg 3; rw [HBB.out]
      refine (rdin_no m HM67.out HM256.out r HRL.out (w1.heap.size + 2) w.heap.size (w.heap.size + 1) (w.heap.size + 3) (O.W0 w1 bd) hin2 hRW.m (by omega)).mono ?_
      rintro e W ⟨rfl,hi,hkx⟩
      exact ⟨rfl,hi,htk0.keep (fun k hk=>hkx.block k (by omega) (by omega)),(hkx.block (w.heap.size + 3) (by omega) (by omega)).trans hRW.x,(hkx.block (w.heap.size + 2) (by omega) (by omega)).trans hRW.r,hRW.bel.trans ⟨hkx.os,hkx.tape,hkx.output,hkx.size,fun k hk=>hkx.block k (by omega) (by omega)⟩⟩)
    clear hW hsz hin htk0 hRW
    go_wp2_with fail
    go_call htk as e w2 ⟨rfl,W,⟨hx,hr,hbl⟩,hkt⟩
    have hWs:w.heap.size + 4 ≤ W.heap.size:=by have:=(Array.getElem?_eq_some_iff.1 hx).1; omega
    have X2:Hid _:=(hkt.block (w.heap.size + 3) (by omega) (by omega) (by omega)).trans hx
    have R2:Hid _:=(hkt.block (w.heap.size + 2) (by omega) (by omega) (by omega)).trans hr
    have B2:Hid (Below w.heap.size w w2):=hbl.trans ⟨hkt.os,hkt.tape,hkt.output,hkt.size,fun k hk=>hkt.block k (by omega) (by omega) (by omega)⟩
    clear htk hx hr hbl hkt hWs R1 hl1
    go_wp2_with (first | (refine pld rfl _ rfl _ _ (by rfl) rfl X2.out ?_) | (refine pldp _ rfl _ _ (by rfl) rfl X2.out ?_) | (refine cst6 rfl _ _ rfl _ _ (by rfl) rfl rfl (by rfl) R2.out (by simp [cmz,Value.oneCell']) ?c6) | (refine cst6p _ _ rfl _ _ (by rfl) rfl rfl (by rfl) R2.out (by simp [cmz,Value.oneCell']) ?c6))
    intro w6 ho6 hk6
    have B6:Hid _:=ho6.below B2.out (by omega)
    have R6:Hid _:=hk6
    clear ho6 hk6
    go_wp2
    refine bodyPost_ret (pret2 Tryz.results150 _ _ (w.heap.size + 2) _ _ (by rfl) rfl R6.out rfl) rfl ⟨rfl,B6.out⟩
  case hputa=>
    repeat (refine ⟨fun f v=>rfl,?_⟩)
    trivial
  case stepa=>
    refine ⟨?_,?_⟩
    · intro done f W hP hdn hd K hK
      clear hd
      replace hP:Rd w cmz cmz W:=hP
      go_simp
      exact hK _ _ rfl hP
    refine ⟨?_,?_⟩
    · intro done f W hP hdn hd K hK
      have d0:=(hd.1 rfl).2
      have e0:done 0 = true:=(hd.1 rfl).1
      clear hd
      replace d0:f 0 = .string s:=d0
      replace hP:Rd w cmz cmz W:=hP
      generalize f 0 = x0 at *
      subst d0
      clear e0
      go_simp
      exact hK _ _ (by first | rfl | (show Value.string _ = _; rw [H2.out]) | (show Value.string _ = _; rw [HS.out,H2.out])) hP
    refine ⟨?_,?_⟩
    · intro done f W hP hdn hd K hK
      clear hd
      replace hP:Rd w cmz cmz W:=hP
      go_simp
      exact hK _ _ rfl hP
    refine ⟨?_,?_⟩
    · intro done f W hP hdn hd K hK
      have d2:=(hd.1 rfl).2
      have e2:done 2 = true:=(hd.1 rfl).1
      clear hd
      replace d2:f 2 = .string bd:=d2
      replace hP:Rd w cmz cmz W:=hP
      generalize f 2 = x2 at *
      subst d2
      clear e2
      go_simp
      refine (HTA.out W).mono ?_
      rintro e W' ⟨rfl,hb⟩
      exact hK _ _ rfl (hP.below hb)
    refine ⟨?_,?_⟩
    · intro done f W hP hdn hd K hK
      have d1:=(hd.1 rfl).2
      have e1:done 1 = true:=(hd.1 rfl).1
      have d3:=(hd.2.1 rfl).2
      have e3:done 3 = true:=(hd.2.1 rfl).1
      clear hd
      replace d1:f 1 = .string tl:=d1
      replace d3:f 3 = .string tl:=d3
      replace hP:Rd w cmz cmz W:=hP
      generalize f 1 = x1 at *
      subst d1
      clear e1
      generalize f 3 = x3 at *
      subst d3
      clear e3
      go_simp
      exact hK _ _ (by first | rfl | (show Value.bool _ = _; simp)) hP
    trivial
end Go.Proofs.YtncfbocbigdhiaaGreat

/- ToCommit of a sector that is none. -/
namespace Go.Proofs.YtncfbocbigdhiaaGreat
open Go.RowKit
theorem tocommit_other (s:ByteArray) (hs:s.size = 64) (h0:s[0]? ≠ some 67):∃ er:Int,∀ w,Calls Tryz.prog 131 #[.string s] w fun e w'=>e = .returned (.tuple #[.agg cmz,.int .i64 er]) ∧ Below w.heap.size w w':=by
  have hbd:(s.extract 0 60).size = 60:=by rw [ByteArray.size_extract]; omega
  by_cases ht:s.extract 60 64 = O.tx (tailL (s.extract 0 60))
  · refine ⟨4,fun w=>tocommit_of s cmz rfl (by simp [cmz,Value.oneCell']) 4 w (fun W=>?_)⟩
    obtain ⟨b,l,hl⟩:∃ b l,(s.extract 0 60).data.toList = b :: l:=by
      cases e:(s.extract 0 60).data.toList with
      | nil=>
        have:=O.size_list (s.extract 0 60)
        rw [e,hbd] at this
        exact absurd this (by decide)
      | cons b l=>exact ⟨b,l,rfl⟩
    have hb:s[0]? = some b:=by
      have e:=congrArg (fun l=>l[0]?) hl
      simp only [ByteArray.data_extract,Array.toList_extract,List.extract_eq_take_drop,List.drop_zero,List.getElem?_cons_zero] at e
      rw [List.getElem?_take_of_lt (by decide),Array.getElem?_toList] at e
      exact e
    have hn:O.numB b.toNat 1 = [b]:=by
      show [UInt8.ofNat (b.toNat / 256 ^ 0)] = [b]
      simp
    refine read_mark s _ _ b.toNat (fun e=>h0 ?_) b.toNat_lt l W hs rfl rfl hbd ?_ ht
    · rw [hb]
      congr 1
      exact UInt8.toNat_inj.1 e
    · rw [hn]
      apply ByteArray.ext
      apply Array.toList_inj.1
      rw [hl]; rfl
  · exact ⟨5,fun w=>tocommit_of s cmz rfl (by simp [cmz,Value.oneCell']) 5 w (fun W=>read_no s _ _ W hs rfl rfl hbd ht)⟩
end Go.Proofs.YtncfbocbigdhiaaGreat

/- count on a device that does all, by what lies there. -/
namespace Go.Proofs.YtncfbocbigdhiaaGreat
open Go.RowKit
theorem rdp_size (y:ByteArray) (k:Nat) (hy:y.size = 64 * k):(rdp y k).size ≤ 63 * k:=by
  unfold rdp
  split
  · rw [tx_size,payL_length y k (by omega)]; exact Nat.le_refl _
  · exact Nat.zero_le _
open Classical in
noncomputable def zO (st:F.St) (s:Sg) (t k:Nat):ByteArray:=if k = 0 ∨ s.p ≤ t + k then ⟨#[]⟩ else rdp ⟨(F.rdsL st (s.b + t + 1) k).toArray⟩ k
theorem count_si {T1 b0:Nat} {w0:World} {L:F.Loc} {st:F.St} {oth:List (Nat × Obj)} {w:World} {Sb:Nat} {s:Sg} {i:Nat} {ps:List Nat} {v0:Value} (h:SI T1 b0 w0 L st Sb s oth i ps v0 w) (hi:i ≤ 5000)
    (hm:(s.M,F.med L.P st.serial st.session) ∈ oth) (h5:∀ p ∈ oth,∀ c fz,p.2 ≠ .cells c 5 fz)
    (hs:s.b ≤ 10000 ∧ s.p ≤ 64) (t:Nat) (ht:1 ≤ t) (htp:t < s.p) (hfit:s.b + s.p ≤ st.n) (hn:st.n ≤ 1000) (hdn:st.down = false) (hth:st.there = true) (haw:st.aw = false) (hhw:st.hw = false) (hok:F.SecOk st) (hc:0 ≤ st.count ∧ st.count ≤ 5000000)
    (q:Cm) (hqk:q.k ≤ 255) (er:Int) (htc:∀ W,Calls Tryz.prog 131 #[.string ⟨(F.rdsL st (s.b + t) 1).toArray⟩] W fun e w'=>e = .returned (.tuple #[.agg q.cs,.int .i64 er]) ∧ Below W.heap.size W w') :
    Calls Tryz.prog 99 #[.pointer (some ⟨Sb,0,none⟩),.int .i64 (t:Nat)] w fun e w'=>∃ v:Nat,e = .returned (.int .i64 (v:Nat)) ∧ (q = s.cm t (zO st s t q.k) → v = q.k) ∧ (q ≠ s.cm t (zO st s t q.k) → v = 0) ∧ SI T1 b0 w0 L st Sb s oth (i + 66) ps v0 w':=by
  obtain ⟨c,lv,ol,hp,ho,hc1,hc2,hr⟩:=h
  have hty:=hp.ty
  have h1:F.One b0 w0 L { st with count:=c } lv ((Sb,.cells s.cs 44) :: (ol ++ oth)) w:=ho.forget (fun p hp=>by
    simp only [List.mem_cons,List.mem_append] at hp ⊢
    rcases hp with hp | hp | hp
    · exact Or.inr (Or.inl hp)
    · exact Or.inl hp
    · exact Or.inr (Or.inr hp))
  have h5':∀ p ∈ ol ++ oth,∀ c fz,p.2 ≠ .cells c 5 fz:=by
    intro p hp c fz e
    rcases List.mem_append.1 hp with hp | hp
    · obtain ⟨c',e'⟩:=hty p hp
      rw [e'] at e; injection e with _ e _; exact absurd e (by decide)
    · exact h5 p hp c fz e
  have hzs:(zO st s t q.k).size ≤ 100000:=by
    unfold zO
    split
    · exact Nat.zero_le _
    · refine Nat.le_trans (rdp_size _ _ ?_) (by omega)
      show (F.rdsL st (s.b + t + 1) q.k).toArray.size = _
      rw [List.size_toArray,F.rdsL_length st _ hok _ (by omega)]
  have hcd:∃ c2:Int,c + 1 ≤ c2 ∧ c2 ≤ c + 66 ∧ ∀ C W lv',(∀ p ∈ (Sb,.cells s.cs 44) :: (ol ++ oth),p.1 ≠ C) → F.One b0 w0 L { st with count:=c + 1 } lv' ((C,.cells q.cs 55) :: (Sb,.cells s.cs 44) :: (ol ++ oth)) W → Calls Tryz.prog 60 #[.pointer (some ⟨Sb,0,none⟩),.int .i64 (t:Nat),.int .i64 (q.k:Nat)] W fun e W'=>e = .returned (.string (zO st s t q.k)) ∧ ∃ lv'',F.One b0 w0 L { st with count:=c2 } lv'' ((C,.cells q.cs 55) :: (Sb,.cells s.cs 44) :: (ol ++ oth)) W':=by
    by_cases hk:q.k = 0 ∨ s.p ≤ t + q.k
    · refine ⟨c + 1,Int.le_refl _,by omega,fun C W lv' _ hO=>?_⟩
      have hb:=(hO.oth (Sb,_) (List.mem_cons_of_mem _ (List.mem_cons_self ..))).1
      refine (sread_no s hs.2 Sb t q.k ⟨ht,by omega⟩ hk hqk W hb).mono ?_
      rintro e W' ⟨rfl,hbl⟩
      refine ⟨by unfold zO; rw [if_pos hk],lv',hO.ofBelow hbl⟩
    · have hk1:1 ≤ q.k:=by omega
      have hk2:t + q.k < s.p:=by omega
      refine ⟨c + 1 + (q.k:Int),by omega,by omega,fun C W lv' _ hO=>?_⟩
      have hz:zO st s t q.k = rdp ⟨(F.rdsL st (s.b + t + 1) q.k).toArray⟩ q.k:=by unfold zO; rw [if_neg hk]
      rw [hz]
      refine sread_any s hs Sb t q.k ht hk1 hk2 _ ?_ (fun W=>∃ lv,F.One b0 w0 L { st with count:=c + 1 } lv ((C,.cells q.cs 55) :: (Sb,.cells s.cs 44) :: (ol ++ oth)) W) (fun W=>∃ lv,F.One b0 w0 L { st with count:=c + 1 + (q.k:Int) } lv ((C,.cells q.cs 55) :: (Sb,.cells s.cs 44) :: (ol ++ oth)) W) W ⟨lv',hO⟩ (fun W W' ⟨l,o⟩ hb=>⟨l,o.ofBelow hb⟩) (fun W W' ⟨l,o⟩ hb=>⟨l,o.ofBelow hb⟩) (fun W ⟨l,o⟩=>(o.oth (Sb,_) (List.mem_cons_of_mem _ (List.mem_cons_self ..))).1) (fun W ⟨l,o⟩=>(o.oth (Sb,_) (List.mem_cons_of_mem _ (List.mem_cons_self ..))).1) ?_
      · show (F.rdsL st (s.b + t + 1) q.k).toArray.size = _
        rw [List.size_toArray,F.rdsL_length st _ hok _ (by omega)]
      · rintro W ⟨l,o⟩
        have q1:=o.mread s.M (List.mem_cons_of_mem _ (List.mem_cons_of_mem _ (List.mem_append_right _ hm))) (by
          intro p hp c fz e
          rcases List.mem_cons.1 hp with rfl | hp
          · injection e with _ e _; exact absurd e (by decide)
          · rcases List.mem_cons.1 hp with rfl | hp
            · injection e with _ e _; exact absurd e (by decide)
            · exact h5' p hp c fz e) (s.b + t + 1) q.k (show s.b + t + 1 + q.k ≤ st.n by omega) hn hdn hth haw hhw ⟨hok.1,hok.2⟩ ⟨show 0 ≤ c + 1 by omega,show c + 1 ≤ 10000000 by omega⟩
        rw [F.rdsL_count] at q1
        exact q1
  obtain ⟨c2,k1,k2,hrd⟩:=hcd
  have hcount:=count_in (st:={ st with count:=c }) s h1 (List.mem_append_right _ hm) h5' hs t htp (show s.b + t + 1 ≤ st.n by omega) hn hdn hth haw hhw ⟨hok.1,hok.2⟩ ⟨show 0 ≤ c by omega,show c ≤ 10000000 by omega⟩ q er (by rw [F.rdsL_count]; exact htc) (zO st s t q.k) hzs c2 hrd
  refine hcount.mono ?_
  rintro e w' ⟨v,rfl,e1,e2,lv',o⟩
  refine ⟨v,rfl,e1,e2,c2,lv',ol,hp,o.forget (fun p hp=>?_),by omega,by omega,hr⟩
  simp only [List.mem_cons,List.mem_append] at hp ⊢
  rcases hp with hp | hp | hp
  · exact Or.inr (Or.inl hp)
  · exact Or.inl hp
  · exact Or.inr (Or.inr hp)
end Go.Proofs.YtncfbocbigdhiaaGreat

/- Scan on a device that does all. -/
namespace Go.Proofs.YtncfbocbigdhiaaGreat
open Go.RowKit
open Classical in
noncomputable def cntO (st:F.St) (s:Sg) (Q:Nat → Cm) (t:Nat):Nat:=if t < s.p ∧ Q t = s.cm t (zO st s t (Q t).k) then (Q t).k else 0
theorem cntO_in (st:F.St) (s:Sg) (Q:Nat → Cm) (t:Nat) (h:0 < cntO st s Q t):t + cntO st s Q t < s.p:=by
  unfold cntO at h ⊢
  split at h
  · next hh=>
    rw [if_pos hh]
    by_cases hk:(Q t).k = 0 ∨ s.p ≤ t + (Q t).k
    · have hz:zO st s t (Q t).k = ⟨#[]⟩:=by unfold zO; rw [if_pos hk]
      have e:=congrArg Cm.k hh.2
      rw [hz] at e
      have e0:(s.cm t ⟨#[]⟩).k = 0:=rfl
      omega
    · omega
  · exact absurd h (Nat.lt_irrefl _)
theorem scan_dev {b0:Nat} {w0:World} {L:F.Loc} {st:F.St} {lv:Value} {oth:List (Nat × Obj)} {w:World} {Sb:Nat} {s:Sg} (h:F.One b0 w0 L st lv ((Sb,.cells s.cs 44) :: oth) w)
    (hm:(s.M,F.med L.P st.serial st.session) ∈ oth) (h5:∀ p ∈ oth,∀ c fz,p.2 ≠ .cells c 5 fz) {T1:Nat} (hx:Mx T1 Sb oth) (hne:∀ p ∈ oth,p.1 ≠ Sb)
    (hs:s.b ≤ 10000 ∧ 1 ≤ s.p ∧ s.p ≤ 64) (hfit:s.b + s.p ≤ st.n) (hn:st.n ≤ 1000) (hdn:st.down = false) (hth:st.there = true) (haw:st.aw = false) (hhw:st.hw = false) (hok:F.SecOk st) (hc:0 ≤ st.count ∧ st.count ≤ 5000000)
    (Q:Nat → Cm) (E:Nat → Int) (hQ:∀ t,1 ≤ t → t < s.p → (Q t).k ≤ 255 ∧ ∀ W,Calls Tryz.prog 131 #[.string ⟨(F.rdsL st (s.b + t) 1).toArray⟩] W fun e w'=>e = .returned (.tuple #[.agg (Q t).cs,.int .i64 (E t)]) ∧ Below W.heap.size W w') :
    Calls Tryz.prog 59 #[.pointer (some ⟨Sb,0,none⟩)] w fun e w'=>∃ ps t v,Way (cntO st s Q) ps t ∧ cntO st s Q t = 0 ∧ e = .returned v ∧ SI T1 b0 w0 L st Sb { s with a:=t } oth (66 * ps.length + 66) ps v w':=by
  refine scan_any s h hx hne hs.2 (cntO st s Q) (cntO_in st s Q) (fun ps v i t W ht1 ht2 hi hSI=>?_)
  rcases Nat.lt_or_ge t s.p with htp | htp
  · obtain ⟨hk,htc⟩:=hQ t ht1 htp
    refine (count_si hSI hi hm h5 ⟨hs.1,hs.2.2⟩ t ht1 htp hfit hn hdn hth haw hhw hok hc (Q t) hk (E t) htc).mono ?_
    rintro e w' ⟨v',rfl,e1,e2,hS⟩
    refine ⟨?_,hS⟩
    by_cases hq:Q t = s.cm t (zO st s t (Q t).k)
    · have:cntO st s Q t = v':=by unfold cntO; rw [if_pos ⟨htp,hq⟩]; exact (e1 hq).symm
      rw [this]
    · have:cntO st s Q t = v':=by unfold cntO; rw [if_neg (fun hh=>hq hh.2)]; exact (e2 hq).symm
      rw [this]
  · refine (count_out s Sb t htp W hSI.box).mono ?_
    rintro e w' ⟨rfl,hb⟩
    have:cntO st s Q t = 0:=by unfold cntO; rw [if_neg (fun hh=>by omega)]
    rw [this]
    obtain ⟨c,lv2,ol,a1,a2,a3,a4,a5⟩:=hSI.below hb
    exact ⟨rfl,c,lv2,ol,a1,a2,a3,by omega,a5⟩
end Go.Proofs.YtncfbocbigdhiaaGreat
