/- Texts of this seat, one behind the other. -/
import Derived.Test.YtncfbocbigdhiaaGreatQLK
/- makeSure, and look, of a log, as calls. -/
namespace Go.Proofs.YtncfbocbigdhiaaGreat.U
open Go Go.RowKit Go.Sort
def V114 (Lb i:Nat) (l:Lg) (sc:ByteArray) (g:Hd) (er:Int):Nat → Value → Prop
  | 0,v=>v = .pointer (some ⟨Lb,0,none⟩)
  | 1,v=>v = .pointer (some ⟨Lb,0,none⟩)
  | 2,v=>v = .pointer (some ⟨Lb,0,none⟩)
  | 3,v=>v = .pointer (some ⟨l.M,0,none⟩)
  | 4,v=>v = .pointer (some ⟨Lb,0,none⟩)
  | 5,v=>v = .int .i64 (i:Nat)
  | 6,v=>v = .int .i64 ((1 + i * l.p:Nat):Int)
  | 7,v=>v = .string sc
  | 8,v=>v = .tuple #[.agg #[.int .u64 (g.c:Nat),.int .u64 (g.j:Nat),.int .u64 (g.n:Nat),.bool g.fr],.int .i64 er]
  | 9,v=>v = .tuple #[.agg #[.int .u64 (g.c:Nat),.int .u64 (g.j:Nat),.int .u64 (g.n:Nat),.bool g.fr],.int .i64 er]
  | 10,v=>v = .agg #[.int .u64 (g.c:Nat),.int .u64 (g.j:Nat),.int .u64 (g.n:Nat),.bool g.fr]
  | 11,v=>v = .int .i64 er
  | 14,v=>v = .int .i64 er
  | _,_=>True
structure PL0 (T:Nat) (w:World) (L:F.Loc) (q:Int) (n Lb:Nat) (l:Lg) (v:Value) (ol rest:List (Nat × Obj)) (now su:Nat → ByteArray) (c:Int) (g:Hd) (done:Nat → Bool) (f:Nat → Value) (W:World):Prop where
  a:done 12 = false → LgI T w L q n Lb l v ol rest now su (if done 7 then c + 1 else c) W
  b:done 12 = true → ∃ X,f 12 = .pointer (some ⟨X,0,none⟩) ∧ (∀ p ∈ rest,p.1 ≠ X) ∧ LgI T w L q n Lb l v ol ((X,.cells (if done 13 then g.cs else H.cmz) 166) :: rest) now su (if done 7 then c + 1 else c) W
  o:done 13 = true → done 12 = true ∧ done 7 = true
section
variable {T:Nat} {w:World} {L:F.Loc} {q:Int} {n Lb:Nat} {l:Lg} {v:Value} {ol rest:List (Nat × Obj)} {now su:Nat → ByteArray} {c:Int} {W W':World} {g:Hd} {done:Nat → Bool} {f:Nat → Value}
theorem LgI.drewN (h:LgI T w L q n Lb l v ol rest now su c W) (z:Nat):LgI T w L q n Lb l v ol rest now su c (W.drewN z):=h.below ⟨rfl,rfl,rfl,Nat.le_refl _,fun _ _=>rfl⟩
theorem LgI.lt (h:LgI T w L q n Lb l v ol rest now su c W):∀ p ∈ rest,p.1 < W.heap.size:=fun p hp=>h.dv.lts p (by simp [hp])
theorem LgI.read1 (h:LgI T w L q n Lb l v ol rest now su c W) (frm:Nat) (hf:frm < n) (hn1:n ≤ 1000) (hc:c ≤ 9000000):Calls Tryz.prog 101 #[.pointer (some ⟨l.M,0,none⟩),.int .i64 (frm:Nat),.int .i64 1] W fun e W'=>e = .returned (.string (now frm)) ∧ LgI T w L q n Lb l v ol rest now su (c + 1) W':=by
  obtain ⟨st,lv,ats,ho,hn,hsr,hss,hth,⟨hi1,hi2,hi3⟩,hd,hc0,hc1,hl0⟩:=h.dv.ex
  have h5:∀ p ∈ (Lb,Obj.cells (l.cs v) 128) :: (l.G,Obj.cells l.row 28) :: (ol ++ (l.objs ++ rest)),∀ c fz,p.2 ≠ .cells c 5 fz:=by
    intro p hp
    simp only [List.mem_cons,List.mem_append] at hp
    rcases hp with rfl | rfl | hp | hp | hp
    · exact fun _ _=>cells_ne2 (by decide)
    · exact fun _ _=>cells_ne2 (by decide)
    · obtain ⟨c',hc'⟩:=Plc.ty h.pl p hp
      rw [hc']; exact fun _ _=>cells_ne2 (by decide)
    · obtain ⟨c',hc'⟩:=l.objs_ty p hp
      rw [hc']; exact fun _ _=>cells_ne2 (by decide)
    · exact h.h5 p hp
  have hm:=ho.mread l.M (by rw [hsr,hss]; simp [h.md]) h5 frm 1 (by omega) (by omega) hi1 hth hi2 hi3 ⟨hd.ok.1,hd.ok.2⟩ ⟨hc0,by omega⟩
  refine hm.mono ?_
  rintro e W' ⟨rfl,lv',ho'⟩
  refine ⟨by rw [rds_one,rd_now hd hn _ hf],⟨h.ok,h.pl,⟨{ st with count:=st.count + (1:Nat) },lv',ats,ho',hn,hsr,hss,hth,⟨hi1,hi2,hi3⟩,hd.same rfl rfl rfl rfl,by show 0 ≤ st.count + ((1:Nat):Int); omega,by show st.count + ((1:Nat):Int) ≤ _; omega,hl0⟩,h.md,h.pn,h.nd,h.inj,h.ap,h.h5⟩⟩
theorem LgI.makeSure (h:LgI T w L q n Lb l v ol rest now su c W) (hc:c ≤ 60000000):Calls Tryz.prog 113 #[.pointer (some ⟨Lb,0,none⟩)] W fun e W'=>e = .returned (.tuple #[]) ∧ LgI T w L q n Lb l v ol rest now now (c + 1) W':=by
  have q0:W.cell? ⟨Lb,0,none⟩ = some (.pointer (some ⟨l.M,0,none⟩)):=F.cell_of h.lz.b 0
  have hx:=h.flush hc
  clear h
  go_enter Tryz.func113,Tryz.ntmps113
  go_wp2_with fail
  go_call hx as e w1 ⟨rfl,h1⟩
  have H:Hid _:=h1
  clear hx h1 q0
  go_wp2
  go_returns
  exact ⟨rfl,H.out⟩
theorem PL0.pure {j:Nat} {v':Value} (h:PL0 T w L q n Lb l v ol rest now su c g done f W) (h1:7 ≠ j) (h2:12 ≠ j) (h3:13 ≠ j):PL0 T w L q n Lb l v ol rest now su c g (F.updB done j) (F.upd f j v') W:=by
  have e7:F.updB done j 7 = done 7:=if_neg h1
  have e12:F.updB done j 12 = done 12:=if_neg h2
  have e13:F.updB done j 13 = done 13:=if_neg h3
  have f12:F.upd f j v' 12 = f 12:=if_neg h2
  refine ⟨?_,?_,?_⟩
  · rw [e12,e7]; exact h.a
  · rw [e12,e7,e13,f12]; exact h.b
  · rw [e12,e7,e13]; exact h.o
theorem PL0.below {j:Nat} {v':Value} (h:PL0 T w L q n Lb l v ol rest now su c g done f W) (hb:Below W.heap.size W W') (h1:7 ≠ j) (h2:12 ≠ j) (h3:13 ≠ j):PL0 T w L q n Lb l v ol rest now su c g (F.updB done j) (F.upd f j v') W':=by
  refine PL0.pure ⟨fun e=>?_,fun e=>?_,h.o⟩ h1 h2 h3
  · exact (h.a e).below hb
  · obtain ⟨X,a,b,d⟩:=h.b e
    exact ⟨X,a,b,d.below hb⟩
theorem PL0.lb (h:PL0 T w L q n Lb l v ol rest now su c g done f W):W.heap[Lb]? = some (.cells (l.cs v) 128):=by
  cases e:done 12 with
  | false=>exact (h.a e).lz.b
  | true=>obtain ⟨X,_,_,d⟩:=h.b e; exact d.lz.b
theorem PL0.not13 (h:PL0 T w L q n Lb l v ol rest now su c g done f W) (e:done 12 = false ∨ done 7 = false):done 13 = false:=by
  cases e3:done 13 with
  | false=>rfl
  | true=>
    obtain ⟨a,b⟩:=h.o e3
    rcases e with e | e
    · rw [a] at e; cases e
    · rw [b] at e; cases e
theorem PL0.read (h:PL0 T w L q n Lb l v ol rest now su c g done f W) (hdn:done 7 = false) (frm:Nat) (hf:frm < n) (hn1:n ≤ 1000) (hc:c ≤ 9000000):Calls Tryz.prog 101 #[.pointer (some ⟨l.M,0,none⟩),.int .i64 (frm:Nat),.int .i64 1] W fun e W'=>e = .returned (.string (now frm)) ∧ PL0 T w L q n Lb l v ol rest now su c g (F.updB done 7) (F.upd f 7 (.string (now frm))) W':=by
  have e13:=h.not13 (Or.inr hdn)
  have u7:F.updB done 7 7 = true:=if_pos rfl
  have u12:F.updB done 7 12 = done 12:=if_neg (by decide)
  have u13:F.updB done 7 13 = done 13:=if_neg (by decide)
  have f12:F.upd f 7 (.string (now frm)) 12 = f 12:=if_neg (by decide)
  cases e:done 12 with
  | false=>
    have b:=h.a e
    rw [hdn] at b
    refine (LgI.read1 b frm hf hn1 hc).mono ?_
    rintro r W' ⟨rfl,hr⟩
    refine ⟨rfl,fun _=>(by rw [u7]; exact hr),fun x=>(by rw [u12,e] at x; cases x),fun x=>(by rw [u13,e13] at x; cases x)⟩
  | true=>
    obtain ⟨X,a,b,d⟩:=h.b e
    rw [hdn] at d
    refine (LgI.read1 d frm hf hn1 hc).mono ?_
    rintro r W' ⟨rfl,hr⟩
    refine ⟨rfl,fun x=>(by rw [u12,e] at x; cases x),fun _=>⟨X,by rw [f12]; exact a,b,by rw [u7,u13]; exact hr⟩,fun x=>(by rw [u13,e13] at x; cases x)⟩
theorem PL0.alloc (h:PL0 T w L q n Lb l v ol rest now su c g done f W) (hdn:done 12 = false):PL0 T w L q n Lb l v ol rest now su c g (F.updB done 12) (F.upd f 12 (.pointer (some ⟨W.heap.size,0,none⟩))) (W.alloc (.cells H.cmz 166)):=by
  have e13:=h.not13 (Or.inl hdn)
  have u12:F.updB done 12 12 = true:=if_pos rfl
  have u7:F.updB done 12 7 = done 7:=if_neg (by decide)
  have u13:F.updB done 12 13 = done 13:=if_neg (by decide)
  have b:=h.a hdn
  refine ⟨fun x=>(by rw [u12] at x; cases x),fun _=>⟨W.heap.size,if_pos rfl,fun p hp=>by have:=b.lt p hp; omega,?_⟩,fun x=>(by rw [u13,e13] at x; cases x)⟩
  rw [u7,u13,e13]
  exact b.hold (.cells H.cmz 166) (F.apart_of (by decide)) (fun _ _=>cells_ne2 (by decide))
theorem PL0.cellz (h:PL0 T w L q n Lb l v ol rest now su c g done f W) (e:done 12 = true) (hdn:done 13 = false) {X:Nat} (hX:f 12 = .pointer (some ⟨X,0,none⟩)):W.heap[X]? = some (.cells H.cmz 166):=by
  obtain ⟨X',a,b,d⟩:=h.b e
  rw [hX] at a
  injection a with a
  injection a with a
  injection a with a _ _
  subst a
  rw [hdn] at d
  exact d.dv.at' (p:=(X,.cells H.cmz 166)) (by simp)
theorem PL0.store (h:PL0 T w L q n Lb l v ol rest now su c g done f W) (e:done 12 = true) (e7:done 7 = true) (hdn:done 13 = false) (hm:(l.M,F.med L.P 1 q) ∈ rest):∃ X,f 12 = .pointer (some ⟨X,0,none⟩) ∧ ∀ v',PL0 T w L q n Lb l v ol rest now su c g (F.updB done 13) (F.upd f 13 v') (((W.setCell ⟨X,0,none⟩ (.int .u64 (g.c:Nat))).setCell ⟨X,1,none⟩ (.int .u64 (g.j:Nat))).setCell ⟨X,2,none⟩ (.int .u64 (g.n:Nat)) |>.setCell ⟨X,3,none⟩ (.bool g.fr)):=by
  have u13:F.updB done 13 13 = true:=if_pos rfl
  have u7:F.updB done 13 7 = done 7:=if_neg (by decide)
  have u12:F.updB done 13 12 = done 12:=if_neg (by decide)
  obtain ⟨X,a,b,d⟩:=h.b e
  rw [hdn] at d
  refine ⟨X,a,fun v'=>⟨fun x=>(by rw [u12,e] at x; cases x),fun _=>⟨X,by rw [show F.upd f 13 v' 12 = f 12 from if_neg (by decide)]; exact a,b,?_⟩,fun _=>⟨by rw [u12]; exact e,by rw [u7]; exact e7⟩⟩⟩
  rw [u7,u13,if_pos (rfl:true = true)]
  have hx:=d.dv.at' (p:=(X,.cells H.cmz 166)) (by simp)
  have s0:=F.block_set (i:=0) hx (.int .u64 (g.c:Nat))
  have s1:=F.block_set (i:=1) s0 (.int .u64 (g.j:Nat))
  have s2:=F.block_set (i:=2) s1 (.int .u64 (g.n:Nat))
  have s3:=F.block_set (i:=3) s2 (.bool g.fr)
  exact d.off b hm ((((Off.refl X W).set 0 _).set 1 _).set 2 _ |>.set 3 _) (by rw [s3]; rfl) (F.apart_of (by decide)) (fun _ _=>cells_ne2 (by decide))
theorem PL0.fin (h:PL0 T w L q n Lb l v ol rest now su c g (fun i=>decide (i < 15)) f W):∃ X,f 12 = .pointer (some ⟨X,0,none⟩) ∧ (∀ p ∈ rest,p.1 ≠ X) ∧ LgI T w L q n Lb l v ol ((X,.cells g.cs 166) :: rest) now su (c + 1) W:=h.b rfl
theorem PL0.start (h:LgI T w L q n Lb l v ol rest now su c W):PL0 T w L q n Lb l v ol rest now su c g (fun _=>false) f W:=⟨fun _=>h,(fun e=>by cases e),(fun e=>by cases e)⟩
end
def Lg.most (l:Lg) (nu:Nat):Lg:={ l with m:=max l.m nu }
section
variable {T:Nat} {w:World} {L:F.Loc} {q:Int} {n Lb:Nat} {l:Lg} {v:Value} {ol rest:List (Nat × Obj)} {now su:Nat → ByteArray} {c:Int} {W W':World}
theorem LgI.neL (h:LgI T w L q n Lb l v ol rest now su c W):∀ p ∈ (l.G,Obj.cells l.row 28) :: (ol ++ (l.objs ++ rest)),p.1 ≠ Lb:=by
  intro p hp
  by_cases hrr:p ∈ rest
  · exact fun e=>h.ap (Lb,Obj.cells (l.cs v) 128) (by simp) p hrr e.symm
  · refine h.dv.ne (p:=p) (r:=(Lb,Obj.cells (l.cs v) 128)) (List.mem_cons_of_mem _ hp) (List.mem_cons_self ..) ?_
    simp only [List.mem_cons,List.mem_append] at hp
    rcases hp with rfl | hp | hp | hp
    · exact cells_ne (by decide)
    · obtain ⟨c2,hc2⟩:=Plc.ty h.pl p hp
      rw [hc2]; exact cells_ne (by decide)
    · obtain ⟨c2,hc2⟩:=l.objs_ty p hp
      rw [hc2]; exact cells_ne (by decide)
    · exact absurd hp hrr
theorem LgI.setm (h:LgI T w L q n Lb l v ol rest now su c W) (nu:Nat):LgI T w L q n Lb (l.most nu) v ol rest now su c (W.setCell ⟨Lb,6,none⟩ (.int .u64 ((max l.m nu:Nat):Int))):=by
  have hb:=h.lz.b
  refine ⟨⟨h.ok.p0,h.ok.p1,h.ok.n0,h.ok.n1,h.ok.lt,h.ok.ln,h.ok.at1,h.ok.c,h.ok.j⟩,h.pl,h.dv.off h.neL ((Off.refl Lb W).set 6 _) (by rw [F.block_set hb]; rfl) (F.apart_of (by decide)),h.md,h.pn,h.nd,h.inj,?_,h.h5⟩
  intro p hp r hr
  simp only [List.mem_cons,List.mem_append] at hp
  rcases hp with rfl | rfl | hp | hp
  · exact h.ap (Lb,Obj.cells (l.cs v) 128) (by simp) r hr
  · exact h.ap (l.G,Obj.cells l.row 28) (by simp) r hr
  · exact h.ap p (by simp [hp]) r hr
  · exact h.ap p (by simp [show p ∈ l.objs from hp]) r hr
set_option maxHeartbeats 4000000 in
set_option maxRecDepth 100000 in
theorem look_any (h:LgI T w L q n Lb l v ol rest now su c W) (i:Nat) (hi:i < l.ns) (hf:1 + i * l.p < n) (hn1:n ≤ 1000) (hc:c ≤ 9000000) (g:Hd) (er:Int) (hg:∀ W,Calls Tryz.prog 142 #[.string (now (1 + i * l.p))] W fun e w'=>e = .returned (.tuple #[.agg g.cs,.int .i64 er]) ∧ Below W.heap.size W w')
    (hcc:g.c ≠ l.c ∨ (er = 0 ∧ g.c = l.c ∧ g.j = l.j ∧ g.fr = true) ∨ (er = 0 ∧ g.c = l.c ∧ g.j = l.j ∧ g.fr = false ∧ l.pt i = none ∧ g.n < 18446744073709551616 ∧ l.m < 18446744073709551616)) :
    Calls Tryz.prog 114 #[.pointer (some ⟨Lb,0,none⟩),.int .i64 (i:Nat)] W fun e w'=>e = .returned (.tuple #[]) ∧ ((g.c ≠ l.c ∧ LgI T w L q n Lb l v ol rest now su (c + 1) w') ∨ (g.c = l.c ∧ g.fr = true ∧ LgI T w L q n Lb (l.most g.n) v ol rest now su (c + 1) w') ∨ (g.c = l.c ∧ g.fr = false ∧ ∃ S v' ol',LgI T w L q n Lb (l.up i S g.n) v' ol' rest now su (c + 1) w')):=by
  have HI:Hid (i ≤ 1000 ∧ l.p ≤ 64 ∧ i < l.ns):=⟨by have:=h.ok.n1; omega,h.ok.p1,hi⟩
  have HMD:Hid _:=h.md
  obtain ⟨sc,hsc⟩:∃ sc,sc = now (1 + i * l.p):=⟨_,rfl⟩
  have HTH:Hid (∀ W,Calls Tryz.prog 142 #[.string sc] W fun e w'=>e = .returned (.tuple #[.agg #[.int .u64 (g.c:Nat),.int .u64 (g.j:Nat),.int .u64 (g.n:Nat),.bool g.fr],.int .i64 er]) ∧ Below W.heap.size W w'):=fun W=>by rw [hsc]; exact hg W
  have HRD:Hid (∀ done f W9,PL0 T w L q n Lb l v ol rest now su c g done f W9 → done 7 = false → Calls Tryz.prog 101 #[.pointer (some ⟨l.M,0,none⟩),.int .i64 ((1 + i * l.p:Nat):Int),.int .i64 1] W9 fun e W'=>e = .returned (.string sc) ∧ PL0 T w L q n Lb l v ol rest now su c g (F.updB done 7) (F.upd f 7 (.string sc)) W'):=fun done f W9 hP hdn=>by rw [hsc]; exact hP.read hdn _ hf hn1 hc
  have H0:Hid (LgI T w L q n Lb l v ol rest now su c W.drew):=h.below (Below.refl _ _).drew
  have HCC:Hid _:=hcc
  clear h hg hf hn1 hc hi hsc hcc
  go_enter Tryz.func114,Tryz.ntmps114
  go_wp2_with fail
  refine F.wp_region_pb (fun f=>⟨#[.pointer (some ⟨Lb,0,none⟩),.int .i64 (i:Nat),undef,undef,f 12,f 14,f 9,f 0,f 1,f 2,f 3,f 4,f 5,f 6,f 7,f 8,f 10,f 11,undef,undef,undef,undef,undef,undef,undef,undef,undef,undef,undef,undef,undef,undef,undef,undef,undef,undef,undef,undef,undef,undef,undef,undef,undef,undef,undef,undef,undef,undef,undef,undef,undef,undef,undef,undef,undef],[]⟩) (V114 Lb i l sc g er) (PL0 T w L q n Lb l v ol rest now su c g) (fun i=>[undef,undef,undef,undef,undef,undef,undef,undef,undef,undef,undef,undef,undef,undef,undef].getD i undef) (by kernel_rfl) rfl rfl ?hIq ?hputq ?stepq ?finq
  case hIq=>exact PL0.start H0.out
  case finq=>
    intro f W9 hP hV
    have v0:f 0 = .pointer (some ⟨Lb,0,none⟩):=hV 0 (by decide)
    have v1:f 1 = .pointer (some ⟨Lb,0,none⟩):=hV 1 (by decide)
    have v2:f 2 = .pointer (some ⟨Lb,0,none⟩):=hV 2 (by decide)
    have v3:f 3 = .pointer (some ⟨l.M,0,none⟩):=hV 3 (by decide)
    have v4:f 4 = .pointer (some ⟨Lb,0,none⟩):=hV 4 (by decide)
    have v5:f 5 = .int .i64 (i:Nat):=hV 5 (by decide)
    have v6:f 6 = .int .i64 ((1 + i * l.p:Nat):Int):=hV 6 (by decide)
    have v7:f 7 = .string sc:=hV 7 (by decide)
    have v8:f 8 = .tuple #[.agg #[.int .u64 (g.c:Nat),.int .u64 (g.j:Nat),.int .u64 (g.n:Nat),.bool g.fr],.int .i64 er]:=hV 8 (by decide)
    have v9:f 9 = .tuple #[.agg #[.int .u64 (g.c:Nat),.int .u64 (g.j:Nat),.int .u64 (g.n:Nat),.bool g.fr],.int .i64 er]:=hV 9 (by decide)
    have v10:f 10 = .agg #[.int .u64 (g.c:Nat),.int .u64 (g.j:Nat),.int .u64 (g.n:Nat),.bool g.fr]:=hV 10 (by decide)
    have v11:f 11 = .int .i64 er:=hV 11 (by decide)
    have v14:f 14 = .int .i64 er:=hV 14 (by decide)
    clear hV
    obtain ⟨X,hX,hXB,hL⟩:=hP.fin
    generalize f 0 = z0 at *
    subst v0
    generalize f 1 = z1 at *
    subst v1
    generalize f 2 = z2 at *
    subst v2
    generalize f 3 = z3 at *
    subst v3
    generalize f 4 = z4 at *
    subst v4
    generalize f 5 = z5 at *
    subst v5
    generalize f 6 = z6 at *
    subst v6
    generalize f 7 = z7 at *
    subst v7
    generalize f 8 = z8 at *
    subst v8
    generalize f 9 = z9 at *
    subst v9
    generalize f 10 = z10 at *
    subst v10
    generalize f 11 = z11 at *
    subst v11
    generalize f 14 = z14 at *
    subst v14
    generalize f 12 = z12 at *
    subst hX
    have HL:Hid _:=hL
    have q0:∀ z,(W9.drewN z).cell? ⟨X,0,none⟩ = some (.int .u64 (g.c:Nat)):=fun z=>F.cell_of (w:=W9.drewN z) (hL.dv.at' (p:=(X,.cells g.cs 166)) (by simp)) 0
    have q1:∀ z,(W9.drewN z).cell? ⟨X,1,none⟩ = some (.int .u64 (g.j:Nat)):=fun z=>F.cell_of (w:=W9.drewN z) (hL.dv.at' (p:=(X,.cells g.cs 166)) (by simp)) 1
    have q2:∀ z,(W9.drewN z).cell? ⟨X,2,none⟩ = some (.int .u64 (g.n:Nat)):=fun z=>F.cell_of (w:=W9.drewN z) (hL.dv.at' (p:=(X,.cells g.cs 166)) (by simp)) 2
    have q3:∀ z,(W9.drewN z).cell? ⟨X,3,none⟩ = some (.bool g.fr):=fun z=>F.cell_of (w:=W9.drewN z) (hL.dv.at' (p:=(X,.cells g.cs 166)) (by simp)) 3
    have p1:∀ z,(W9.drewN z).cell? ⟨Lb,1,none⟩ = some (.int .u64 (l.c:Nat)):=fun z=>F.cell_of (w:=W9.drewN z) hL.lz.b 1
    have p2:∀ z,(W9.drewN z).cell? ⟨Lb,2,none⟩ = some (.int .u64 (l.j:Nat)):=fun z=>F.cell_of (w:=W9.drewN z) hL.lz.b 2
    have p6:∀ z,(W9.drewN z).cell? ⟨Lb,6,none⟩ = some (.int .u64 (l.m:Nat)):=fun z=>F.cell_of (w:=W9.drewN z) hL.lz.b 6
    clear hL hP
    rcases HCC.out with hcc | ⟨rfl,hcc,hj,hfr⟩ | ⟨rfl,hcc,hj,hfr,hpt,hgn,hlm⟩
    · have HN:Hid (g.c ≠ l.c):=hcc
      have hb:((g.c:Int) != (l.c:Int)) = true:=by simp; omega
      clear hcc
      by_cases her:er = 0
      · subst her
        go_wp2_with fail
        go_quiet (fail)
        go_wp2
        go_returns
        exact ⟨rfl,Or.inl ⟨HN.out,(HL.out.drewN _).drop HMD.out (fun p hp=>List.mem_cons_of_mem _ hp)⟩⟩
      · have hb1:(er != 0) = true:=by simpa using her
        clear her
        go_wp2_with fail
        go_quiet (fail)
        go_wp2
        go_returns
        exact ⟨rfl,Or.inl ⟨HN.out,(HL.out.drewN _).drop HMD.out (fun p hp=>List.mem_cons_of_mem _ hp)⟩⟩
    · have hb:((g.c:Int) != (l.c:Int)) = false:=by simp; omega
      have hb2:((g.j:Int) != (l.j:Int)) = false:=by simp; omega
      have HN:Hid (g.c = l.c ∧ g.fr = true):=⟨hcc,hfr⟩
      rw [hfr] at q3
      clear hcc hj hfr
      go_wp2_with fail
      go_quiet (fail)
      have hmx:max (l.m:Int) (g.n:Int) = ((max l.m g.n:Nat):Int):=by omega
      have f6:∀ z,(W9.drewN z).frozen? ⟨Lb,6,none⟩ = false:=fun z=>F.frz_of (w:=W9.drewN z) HL.out.lz.b 6
      go_wp2_with fail
      go_region
      have H1:Hid _:=((HL.out.drewN (nq + 1)).setm g.n).drop HMD.out (fun p hp=>List.mem_cons_of_mem _ hp)
      go_wp2
      go_returns
      exact ⟨rfl,Or.inr (Or.inl ⟨HN.out.1,HN.out.2,H1.out⟩)⟩
    · have hb:((g.c:Int) != (l.c:Int)) = false:=by simp; omega
      have hb2:((g.j:Int) != (l.j:Int)) = false:=by simp; omega
      have HN:Hid (g.c = l.c ∧ g.fr = false):=⟨hcc,hfr⟩
      have he:∀ W9,LgI T w L q n Lb l v ol ((X,.cells g.cs 166) :: rest) now su (c + 1) W9 → _:=fun W9 h9=>enter_any h9 i g.n HI.out.2.2 hpt hgn hlm
      have HE:Hid _:=he
      rw [hfr] at q3
      clear hcc hj hfr hpt hgn hlm he
      go_wp2_with fail
      go_quiet (fail)
      have he:=HE.out _ (HL.out.drewN nq)
      go_wp2_with fail
      go_call he as e w1 ⟨rfl,S,v',ol',h1⟩
      have H1:Hid _:=h1
      clear he h1
      go_wp2
      go_returns
      exact ⟨rfl,Or.inr (Or.inr ⟨HN.out.1,HN.out.2,S,v',ol',H1.out.drop HMD.out (fun p hp=>List.mem_cons_of_mem _ hp)⟩)⟩
  case hputq=>
    repeat (refine ⟨fun f v=>rfl,?_⟩)
    trivial
  case stepq=>
    refine ⟨?_,?_⟩
    · intro done f W9 hP hdn hd K hK
      clear hd
      go_simp
      exact hK _ _ rfl (hP.pure (by decide) (by decide) (by decide))
    refine ⟨?_,?_⟩
    · intro done f W9 hP hdn hd K hK
      have d0:=(hd.1 rfl).2
      have e0:done 0 = true:=(hd.1 rfl).1
      clear hd
      replace d0:f 0 = .pointer (some ⟨Lb,0,none⟩):=d0
      generalize f 0 = x0 at *
      subst d0
      clear e0
      go_simp
      exact hK _ _ rfl (hP.pure (by decide) (by decide) (by decide))
    refine ⟨?_,?_⟩
    · intro done f W9 hP hdn hd K hK
      have d1:=(hd.1 rfl).2
      have e1:done 1 = true:=(hd.1 rfl).1
      clear hd
      replace d1:f 1 = .pointer (some ⟨Lb,0,none⟩):=d1
      generalize f 1 = x1 at *
      subst d1
      clear e1
      go_simp
      exact hK _ _ rfl (hP.pure (by decide) (by decide) (by decide))
    refine ⟨?_,?_⟩
    · intro done f W9 hP hdn hd K hK
      have d2:=(hd.1 rfl).2
      have e2:done 2 = true:=(hd.1 rfl).1
      clear hd
      replace d2:f 2 = .pointer (some ⟨Lb,0,none⟩):=d2
      generalize f 2 = x2 at *
      subst d2
      clear e2
      have qb:=hP.lb
      have q:W9.cell? ⟨Lb,0,none⟩ = some (.pointer (some ⟨l.M,0,none⟩)):=F.cell_of qb 0
      go_simp
      exact hK _ _ rfl (hP.pure (by decide) (by decide) (by decide))
    refine ⟨?_,?_⟩
    · intro done f W9 hP hdn hd K hK
      clear hd
      go_simp
      exact hK _ _ rfl (hP.pure (by decide) (by decide) (by decide))
    refine ⟨?_,?_⟩
    · intro done f W9 hP hdn hd K hK
      clear hd
      go_simp
      exact hK _ _ rfl (hP.pure (by decide) (by decide) (by decide))
    refine ⟨?_,?_⟩
    · intro done f W9 hP hdn hd K hK
      have d4:=(hd.1 rfl).2
      have e4:done 4 = true:=(hd.1 rfl).1
      have d5:=(hd.2.1 rfl).2
      have e5:done 5 = true:=(hd.2.1 rfl).1
      clear hd
      replace d4:f 4 = .pointer (some ⟨Lb,0,none⟩):=d4
      replace d5:f 5 = .int .i64 (i:Nat):=d5
      generalize f 4 = x4 at *
      subst d4
      clear e4
      generalize f 5 = x5 at *
      subst d5
      clear e5
      have qb:=hP.lb
      have hba:=base_any qb i HI.out.1 HI.out.2.1
      go_simp
      refine Calls.mono hba ?_
      rintro er' W' ⟨rfl,rfl⟩
      exact hK _ _ rfl (hP.pure (by decide) (by decide) (by decide))
    refine ⟨?_,?_⟩
    · intro done f W9 hP hdn hd K hK
      have d3:=(hd.1 rfl).2
      have e3:done 3 = true:=(hd.1 rfl).1
      have d6:=(hd.2.1 rfl).2
      have e6:done 6 = true:=(hd.2.1 rfl).1
      clear hd
      replace d3:f 3 = .pointer (some ⟨l.M,0,none⟩):=d3
      replace d6:f 6 = .int .i64 ((1 + i * l.p:Nat):Int):=d6
      generalize f 3 = x3 at *
      subst d3
      clear e3
      generalize f 6 = x6 at *
      subst d6
      clear e6
      have hrd:=HRD.out done f W9 hP hdn
      go_simp
      refine Calls.mono hrd ?_
      rintro er' W' ⟨rfl,hB⟩
      exact hK _ _ rfl hB
    refine ⟨?_,?_⟩
    · intro done f W9 hP hdn hd K hK
      have d7:=(hd.1 rfl).2
      have e7:done 7 = true:=(hd.1 rfl).1
      clear hd
      replace d7:f 7 = .string sc:=d7
      generalize f 7 = x7 at *
      subst d7
      clear e7
      have hth:=HTH.out W9
      go_simp
      refine Calls.mono hth ?_
      rintro er' W' ⟨rfl,hb⟩
      exact hK _ _ rfl (hP.below hb (by decide) (by decide) (by decide))
    refine ⟨?_,?_⟩
    · intro done f W9 hP hdn hd K hK
      have d8:=(hd.1 rfl).2
      have e8:done 8 = true:=(hd.1 rfl).1
      clear hd
      replace d8:f 8 = .tuple #[.agg #[.int .u64 (g.c:Nat),.int .u64 (g.j:Nat),.int .u64 (g.n:Nat),.bool g.fr],.int .i64 er]:=d8
      generalize f 8 = x8 at *
      subst d8
      clear e8
      go_simp
      exact hK _ _ rfl (hP.pure (by decide) (by decide) (by decide))
    refine ⟨?_,?_⟩
    · intro done f W9 hP hdn hd K hK
      have d9:=(hd.1 rfl).2
      have e9:done 9 = true:=(hd.1 rfl).1
      clear hd
      replace d9:f 9 = .tuple #[.agg #[.int .u64 (g.c:Nat),.int .u64 (g.j:Nat),.int .u64 (g.n:Nat),.bool g.fr],.int .i64 er]:=d9
      generalize f 9 = x9 at *
      subst d9
      clear e9
      go_simp
      exact hK _ _ rfl (hP.pure (by decide) (by decide) (by decide))
    refine ⟨?_,?_⟩
    · intro done f W9 hP hdn hd K hK
      have d9:=(hd.1 rfl).2
      have e9:done 9 = true:=(hd.1 rfl).1
      clear hd
      replace d9:f 9 = .tuple #[.agg #[.int .u64 (g.c:Nat),.int .u64 (g.j:Nat),.int .u64 (g.n:Nat),.bool g.fr],.int .i64 er]:=d9
      generalize f 9 = x9 at *
      subst d9
      clear e9
      go_simp
      exact hK _ _ rfl (hP.pure (by decide) (by decide) (by decide))
    refine ⟨?_,?_⟩
    · intro done f W9 hP hdn hd K hK
      clear hd
      have hB:=hP.alloc hdn
      go_simp
      exact hK _ _ trivial hB
    refine ⟨?_,?_⟩
    · intro done f W9 hP hdn hd K hK
      have d12:=(hd.1 rfl).2
      have e12:done 12 = true:=(hd.1 rfl).1
      have d10:=(hd.2.1 rfl).2
      have e10:done 10 = true:=(hd.2.1 rfl).1
      have e7:done 7 = true:=(hd.2.2.2.2.2.2.2.2.2.2.1 rfl).1
      clear hd
      replace d10:f 10 = .agg #[.int .u64 (g.c:Nat),.int .u64 (g.j:Nat),.int .u64 (g.n:Nat),.bool g.fr]:=d10
      generalize f 10 = x10 at *
      subst d10
      clear e10
      have e12:done 12 = true:=e12
      have e7:done 7 = true:=e7
      obtain ⟨X,hX,hB⟩:=hP.store e12 e7 hdn HMD.out
      have cz:=hP.cellz e12 hdn hX
      have z0:W9.cell? ⟨X,0,none⟩ = some (.int .u64 0):=F.cell_of cz 0
      have z1:W9.cell? ⟨X,1,none⟩ = some (.int .u64 0):=F.cell_of cz 1
      have z2:W9.cell? ⟨X,2,none⟩ = some (.int .u64 0):=F.cell_of cz 2
      have z3:W9.cell? ⟨X,3,none⟩ = some (.bool false):=F.cell_of cz 3
      have y0:=F.frz_of cz 0
      have y1:=F.frz_of cz 1
      have y2:=F.frz_of cz 2
      have y3:=F.frz_of cz 3
      generalize f 12 = x12 at *
      subst hX
      go_simp
      exact hK (.bool false) _ trivial (hB _)
    refine ⟨?_,?_⟩
    · intro done f W9 hP hdn hd K hK
      have d11:=(hd.1 rfl).2
      have e11:done 11 = true:=(hd.1 rfl).1
      clear hd
      replace d11:f 11 = .int .i64 er:=d11
      generalize f 11 = x11 at *
      subst d11
      clear e11
      go_simp
      exact hK _ _ rfl (hP.pure (by decide) (by decide) (by decide))
    trivial
end
end Go.Proofs.YtncfbocbigdhiaaGreat.U

/- The live segments of a log are sorted by their Numbers, as a call. -/
namespace Go.Proofs.YtncfbocbigdhiaaGreat.U
open Go Go.RowKit Go.Sort Go.Shelf
def cmpU (a b:Nat):Int:=if a < b then -1 else if b < a then 1 else 0
theorem nan144 (a:Nat) (W:World):Calls Tryz.prog 144 #[.int .u64 (a:Nat)] W fun e w'=>e = .returned (.bool false) ∧ w' = W:=by
  go_enter Tryz.func144,Tryz.ntmps144
  go_wp2
  go_returns
  exact ⟨by simp,rfl⟩
theorem cmp117 (a b:Nat) (W:World):Calls Tryz.prog 117 #[.int .u64 (a:Nat),.int .u64 (b:Nat)] W fun e w'=>e = .returned (.int .i64 (cmpU a b)) ∧ w' = W:=by
  have ha:=nan144 a W
  have hb:=nan144 b W
  by_cases h1:a < b
  · have e:cmpU a b = -1:=if_pos h1
    have h1I:(a:Int) < (b:Int):=by omega
    rw [e]
    clear h1 e
    go_enter Tryz.func117,Tryz.ntmps117
    go_wp2_with fail
    go_call ha as e w1 ⟨rfl,rfl⟩
    go_wp2_with fail
    go_call hb as e w1 ⟨rfl,rfl⟩
    go_wp2
    go_returns
    exact ⟨rfl,rfl⟩
  · by_cases h2:b < a
    · have e:cmpU a b = 1:=by unfold cmpU; rw [if_neg h1,if_pos h2]
      have h1I:¬ (a:Int) < (b:Int):=by omega
      have h2I:(b:Int) < (a:Int):=by omega
      rw [e]
      clear h1 h2 e
      go_enter Tryz.func117,Tryz.ntmps117
      go_wp2_with fail
      go_call ha as e w1 ⟨rfl,rfl⟩
      go_wp2_with fail
      go_call hb as e w1 ⟨rfl,rfl⟩
      go_wp2
      go_returns
      exact ⟨rfl,rfl⟩
    · have e:cmpU a b = 0:=by unfold cmpU; rw [if_neg h1,if_neg h2]
      have h1I:¬ (a:Int) < (b:Int):=by omega
      have h2I:¬ (b:Int) < (a:Int):=by omega
      rw [e]
      clear h1 h2 e
      go_enter Tryz.func117,Tryz.ntmps117
      go_wp2_with fail
      go_call ha as e w1 ⟨rfl,rfl⟩
      go_wp2_with fail
      go_call hb as e w1 ⟨rfl,rfl⟩
      go_wp2
      go_returns
      exact ⟨rfl,rfl⟩
set_option maxRecDepth 100000 in
theorem clos116 (X Lb G S1 S2 i k ns n1 n2:Nat) (W:World) (hX:∀ z,(W.drewN z).cell? ⟨X,0,none⟩ = some (.pointer (some ⟨Lb,0,none⟩))) (h4:∀ z,(W.drewN z).cell? ⟨Lb,4,none⟩ = some (.slice (some ⟨G,0,none⟩) ns ns)) (hi:i < ns) (hk:k < ns)
    (g1:∀ z,(W.drewN z).cell? ⟨G,i,none⟩ = some (.pointer (some ⟨S1,0,none⟩))) (g2:∀ z,(W.drewN z).cell? ⟨G,k,none⟩ = some (.pointer (some ⟨S2,0,none⟩))) (s1:∀ z,(W.drewN z).cell? ⟨S1,3,none⟩ = some (.int .u64 (n1:Nat))) (s2:∀ z,(W.drewN z).cell? ⟨S2,3,none⟩ = some (.int .u64 (n2:Nat))) :
    Calls Tryz.prog 116 #[.int .i64 (i:Nat),.int .i64 (k:Nat),.pointer (some ⟨X,0,none⟩)] W fun e w'=>e = .returned (.int .i64 (cmpU n1 n2)) ∧ ∃ z,w' = W.drewN z:=by
  have hiI:(i:Int) < (ns:Int):=by omega
  have hkI:(k:Int) < (ns:Int):=by omega
  go_enter Tryz.func116,Tryz.ntmps116
  go_wp2_with fail
  go_quiet (first | (go_at_call 117; refine Calls.quiet_of_same (cmp117 _ _ _)))
  go_wp2
  go_returns
  exact ⟨rfl,_,rfl⟩
theorem perm_asc (f:Nat → Nat):∀ (a b:List Nat),a.Perm b → a.Pairwise (fun x y=>f x < f y) → b.Pairwise (fun x y=>f x < f y) → a = b
  | [],b,h,_,_=>(List.nil_perm.1 h).symm
  | x :: a,[],h,_,_=>by cases List.perm_nil.1 h
  | x :: a,y :: b,h,h1,h2=>by
    have hx:x ∈ y :: b:=h.subset (List.mem_cons_self ..)
    have hy:y ∈ x :: a:=h.symm.subset (List.mem_cons_self ..)
    have e:x = y:=by
      rcases List.mem_cons.1 hx with e | hx
      · exact e
      · rcases List.mem_cons.1 hy with e | hy
        · exact e.symm
        · have a1:=(List.pairwise_cons.1 h2).1 x hx
          have a2:=(List.pairwise_cons.1 h1).1 y hy
          omega
    subst e
    rw [perm_asc f a b h.cons_inv (List.pairwise_cons.1 h1).2 (List.pairwise_cons.1 h2).2]
theorem putE_off0 {α:Type} (enc:α → Value) [Inhabited α] (g:Nat) (W:World) (n:Nat) (d:Array α):Off g W ((putRow enc W g 0 d).drewN n):=
  ⟨rfl,rfl,rfl,by simp [putRow,mapBlock],fun k hk=>by
    have:g ≠ k:=fun e=>hk e.symm
    simp [putRow,mapBlock,Array.getElem?_modify,this]⟩
theorem putE_heap {α:Type} (enc:α → Value) [Inhabited α] {g n:Nat} {W:World} {cur:Array Value} {e:TypeId} {fr:Nat × Nat} (d:Array α) (hb:W.heap[g]? = some (.cells cur e fr)) :
    ((putRow enc W g 0 d).drewN n).heap[g]? = some (.cells (putCells enc 0 d cur) e fr):=by
  simp [putRow,mapBlock,Array.getElem?_modify,hb,onCells]
theorem putE_take {α:Type} (enc:α → Value) [Inhabited α] (cur:Array Value) (d:Array α) (h:d.size ≤ cur.size):(putCells enc 0 d cur).toList.take d.size = d.toList.map enc:=by
  apply List.ext_getElem?
  intro j
  by_cases hj:j < d.size
  · rw [List.getElem?_take_of_lt hj,Array.getElem?_toList]
    simp [putCells,hj,show j < cur.size by omega]
  · rw [List.getElem?_take_eq_none (by omega),List.getElem?_eq_none (by simp; omega)]
theorem sortW_block {α:Type} (enc:α → Value) [Inhabited α] {g m:Nat} {W:World} {os:Array Obj} {dk:Array α} {j:Nat} {o:Obj} (hj:j ≠ g) (e:W.heap[j]? = some o) (z:Nat):((sortWorld enc W g 0 m dk os).drewN z).heap[j]? = some o:=by
  have hl:=F.getElem?_lt e
  show (grow (putRow enc (Sort.ahead W m) g 0 dk) os).heap[j]? = some o
  rw [heap_grow_old _ _ (by simpa using hl)]
  have:g ≠ j:=fun e=>hj e.symm
  simp [putRow,mapBlock,Sort.ahead,Array.getElem?_modify,this,e]
def Lg.ord (l:Lg) (xs:List Nat):Lg:={ l with lv:=xs }
section
variable {T:Nat} {w:World} {L:F.Loc} {q:Int} {n Lb:Nat} {l:Lg} {v:Value} {ol rest:List (Nat × Obj)} {now su:Nat → ByteArray} {c:Int} {W W':World}
theorem Lg.ord_objs {xs:List Nat} (hp:xs.Perm l.lv):∀ p,p ∈ (l.ord xs).objs ↔ p ∈ l.objs:=by
  intro p
  unfold Lg.objs
  simp only [List.mem_map]
  constructor
  · rintro ⟨k,hk,e⟩
    exact ⟨k,hp.mem_iff.1 hk,e⟩
  · rintro ⟨k,hk,e⟩
    exact ⟨k,hp.mem_iff.2 hk,e⟩
set_option maxHeartbeats 1000000 in
theorem ins_any (h:LgI T w L q n Lb l v ol rest now su c W) (hl:l.lv.length ≤ 19) (X:Nat) (hX:(X,Obj.cells #[.pointer (some ⟨Lb,0,none⟩)] 62) ∈ rest) (xs:List Nat) (hp:xs.Perm l.lv) (ha:xs.Pairwise (fun x y=>l.nu x < l.nu y)) :
    Calls Tryz.prog 166 #[v,.int .i64 0,.int .i64 (l.lv.length:Nat),.func (.func 116) #[] #[.pointer (some ⟨X,0,none⟩)]] W fun e w'=>e = .returned (.tuple #[]) ∧ ∃ ol',LgI T w L q n Lb (l.ord xs) v ol' rest now su c w':=by
  have hll:=hp.length_eq
  rcases h.pl with ⟨rfl,e,rfl⟩ | ⟨g,cap,cur,rfl,rfl,h1,h2,h3,h4⟩
  · rw [e] at hp hll ⊢
    have hxs:xs = []:=List.eq_nil_of_length_eq_zero (by simpa using hll)
    subst hxs
    have H:Hid (LgI T w L q n Lb (l.ord []) (.slice none 0 0) [] rest now su c W):=by
      have:l.ord [] = l:=by unfold Lg.ord; rw [← e]
      rw [this]; exact h
    clear h
    go_enter Tryz.func166,Tryz.ntmps166
    go_wp2
    go_rounds 1
    go_end0
    exact ⟨rfl,_,H.out⟩
  · cases hlv:l.lv with
    | nil=>
      rw [hlv] at hp hll h1 h4
      have hxs:xs = []:=List.eq_nil_of_length_eq_zero (by simpa using hll)
      subst hxs
      have H:Hid (LgI T w L q n Lb (l.ord []) (.slice (some ⟨g,0,none⟩) 0 cap) [(g,.cells cur 3)] rest now su c W):=by
        have:l.ord [] = l:=by unfold Lg.ord; rw [← hlv]
        rw [this]
        have:=h
        rw [hlv] at this
        exact this
      clear h
      go_enter Tryz.func166,Tryz.ntmps166
      go_wp2
      go_rounds 1
      go_end0
      exact ⟨rfl,_,H.out⟩
    | cons x0 r0=>
      rw [← hlv]
      haveI:Inhabited {x // x ∈ l.lv}:=⟨⟨x0,by rw [hlv]; exact List.mem_cons_self ..⟩⟩
      have hg:=h.dv.at' (p:=(g,.cells cur 3)) (by simp)
      replace hg:W.heap[g]? = some (.cells cur 3):=hg
      obtain ⟨d,hd⟩:∃ d:Array {x // x ∈ l.lv},d = l.lv.attach.toArray:=⟨_,rfl⟩
      have hds:d.size = l.lv.length:=by rw [hd]; simp
      have hdm:d.toList.map (·.1) = l.lv:=by rw [hd]; simp
      let enc:{x // x ∈ l.lv} → Value:=fun x=>nv x.1
      have hH:Holds enc W g 0 d:=by
        intro j hj
        have hj':j < l.lv.length:=by omega
        refine ⟨?_,F.frz_of hg _⟩
        rw [Nat.zero_add,F.cell_of hg]
        have:=congrArg (fun l=>l[j]?) h4
        simp only [List.getElem?_take_of_lt hj',List.getElem?_map,Array.getElem?_toList,List.getElem?_eq_getElem hj'] at this
        rw [this]
        have e2:(d[j]!).1 = l.lv[j]:=by
          have:=congrArg (fun l=>l[j]?) hdm
          simp only [List.getElem?_map,Array.getElem?_toList,List.getElem?_eq_getElem hj',Array.getElem?_eq_getElem hj,Option.map_some] at this
          rw [getElem!_pos d j hj]
          exact Option.some.inj this
        show some (nv l.lv[j]) = some (nv (d[j]!).1)
        rw [e2]
      have eg:∀ args w,(callFunc 116 args).run Tryz.prog w = .ok (.enter 116 args) w:=fun args w=>O.enter_of Tryz.func116 (by kernel_rfl) (by kernel_rfl) args w
      have nX:X ≠ g:=fun e=>h.ap (g,Obj.cells cur 3) (by simp) _ hX e.symm
      have nL:Lb ≠ g:=h.dv.ne (p:=(Lb,.cells (l.cs (.slice (some ⟨g,0,none⟩) l.lv.length cap)) 128)) (r:=(g,.cells cur 3)) (by simp) (by simp) (cells_ne (by decide))
      have nG:l.G ≠ g:=h.dv.ne (p:=(l.G,.cells l.row 28)) (r:=(g,.cells cur 3)) (by simp) (by simp) (cells_ne (by decide))
      have hXc:W.heap[X]? = some (Obj.cells #[.pointer (some ⟨Lb,0,none⟩)] 62):=h.dv.at' (p:=(X,Obj.cells #[.pointer (some ⟨Lb,0,none⟩)] 62)) (by simp [hX])
      have hcmp:CmpReads Tryz.prog 116 #[.pointer (some ⟨X,0,none⟩)] enc (fun x y=>cmpU (l.nu x.1) (l.nu y.1)) g 0 d.size W:=by
        intro m os dk _ x y
        obtain ⟨S1,a1,b1⟩:=h.lz.s x.1 x.2
        obtain ⟨S2,a2,b2⟩:=h.lz.s y.1 y.2
        have n1:S1 ≠ g:=fun e=>by
          rw [e,hg] at b1
          exact cells_ne (by decide) (Option.some.inj b1)
        have n2:S2 ≠ g:=fun e=>by
          rw [e,hg] at b2
          exact cells_ne (by decide) (Option.some.inj b2)
        have:=clos116 X Lb l.G S1 S2 x.1 y.1 l.ns (l.nu x.1) (l.nu y.1) (sortWorld enc W g 0 m dk os) (fun z=>F.cell_of (sortW_block enc nX hXc z) 0) (fun z=>F.cell_of (sortW_block enc nL h.lz.b z) 4) (h.ok.lt _ x.2) (h.ok.lt _ y.2)
          (fun z=>by rw [F.cell_of (sortW_block enc nG h.lz.g z),l.row_get _ (h.ok.lt _ x.2),a1]; rfl) (fun z=>by rw [F.cell_of (sortW_block enc nG h.lz.g z),l.row_get _ (h.ok.lt _ y.2),a2]; rfl) (fun z=>F.cell_of (sortW_block enc n1 b1 z) 3) (fun z=>F.cell_of (sortW_block enc n2 b2 z) 3)
        exact this
      have hcon:=Tryz.insertionSortCmpFunc_one enc (fun _=>rfl) (fun x y=>cmpU (l.nu x.1) (l.nu y.1)) 116 #[.pointer (some ⟨X,0,none⟩)] g 0 cap 0 d.size d W eg hcmp hH (Nat.zero_le _) (Nat.le_refl _) (by omega)
      rw [hds] at hcon
      refine hcon.mono ?_
      rintro e w' ⟨rfl,z,rfl⟩
      have lte:∀ x y:{x // x ∈ l.lv},ltOf (fun x y:{x // x ∈ l.lv}=>cmpU (l.nu x.1) (l.nu y.1)) x y = decide (l.nu x.1 < l.nu y.1):=by
        intro x y
        unfold ltOf cmpU
        by_cases h1:l.nu x.1 < l.nu y.1
        · simp [h1]
        · by_cases h2:l.nu y.1 < l.nu x.1 <;> simp [h1,h2]
      have hso:SWO (ltOf (fun x y:{x // x ∈ l.lv}=>cmpU (l.nu x.1) (l.nu y.1))):=⟨fun x=>by rw [lte]; simp,fun x y z h1 h2=>by rw [lte] at *; simp at *; omega,fun x y z h1 h2=>by rw [lte] at *; simp at *; omega⟩
      have hs:=insertionSort_holds hso d 0 d.size (Nat.zero_le _) (Nat.le_refl _)
      rw [← hds]
      obtain ⟨d',hd'⟩:∃ d',d' = insertionSort (ltOf (fun x y:{x // x ∈ l.lv}=>cmpU (l.nu x.1) (l.nu y.1))) d 0 d.size:=⟨_,rfl⟩
      rw [← hd'] at hs ⊢
      obtain ⟨⟨z1,_,z3⟩,z4⟩:=hs
      have hperm:(d'.toList.map (·.1)).Perm l.lv:=by
        have e1:d'.extract 0 d.size = d':=by rw [← z1]; simp
        have e2:d.extract 0 d.size = d:=by simp
        rw [e1,e2] at z3
        have:=z3.map (·.1)
        rw [hdm] at this
        exact this
      have hinj:∀ x ∈ l.lv,∀ y ∈ l.lv,l.nu x = l.nu y → x = y:=by
        intro x hx y hy e
        obtain ⟨i,hi,rfl⟩:=List.getElem_of_mem (hp.mem_iff.2 hx)
        obtain ⟨k,hk,rfl⟩:=List.getElem_of_mem (hp.mem_iff.2 hy)
        have pw:=List.pairwise_iff_getElem.1 ha
        rcases Nat.lt_trichotomy i k with o | o | o
        · have:=pw i k hi hk o; omega
        · subst o; rfl
        · have:=pw k i hk hi o; omega
      have hasc:(d'.toList.map (·.1)).Pairwise (fun x y=>l.nu x < l.nu y):=by
        rw [List.pairwise_iff_getElem]
        intro i k hi hk hik
        have hi':i < d'.size:=by simpa using hi
        have hk':k < d'.size:=by simpa using hk
        have z5:=z4 i k (Nat.zero_le _) hik (by omega)
        rw [getElem!_pos d' i hi',getElem!_pos d' k hk',lte] at z5
        have z6:¬ l.nu (d'[k]).1 < l.nu (d'[i]).1:=of_decide_eq_false z5
        have e1:(d'.toList.map (·.1))[i] = (d'[i]).1:=by simp
        have e2:(d'.toList.map (·.1))[k] = (d'[k]).1:=by simp
        rw [e1,e2]
        have nd2:=hperm.nodup_iff.2 h.nd
        have z7:l.nu (d'[i]).1 ≠ l.nu (d'[k]).1:=by
          intro e
          have e3:=hinj _ (d'[i]).2 _ (d'[k]).2 e
          rw [← e1,← e2] at e3
          have:=nd_inj nd2 hi hk e3
          omega
        omega
      have hxs:=perm_asc l.nu xs _ (hp.trans hperm.symm) ha hasc
      subst hxs
      have ho:=fun p=>Lg.ord_objs (l:=l) hperm p
      have hnb:∀ p ∈ (Lb,Obj.cells (l.cs (.slice (some ⟨g,0,none⟩) l.lv.length cap)) 128) :: (l.G,Obj.cells l.row 28) :: (l.objs ++ rest),p.1 ≠ g:=by
        intro p hp
        by_cases hrr:p ∈ rest
        · exact fun e=>h.ap (g,Obj.cells cur 3) (by simp) p hrr e.symm
        · refine h.dv.ne (p:=p) (r:=(g,Obj.cells cur 3)) ?_ (by simp) ?_
          · simp only [List.mem_cons,List.mem_append] at hp ⊢
            rcases hp with hp | hp | hp | hp <;> simp [hp]
          · simp only [List.mem_cons,List.mem_append] at hp
            rcases hp with rfl | rfl | hp | hp
            · exact cells_ne (by decide)
            · exact cells_ne (by decide)
            · obtain ⟨c2,hc2⟩:=l.objs_ty p hp
              rw [hc2]; exact cells_ne (by decide)
            · exact absurd hp hrr
      have s1:=(h.dv.forget (oth':=(g,Obj.cells cur 3) :: (Lb,Obj.cells (l.cs (.slice (some ⟨g,0,none⟩) l.lv.length cap)) 128) :: (l.G,Obj.cells l.row 28) :: (l.objs ++ rest)) (by
        intro p hp
        simp only [List.mem_cons,List.mem_append] at hp ⊢
        rcases hp with hp | hp | hp | hp | hp <;> simp [hp])).off hnb (putE_off0 enc g W z d') (putE_heap enc d' hg) (F.apart_of (by decide))
      have hll2:(d'.toList.map (·.1)).length = l.lv.length:=hperm.length_eq
      refine ⟨rfl,[(g,.cells (putCells enc 0 d' cur) 3)],⟨h.ok.p0,h.ok.p1,h.ok.n0,h.ok.n1,fun k hk=>h.ok.lt k (hperm.mem_iff.1 hk),?_,fun k hk=>h.ok.at1 k (hperm.mem_iff.1 hk),h.ok.c,h.ok.j⟩,?_,?_,h.md,?_,hperm.nodup_iff.2 h.nd,?_,?_,h.h5⟩
      · show (d'.toList.map (·.1)).length ≤ l.ns
        have:=h.ok.ln
        omega
      · refine Or.inr ⟨g,cap,_,?_,rfl,?_,h2,by simp [putCells,h3],?_⟩
        · show _ = Value.slice _ (d'.toList.map (·.1)).length cap
          rw [hll2,← hds]
        · show (d'.toList.map (·.1)).length ≤ cap
          omega
        · show List.take (d'.toList.map (·.1)).length _ = (d'.toList.map (·.1)).map nv
          have e1:(d'.toList.map (·.1)).length = d'.size:=by simp
          rw [e1,putE_take enc cur d' (by omega),List.map_map]
          rfl
      · rw [← hds] at s1
        refine s1.forget ?_
        intro p hp
        simp only [List.mem_cons,List.mem_append] at hp ⊢
        rcases hp with hp | hp | hp | hp | hp
        · right; left; rw [hds]; rw [hds] at hp; exact hp
        · right; right; left; exact hp
        · rcases hp with hp | hp
          · left; exact hp
          · cases hp
        · right; right; right; left; exact (ho p).1 hp
        · simp [hp]
      · intro k hk
        show k ∈ d'.toList.map (·.1) ↔ _
        rw [hperm.mem_iff]
        exact h.pn k hk
      · intro k hk k2 hk2 e
        exact h.inj k (hperm.mem_iff.1 hk) k2 (hperm.mem_iff.1 hk2) e
      · intro p hp r hr
        simp only [List.mem_cons,List.mem_append] at hp
        rcases hp with rfl | rfl | hp | hp
        · exact h.ap (Lb,Obj.cells (l.cs (.slice (some ⟨g,0,none⟩) l.lv.length cap)) 128) (by simp) r hr
        · exact h.ap (l.G,Obj.cells l.row 28) (by simp) r hr
        · rcases hp with rfl | hp
          · exact h.ap (g,Obj.cells cur 3) (by simp) r hr
          · cases hp
        · exact h.ap p (by simp [(ho p).1 hp]) r hr
set_option maxHeartbeats 1000000 in
set_option maxRecDepth 100000 in
theorem sort_any (h:LgI T w L q n Lb l v ol rest now su c W) (hl:l.lv.length ≤ 19) (X:Nat) (hX:(X,Obj.cells #[.pointer (some ⟨Lb,0,none⟩)] 62) ∈ rest) (xs:List Nat) (hp:xs.Perm l.lv) (ha:xs.Pairwise (fun x y=>l.nu x < l.nu y)) :
    Calls Tryz.prog 115 #[v,.func (.func 116) #[] #[.pointer (some ⟨X,0,none⟩)]] W fun e w'=>e = .returned (.tuple #[]) ∧ ∃ ol',LgI T w L q n Lb (l.ord xs) v ol' rest now su c w':=by
  have hins:=ins_any h hl X hX xs hp ha
  obtain ⟨ao,cp,hv⟩:=h.pl.len
  have HV:Hid (v = .slice ao l.lv.length cp):=hv
  rw [hv] at hins
  generalize hk:l.lv.length = k at *
  have h20:¬ (20:Int) ≤ (k:Int):=by omega
  have h21:¬ (20:Int) < (k:Int):=by omega
  clear h hp ha hX hk
  have hst:Calls Tryz.prog 143 #[.slice ao k cp,.int .i64 (k:Nat),.func (.func 116) #[] #[.pointer (some ⟨X,0,none⟩)]] W fun e w'=>e = .returned (.tuple #[]) ∧ ∃ ol',LgI T w L q n Lb (l.ord xs) (.slice ao k cp) ol' rest now su c w':=by
    clear HV hv
    go_enter Tryz.func143,Tryz.ntmps143
    go_wp2_with fail
    refine wp_loop_rounds 1 ?_
    rw [rounds_succ]
    go_wp2_with fail
    go_call hins as e w1 ⟨rfl,h1⟩
    have H1:Hid _:=h1
    clear h1 hins
    go_wp2_with fail
    refine wp_loop_rounds 1 ?_
    rw [rounds_succ]
    go_wp2_with fail
    go_end0
    exact ⟨rfl,H1.out⟩
  rw [hv]
  clear hins HV hv
  go_enter Tryz.func115,Tryz.ntmps115
  go_wp2_with fail
  go_call hst as e w1 ⟨rfl,h1⟩
  have H1:Hid _:=h1
  clear h1 hst
  go_wp2_with fail
  go_end0
  exact ⟨rfl,H1.out⟩
end
end Go.Proofs.YtncfbocbigdhiaaGreat.U

/- The groups of a live segment, as a call. -/
namespace Go.Proofs.YtncfbocbigdhiaaGreat.U
open Go Go.RowKit Go.Sort
section
variable {T:Nat} {w:World} {L:F.Loc} {q:Int} {n Lb:Nat} {l:Lg} {v:Value} {ol rest:List (Nat × Obj)} {now su:Nat → ByteArray} {c:Int} {W W':World}
theorem LgI.scan (h:LgI T w L q n Lb l v ol rest now su c W) (i S:Nat) (hi:i ∈ l.lv) (hS:l.pt i = some S) (hfit:1 + i * l.p + l.p ≤ n) (hn1:n ≤ 1000) (hnu:l.nu i < 18446744073709551616) (hc:c ≤ 4000000) (hk:∀ j,j < n → Ksec (now j)) {gs:List (Nat × ByteArray)} {e:Nat} (hep:e ≤ l.p) (hch:Chn now (l.sg i) gs e) (he:Ends now n (l.sg i) e) :
    Calls Tryz.prog 59 #[.pointer (some ⟨S,0,none⟩)] W fun r W'=>∃ pv ol2,r = .returned pv ∧ Plc pv (gs.map Prod.fst) ol2 ∧ LgI T w L q n Lb (l.to i e) v ol (ol2 ++ rest) now su (c + 66 * gs.length + 66) W':=by
  obtain ⟨oth,hoth⟩:∃ oth,oth = (Lb,Obj.cells (l.cs v) 128) :: (l.G,Obj.cells l.row 28) :: (ol ++ ((l.lv.filter (fun k=>decide (k ≠ i))).map (fun k=>((l.pt k).getD 0,Obj.cells (l.sg k).cs 44)) ++ rest)):=⟨_,rfl⟩
  have hSm:(S,Obj.cells (l.sg i).cs 44) ∈ l.objs:=by
    unfold Lg.objs
    exact List.mem_map.2 ⟨i,hi,by rw [hS]; rfl⟩
  have hsub:∀ p ∈ oth,p ∈ (Lb,Obj.cells (l.cs v) 128) :: (l.G,Obj.cells l.row 28) :: (ol ++ (l.objs ++ rest)):=by
    intro p hp
    rw [hoth] at hp
    simp only [List.mem_cons,List.mem_append] at hp ⊢
    rcases hp with hp | hp | hp | hp | hp
    · simp [hp]
    · simp [hp]
    · simp [hp]
    · obtain ⟨k2,h1,h2⟩:=List.mem_map.1 hp
      have:=(List.mem_filter.1 h1).1
      right; right; right; left
      unfold Lg.objs
      exact List.mem_map.2 ⟨k2,this,h2⟩
    · simp [hp]
  have hSall:(S,Obj.cells (l.sg i).cs 44) ∈ (Lb,Obj.cells (l.cs v) 128) :: (l.G,Obj.cells l.row 28) :: (ol ++ (l.objs ++ rest)):=by simp [hSm]
  have hne:∀ p ∈ oth,p.1 ≠ S:=by
    intro p hp
    have hp2:=hsub p hp
    rw [hoth] at hp
    simp only [List.mem_cons,List.mem_append] at hp
    rcases hp with rfl | rfl | hp | hp | hp
    · exact h.dv.ne hp2 hSall (cells_ne (by decide))
    · exact h.dv.ne hp2 hSall (cells_ne (by decide))
    · obtain ⟨c',hc'⟩:=Plc.ty h.pl p hp
      exact h.dv.ne hp2 hSall (by rw [hc']; exact cells_ne (by decide))
    · obtain ⟨k2,h1,rfl⟩:=List.mem_map.1 hp
      obtain ⟨h3,h4⟩:=List.mem_filter.1 h1
      have h5:k2 ≠ i:=by simpa using h4
      obtain ⟨S2,s1,_⟩:=h.lz.s k2 h3
      show (l.pt k2).getD 0 ≠ S
      rw [s1]
      intro e
      exact h5 (h.inj k2 h3 i hi (by rw [s1,hS]; exact congrArg some e))
    · exact fun e=>h.ap (S,Obj.cells (l.sg i).cs 44) (by simp [hSm]) p hp e.symm
  have h5:∀ p ∈ oth,∀ c fz,p.2 ≠ .cells c 5 fz:=by
    intro p hp
    rw [hoth] at hp
    simp only [List.mem_cons,List.mem_append] at hp
    rcases hp with rfl | rfl | hp | hp | hp
    · exact fun _ _=>cells_ne2 (by decide)
    · exact fun _ _=>cells_ne2 (by decide)
    · obtain ⟨c',hc'⟩:=Plc.ty h.pl p hp
      rw [hc']; exact fun _ _=>cells_ne2 (by decide)
    · obtain ⟨k2,h1,rfl⟩:=List.mem_map.1 hp
      exact fun _ _=>cells_ne2 (by decide)
    · exact h.h5 p hp
  have hd:=h.dv.forget (oth':=(S,.cells (l.sg i).cs 44) :: oth) (by
    intro p hp
    rcases List.mem_cons.1 hp with rfl | hp
    · exact hSall
    · exact hsub p hp)
  have hil:=h.ok.lt i hi
  have hat:=h.ok.at1 i hi
  have hb:1 + i * l.p ≤ 10000:=by omega
  have hp0:=h.ok.p0
  refine (dev_scan (l.sg i) hd (by rw [hoth]; simp [Lg.sg,h.md]) h5 hne ⟨h.ok.c,h.ok.j,hnu⟩ ⟨hb,by show 1 ≤ l.p; omega,h.ok.p1⟩ hfit hn1 hc hk hch he).mono ?_
  rintro r w' ⟨pv,ol2,rfl,hpl,hd2,ha2⟩
  have hty2:=Plc.ty hpl
  have hmem:∀ p ∈ ol2,∀ r ∈ (Lb,Obj.cells (l.cs v) 128) :: (l.G,Obj.cells l.row 28) :: (ol ++ ((l.to i e).objs ++ rest)),p.1 ≠ r.1:=by
    intro p hp r hr
    simp only [List.mem_cons,List.mem_append] at hr
    rcases hr with rfl | rfl | hr | hr | hr
    · exact ha2 p hp _ (List.mem_cons_of_mem _ (by rw [hoth]; simp))
    · exact ha2 p hp (l.G,Obj.cells l.row 28) (List.mem_cons_of_mem _ (by rw [hoth]; simp))
    · exact ha2 p hp r (List.mem_cons_of_mem _ (by rw [hoth]; simp [hr]))
    · rcases Lg.to_mem hr with rfl | ⟨k2,h1,h2,rfl⟩
      · show p.1 ≠ (l.pt i).getD 0
        rw [hS]
        exact ha2 p hp _ (List.mem_cons_self ..)
      · refine ha2 p hp ((l.pt k2).getD 0,Obj.cells (l.sg k2).cs 44) (List.mem_cons_of_mem _ ?_)
        rw [hoth]
        simp only [List.mem_cons,List.mem_append]
        right; right; right; left
        exact List.mem_map.2 ⟨k2,List.mem_filter.2 ⟨h1,by simpa using h2⟩,rfl⟩
    · exact ha2 p hp r (List.mem_cons_of_mem _ (by rw [hoth]; simp [hr]))
  have hlt:=hch.lt
  refine ⟨pv,ol2,rfl,hpl,⟨h.ok.p0,h.ok.p1,h.ok.n0,h.ok.n1,h.ok.lt,h.ok.ln,fun k2 hk2=>?_,h.ok.c,h.ok.j⟩,h.pl,hd2.forget ?_,List.mem_append_right _ h.md,h.pn,h.nd,h.inj,?_,?_⟩
  · show 1 ≤ (if k2 = i then e else l.a k2) ∧ (if k2 = i then e else l.a k2) ≤ l.p
    by_cases e2:k2 = i
    · rw [if_pos e2]; exact ⟨hlt.1,hep⟩
    · rw [if_neg e2]; exact h.ok.at1 k2 hk2
  · intro p hp
    rw [hoth]
    simp only [List.mem_cons,List.mem_append] at hp ⊢
    rcases hp with hp | hp | hp | hp | hp | hp
    · right; right; left; exact hp
    · right; right; right; left; exact hp
    · simp [hp]
    · rcases Lg.to_mem hp with rfl | ⟨k2,h1,h2,rfl⟩
      · right; left
        rw [hS]; rfl
      · right; right; right; right; right; left
        exact List.mem_map.2 ⟨k2,List.mem_filter.2 ⟨h1,by simpa using h2⟩,rfl⟩
    · simp [hp]
    · simp [hp]
  · intro p hp r hr
    rcases List.mem_append.1 hr with hr | hr
    · intro e2
      refine hmem r hr p ?_ e2.symm
      simp only [List.mem_cons,List.mem_append] at hp ⊢
      rcases hp with hp | hp | hp | hp
      · left; exact hp
      · right; left; exact hp
      · simp [hp]
      · simp [hp]
    · simp only [List.mem_cons,List.mem_append] at hp
      rcases hp with rfl | rfl | hp | hp
      · exact h.ap (Lb,Obj.cells (l.cs v) 128) (by simp) r hr
      · exact h.ap (l.G,Obj.cells l.row 28) (by simp) r hr
      · exact h.ap p (by simp [hp]) r hr
      · rcases Lg.to_mem hp with rfl | ⟨k2,h1,h2,rfl⟩
        · show (l.pt i).getD 0 ≠ r.1
          rw [hS]
          exact h.ap (S,Obj.cells (l.sg i).cs 44) (by simp [hSm]) r hr
        · refine h.ap ((l.pt k2).getD 0,Obj.cells (l.sg k2).cs 44) ?_ r hr
          simp only [List.mem_cons,List.mem_append]
          right; right; right
          unfold Lg.objs
          exact List.mem_map.2 ⟨k2,h1,rfl⟩
  · intro p hp
    rcases List.mem_append.1 hp with hp | hp
    · obtain ⟨c',hc'⟩:=hty2 p hp
      rw [hc']; exact fun _ _=>cells_ne2 (by decide)
    · exact h.h5 p hp
theorem clone_any {xs:List Nat} (h:Plc v xs ol) (ho:∀ p ∈ ol,W.heap[p.1]? = some p.2) (hl:xs.length ≤ 1001):Calls Tryz.prog 90 #[v] W fun e w'=>∃ v',e = .returned v' ∧ w'.ownsRow W.heap.size 3 1 v' xs.length (xs.map nv) ∧ Below W.heap.size W w':=by
  rcases h with ⟨rfl,e,_⟩ | ⟨g,cap,cur,rfl,rfl,h1,h2,h3,h4⟩
  · refine (Tryz.slices_Clone_int_nil 0 0 W).mono ?_
    rintro er w' ⟨rfl,rfl⟩
    rw [e]
    exact ⟨_,rfl,⟨rfl,Or.inl ⟨rfl,rfl⟩⟩,Below.refl _ _⟩
  · have hg:=ho (g,.cells cur 3) (List.mem_singleton.2 rfl)
    have hh:=holds_row hg h4
    refine (Tryz.slices_Clone_int g 0 xs.length cap (xs.map (fun x:Nat=>(x:Int))) W (by simp) (by omega) (fun j hj=>?_)).mono ?_
    · have:=(hh j (by simpa using hj)).1
      rw [this]
      have hj':j < xs.length:=by simpa using hj
      simp [hj']
    · rintro er w' ⟨v',rfl,h5,_,h6⟩
      refine ⟨v',rfl,?_,h6⟩
      rw [List.take_of_length_le (by simp),List.map_map] at h5
      exact h5
end
end Go.Proofs.YtncfbocbigdhiaaGreat.U
