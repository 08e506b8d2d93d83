/- A segment's Commit of a payload, as a call. -/
import Derived.Test.YtncfbocbigdhiaaGreatQG
namespace Go.Proofs.YtncfbocbigdhiaaGreat
open Go.RowKit
structure CP (w8:World) (x:ByteArray) (C:Nat) (cs:Array Value) (done:Nat → Bool) (W:World):Prop where
  a:done 17 = false → W = w8
  b:done 17 = true → done 20 = false → W = w8.alloc (.cells #[.string x] 9)
  c:done 20 = true → Off C (w8.alloc (.cells #[.string x] 9)) W ∧ W.heap[C]? = some (.cells cs 55)
  o:done 17 = false → done 20 = false
section
variable {w8:World} {x:ByteArray} {C:Nat} {cs:Array Value} {done:Nat → Bool} {W:World}
theorem CP.pure (h:CP w8 x C cs done W) (i:Nat) (hi:i ≠ 17 ∧ i ≠ 20):CP w8 x C cs (F.updB done i) W:=by
  have e1:F.updB done i 17 = done 17:=if_neg (Ne.symm hi.1)
  have e2:F.updB done i 20 = done 20:=if_neg (Ne.symm hi.2)
  exact ⟨by rw [e1]; exact h.a,by rw [e1,e2]; exact h.b,by rw [e2]; exact h.c,by rw [e1,e2]; exact h.o⟩
theorem CP.made (h:CP w8 x C cs done W) (h1:done 17 = false):CP w8 x C cs (F.updB done 17) (w8.alloc (.cells #[.string x] 9)):=by
  have e1:F.updB done 17 17 = true:=if_pos rfl
  have e2:F.updB done 17 20 = done 20:=if_neg (by decide)
  exact ⟨by rw [e1]; exact (fun e=>by cases e),fun _ _=>rfl,by rw [e2,h.o h1]; exact (fun e=>by cases e),by rw [e1]; exact (fun e=>by cases e)⟩
theorem CP.stored (h1:done 17 = true) {W':World} (ho:Off C (w8.alloc (.cells #[.string x] 9)) W') (hc:W'.heap[C]? = some (.cells cs 55)):CP w8 x C cs (F.updB done 20) W':=by
  have e1:F.updB done 20 17 = done 17:=if_neg (by decide)
  have e2:F.updB done 20 20 = true:=if_pos rfl
  exact ⟨by rw [e1,h1]; exact (fun e=>by cases e),by rw [e2]; exact (fun _ e=>by cases e),fun _=>⟨ho,hc⟩,by rw [e1,h1]; exact (fun e=>by cases e)⟩
theorem CP.cell (h:CP w8 x C cs done W) {b o:Nat} {v:Value} (hv:w8.cell? ⟨b,o,none⟩ = some v) (hb:b ≠ C):W.cell? ⟨b,o,none⟩ = some v:=by
  have hlt:=World.block_lt_of_cell? w8 _ hv
  cases h6:done 17 with
  | false=>rw [h.a h6]; exact hv
  | true=>
    cases h7:done 20 with
    | false=>rw [h.b h6 h7,World.cell?_alloc_past _ _ _ hlt]; exact hv
    | true=>rw [World.cell?_of_block ((h.c h7).1.block b hb),World.cell?_alloc_past _ _ _ hlt]; exact hv
end
def V56 (B c j n a:Nat) (x:ByteArray) (w8:World):Nat → Value → Prop
  | 0,v=>v = .pointer (some ⟨B,0,none⟩)
  | 1,v=>v = .pointer (some ⟨B,0,none⟩)
  | 2,v=>v = .pointer (some ⟨B,1,none⟩)
  | 3,v=>v = .int .u64 (c:Nat)
  | 4,v=>v = .pointer (some ⟨B,0,none⟩)
  | 5,v=>v = .pointer (some ⟨B,0,none⟩)
  | 6,v=>v = .pointer (some ⟨B,2,none⟩)
  | 7,v=>v = .int .u64 (j:Nat)
  | 8,v=>v = .pointer (some ⟨B,0,none⟩)
  | 9,v=>v = .pointer (some ⟨B,0,none⟩)
  | 10,v=>v = .pointer (some ⟨B,3,none⟩)
  | 11,v=>v = .int .u64 (n:Nat)
  | 12,v=>v = .int .i64 (a:Nat)
  | 13,v=>v = .string x
  | 14,v=>v = .int .i64 (x.size:Nat)
  | 15,v=>v = .int .i64 ((x.size / 63:Nat):Int)
  | 16,v=>v = .string x
  | 17,v=>v = .slice (some ⟨w8.heap.size,0,none⟩) 1 1
  | 18,v=>v = .int .u32 (sm x:Nat)
  | 19,v=>v = .agg (Cm.mk c j n a (x.size / 63) (sm x)).cs
  | _,_=>True
set_option maxHeartbeats 2000000 in
set_option maxRecDepth 100000 in
theorem commit_any (s:Sg) (B:Nat) (a:Nat) (x:ByteArray) (hx:x.size ≤ 100000) (w:World) (h:w.heap[B]? = some (.cells s.cs 44)) :
    Calls Tryz.prog 56 #[.pointer (some ⟨B,0,none⟩),.int .i64 (a:Nat),.string x] w fun e w'=>e = .returned (.agg (s.cm a x).cs) ∧ Below w.heap.size w w':=by
  obtain ⟨M,c,j,n,b,p,at0⟩:=s
  show Calls Tryz.prog 56 #[.pointer (some ⟨B,0,none⟩),.int .i64 (a:Nat),.string x] w fun e w'=>e = .returned (.agg (Cm.mk c j n a (x.size / 63) (sm x)).cs) ∧ Below w.heap.size w w'
  have lB:B < w.heap.size:=(Array.getElem?_eq_some_iff.1 h).1
  have hb0:Below w.heap.size w (w.alloc (.cells #[.int .u64 0,.int .u64 0,.int .u64 0,.int .i64 0,.int .i64 0,.int .u32 0] 55)):=Below.alloc (Below.refl _ _) (Nat.le_refl _) _
  obtain ⟨w8,hw8⟩:∃ w8,w8 = (w.alloc (.cells #[.int .u64 0,.int .u64 0,.int .u64 0,.int .i64 0,.int .i64 0,.int .u32 0] 55)).drew:=⟨_,rfl⟩
  have hb8:Below w.heap.size w w8:=by rw [hw8]; exact hb0.drew
  have h8:w8.heap[B]? = some (.cells (Sg.mk M c j n b p at0).cs 44):=(hb8.block B lB).trans h
  have hC:w8.heap[w.heap.size]? = some (.cells #[.int .u64 0,.int .u64 0,.int .u64 0,.int .i64 0,.int .i64 0,.int .u32 0] 55):=by rw [hw8]; exact F.heap_new _ _
  have c1:w8.cell? ⟨B,1,none⟩ = some (.int .u64 (c:Nat)):=F.cell_of h8 1
  have c2:w8.cell? ⟨B,2,none⟩ = some (.int .u64 (j:Nat)):=F.cell_of h8 2
  have c3:w8.cell? ⟨B,3,none⟩ = some (.int .u64 (n:Nat)):=F.cell_of h8 3
  have hne:B ≠ w.heap.size:=by omega
  have hqx:((x.size:Nat):Int).tdiv 63 = ((x.size / 63:Nat):Int):=by rw [Int.tdiv_eq_ediv_of_nonneg (by omega)]; rfl
  have lC:w.heap.size < w8.heap.size:=(Array.getElem?_eq_some_iff.1 hC).1
  have HW8:Hid _:=hw8
  have HB8:Hid _:=hb8
  have HC:Hid _:=hC
  have HLC:Hid _:=lC
  clear h h8 hb0 hb8 hC lB hw8 lC
  go_enter Tryz.func56,Tryz.ntmps56
  go_wp2
  refine F.wp_region_pb (fun f=>⟨#[.pointer (some ⟨B,0,none⟩),.int .i64 (a:Nat),.string x,undef,undef,undef,.pointer (some ⟨w.heap.size,0,none⟩),f 0,f 1,f 2,f 3,f 4,f 5,f 6,f 7,f 8,f 9,f 10,f 11,f 12,f 13,f 14,f 15,f 16,f 17,f 18,f 19],[]⟩) (V56 B c j n a x w8) (fun done _ W=>CP w8 x w.heap.size (Cm.mk c j n a (x.size / 63) (sm x)).cs done W) (fun i=>[undef,undef,undef,undef,undef,undef,undef,undef,undef,undef,undef,undef,undef,undef,undef,undef,undef,undef,undef,undef,undef].getD i undef) (by kernel_rfl) rfl rfl ?hIk ?hputk ?stepk ?fink
  case hIk=>exact ⟨fun _=>HW8.out.symm,(fun e=>by cases e),(fun e=>by cases e),fun _=>rfl⟩
  case fink=>
    intro f W hP hV
    replace hP:CP w8 x w.heap.size (Cm.mk c j n a (x.size / 63) (sm x)).cs (fun i=>decide (i < 21)) W:=hP
    obtain ⟨hof,hcs⟩:=hP.c rfl
    have HF:Hid (Below w.heap.size w W):=hof.below (HB8.out.trans (Below.alloc (Below.refl _ _) (by have:=HLC.out; omega) _)) (Nat.le_refl _)
    have HCS:Hid _:=hcs
    clear hP hV hof hcs
    go_wp2
    refine bodyPost_ret (pret1 Tryz.results56 _ _ w.heap.size _ (Cm.cs_size _) rfl HCS.out) rfl ⟨rfl,HF.out⟩
  case hputk=>
    repeat (refine ⟨fun f v=>rfl,?_⟩)
    trivial
  case stepk=>
    refine ⟨?_,?_⟩
    · intro done f W hP hdn hd K hK
      clear hd
      replace hP:CP w8 x w.heap.size (Cm.mk c j n a (x.size / 63) (sm x)).cs done W:=hP
      go_simp
      exact hK _ _ rfl (hP.pure _ (by decide))
    refine ⟨?_,?_⟩
    · intro done f W hP hdn hd K hK
      have d0:=(hd.1 rfl).2
      have e0:done 0 = true:=(hd.1 rfl).1
      clear hd
      replace d0:f 0 = .pointer (some ⟨B,0,none⟩):=d0
      replace hP:CP w8 x w.heap.size (Cm.mk c j n a (x.size / 63) (sm x)).cs done W:=hP
      generalize f 0 = x0 at *
      subst d0
      clear e0
      go_simp
      exact hK _ _ rfl (hP.pure _ (by decide))
    refine ⟨?_,?_⟩
    · intro done f W hP hdn hd K hK
      have d1:=(hd.1 rfl).2
      have e1:done 1 = true:=(hd.1 rfl).1
      clear hd
      replace d1:f 1 = .pointer (some ⟨B,0,none⟩):=d1
      replace hP:CP w8 x w.heap.size (Cm.mk c j n a (x.size / 63) (sm x)).cs done W:=hP
      generalize f 1 = x1 at *
      subst d1
      clear e1
      go_simp
      exact hK _ _ rfl (hP.pure _ (by decide))
    refine ⟨?_,?_⟩
    · intro done f W hP hdn hd K hK
      have d2:=(hd.1 rfl).2
      have e2:done 2 = true:=(hd.1 rfl).1
      clear hd
      replace d2:f 2 = .pointer (some ⟨B,1,none⟩):=d2
      replace hP:CP w8 x w.heap.size (Cm.mk c j n a (x.size / 63) (sm x)).cs done W:=hP
      generalize f 2 = x2 at *
      subst d2
      clear e2
      have q1:=hP.cell c1 hne
      have q2:=hP.cell c2 hne
      have q3:=hP.cell c3 hne
      go_simp
      exact hK _ _ rfl (hP.pure _ (by decide))
    refine ⟨?_,?_⟩
    · intro done f W hP hdn hd K hK
      clear hd
      replace hP:CP w8 x w.heap.size (Cm.mk c j n a (x.size / 63) (sm x)).cs done W:=hP
      go_simp
      exact hK _ _ rfl (hP.pure _ (by decide))
    refine ⟨?_,?_⟩
    · intro done f W hP hdn hd K hK
      have d4:=(hd.1 rfl).2
      have e4:done 4 = true:=(hd.1 rfl).1
      clear hd
      replace d4:f 4 = .pointer (some ⟨B,0,none⟩):=d4
      replace hP:CP w8 x w.heap.size (Cm.mk c j n a (x.size / 63) (sm x)).cs done W:=hP
      generalize f 4 = x4 at *
      subst d4
      clear e4
      go_simp
      exact hK _ _ rfl (hP.pure _ (by decide))
    refine ⟨?_,?_⟩
    · intro done f W hP hdn hd K hK
      have d5:=(hd.1 rfl).2
      have e5:done 5 = true:=(hd.1 rfl).1
      clear hd
      replace d5:f 5 = .pointer (some ⟨B,0,none⟩):=d5
      replace hP:CP w8 x w.heap.size (Cm.mk c j n a (x.size / 63) (sm x)).cs done W:=hP
      generalize f 5 = x5 at *
      subst d5
      clear e5
      go_simp
      exact hK _ _ rfl (hP.pure _ (by decide))
    refine ⟨?_,?_⟩
    · intro done f W hP hdn hd K hK
      have d6:=(hd.1 rfl).2
      have e6:done 6 = true:=(hd.1 rfl).1
      clear hd
      replace d6:f 6 = .pointer (some ⟨B,2,none⟩):=d6
      replace hP:CP w8 x w.heap.size (Cm.mk c j n a (x.size / 63) (sm x)).cs done W:=hP
      generalize f 6 = x6 at *
      subst d6
      clear e6
      have q1:=hP.cell c1 hne
      have q2:=hP.cell c2 hne
      have q3:=hP.cell c3 hne
      go_simp
      exact hK _ _ rfl (hP.pure _ (by decide))
    refine ⟨?_,?_⟩
    · intro done f W hP hdn hd K hK
      clear hd
      replace hP:CP w8 x w.heap.size (Cm.mk c j n a (x.size / 63) (sm x)).cs done W:=hP
      go_simp
      exact hK _ _ rfl (hP.pure _ (by decide))
    refine ⟨?_,?_⟩
    · intro done f W hP hdn hd K hK
      have d8:=(hd.1 rfl).2
      have e8:done 8 = true:=(hd.1 rfl).1
      clear hd
      replace d8:f 8 = .pointer (some ⟨B,0,none⟩):=d8
      replace hP:CP w8 x w.heap.size (Cm.mk c j n a (x.size / 63) (sm x)).cs done W:=hP
      generalize f 8 = x8 at *
      subst d8
      clear e8
      go_simp
      exact hK _ _ rfl (hP.pure _ (by decide))
    refine ⟨?_,?_⟩
    · intro done f W hP hdn hd K hK
      have d9:=(hd.1 rfl).2
      have e9:done 9 = true:=(hd.1 rfl).1
      clear hd
      replace d9:f 9 = .pointer (some ⟨B,0,none⟩):=d9
      replace hP:CP w8 x w.heap.size (Cm.mk c j n a (x.size / 63) (sm x)).cs done W:=hP
      generalize f 9 = x9 at *
      subst d9
      clear e9
      go_simp
      exact hK _ _ rfl (hP.pure _ (by decide))
    refine ⟨?_,?_⟩
    · intro done f W hP hdn hd K hK
      have d10:=(hd.1 rfl).2
      have e10:done 10 = true:=(hd.1 rfl).1
      clear hd
      replace d10:f 10 = .pointer (some ⟨B,3,none⟩):=d10
      replace hP:CP w8 x w.heap.size (Cm.mk c j n a (x.size / 63) (sm x)).cs done W:=hP
      generalize f 10 = x10 at *
      subst d10
      clear e10
      have q1:=hP.cell c1 hne
      have q2:=hP.cell c2 hne
      have q3:=hP.cell c3 hne
      go_simp
      exact hK _ _ rfl (hP.pure _ (by decide))
    refine ⟨?_,?_⟩
    · intro done f W hP hdn hd K hK
      clear hd
      replace hP:CP w8 x w.heap.size (Cm.mk c j n a (x.size / 63) (sm x)).cs done W:=hP
      go_simp
      exact hK _ _ rfl (hP.pure _ (by decide))
    refine ⟨?_,?_⟩
    · intro done f W hP hdn hd K hK
      clear hd
      replace hP:CP w8 x w.heap.size (Cm.mk c j n a (x.size / 63) (sm x)).cs done W:=hP
      go_simp
      exact hK _ _ rfl (hP.pure _ (by decide))
    refine ⟨?_,?_⟩
    · intro done f W hP hdn hd K hK
      have d13:=(hd.1 rfl).2
      have e13:done 13 = true:=(hd.1 rfl).1
      clear hd
      replace d13:f 13 = .string x:=d13
      replace hP:CP w8 x w.heap.size (Cm.mk c j n a (x.size / 63) (sm x)).cs done W:=hP
      generalize f 13 = x13 at *
      subst d13
      clear e13
      go_simp
      exact hK _ _ rfl (hP.pure _ (by decide))
    refine ⟨?_,?_⟩
    · intro done f W hP hdn hd K hK
      have d14:=(hd.1 rfl).2
      have e14:done 14 = true:=(hd.1 rfl).1
      clear hd
      replace d14:f 14 = .int .i64 (x.size:Nat):=d14
      replace hP:CP w8 x w.heap.size (Cm.mk c j n a (x.size / 63) (sm x)).cs done W:=hP
      generalize f 14 = x14 at *
      subst d14
      clear e14
      go_simp
      exact hK _ _ (by first | rfl | (show Value.int .i64 _ = Value.int .i64 _; congr 1; rw [IntKind.wrap_i64]; omega)) (hP.pure _ (by decide))
    refine ⟨?_,?_⟩
    · intro done f W hP hdn hd K hK
      clear hd
      replace hP:CP w8 x w.heap.size (Cm.mk c j n a (x.size / 63) (sm x)).cs done W:=hP
      go_simp
      exact hK _ _ rfl (hP.pure _ (by decide))
    refine ⟨?_,?_⟩
    · intro done f W hP hdn hd K hK
      have d16:=(hd.1 rfl).2
      have e16:done 16 = true:=(hd.1 rfl).1
      clear hd
      replace d16:f 16 = .string x:=d16
      replace hP:CP w8 x w.heap.size (Cm.mk c j n a (x.size / 63) (sm x)).cs done W:=hP
      generalize f 16 = x16 at *
      subst d16
      clear e16
      have hdn17:done 17 = false:=hdn
      have hw:=hP.a hdn17
      have hm:=hP.made hdn17
      subst hw
      go_simp
      exact hK _ _ rfl hm
    refine ⟨?_,?_⟩
    · intro done f W hP hdn hd K hK
      have d17:=(hd.1 rfl).2
      have e17:done 17 = true:=(hd.1 rfl).1
      clear hd
      replace d17:f 17 = .slice (some ⟨w8.heap.size,0,none⟩) 1 1:=d17
      replace hP:CP w8 x w.heap.size (Cm.mk c j n a (x.size / 63) (sm x)).cs done W:=hP
      generalize f 17 = x17 at *
      subst d17
      have hx3:W.cell? ⟨w8.heap.size,0,none⟩ = some (.string x):=by
        cases h7:done 20 with
        | false=>rw [hP.b e17 h7]; exact F.cell_of (F.heap_new _ _) 0
        | true=>
          rw [World.cell?_of_block ((hP.c h7).1.block w8.heap.size (by have:=HLC.out; omega))]
          exact F.cell_of (F.heap_new _ _) 0
      go_simp
      refine (sum_pay x hx w8.heap.size W hx3).mono ?_
      rintro e W' ⟨rfl,rfl⟩
      exact hK _ _ rfl (hP.pure _ (by decide))
    refine ⟨?_,?_⟩
    · intro done f W hP hdn hd K hK
      have d3:=(hd.1 rfl).2
      have e3:done 3 = true:=(hd.1 rfl).1
      have d7:=(hd.2.1 rfl).2
      have e7:done 7 = true:=(hd.2.1 rfl).1
      have d11:=(hd.2.2.1 rfl).2
      have e11:done 11 = true:=(hd.2.2.1 rfl).1
      have d12:=(hd.2.2.2.1 rfl).2
      have e12:done 12 = true:=(hd.2.2.2.1 rfl).1
      have d15:=(hd.2.2.2.2.1 rfl).2
      have e15:done 15 = true:=(hd.2.2.2.2.1 rfl).1
      have d18:=(hd.2.2.2.2.2.1 rfl).2
      have e18:done 18 = true:=(hd.2.2.2.2.2.1 rfl).1
      clear hd
      replace d3:f 3 = .int .u64 (c:Nat):=d3
      replace d7:f 7 = .int .u64 (j:Nat):=d7
      replace d11:f 11 = .int .u64 (n:Nat):=d11
      replace d12:f 12 = .int .i64 (a:Nat):=d12
      replace d15:f 15 = .int .i64 ((x.size / 63:Nat):Int):=d15
      replace d18:f 18 = .int .u32 (sm x:Nat):=d18
      replace hP:CP w8 x w.heap.size (Cm.mk c j n a (x.size / 63) (sm x)).cs done W:=hP
      generalize f 3 = x3 at *
      subst d3
      clear e3
      generalize f 7 = x7 at *
      subst d7
      clear e7
      generalize f 11 = x11 at *
      subst d11
      clear e11
      generalize f 12 = x12 at *
      subst d12
      clear e12
      generalize f 15 = x15 at *
      subst d15
      clear e15
      generalize f 18 = x18 at *
      subst d18
      clear e18
      go_simp
      exact hK _ _ rfl (hP.pure _ (by decide))
    refine ⟨?_,?_⟩
    · intro done f W hP hdn hd K hK
      have d19:=(hd.1 rfl).2
      have e19:done 19 = true:=(hd.1 rfl).1
      have e17:done 17 = true:=(hd.2.2.2.2.2.2.2.2.2.2.2.2.2.2.2.2.2.2.2.1 rfl).1
      clear hd
      replace d19:f 19 = .agg (Cm.mk c j n a (x.size / 63) (sm x)).cs:=d19
      replace hP:CP w8 x w.heap.size (Cm.mk c j n a (x.size / 63) (sm x)).cs done W:=hP
      generalize f 19 = x19 at *
      subst d19
      clear e19
      have hdn20:done 20 = false:=hdn
      have e17':done 17 = true:=e17
      have hw:=hP.b e17' hdn20
      have hC2:W.heap[w.heap.size]? = some (.cells #[.int .u64 0,.int .u64 0,.int .u64 0,.int .i64 0,.int .i64 0,.int .u32 0] 55):=by rw [hw,Below.heap_alloc _ _ _ HLC.out]; exact HC.out
      refine cst6p _ _ rfl w.heap.size _ rfl rfl rfl rfl hC2 (Cm.cs_one _) (fun W' ho hk=>?_)
      subst hw
      exact hK _ _ trivial (CP.stored e17' ho hk)
    trivial
end Go.Proofs.YtncfbocbigdhiaaGreat
