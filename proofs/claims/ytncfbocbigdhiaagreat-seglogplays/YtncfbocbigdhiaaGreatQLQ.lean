/- Texts of this seat, one behind the other. -/
import Derived.Test.YtncfbocbigdhiaaGreatQLN
/- scan of a log's segment, as a call. -/
namespace Go.Proofs.YtncfbocbigdhiaaGreat.U
open Go Go.RowKit Go.Sort
def V118 (S e:Nat) (pv:Value):Nat → Value → Prop
  | 0,v=>v = pv
  | 2,v=>v = .pointer (some ⟨S,0,none⟩)
  | 3,v=>v = .pointer (some ⟨S,0,none⟩)
  | 4,v=>v = .pointer (some ⟨S,6,none⟩)
  | 5,v=>v = .int .i64 (e:Nat)
  | _,_=>True
structure CPh (B:Nat) (W0:World) (xs:List Nat) (e:Nat) (done:Nat → Bool) (f:Nat → Value) (W:World):Prop where
  b:Below B W0 W
  c1:done 1 = true → done 7 = false → W.ownsRow B 3 1 (f 1) xs.length (xs.map nv)
  c6:done 6 = true → done 7 = false → ∃ b,B ≤ b ∧ f 6 = .slice (some ⟨b,0,none⟩) 1 1 ∧ W.heap[b]? = some (.cells #[nv e] 3)
  c7:done 7 = true → W.ownsRow B 3 1 (f 7) (xs ++ [e]).length ((xs ++ [e]).map nv)
  c8:done 8 = true → f 8 = f 7
  o7:done 7 = true → done 1 = true ∧ done 6 = true
  o8:done 8 = true → done 7 = true
section
variable {B:Nat} {W0:World} {xs:List Nat} {e:Nat} {done:Nat → Bool} {f:Nat → Value} {W W':World}
theorem CPh.pure {j:Nat} {v':Value} (h:CPh B W0 xs e done f W) (h1:1 ≠ j) (h2:6 ≠ j) (h3:7 ≠ j) (h4:8 ≠ j):CPh B W0 xs e (F.updB done j) (F.upd f j v') W:=by
  have e1:F.updB done j 1 = done 1:=if_neg h1
  have e6:F.updB done j 6 = done 6:=if_neg h2
  have e7:F.updB done j 7 = done 7:=if_neg h3
  have e8:F.updB done j 8 = done 8:=if_neg h4
  have f1:F.upd f j v' 1 = f 1:=if_neg h1
  have f6:F.upd f j v' 6 = f 6:=if_neg h2
  have f7:F.upd f j v' 7 = f 7:=if_neg h3
  have f8:F.upd f j v' 8 = f 8:=if_neg h4
  exact ⟨h.b,by rw [e1,e7,f1]; exact h.c1,by rw [e6,e7,f6]; exact h.c6,by rw [e7,f7]; exact h.c7,by rw [e8,f8,f7]; exact h.c8,by rw [e7,e1,e6]; exact h.o7,by rw [e8,e7]; exact h.o8⟩
theorem napp {o:Oper} {a:Act} {K:Act → World → Prop} {Q:Exit → Act → World → Prop} {W:World} (s x:Operand) (ho:o.op = .call { callee:=.builtin .append,args:=#[s,x],argTypes:=#[31,31] }) {T1:Nat} {v:Value} {xs:List Nat} {G t:Nat} (hs:a.eval s = v) (hx:a.eval x = .slice (some ⟨G,0,none⟩) 1 1) (hG:W.heap[G]? = some (.cells #[nv t] 3)) (hown:W.ownsRow T1 3 1 v xs.length (xs.map nv)) (hl:xs.length ≤ 1001) (hT:T1 ≤ W.heap.size)
    (hK:∀ v' W',W'.ownsRow T1 3 1 v' (xs ++ [t]).length ((xs ++ [t]).map nv) → W.grownBy W' v.ownBlock → K (a.put o.dst v') W'):Oper.wp Tryz.prog o a W K Q:=by
  obtain ⟨i,hi,hz,hsz,hby⟩:=info_parts iinfo
  obtain ⟨v',W',hr,r2,r3,r4,r5⟩:=run_append_own_at (P:=Tryz.prog) W T1 31 o.type 3 i (.int .i64 0) 1 8 Tryz.underlying31 hi hz hsz hby (by kernel_rfl) (by decide) v xs.length (xs.map nv) hown ⟨G,0,none⟩ 1 1 [nv t] rfl (fun j u hj=>by
    rcases j with _ | j
    · simp at hj; subst hj
      have:(⟨G,0,none⟩:Addr).add 0 = ⟨G,0,none⟩:=by simp [Addr.add]
      rw [this,F.cell_of hG]; rfl
    · simp at hj) (fun u hu=>by simp at hu; rw [hu]; rfl) (by unfold maxLen; omega) (by omega) hT
  unfold Oper.wp execOp
  simp only [ho,resolve,invoke,builtin,Sem.run_bind,Sem.run_pure,Result.andThen_ok,List.map_toArray,List.map_cons,List.map_nil,hs,hx,hr]
  refine hK v' W' ?_ r3
  rw [List.map_append,List.length_append]
  exact r2
theorem CPh.le (h:CPh B W0 xs e done f W) (hB:B ≤ W0.heap.size):B ≤ W.heap.size:=Nat.le_trans hB h.b.size
theorem CPh.one {v1:Value} (h:CPh B W0 xs e done f W) (hdn:done 1 = false) (ho:W'.ownsRow W.heap.size 3 1 v1 xs.length (xs.map nv)) (hb:Below W.heap.size W W') (hB:B ≤ W0.heap.size):CPh B W0 xs e (F.updB done 1) (F.upd f 1 v1) W':=by
  have h7:done 7 = false:=by
    cases x:done 7 with
    | false=>rfl
    | true=>rw [(h.o7 x).1] at hdn; cases hdn
  have e6:F.updB done 1 6 = done 6:=if_neg (by decide)
  have e7:F.updB done 1 7 = done 7:=if_neg (by decide)
  have e8:F.updB done 1 8 = done 8:=if_neg (by decide)
  have f6:F.upd f 1 v1 6 = f 6:=if_neg (by decide)
  have f7:F.upd f 1 v1 7 = f 7:=if_neg (by decide)
  have f8:F.upd f 1 v1 8 = f 8:=if_neg (by decide)
  have hl:=h.le hB
  refine ⟨h.b.trans (hb.mono hl),fun _ _=>?_,?_,fun x=>(by rw [e7,h7] at x; cases x),by rw [e8,f8,f7]; exact h.c8,fun x=>(by rw [e7,h7] at x; cases x),by rw [e8,e7]; exact h.o8⟩
  · rw [show F.upd f 1 v1 1 = v1 from if_pos rfl]
    exact ⟨ho.1,ho.2.imp id (fun ⟨g,cap,cur,a,b,r⟩=>⟨g,cap,cur,a,Nat.le_trans hl b,r⟩)⟩
  · rw [e6,e7,f6]
    intro a1 a2
    obtain ⟨b,b1,b2,b3⟩:=h.c6 a1 a2
    exact ⟨b,b1,b2,(hb.block b (F.getElem?_lt b3)).trans b3⟩
theorem CPh.two (h:CPh B W0 xs e done f W) (hdn:done 6 = false) (hB:B ≤ W0.heap.size):CPh B W0 xs e (F.updB done 6) (F.upd f 6 (.slice (some ⟨W.heap.size,0,none⟩) 1 1)) (W.alloc (.cells #[nv e] 3)):=by
  have h7:done 7 = false:=by
    cases x:done 7 with
    | false=>rfl
    | true=>rw [(h.o7 x).2] at hdn; cases hdn
  have e1:F.updB done 6 1 = done 1:=if_neg (by decide)
  have e7:F.updB done 6 7 = done 7:=if_neg (by decide)
  have e8:F.updB done 6 8 = done 8:=if_neg (by decide)
  have f1:F.upd f 6 (.slice (some ⟨W.heap.size,0,none⟩) 1 1) 1 = f 1:=if_neg (by decide)
  have f7:F.upd f 6 (.slice (some ⟨W.heap.size,0,none⟩) 1 1) 7 = f 7:=if_neg (by decide)
  have f8:F.upd f 6 (.slice (some ⟨W.heap.size,0,none⟩) 1 1) 8 = f 8:=if_neg (by decide)
  have hl:=h.le hB
  refine ⟨Below.alloc h.b hl _,?_,fun _ _=>⟨W.heap.size,hl,if_pos rfl,F.heap_new _ _⟩,fun x=>(by rw [e7,h7] at x; cases x),by rw [e8,f8,f7]; exact h.c8,fun x=>(by rw [e7,h7] at x; cases x),by rw [e8,e7]; exact h.o8⟩
  rw [e1,e7,f1]
  exact fun a1 a2=>(h.c1 a1 a2).alloc _
theorem CPh.app {v':Value} (h:CPh B W0 xs e done f W) (hdn:done 7 = false) (ho:W'.ownsRow B 3 1 v' (xs ++ [e]).length ((xs ++ [e]).map nv)) (h1:done 1 = true) (h6:done 6 = true) (hg:W.grownBy W' (f 1).ownBlock) (hB:B ≤ W0.heap.size):CPh B W0 xs e (F.updB done 7) (F.upd f 7 v') W':=by
  have h8:done 8 = false:=by
    cases x:done 8 with
    | false=>rfl
    | true=>rw [h.o8 x] at hdn; cases hdn
  have e7:F.updB done 7 7 = true:=if_pos rfl
  have e1:F.updB done 7 1 = done 1:=if_neg (by decide)
  have e6:F.updB done 7 6 = done 6:=if_neg (by decide)
  have e8:F.updB done 7 8 = done 8:=if_neg (by decide)
  have hl:=h.le hB
  have o1:=h.c1 h1 hdn
  refine ⟨h.b.trans ⟨hg.os,hg.tape,hg.output,hg.size,fun k hk=>hg.block k (by omega) (fun e=>?_)⟩,fun _ x=>(by rw [e7] at x; cases x),fun _ x=>(by rw [e7] at x; cases x),fun _=>?_,fun x=>(by rw [e8,h8] at x; cases x),fun _=>by rw [e1,e6]; exact ⟨h1,h6⟩,fun x=>(by rw [e8,h8] at x; cases x)⟩
  · have:=(o1.lt k e.symm).1
    omega
  · rw [show F.upd f 7 v' 7 = v' from if_pos rfl]
    exact ho
theorem CPh.last (h:CPh B W0 xs e done f W) (h7:done 7 = true):CPh B W0 xs e (F.updB done 8) (F.upd f 8 (f 7)) W:=by
  have e1:F.updB done 8 1 = done 1:=if_neg (by decide)
  have e6:F.updB done 8 6 = done 6:=if_neg (by decide)
  have e7:F.updB done 8 7 = done 7:=if_neg (by decide)
  have f7:F.upd f 8 (f 7) 7 = f 7:=if_neg (by decide)
  refine ⟨h.b,fun _ x=>(by rw [e7,h7] at x; cases x),fun _ x=>(by rw [e7,h7] at x; cases x),fun x=>by rw [f7]; exact h.c7 h7,fun _=>by rw [f7]; exact if_pos rfl,by rw [e7,e1,e6]; exact h.o7,fun _=>by rw [e7]; exact h7⟩
theorem CPh.start (hb:Below B W0 W):CPh B W0 xs e (fun _=>false) f W:=⟨hb,(fun x=>by cases x),(fun x=>by cases x),(fun x=>by cases x),(fun x=>by cases x),(fun x=>by cases x),(fun x=>by cases x)⟩
end
section
variable {T:Nat} {w:World} {L:F.Loc} {q:Int} {n Lb:Nat} {l:Lg} {v:Value} {ol rest:List (Nat × Obj)} {now su:Nat → ByteArray} {c:Int} {W W':World}
structure SIv (B:Nat) (w1:World) (A g7 gp k i:Nat) (cur7:Array Value) (P:Nat → Nat) (j:Nat) (W:World):Prop where
  b:Below B w1 W
  c7:W.heap[g7]? = some (.cells cur7 3)
  cp:∀ m,m < k → W.cell? ⟨gp,m,none⟩ = some (.int .i64 (P m:Nat))
  ow:∃ ys,W.ownsRow B 77 3 (.slice (some ⟨A,0,none⟩) k k) k ys ∧ ∀ m,m < j → ys[3 * m]? = some (nv i) ∧ ys[3 * m + 1]? = some (nv (P m)) ∧ ys[3 * m + 2]? = some (.int .i64 ((P (m + 1):Int) - (P m:Int) - 1))
  n7:g7 ≠ A
  np:k = 0 ∨ gp ≠ A
  nb:B ≤ A
theorem SIv.cells {B:Nat} {w1:World} {A g7 gp k i:Nat} {cur7:Array Value} {P:Nat → Nat} {j:Nat} {W:World} (h:SIv B w1 A g7 gp k i cur7 P j W) (hj:j < k) :
    (∃ u,W.cell? ⟨A,j * 3,none⟩ = some u) ∧ (∃ u,W.cell? ⟨A,j * 3 + 1,none⟩ = some u) ∧ (∃ u,W.cell? ⟨A,j * 3 + 2,none⟩ = some u) ∧ W.frozen? ⟨A,j * 3,none⟩ = false ∧ W.frozen? ⟨A,j * 3 + 1,none⟩ = false ∧ W.frozen? ⟨A,j * 3 + 2,none⟩ = false:=by
  obtain ⟨ys,ho,_⟩:=h.ow
  have hl:=ho.1
  refine ⟨⟨ys[j * 3]'(by omega),?_⟩,⟨ys[j * 3 + 1]'(by omega),?_⟩,⟨ys[j * 3 + 2]'(by omega),?_⟩,World.ownsRow.frozenAt ho _,World.ownsRow.frozenAt ho _,World.ownsRow.frozenAt ho _⟩
  · rw [World.ownsRow.cellAt ho _ (by omega)]; exact List.getElem?_eq_getElem (by omega)
  · rw [World.ownsRow.cellAt ho _ (by omega)]; exact List.getElem?_eq_getElem (by omega)
  · rw [World.ownsRow.cellAt ho _ (by omega)]; exact List.getElem?_eq_getElem (by omega)
theorem SIv.store {B:Nat} {w1:World} {A g7 gp k i:Nat} {cur7:Array Value} {P:Nat → Nat} {j:Nat} {W:World} (h:SIv B w1 A g7 gp k i cur7 P j W) (hj:j < k) :
    SIv B w1 A g7 gp k i cur7 P (j + 1) (((W.setCell ⟨A,j * 3,none⟩ (.int .i64 (i:Nat))).setCell ⟨A,j * 3 + 1,none⟩ (.int .i64 (P j:Nat))).setCell ⟨A,j * 3 + 2,none⟩ (.int .i64 ((P (j + 1):Int) - (P j:Int) - 1))):=by
  obtain ⟨ys,ho,hys⟩:=h.ow
  have hl:=ho.1
  obtain ⟨o1,_⟩:=World.ownsRow.stored ho (j * 3) (.int .i64 (i:Nat))
  obtain ⟨o2,_⟩:=World.ownsRow.stored o1 (j * 3 + 1) (.int .i64 (P j:Nat))
  obtain ⟨o3,_⟩:=World.ownsRow.stored o2 (j * 3 + 2) (.int .i64 ((P (j + 1):Int) - (P j:Int) - 1))
  have off:Off A W (((W.setCell ⟨A,j * 3,none⟩ (.int .i64 (i:Nat))).setCell ⟨A,j * 3 + 1,none⟩ (.int .i64 (P j:Nat))).setCell ⟨A,j * 3 + 2,none⟩ (.int .i64 ((P (j + 1):Int) - (P j:Int) - 1))):=(((Off.refl A W).set _ _).set _ _).set _ _
  refine ⟨off.below h.b h.nb,(off.block g7 h.n7).trans h.c7,fun m hm=>?_,⟨_,o3,fun m hm=>?_⟩,h.n7,h.np,h.nb⟩
  · have hc:=h.cp m hm
    have hne:gp ≠ A:=h.np.resolve_left (by omega)
    rw [← hc]
    unfold World.cell?
    rw [off.block gp hne]
  · rcases Nat.lt_or_ge m j with c | c
    · obtain ⟨a,b,d⟩:=hys m c
      refine ⟨?_,?_,?_⟩
      · rw [List.getElem?_set_ne (by omega),List.getElem?_set_ne (by omega),List.getElem?_set_ne (by omega)]; exact a
      · rw [List.getElem?_set_ne (by omega),List.getElem?_set_ne (by omega),List.getElem?_set_ne (by omega)]; exact b
      · rw [List.getElem?_set_ne (by omega),List.getElem?_set_ne (by omega),List.getElem?_set_ne (by omega)]; exact d
    · obtain rfl:m = j:=by omega
      refine ⟨?_,?_,?_⟩
      · rw [Nat.mul_comm 3 m,List.getElem?_set_ne (by omega),List.getElem?_set_ne (by omega),List.getElem?_set_self (by omega)]; rfl
      · rw [Nat.mul_comm 3 m,List.getElem?_set_ne (by omega),List.getElem?_set_self (by simp; omega)]; rfl
      · rw [Nat.mul_comm 3 m,List.getElem?_set_self (by simp; omega)]
theorem info77:(Tryz.prog.info? 77).map (fun i=>(i.zero,i.size,i.bytes)) = some (some (.agg #[.int .i64 0,.int .i64 0,.int .i64 0]),3,24):=by kernel_rfl
set_option maxHeartbeats 4000000 in
set_option maxRecDepth 100000 in
theorem scan_any (h:LgI T w L q n Lb l v ol rest now su c W) (i:Nat) (hi:i ∈ l.lv) (hfit:1 + i * l.p + l.p ≤ n) (hn1:n ≤ 1000) (hnu:l.nu i < 18446744073709551616) (hc:c ≤ 4000000) (hk:∀ j,j < n → Ksec (now j)) {gs:List (Nat × ByteArray)} {e:Nat} (hep:e ≤ l.p) (hgl:gs.length ≤ 64) (hch:Chn now (l.sg i) gs e) (he:Ends now n (l.sg i) e) :
    Calls Tryz.prog 118 #[.pointer (some ⟨Lb,0,none⟩),.int .i64 (i:Nat)] W fun r W'=>∃ A ys,r = .returned (.slice (some ⟨A,0,none⟩) gs.length gs.length) ∧ W'.ownsRow T 77 3 (.slice (some ⟨A,0,none⟩) gs.length gs.length) gs.length ys ∧ (∀ j (hj:j < gs.length),ys[3 * j]? = some (nv i) ∧ ys[3 * j + 1]? = some (nv (gs.map Prod.fst ++ [e])[j]!) ∧ ys[3 * j + 2]? = some (.int .i64 (((gs.map Prod.fst ++ [e])[j + 1]!:Int) - ((gs.map Prod.fst ++ [e])[j]!:Int) - 1))) ∧ LgI T w L q n Lb (l.to i e) v ol rest now su (c + 66 * gs.length + 66) W':=by
  obtain ⟨S,hS,hSc⟩:=h.lz.s i hi
  have hil:=h.ok.lt i hi
  have hn1000:=h.ok.n1
  have hsc:=h.scan i S hi hS hfit hn1 hnu hc hk hep hch he
  have q4:W.cell? ⟨Lb,4,none⟩ = some (.slice (some ⟨l.G,0,none⟩) l.ns l.ns):=F.cell_of h.lz.b 4
  have qg:W.cell? ⟨l.G,i,none⟩ = some (.pointer (some ⟨S,0,none⟩)):=by rw [F.cell_of h.lz.g i,l.row_get i hil,hS]; rfl
  have hilI:(i:Int) < (l.ns:Int):=by omega
  have HI:Hid (i ∈ l.lv ∧ l.pt i = some S ∧ T ≤ W.heap.size):=⟨hi,hS,h.dv.le⟩
  have HMD:Hid ((l.M,F.med L.P 1 q) ∈ rest):=h.md
  have hlt:=hch.lt
  have HLT:Hid (∀ p ∈ gs,1 ≤ p.1 ∧ p.1 < e):=hlt.2
  have HE:Hid (1 ≤ e ∧ e ≤ 64):=⟨hlt.1,by have:=h.ok.p1; omega⟩
  clear h hi hS hSc hfit hn1 hnu hc hk hep hch he hlt
  go_enter Tryz.func118,Tryz.ntmps118
  go_wp2_with fail
  go_call hsc as er w1 ⟨pv,ol2,rfl,hpl,h1⟩
  have hoc:∀ p ∈ ol2,w1.heap[p.1]? = some p.2:=fun p hp=>h1.dv.at' (by simp [hp])
  obtain ⟨xs,hxs⟩:∃ xs,xs = gs.map Prod.fst:=⟨_,rfl⟩
  have HXS:Hid (xs = gs.map Prod.fst):=hxs
  rw [← hxs] at hpl
  have HXL:Hid (xs.length ≤ 1001):=by show _ ≤ _; rw [hxs,List.length_map]; omega
  have hgx:gs.length = xs.length:=by rw [hxs,List.length_map]
  obtain ⟨B,hB⟩:∃ B,B = w1.heap.size:=⟨_,rfl⟩
  have HBS:Hid (B ≤ w1.heap.size):=by rw [hB]; exact Nat.le_refl _
  have hS6:w1.heap[S]? = some (.cells ((l.to i e).sg i).cs 44):=by
    obtain ⟨S',a1,a2⟩:=h1.lz.s i HI.out.1
    have a3:some S = some S':=HI.out.2.1.symm.trans a1
    injection a3 with a3
    rw [a3]; exact a2
  have HS6:Hid (∀ W9,Below B w1 W9 → W9.cell? ⟨S,6,none⟩ = some (.int .i64 (e:Nat))):=fun W9 hb=>by
    rw [F.cell_of ((hb.block S (by rw [hB]; exact F.getElem?_lt hS6)).trans hS6) 6]
    show some (Value.int .i64 (((if i = i then e else l.a i:Nat)):Int)) = _
    rw [if_pos rfl]
  have HCL:Hid (∀ W9,Below B w1 W9 → Calls Tryz.prog 90 #[pv] W9 fun e w'=>∃ v',e = .returned v' ∧ w'.ownsRow W9.heap.size 3 1 v' xs.length (xs.map nv) ∧ Below W9.heap.size W9 w'):=fun W9 hb=>clone_any hpl (fun p hp=>(hb.block _ (by rw [hB]; exact F.getElem?_lt (hoc p hp))).trans (hoc p hp)) HXL.out
  have H1:Hid _:=h1
  have HPV:Hid (Plc pv xs ol2):=hpl
  have HOC:Hid _:=hoc
  have HB1:Hid (B = w1.heap.size):=hB
  clear h1 hsc q4 qg hS6 hpl hoc hxs hB
  go_wp2_with fail
  refine F.wp_region_pb (fun f=>⟨#[.pointer (some ⟨Lb,0,none⟩),.int .i64 (i:Nat),undef,undef,.slice none 0 0,.pointer (some ⟨S,0,none⟩),pv,f 8,undef,undef,undef,.pointer (some ⟨Lb,0,none⟩),.pointer (some ⟨Lb,0,none⟩),.pointer (some ⟨Lb,4,none⟩),.slice (some ⟨l.G,0,none⟩) l.ns l.ns,.int .i64 (i:Nat),.pointer (some ⟨l.G,i,none⟩),.pointer (some ⟨S,0,none⟩),.pointer (some ⟨S,0,none⟩),pv,f 0,f 1,f 2,f 3,f 4,f 5,f 6,f 7,undef,undef,undef,undef,undef,undef,undef,undef,undef,undef,undef,undef,undef,undef,undef,undef,undef,undef,undef,undef,undef,undef,undef,undef,undef,undef],[]⟩) (V118 S e pv) (CPh B w1 xs e) (fun i=>[undef,undef,undef,undef,undef,undef,undef,undef,undef].getD i undef) (by kernel_rfl) rfl rfl ?hIq ?hputq ?stepq ?finq
  case hIq=>exact CPh.start (Below.refl _ _).drew
  case finq=>
    intro f W9 hP hV
    have v0:f 0 = pv:=hV 0 (by decide)
    have v2:f 2 = .pointer (some ⟨S,0,none⟩):=hV 2 (by decide)
    have v3:f 3 = .pointer (some ⟨S,0,none⟩):=hV 3 (by decide)
    have v4:f 4 = .pointer (some ⟨S,6,none⟩):=hV 4 (by decide)
    have v5:f 5 = .int .i64 (e:Nat):=hV 5 (by decide)
    clear hV
    have hbb:=hP.b
    have h7:=hP.c7 rfl
    have h8:=hP.c8 rfl
    clear hP
    generalize f 0 = z0 at *
    subst v0
    generalize f 2 = z2 at *
    subst v2
    generalize f 3 = z3 at *
    subst v3
    generalize f 4 = z4 at *
    subst v4
    generalize f 5 = z5 at *
    subst v5
    generalize f 8 = z8 at *
    subst h8
    generalize f 7 = z7 at *
    generalize f 6 = z6 at *
    generalize f 1 = z1 at *
    obtain ⟨g7,cap7,cur7,rfl,b7,c7,l7,m7,s7,t7⟩:∃ g cap cur,z7 = .slice (some ⟨g,0,none⟩) (xs ++ [e]).length cap ∧ B ≤ g ∧ W9.heap[g]? = some (.cells cur 3) ∧ (xs ++ [e]).length ≤ cap ∧ cap ≤ maxLen ∧ cur.size = cap * 1 ∧ cur.toList.take ((xs ++ [e]).length * 1) = (xs ++ [e]).map nv:=by
      rcases h7.2 with ⟨_,x⟩ | x
      · rw [List.length_append] at x; exact absurd x (by simp)
      · exact x
    obtain ⟨ao,cp,gp,hz0,hao,hpc⟩:=Plc.cellW HPV.out (W:=W9) (fun p hp=>(hbb.block _ (by rw [HB1.out]; exact F.getElem?_lt (HOC.out p hp))).trans (HOC.out p hp))
    subst hz0
    obtain ⟨P,hP⟩:∃ P:Nat → Nat,P = fun j=>(xs ++ [e])[j]!:=⟨_,rfl⟩
    have HPP:Hid (P = fun j=>(xs ++ [e])[j]!):=hP
    have HPC:Hid (∀ j,j < xs.length → W9.cell? ⟨gp,j,none⟩ = some (.int .i64 (P j:Nat))):=fun j hj=>by
      rw [hpc j hj,hP]
      show some (nv xs[j]) = some (nv (xs ++ [e])[j]!)
      rw [getElem!_pos (xs ++ [e]) j (by simp; omega),List.getElem_append_left hj]
    have HEC:Hid (∀ j,j ≤ xs.length → ∀ wr:World,wr.heap[g7]? = some (.cells cur7 3) → wr.cell? ⟨g7,j,none⟩ = some (.int .i64 (P j:Nat))):=fun j hj wr hw=>by
      have hj2:j < (xs ++ [e]).length:=by simp; omega
      rw [F.cell_of hw,hP]
      have:=congrArg (fun l=>l[j]?) t7
      rw [Nat.mul_one] at this
      simp only [List.getElem?_take_of_lt hj2,List.getElem?_map,Array.getElem?_toList,List.getElem?_eq_getElem hj2] at this
      rw [this]
      show some (nv _) = some (nv (xs ++ [e])[j]!)
      rw [getElem!_pos (xs ++ [e]) j hj2]
    have HPB:Hid (∀ j,j ≤ xs.length → P j ≤ 64):=fun j hj=>by
      have hj2:j < (xs ++ [e]).length:=by simp; omega
      rw [hP]
      show (xs ++ [e])[j]! ≤ 64
      rw [getElem!_pos (xs ++ [e]) j hj2]
      have hm:(xs ++ [e])[j] ∈ xs ++ [e]:=List.getElem_mem _
      have:=HE.out.2
      generalize (xs ++ [e])[j] = y at *
      rcases List.mem_append.1 hm with hm | hm
      · rw [HXS.out] at hm
        obtain ⟨p,hp,e2⟩:=List.mem_map.1 hm
        have:=HLT.out p hp
        omega
      · rw [List.mem_singleton.1 hm]; omega
    have hxl:xs.length ≤ 64:=by rw [← hgx]; exact hgl
    have HGP:Hid (xs.length = 0 ∨ gp < W9.heap.size):=by
      rcases Nat.eq_zero_or_pos xs.length with x | x
      · exact Or.inl x
      · exact Or.inr (World.block_lt_of_cell? W9 _ (hpc 0 x))
    have hB9:B ≤ W9.heap.size:=Nat.le_trans HBS.out hbb.size
    rw [List.length_append] at *
    simp only [List.length_singleton] at *
    have hHB:Hid (Below B w1 W9):=hbb
    have HC7:Hid (W9.heap[g7]? = some (.cells cur7 3)):=c7
    have HL7:Hid (xs.length + 1 ≤ cap7):=l7
    clear hP hpc h7 t7 s7 hbb c7 m7 b7 l7
    obtain ⟨k,hk⟩:∃ k,xs.length = k:=⟨_,rfl⟩
    have HK:Hid (xs.length = k):=hk
    rw [hk] at HPC HEC HPB hxl HGP HL7 hao ⊢
    clear hk
    obtain ⟨i7,hi7,hz7,hs7,hb7⟩:=info_parts info77
    obtain ⟨w4,hmk,m1,m2⟩:=run_make_full (P:=Tryz.prog) W9 B 113 77 i7 (.agg #[.int .i64 0,.int .i64 0,.int .i64 0]) 3 Tryz.underlying113 hi7 hz7 hs7 .i64 .i64 k (by rw [hb7]; omega) (by unfold maxLen; omega) hB9
    obtain ⟨A,hA⟩:∃ A,A = W9.heap.size:=⟨_,rfl⟩
    rw [← hA] at hmk m1
    have HA:Hid (A = W9.heap.size):=hA
    have HS0:Hid (SIv B w1 A g7 gp k i cur7 P 0 w4):=by
      have hgb:Below B w1 w4:=hHB.out.trans ⟨m2.os,m2.tape,m2.output,m2.size,fun b hb=>m2.block b (by omega) (fun x=>by cases x)⟩
      have hk9:∀ b,b < W9.heap.size → w4.heap[b]? = W9.heap[b]?:=fun b hb=>m2.block b hb (fun x=>by cases x)
      refine ⟨hgb,(hk9 g7 (F.getElem?_lt HC7.out)).trans HC7.out,fun m hm=>?_,⟨_,m1,fun m hm=>absurd hm (Nat.not_lt_zero _)⟩,?_,?_,?_⟩
      · have hc:=HPC.out m hm
        have hlt2:=World.block_lt_of_cell? W9 _ hc
        have e2:w4.cell? ⟨gp,m,none⟩ = W9.cell? ⟨gp,m,none⟩:=by
          unfold World.cell?
          rw [hk9 gp hlt2]
        rw [e2]; exact hc
      · have:=F.getElem?_lt HC7.out; omega
      · rcases HGP.out with x | x
        · exact Or.inl x
        · exact Or.inr (by omega)
      · omega
    clear m1 m2 hi7 hz7 hs7 hb7 HPC HGP hA
    go_wp2_with fail
    go_loopw [33] (fun iv wr=>∃ j:Nat,iv = .int .i64 (j:Nat) ∧ j ≤ k ∧ SIv B w1 A g7 gp k i cur7 P j wr) (fun iv _=>k - (intOf iv).toNat)
    case atStart=>exact ⟨0,rfl,Nat.zero_le _,HS0.out⟩
    case round=>
      obtain ⟨j,rfl,hjk,hsi⟩:=hrel
      have HSI:Hid _:=hsi
      clear hsi
      rcases Nat.lt_or_ge j k with hj | hj
      · obtain rfl:=hao (by omega)
        have q1:=HSI.out.cp j hj
        have q2:=HEC.out (j + 1) (by omega) wr HSI.out.c7
        have b1:=HPB.out j (by omega)
        have b2:=HPB.out (j + 1) (by omega)
        have hjI:(j:Int) < (k:Int):=by omega
        have hj1:(j:Int) + 1 < (k:Int) + 1:=by omega
        obtain ⟨⟨u0,x0⟩,⟨u1,x1⟩,⟨u2,x2⟩,y0,y1,y2⟩:=HSI.out.cells hj
        have HST:=HSI.out.store hj
        have HST2:Hid _:=HST
        clear HST
        go_wp2_with fail
        go_roundw
        case rel=>exact ⟨j + 1,rfl,by omega,HST2.out⟩
        case measure=>simp only [intOf]; omega
      · have hkj:¬ (j:Int) < (k:Int):=by omega
        go_wp2_with fail
        go_returns
        obtain rfl:j = k:=by omega
        obtain ⟨ys,ho,hys⟩:=HSI.out.ow
        have hxk:xs.length = j:=HK.out
        have hTB:T ≤ B:=by rw [HB1.out]; exact H1.out.dv.le
        have hP2:∀ m,P m = (List.map Prod.fst gs ++ [e])[m]?.getD 0:=fun m=>by rw [HPP.out,HXS.out]; simp
        have H1f:=H1.out
        rw [hgx] at H1f
        rw [hxk] at H1f ⊢
        refine ⟨A,rfl,ys,⟨ho.1,ho.2.imp id (fun ⟨g,cap,cur,a,b,r⟩=>⟨g,cap,cur,a,Nat.le_trans hTB b,r⟩)⟩,fun m hm=>?_,?_⟩
        · have:=hys m hm
          rw [hP2,hP2] at this
          exact this
        · have hbl:=HSI.out.b
          rw [HB1.out] at hbl
          exact (H1f.below hbl).drop HMD.out (fun p hp=>List.mem_append_right _ hp)
  case hputq=>
    repeat (refine ⟨fun f v=>rfl,?_⟩)
    trivial
  case stepq=>
    refine ⟨?_,?_⟩
    · intro done f W9 hP hdn hd K hK
      clear hd
      go_simp
      exact hK _ _ rfl (hP.pure (by decide) (by decide) (by decide) (by decide))
    refine ⟨?_,?_⟩
    · intro done f W9 hP hdn hd K hK
      have d0:=(hd.1 rfl).2
      have e0:done 0 = true:=(hd.1 rfl).1
      clear hd
      replace d0:f 0 = pv:=d0
      generalize f 0 = x0 at *
      subst d0
      clear e0
      have hcl:=HCL.out W9 hP.b
      go_simp
      refine Calls.mono hcl ?_
      rintro er W' ⟨v1,rfl,ho,hb⟩
      exact hK _ _ trivial (hP.one hdn ho hb HBS.out)
    refine ⟨?_,?_⟩
    · intro done f W9 hP hdn hd K hK
      clear hd
      go_simp
      exact hK _ _ rfl (hP.pure (by decide) (by decide) (by decide) (by decide))
    refine ⟨?_,?_⟩
    · intro done f W9 hP hdn hd K hK
      have d2:=(hd.1 rfl).2
      have e2:done 2 = true:=(hd.1 rfl).1
      clear hd
      replace d2:f 2 = .pointer (some ⟨S,0,none⟩):=d2
      generalize f 2 = x2 at *
      subst d2
      clear e2
      go_simp
      exact hK _ _ rfl (hP.pure (by decide) (by decide) (by decide) (by decide))
    refine ⟨?_,?_⟩
    · intro done f W9 hP hdn hd K hK
      have d3:=(hd.1 rfl).2
      have e3:done 3 = true:=(hd.1 rfl).1
      clear hd
      replace d3:f 3 = .pointer (some ⟨S,0,none⟩):=d3
      generalize f 3 = x3 at *
      subst d3
      clear e3
      go_simp
      exact hK _ _ rfl (hP.pure (by decide) (by decide) (by decide) (by decide))
    refine ⟨?_,?_⟩
    · intro done f W9 hP hdn hd K hK
      have d4:=(hd.1 rfl).2
      have e4:done 4 = true:=(hd.1 rfl).1
      clear hd
      replace d4:f 4 = .pointer (some ⟨S,6,none⟩):=d4
      generalize f 4 = x4 at *
      subst d4
      clear e4
      have q:=HS6.out W9 hP.b
      go_simp
      exact hK _ _ rfl (hP.pure (by decide) (by decide) (by decide) (by decide))
    refine ⟨?_,?_⟩
    · intro done f W9 hP hdn hd K hK
      have d5:=(hd.1 rfl).2
      have e5:done 5 = true:=(hd.1 rfl).1
      clear hd
      replace d5:f 5 = .int .i64 (e:Nat):=d5
      generalize f 5 = x5 at *
      subst d5
      clear e5
      have hB:=hP.two hdn HBS.out
      unfold nv at hB
      go_simp
      exact hK _ _ trivial hB
    refine ⟨?_,?_⟩
    · intro done f W9 hP hdn hd K hK
      have d1:=(hd.1 rfl).2
      have e1:done 1 = true:=(hd.1 rfl).1
      have d6:=(hd.2.1 rfl).2
      have e6:done 6 = true:=(hd.2.1 rfl).1
      clear hd
      have e1:done 1 = true:=e1
      have e6:done 6 = true:=e6
      have o1:=hP.c1 e1 hdn
      obtain ⟨b,ob,o2,o3⟩:=hP.c6 e6 hdn
      have hbb:=hP.b
      have hlenp:xs.length ≤ 1001:=HXL.out
      have hz6:f 6 = .slice (some ⟨b,0,none⟩) 1 1:=o2
      obtain ⟨z1,hz1⟩:∃ z1,f 1 = z1:=⟨_,rfl⟩
      rw [hz1] at o1
      refine napp (.tmp 21) (.tmp 26) rfl (v:=z1) (xs:=xs) (G:=b) (t:=e) (T1:=B) hz1 hz6 o3 o1 HXL.out (by have:=hbb.size; have:=HBS.out; omega) ?_
      intro v' W' r2 r3
      exact hK _ _ trivial (hP.app hdn r2 e1 e6 (by rw [hz1]; exact r3) HBS.out)
    refine ⟨?_,?_⟩
    · intro done f W9 hP hdn hd K hK
      have d7:=(hd.1 rfl).2
      have e7:done 7 = true:=(hd.1 rfl).1
      clear hd
      have e7:done 7 = true:=e7
      generalize hz7:f 7 = z7 at *
      have hB:=hP.last e7
      rw [hz7] at hB
      go_simp
      exact hK _ _ trivial hB
    trivial
end
end Go.Proofs.YtncfbocbigdhiaaGreat.U

/- Read of a log, as a call. -/
namespace Go.Proofs.YtncfbocbigdhiaaGreat.U
open Go Go.RowKit Go.Sort
section
variable {T:Nat} {w:World} {L:F.Loc} {q:Int} {n Lb:Nat} {l:Lg} {v:Value} {ol rest:List (Nat × Obj)} {now su:Nat → ByteArray} {c:Int} {W W':World}
theorem LgI.h5all (h:LgI T w L q n Lb l v ol rest now su c W):∀ p ∈ (Lb,Obj.cells (l.cs v) 128) :: (l.G,Obj.cells l.row 28) :: (ol ++ (l.objs ++ rest)),∀ c fz,p.2 ≠ .cells c 5 fz:=by
  intro p hp
  simp only [List.mem_cons,List.mem_append] at hp
  rcases hp with rfl | rfl | hp | hp | hp
  · exact fun _ _=>cells_ne2 (by decide)
  · exact fun _ _=>cells_ne2 (by decide)
  · obtain ⟨c',hc'⟩:=Plc.ty h.pl p hp
    rw [hc']; exact fun _ _=>cells_ne2 (by decide)
  · obtain ⟨c',hc'⟩:=l.objs_ty p hp
    rw [hc']; exact fun _ _=>cells_ne2 (by decide)
  · exact h.h5 p hp
theorem LgI.sread (h:LgI T w L q n Lb l v ol rest now su c W) (i S:Nat) (hi:i ∈ l.lv) (hS:l.pt i = some S) (hfit:1 + i * l.p + l.p ≤ n) (hn1:n ≤ 1000) (hc:c ≤ 9000000) {t k:Nat} {x:ByteArray} (ht:1 ≤ t) (hg:Grp now (l.sg i) t k x) :
    Calls Tryz.prog 60 #[.pointer (some ⟨S,0,none⟩),.int .i64 (t:Nat),.int .i64 (k:Nat)] W fun r W'=>r = .returned (.string x) ∧ LgI T w L q n Lb l v ol rest now su (c + k) W':=by
  have hSm:(S,Obj.cells (l.sg i).cs 44) ∈ l.objs:=by
    unfold Lg.objs
    exact List.mem_map.2 ⟨i,hi,by rw [hS]; rfl⟩
  have hp1:=h.ok.p1
  refine (dev_read (l.sg i) h.dv (by simp [hSm]) (by simp [Lg.sg,h.md]) h.h5all ⟨by show 1 + i * l.p ≤ 10000; omega,hp1⟩ hfit hn1 hc ht hg).mono ?_
  rintro r W' ⟨rfl,hd⟩
  exact ⟨rfl,h.ok,h.pl,hd,h.md,h.pn,h.nd,h.inj,h.ap,h.h5⟩
set_option maxHeartbeats 1000000 in
set_option maxRecDepth 100000 in
theorem read_any (h:LgI T w L q n Lb l v ol rest now su c W) (i:Nat) (hi:i ∈ l.lv) (hfit:1 + i * l.p + l.p ≤ n) (hn1:n ≤ 1000) (hc:c ≤ 9000000) {t k:Nat} {x:ByteArray} (ht:1 ≤ t) (hg:Grp now (l.sg i) t k x) (hin:t + k < l.a i) :
    Calls Tryz.prog 73 #[.pointer (some ⟨Lb,0,none⟩),.agg #[.int .i64 (i:Nat),.int .i64 (t:Nat),.int .i64 (k:Nat)]] W fun r W'=>r = .returned (.string x) ∧ LgI T w L q n Lb l v ol rest now su (c + k) W':=by
  obtain ⟨S,hS,hSc⟩:=h.lz.s i hi
  have hil:=h.ok.lt i hi
  have hn1000:=h.ok.n1
  have hat:=h.ok.at1 i hi
  have hp1:=h.ok.p1
  have hb:=h.hold (.cells #[.int .i64 (i:Nat),.int .i64 (t:Nat),.int .i64 (k:Nat)] 77) (F.apart_of (by decide)) (fun _ _=>cells_ne2 (by decide))
  have H:Hid (LgI T w L q n Lb l v ol ((W.heap.size,.cells #[.int .i64 (i:Nat),.int .i64 (t:Nat),.int .i64 (k:Nat)] 77) :: rest) now su c (W.alloc (.cells #[.int .i64 (i:Nat),.int .i64 (t:Nat),.int .i64 (k:Nat)] 77))):=hb
  obtain ⟨W1,hW1⟩:∃ W1,W1 = W.alloc (.cells #[.int .i64 (i:Nat),.int .i64 (t:Nat),.int .i64 (k:Nat)] 77):=⟨_,rfl⟩
  have hX:W1.heap[W.heap.size]? = some (.cells #[.int .i64 (i:Nat),.int .i64 (t:Nat),.int .i64 (k:Nat)] 77):=by rw [hW1]; exact F.heap_new _ _
  rw [← hW1] at hb
  obtain ⟨X,hXe⟩:∃ X,X = W.heap.size:=⟨_,rfl⟩
  rw [← hXe] at hb hX
  have q0:∀ z,(W1.drewN z).cell? ⟨X,0,none⟩ = some (.int .i64 (i:Nat)):=fun z=>F.cell_of (w:=W1.drewN z) hX 0
  have q1:∀ z,(W1.drewN z).cell? ⟨X,1,none⟩ = some (.int .i64 (t:Nat)):=fun z=>F.cell_of (w:=W1.drewN z) hX 1
  have q2:∀ z,(W1.drewN z).cell? ⟨X,2,none⟩ = some (.int .i64 (k:Nat)):=fun z=>F.cell_of (w:=W1.drewN z) hX 2
  have q4:∀ z,(W1.drewN z).cell? ⟨Lb,4,none⟩ = some (.slice (some ⟨l.G,0,none⟩) l.ns l.ns):=fun z=>F.cell_of (w:=W1.drewN z) hb.lz.b 4
  have qg:∀ z,(W1.drewN z).cell? ⟨l.G,i,none⟩ = some (.pointer (some ⟨S,0,none⟩)):=fun z=>by rw [F.cell_of (w:=W1.drewN z) hb.lz.g i,l.row_get i hil,hS]; rfl
  have hS1:W1.heap[S]? = some (.cells (l.sg i).cs 44):=by
    obtain ⟨S',a1,a2⟩:=hb.lz.s i hi
    rw [hS] at a1; injection a1 with a1
    rw [a1]; exact a2
  have qs:∀ z,(W1.drewN z).cell? ⟨S,6,none⟩ = some (.int .i64 (l.a i:Nat)):=fun z=>F.cell_of (w:=W1.drewN z) hS1 6
  have HR:Hid (∀ z,Calls Tryz.prog 60 #[.pointer (some ⟨S,0,none⟩),.int .i64 (t:Nat),.int .i64 (k:Nat)] (W1.drewN z) fun r W'=>r = .returned (.string x) ∧ LgI T w L q n Lb l v ol ((X,.cells #[.int .i64 (i:Nat),.int .i64 (t:Nat),.int .i64 (k:Nat)] 77) :: rest) now su (c + k) W'):=fun z=>(hb.drewN z).sread i S hi hS hfit hn1 hc ht hg
  have HMD:Hid ((l.M,F.med L.P 1 q) ∈ rest):=h.md
  have hil1:¬ (i:Int) < 0:=by omega
  have hil2:decide ((i:Int) < 0) = false:=by simp
  have hil3:decide ((l.ns:Int) ≤ (i:Int)) = false:=by simp; omega
  have hil4:(i:Int) < (l.ns:Int):=by omega
  have hk1:decide ((l.a i:Int) - (t:Int) ≤ (k:Int)) = false:=by simp; omega
  have hai:l.a i ≤ 64:=by omega
  have htk:t ≤ 64 ∧ k ≤ 64:=by omega
  have HW:Hid (W.alloc (.cells #[.int .i64 (i:Nat),.int .i64 (t:Nat),.int .i64 (k:Nat)] 77) = W1 ∧ W.heap.size = X):=⟨hW1.symm,hXe.symm⟩
  clear h hb hi hS hSc hfit hn1 hc ht hg hin hX hS1 hat H hW1 hXe
  go_enter Tryz.func73,Tryz.ntmps73
  go_wp2_with fail
  rw [HW.out.1,HW.out.2]
  go_quiet (fail)
  go_wp2_with fail
  go_quiet (fail)
  go_wp2_with fail
  go_quiet (fail)
  go_wp2_with fail
  refine Calls.mono (HR.out _) ?_
  rintro er w3 ⟨rfl,h3⟩
  have H3:Hid _:=h3
  clear h3
  go_wp2
  go_returns
  exact ⟨rfl,H3.out.drop HMD.out (fun p hp=>List.mem_cons_of_mem _ hp)⟩
end
end Go.Proofs.YtncfbocbigdhiaaGreat.U

/- A row of places in a log, grown beside a log. -/
namespace Go.Proofs.YtncfbocbigdhiaaGreat.U
open Go Go.RowKit Go.Sort
section
variable {b0:Nat} {w0:World} {L:F.Loc} {st:F.St} {lv:Value} {oth:List (Nat × Obj)} {w w':World}
theorem One.grownL {row:Option Nat} (h:F.One b0 w0 L st lv oth w) (hg:w.grownBy w' row) (hr:∀ g,row = some g → b0 ≤ g ∧ ∃ c,w.heap[g]? = some (.cells c 77)) (ho:∀ p ∈ oth,row ≠ some p.1):F.One b0 w0 L st lv oth w':=by
  have tne:∀ {i:Nat} {d:Array Value} {t:TypeId},w.heap[i]? = some (.cells d t) → t ≠ 77 → some i ≠ row:=fun {i d t} e ht er=>by
    obtain ⟨_,c,hc⟩:=hr i er.symm
    rw [e] at hc
    injection hc with hc
    injection hc with _ hc _
    exact ht hc
  have same:∀ {j:Nat} {o:Obj},w.heap[j]? = some o → some j ≠ row → w'.heap[j]? = some o:=fun e h1=>(hg.block _ (F.getElem?_lt e) h1).trans e
  refine ⟨?_,h.bP,h.bR,h.bD,h.bS,same h.pool (tne h.pool (by decide)),same h.rowb (tne h.rowb (by decide)),h.rc0,same h.dev (tne h.dev (by decide)),same h.sec (tne h.sec (by decide)),⟨h.own.1,?_⟩,?_⟩
  · refine ⟨hg.os.trans h.below.os,hg.tape.trans h.below.tape,hg.output.trans h.below.output,Nat.le_trans h.below.size hg.size,fun j hj=>?_⟩
    rw [hg.block j (Nat.lt_of_lt_of_le hj (Nat.le_trans h.bP (Nat.le_of_lt (F.getElem?_lt h.pool)))) (fun e=>by have:=(hr j e.symm).1; omega)]
    exact h.below.block j hj
  · rcases h.own.2 with h1 | ⟨g,cap,cur,e,h2,h3,h4⟩
    · exact Or.inl h1
    · exact Or.inr ⟨g,cap,cur,e,h2,same h3 (tne h3 (by decide)),h4⟩
  · intro p hp
    obtain ⟨o1,o2,o3,o4⟩:=h.oth p hp
    exact ⟨same o1 (fun e=>ho p hp e.symm),o2,o3,o4⟩
theorem One.addL {g:Nat} {c:Array Value} (h:F.One b0 w0 L st lv oth w) (hg:w.heap[g]? = some (.cells c 77)) (hb:b0 ≤ g):F.One b0 w0 L st lv ((g,.cells c 77) :: oth) w:=by
  have tne:∀ {i:Nat} {d:Array Value} {t:TypeId},w.heap[i]? = some (.cells d t) → t ≠ 77 → g ≠ i:=fun e ht er=>by
    subst er
    rw [hg] at e
    injection e with e
    injection e with _ e _
    exact ht e.symm
  refine { h with oth:=?_ }
  intro p hp
  rcases List.mem_cons.1 hp with rfl | hp
  · exact ⟨hg,⟨tne h.pool (by decide),tne h.rowb (by decide),tne h.dev (by decide),tne h.sec (by decide)⟩,F.apart_of (by decide),hb⟩
  · exact h.oth p hp
end
def Lcs (v:Value) (n:Nat) (ys:List Value) (ol:List (Nat × Obj)):Prop:=
  (v = .slice none 0 0 ∧ n = 0 ∧ ys = [] ∧ ol = []) ∨ ∃ g cap cur,v = .slice (some ⟨g,0,none⟩) n cap ∧ ol = [(g,.cells cur 77)] ∧ n ≤ cap ∧ cap ≤ maxLen ∧ cur.size = cap * 3 ∧ cur.toList.take (n * 3) = ys
theorem Lcs.nil:Lcs (.slice none 0 0) 0 [] []:=Or.inl ⟨rfl,rfl,rfl,rfl⟩
section
variable {T:Nat} {w:World} {L:F.Loc} {q:Int} {n Lb:Nat} {l:Lg} {v:Value} {ol rest:List (Nat × Obj)} {now su:Nat → ByteArray} {c:Int} {W W':World}
theorem Dev.ge (h:Dev T w L q n rest now su c W) {p:Nat × Obj} (hp:p ∈ rest):T ≤ p.1:=by
  obtain ⟨st,lv,ats,h1,h2⟩:=h.ex
  exact (h1.oth p hp).2.2.2
theorem Lcs.own {av:Value} {k:Nat} {ys:List Value} {la oth:List (Nat × Obj)} (h:Lcs av k ys la) (hd:Dev T w L q n oth now su c W) (hs:∀ p ∈ la,p ∈ oth):ys.length = k * 3 ∧ W.ownsRow T 77 3 av k ys:=by
  rcases h with ⟨rfl,rfl,rfl,rfl⟩ | ⟨g,cap,cur,rfl,rfl,h1,h2,h3,h4⟩
  · exact ⟨rfl,rfl,Or.inl ⟨rfl,rfl⟩⟩
  · have o1:=hd.at' (hs (g,.cells cur 77) (List.mem_singleton.2 rfl))
    have o4:=hd.ge (hs (g,.cells cur 77) (List.mem_singleton.2 rfl))
    have hl:ys.length = k * 3:=by
      rw [← h4,List.length_take,Array.length_toList,h3]
      exact Nat.min_eq_left (Nat.mul_le_mul_right 3 h1)
    exact ⟨hl,hl,Or.inr ⟨g,cap,cur,rfl,o4,o1,h1,h2,h3,h4⟩⟩
theorem LgI.growL {av av':Value} {k k':Nat} {ys ys':List Value} {la:List (Nat × Obj)} (h:LgI T w L q n Lb l v ol (la ++ rest) now su c W) (hm:(l.M,F.med L.P 1 q) ∈ rest) (ha:Lcs av k ys la) (hd:∀ p ∈ la,∀ r ∈ rest,p.1 ≠ r.1) (hg:W.grownBy W' av.ownBlock) (hn:W'.ownsRow T 77 3 av' k' ys') (hk:0 < k') (hw:av'.ownBlock = av.ownBlock ∨ av'.ownBlock = some W.heap.size) :
    ∃ la',Lcs av' k' ys' la' ∧ LgI T w L q n Lb l v ol (la' ++ rest) now su c W' ∧ ∀ p ∈ la',∀ r ∈ rest,p.1 ≠ r.1:=by
  have hall:=h.dv
  have hown:=(Lcs.own ha hall (fun p hp=>by simp [hp])).2
  have hr:∀ g,av.ownBlock = some g → T ≤ g ∧ ∃ c,W.heap[g]? = some (.cells c 77):=by
    intro g e
    rcases hown.2 with ⟨rfl,_⟩ | ⟨g',cap,cur,rfl,k1,k2,_⟩
    · cases e
    · injection e with e
      subst e
      exact ⟨k1,cur,k2⟩
  have hla:∀ g,av.ownBlock = some g → ∃ p ∈ la,p.1 = g:=by
    intro g e
    rcases ha with ⟨rfl,_,_,_⟩ | ⟨g',cap,cur,rfl,rfl,_⟩
    · cases e
    · injection e with e
      exact ⟨(g',.cells cur 77),List.mem_singleton.2 rfl,e⟩
  have hbase:∀ p ∈ (Lb,Obj.cells (l.cs v) 128) :: (l.G,Obj.cells l.row 28) :: (ol ++ (l.objs ++ rest)),av.ownBlock ≠ some p.1:=by
    intro p hp e
    obtain ⟨r,hr1,hr2⟩:=hla _ e
    by_cases hrr:p ∈ rest
    · exact hd r hr1 p hrr hr2
    · refine h.ap p ?_ r (List.mem_append_left _ hr1) hr2.symm
      simp only [List.mem_cons,List.mem_append] at hp ⊢
      rcases hp with hp | hp | hp | hp | hp
      · simp [hp]
      · simp [hp]
      · simp [hp]
      · simp [hp]
      · exact absurd hp hrr
  obtain ⟨st,lv,ats,h1,h2⟩:=h.dv.ex
  have h3:F.One T w L st lv ((Lb,Obj.cells (l.cs v) 128) :: (l.G,Obj.cells l.row 28) :: (ol ++ (l.objs ++ rest))) W:=h1.forget (fun p hp=>by
    simp only [List.mem_cons,List.mem_append] at hp ⊢
    rcases hp with hp | hp | hp | hp | hp <;> simp [hp])
  have h4:=One.grownL h3 hg hr hbase
  rcases hn.2 with ⟨_,e0⟩ | ⟨g,cap,cur,rfl,k1,k2,k3,k4,k5,k6⟩
  · omega
  · have h5:=One.addL h4 k2 k1
    have hgn:∀ p ∈ (Lb,Obj.cells (l.cs v) 128) :: (l.G,Obj.cells l.row 28) :: (ol ++ (l.objs ++ rest)),p.1 ≠ g:=by
      intro p hp e
      rcases hw with hw | hw
      · exact hbase p hp (by rw [← hw,e]; rfl)
      · have:=h3.lts p hp
        have e2:g = W.heap.size:=Option.some.inj hw
        omega
    refine ⟨[(g,.cells cur 77)],Or.inr ⟨g,cap,cur,rfl,rfl,k3,k4,k5,k6⟩,⟨h.ok,h.pl,(⟨st,lv,ats,h5,h2⟩:Dev T w L q n ((g,.cells cur 77) :: (Lb,Obj.cells (l.cs v) 128) :: (l.G,Obj.cells l.row 28) :: (ol ++ (l.objs ++ rest))) now su c W').forget ?_,by simp [hm],h.pn,h.nd,h.inj,?_,?_⟩,?_⟩
    · intro p hp
      simp only [List.mem_cons,List.mem_append] at hp ⊢
      rcases hp with hp | hp | hp | hp | (hp | hp) | hp
      · simp [hp]
      · simp [hp]
      · simp [hp]
      · simp [hp]
      · simp [hp]
      · cases hp
      · simp [hp]
    · intro p hp r hr'
      rcases List.mem_append.1 hr' with hr' | hr'
      · rw [List.mem_singleton.1 hr']
        refine hgn p ?_
        simp only [List.mem_cons,List.mem_append] at hp ⊢
        rcases hp with hp | hp | hp | hp <;> simp [hp]
      · exact h.ap p hp r (List.mem_append_right _ hr')
    · intro p hp
      rcases List.mem_append.1 hp with hp | hp
      · rw [List.mem_singleton.1 hp]; exact fun _ _=>cells_ne2 (by decide)
      · exact h.h5 p (List.mem_append_right _ hp)
    · intro p hp r hr'
      rw [List.mem_singleton.1 hp]
      exact fun e=>hgn r (by simp [hr']) e.symm
end
end Go.Proofs.YtncfbocbigdhiaaGreat.U

/- seglog.Open, as a call: what was found; its walk. -/
namespace Go.Proofs.YtncfbocbigdhiaaGreat.U
open Go Go.RowKit Go.Sort
def mxN (c:Nat) (g:Nat → Hd):Nat → Nat
  | 0=>0
  | i + 1=>if (g i).c = c then max (mxN c g i) (g i).n else mxN c g i
def lvN (c:Nat) (g:Nat → Hd) (i:Nat):List Nat:=(List.range i).filter (fun k=>decide ((g k).c = c ∧ (g k).fr = false))
structure Fnd (M c j p G ns:Nat) (g:Nat → Hd) (i:Nat) (l:Lg):Prop where
  eM:l.M = M
  ec:l.c = c
  ej:l.j = j
  ep:l.p = p
  eG:l.G = G
  ens:l.ns = ns
  elv:l.lv = lvN c g i
  enu:∀ k ∈ l.lv,l.nu k = (g k).n ∧ l.a k = 1
  em:l.m = mxN c g i
  efr:∀ k,i ≤ k → k < ns → l.pt k = none
section
variable {M c j p G ns i S:Nat} {g:Nat → Hd} {l:Lg}
theorem lvN_lt:∀ k ∈ lvN c g i,k < i:=fun k hk=>List.mem_range.1 (List.mem_filter.1 hk).1
theorem Fnd.skip (h:Fnd M c j p G ns g i l) (hc:(g i).c ≠ c):Fnd M c j p G ns g (i + 1) l:=by
  refine ⟨h.eM,h.ec,h.ej,h.ep,h.eG,h.ens,?_,h.enu,?_,fun k h1 h2=>h.efr k (by omega) h2⟩
  · rw [h.elv]; unfold lvN; rw [List.range_succ,List.filter_append]; simp [hc]
  · rw [h.em]; show _ = if (g i).c = c then _ else _; rw [if_neg hc]
theorem Fnd.free (h:Fnd M c j p G ns g i l) (hc:(g i).c = c) (hf:(g i).fr = true):Fnd M c j p G ns g (i + 1) (l.most (g i).n):=by
  refine ⟨h.eM,h.ec,h.ej,h.ep,h.eG,h.ens,?_,h.enu,?_,fun k h1 h2=>h.efr k (by omega) h2⟩
  · show l.lv = _
    rw [h.elv]; unfold lvN; rw [List.range_succ,List.filter_append]; simp [hf]
  · show max l.m (g i).n = _
    rw [h.em]; show _ = if (g i).c = c then _ else _; rw [if_pos hc]
theorem Fnd.live (h:Fnd M c j p G ns g i l) (hc:(g i).c = c) (hf:(g i).fr = false):Fnd M c j p G ns g (i + 1) (l.up i S (g i).n):=by
  refine ⟨h.eM,h.ec,h.ej,h.ep,h.eG,h.ens,?_,fun k hk=>?_,?_,fun k h1 h2=>?_⟩
  · show l.lv ++ [i] = _
    rw [h.elv]; unfold lvN; rw [List.range_succ,List.filter_append]; simp [hc,hf]
  · replace hk:k ∈ l.lv ++ [i]:=hk
    show (if k = i then (g i).n else l.nu k) = (g k).n ∧ (if k = i then 1 else l.a k) = 1
    by_cases e:k = i
    · subst e; rw [if_pos rfl,if_pos rfl]; exact ⟨rfl,rfl⟩
    · rw [if_neg e,if_neg e]
      rcases List.mem_append.1 hk with hk | hk
      · exact h.enu k hk
      · exact absurd (List.mem_singleton.1 hk) e
  · show max l.m (g i).n = _
    rw [h.em]; show _ = if (g i).c = c then _ else _; rw [if_pos hc]
  · show (if k = i then some S else l.pt k) = none
    rw [if_neg (by omega)]
    exact h.efr k (by omega) h2
end
def lg0 (M c j p G ns:Nat):Lg:=⟨M,c,j,p,G,ns,fun _=>none,fun _=>0,fun _=>1,[],0⟩
theorem Fnd.zero (M c j p G ns:Nat) (g:Nat → Hd):Fnd M c j p G ns g 0 (lg0 M c j p G ns):=⟨rfl,rfl,rfl,rfl,rfl,rfl,rfl,(fun k hk=>by cases hk),rfl,fun _ _ _=>rfl⟩
theorem info28:(Tryz.prog.info? 28).map (fun i=>(i.zero,i.size,i.bytes)) = some (some (.pointer none),1,8):=by kernel_rfl
theorem mk_segs (n:Nat) (hn:n ≤ 1000) (w:World):(Instr.makeSlice 126 (.int .i64 (n:Nat)) (.int .i64 (n:Nat))).run Tryz.prog w = .ok (.slice (some ⟨w.heap.size,0,none⟩) n n) (w.alloc (.cells (Array.replicate n (.pointer none)) 28)):=by
  obtain ⟨i,hi,hz,hs,hb⟩:=info_parts info28
  have:=run_make (P:=Tryz.prog) w 126 28 i (.pointer none) Tryz.underlying126 hi hz .i64 .i64 n n (by omega) (by omega) (by rw [hb]; omega) (by omega)
  rw [hs] at this
  simp only [Int.toNat_natCast] at this
  have e:madeCells (Value.pointer none).cells (n * 1) = Array.replicate n (.pointer none):=by
    have hz:(Value.pointer none).cells = #[.pointer none]:=rfl
    rw [hz]
    unfold madeCells
    apply Array.ext
    · simp
    · intro k h1 h2
      simp [Nat.mod_one]
  rw [e] at this
  exact this
theorem lg0_row (M c j p G ns:Nat):(lg0 M c j p G ns).row = Array.replicate ns (.pointer none):=by
  unfold Lg.row lg0
  apply Array.ext'
  simp [ptr,List.map_const']
section
variable {T:Nat} {w:World} {L:F.Loc} {q:Int} {n:Nat} {oth:List (Nat × Obj)} {now su:Nat → ByteArray} {c:Int} {W:World}
theorem LgI.zero (h:Dev T w L q n oth now su c W) (M cc j p ns:Nat) (hM:(M,F.med L.P 1 q) ∈ oth) (h5:∀ r ∈ oth,∀ c fz,r.2 ≠ .cells c 5 fz) (hp:8 ≤ p ∧ p ≤ 64) (hns:1 ≤ ns ∧ ns ≤ 1000) (hc:cc < 18446744073709551616 ∧ j < 18446744073709551616) :
    LgI T w L q n (W.heap.size + 1) (lg0 M cc j p W.heap.size ns) (.slice none 0 0) [] oth now su c ((W.alloc (.cells (Array.replicate ns (.pointer none)) 28)).alloc (.cells ((lg0 M cc j p W.heap.size ns).cs (.slice none 0 0)) 128)):=by
  have d1:=(h.alloc (.cells (Array.replicate ns (.pointer none)) 28) (F.apart_of (by decide))).alloc (.cells ((lg0 M cc j p W.heap.size ns).cs (.slice none 0 0)) 128) (F.apart_of (by decide))
  have hlt:=h.lts
  rw [← lg0_row M cc j p W.heap.size ns] at d1
  have e1:(W.alloc (.cells (lg0 M cc j p W.heap.size ns).row 28)).heap.size = W.heap.size + 1:=by simp
  rw [e1] at d1
  rw [← lg0_row M cc j p W.heap.size ns]
  refine ⟨⟨hp.1,hp.2,hns.1,hns.2,(fun i hi=>by cases hi),Nat.zero_le _,(fun i hi=>by cases hi),hc.1,hc.2⟩,Or.inl ⟨rfl,rfl,rfl⟩,d1,hM,fun i hi=>⟨(fun x=>by cases x),fun x=>absurd rfl x⟩,List.nodup_nil,(fun i hi=>by cases hi),fun r hr s hs=>?_,h5⟩
  have hs1:=hlt s hs
  have hr2:r = (W.heap.size + 1,Obj.cells ((lg0 M cc j p W.heap.size ns).cs (.slice none 0 0)) 128) ∨ r = (W.heap.size,Obj.cells (lg0 M cc j p W.heap.size ns).row 28):=by
    rcases List.mem_cons.1 hr with e | hr
    · exact Or.inl e
    · rcases List.mem_cons.1 hr with e | hr
      · exact Or.inr e
      · cases hr
  rcases hr2 with rfl | rfl
  · show W.heap.size + 1 ≠ s.1; omega
  · show W.heap.size ≠ s.1; omega
end
end Go.Proofs.YtncfbocbigdhiaaGreat.U
