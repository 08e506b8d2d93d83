/- A log on a device that does all; enter, as a call. -/
import Derived.Test.YtncfbocbigdhiaaGreatQJ
namespace Go.Proofs.YtncfbocbigdhiaaGreat.U
open Go Go.RowKit
section
variable {T:Nat} {w:World} {L:F.Loc} {q:Int} {n:Nat} {oth oth':List (Nat × Obj)} {now su:Nat → ByteArray} {c:Int} {W W':World}
theorem Dev.off {B:Nat} {o o':Obj} (h:Dev T w L q n ((B,o) :: oth) now su c W) (hne:∀ p ∈ oth,p.1 ≠ B) (k:Off B W W') (hb:W'.heap[B]? = some o') (ho:F.Obj.apart o'):Dev T w L q n ((B,o') :: oth) now su c W':=by
  obtain ⟨st,lv,ats,h1,h2⟩:=h.ex
  exact ⟨st,lv,ats,h1.other hne k.os k.tape k.output k.size (fun j _ hn=>k.block j hn) hb ho,h2⟩
theorem Dev.ne (h:Dev T w L q n oth now su c W) {p r:Nat × Obj} (hp:p ∈ oth) (hr:r ∈ oth) (hne:p.2 ≠ r.2):p.1 ≠ r.1:=fun e=>by
  have a:=h.at' hp
  have b:=h.at' hr
  rw [e,b] at a
  exact hne (Option.some.inj a).symm
theorem cells_ne {a b:Array Value} {s t:TypeId} (h:s ≠ t):(Obj.cells a s) ≠ (Obj.cells b t):=fun e=>by
  injection e with _ e _
  exact h e
theorem Dev.growI {v v':Value} {xs xs':List Nat} {ol:List (Nat × Obj)} (h:Dev T w L q n (ol ++ oth) now su c W) (hp:Plc v xs ol) (hd:∀ p ∈ ol,∀ r ∈ oth,p.1 ≠ r.1) (hg:W.grownBy W' v.ownBlock) (hn:W'.ownsRow T 3 1 v' xs'.length (xs'.map nv)) (hne:xs' ≠ []) (hw:v'.ownBlock = v.ownBlock ∨ v'.ownBlock = some W.heap.size) :
    ∃ ol',Plc v' xs' ol' ∧ Dev T w L q n (ol' ++ oth) now su c W' ∧ ∀ p ∈ ol',(∃ p0 ∈ ol,p0.1 = p.1) ∨ p.1 = W.heap.size:=by
  obtain ⟨st,lv,ats,h1,h2⟩:=h.ex
  obtain ⟨ol',a,b⟩:=hp.grown h1 hd hg hn hne
  refine ⟨ol',a,⟨st,lv,ats,b,h2⟩,fun p hp'=>?_⟩
  rcases a with ⟨_,e,_⟩ | ⟨g,cap,cur,rfl,rfl,_⟩
  · exact absurd e hne
  · rw [List.mem_singleton.1 hp']
    rcases hw with hw | hw
    · left
      rcases hp with ⟨rfl,_,_⟩ | ⟨g',cap',cur',rfl,rfl,_⟩
      · cases hw
      · exact ⟨(g',.cells cur' 3),List.mem_singleton.2 rfl,(Option.some.inj hw).symm⟩
    · right
      exact Option.some.inj hw
def Stop (p:Prop):Prop:=p
theorem papp {ops:Array Oper} {rest:List Oper} {o:Oper} {a:Act} {w:World} {Q:Exit → Act → World → Prop} (hgd:o.guard = none) (s x:Operand) (ho:o.op = .call { callee:=.builtin .append,args:=#[s,x],argTypes:=#[31,31] })
    (base:Nat) (v:Value) (mays:List Nat) (hs:a.eval s = v) (hown:w.ownsRow base 3 1 v mays.length (mays.map nv)) (G:Nat) (hx:a.eval x = .slice (some ⟨G,0,none⟩) 1 1) (t:Nat) (hG:w.heap[G]? = some (.cells #[nv t] 3)) (hl:mays.length ≤ 1001) (hb:base ≤ w.heap.size)
    (k:∀ (v':Value) (w':World),w'.ownsRow base 3 1 v' (mays ++ [t]).length ((mays ++ [t]).map nv) → w.grownBy w' v.ownBlock → (v'.ownBlock = v.ownBlock ∨ v'.ownBlock = some w.heap.size) → Stop (wpList Tryz.prog ops Q rest (a.put o.dst v') w')):wpList Tryz.prog ops Q (o :: rest) a w:=by
  refine wpList_plain hgd fun K hK=>?_
  obtain ⟨i,hi,hz,hsz,hby⟩:=info_parts iinfo
  obtain ⟨v',W',hr,r2,r3,r4,r5⟩:=run_append_own_at (P:=Tryz.prog) w base 31 o.type 3 i (.int .i64 0) 1 8 Tryz.underlying31 hi hz hsz hby (by kernel_rfl) (by decide) v mays.length (mays.map nv) hown ⟨G,0,none⟩ 1 1 [nv t] rfl (fun j u hj=>by
    rcases j with _ | j
    · simp at hj; subst hj
      have:(⟨G,0,none⟩:Addr).add 0 = ⟨G,0,none⟩:=by simp [Addr.add]
      rw [this,F.cell_of hG]; rfl
    · simp at hj) (fun u hu=>by simp at hu; rw [hu]; rfl) (by unfold maxLen; omega) (by omega) hb
  unfold Oper.wp execOp
  simp only [ho,resolve,invoke,builtin,Sem.run_bind,Sem.run_pure,Result.andThen_ok,List.map_toArray,List.map_cons,List.map_nil,hs,hx,hr]
  refine hK _ _ (k v' W' ?_ r3 r5)
  rw [List.map_append,List.length_append]
  exact r2
theorem Dev.ownI {v:Value} {xs:List Nat} {ol:List (Nat × Obj)} (h:Dev T w L q n oth now su c W) (hp:Plc v xs ol) (hs:∀ p ∈ ol,p ∈ oth):W.ownsRow T 3 1 v xs.length (xs.map nv):=by
  obtain ⟨st,lv,ats,h1,h2⟩:=h.ex
  exact hp.own h1 hs
theorem Dev.le (h:Dev T w L q n oth now su c W):T ≤ W.heap.size:=by
  obtain ⟨st,lv,ats,h1,h2⟩:=h.ex
  exact Nat.le_trans h1.bP (Nat.le_of_lt (F.getElem?_lt h1.pool))
theorem Plc.ty {v:Value} {xs:List Nat} {ol:List (Nat × Obj)} (h:Plc v xs ol):∀ p ∈ ol,∃ c,p.2 = .cells c 3:=by
  rcases h with ⟨rfl,rfl,rfl⟩ | ⟨g,cap,cur,rfl,rfl,_⟩
  · intro p hp; cases hp
  · intro p hp; rw [List.mem_singleton.1 hp]; exact ⟨cur,rfl⟩
theorem Plc.cellW {v:Value} {xs:List Nat} {ol:List (Nat × Obj)} (h:Plc v xs ol) {W:World} (ho:∀ p ∈ ol,W.heap[p.1]? = some p.2) :
    ∃ ao cp g,v = .slice ao xs.length cp ∧ (0 < xs.length → ao = some ⟨g,0,none⟩) ∧ ∀ j (hj:j < xs.length),W.cell? ⟨g,j,none⟩ = some (nv xs[j]):=by
  rcases h with ⟨rfl,rfl,rfl⟩ | ⟨g,cap,cur,rfl,rfl,h1,h2,h3,h4⟩
  · exact ⟨none,0,0,rfl,fun h=>absurd h (Nat.lt_irrefl _),fun j hj=>absurd hj (Nat.not_lt_zero _)⟩
  · have o1:=ho (g,.cells cur 3) (List.mem_singleton.2 rfl)
    refine ⟨_,_,g,rfl,fun _=>rfl,fun j hj=>?_⟩
    rw [F.cell_of o1]
    have:=congrArg (fun l=>l[j]?) h4
    simp only [List.getElem?_take_of_lt hj,List.getElem?_map,Array.getElem?_toList,List.getElem?_eq_getElem hj] at this
    exact this
end
def Lg.objs (l:Lg):List (Nat × Obj):=l.lv.map (fun i=>((l.pt i).getD 0,.cells (l.sg i).cs 44))
structure LgI (T:Nat) (w:World) (L:F.Loc) (q:Int) (n Lb:Nat) (l:Lg) (v:Value) (ol rest:List (Nat × Obj)) (now su:Nat → ByteArray) (c:Int) (W:World):Prop where
  ok:l.Ok
  pl:Plc v l.lv ol
  dv:Dev T w L q n ((Lb,.cells (l.cs v) 128) :: (l.G,.cells l.row 28) :: (ol ++ (l.objs ++ rest))) now su c W
  md:(l.M,F.med L.P 1 q) ∈ rest
  pn:∀ i,i < l.ns → (i ∈ l.lv ↔ l.pt i ≠ none)
  nd:l.lv.Nodup
  inj:∀ i ∈ l.lv,∀ k ∈ l.lv,l.pt i = l.pt k → i = k
  ap:∀ p ∈ (Lb,Obj.cells (l.cs v) 128) :: (l.G,Obj.cells l.row 28) :: (ol ++ l.objs),∀ r ∈ rest,p.1 ≠ r.1
  h5:∀ p ∈ rest,∀ c fz,p.2 ≠ .cells c 5 fz
section
variable {T:Nat} {w:World} {L:F.Loc} {q:Int} {n Lb:Nat} {l:Lg} {v:Value} {ol rest:List (Nat × Obj)} {now su:Nat → ByteArray} {c:Int} {W W':World}
theorem LgI.below (h:LgI T w L q n Lb l v ol rest now su c W) (hb:Below W.heap.size W W'):LgI T w L q n Lb l v ol rest now su c W':=
  ⟨h.ok,h.pl,h.dv.below hb,h.md,h.pn,h.nd,h.inj,h.ap,h.h5⟩
theorem LgI.more (h:LgI T w L q n Lb l v ol rest now su c W) {d:Int} (hd:c ≤ d):LgI T w L q n Lb l v ol rest now su d W:=
  ⟨h.ok,h.pl,h.dv.more hd,h.md,h.pn,h.nd,h.inj,h.ap,h.h5⟩
theorem LgI.lz (h:LgI T w L q n Lb l v ol rest now su c W):Lz Lb l v W:=by
  refine ⟨h.dv.at' (p:=(Lb,.cells (l.cs v) 128)) (by simp),h.dv.at' (p:=(l.G,.cells l.row 28)) (by simp),?_,fun i hi=>?_⟩
  · exact Plc.cellW h.pl (fun p hp=>h.dv.at' (by simp [hp]))
  · have hp:=(h.pn i (h.ok.lt i hi)).1 hi
    cases e:l.pt i with
    | none=>exact absurd e hp
    | some S=>
      refine ⟨S,rfl,h.dv.at' (p:=(S,.cells (l.sg i).cs 44)) ?_⟩
      simp only [List.mem_cons,List.mem_append]
      refine Or.inr (Or.inr (Or.inr (Or.inl ?_)))
      unfold Lg.objs
      exact List.mem_map.2 ⟨i,hi,by rw [e]; rfl⟩
theorem Lg.objs_ty (l:Lg):∀ p ∈ l.objs,∃ c,p.2 = .cells c 44:=by
  intro p hp
  unfold Lg.objs at hp
  obtain ⟨i,_,rfl⟩:=List.mem_map.1 hp
  exact ⟨_,rfl⟩
end
def Lg.up (l:Lg) (i S nu:Nat):Lg:={ l with pt:=fun k=>if k = i then some S else l.pt k,nu:=fun k=>if k = i then nu else l.nu k,a:=fun k=>if k = i then 1 else l.a k,lv:=l.lv ++ [i],m:=max l.m nu }
theorem Lg.up_row (l:Lg) (i S nu:Nat) (hi:i < l.ns):l.row.setIfInBounds i (.pointer (some ⟨S,0,none⟩)) = (l.up i S nu).row:=by
  apply Array.ext'
  unfold Lg.row
  rw [Array.toList_setIfInBounds]
  simp only [List.toList_toArray]
  apply List.ext_getElem?
  intro k
  rw [List.getElem?_set]
  show _ = ((List.range l.ns).map fun k=>ptr (if k = i then some S else l.pt k))[k]?
  by_cases e:i = k
  · subst e
    rw [if_pos rfl,if_pos (by simp; exact hi),List.getElem?_map,List.getElem?_range hi]
    show _ = some (ptr (if i = i then some S else l.pt i))
    rw [if_pos rfl]; rfl
  · rw [if_neg e,List.getElem?_map,List.getElem?_map]
    cases hk:(List.range l.ns)[k]? with
    | none=>rfl
    | some x=>
      have hx:x = k:=by
        have:=List.getElem?_eq_some_iff.1 hk
        obtain ⟨h1,h2⟩:=this
        rw [List.getElem_range] at h2
        exact h2.symm
      subst hx
      show some _ = some (ptr (if x = i then some S else l.pt x))
      rw [if_neg (fun h=>e h.symm)]
theorem Lg.up_objs (l:Lg) (i S nu:Nat) (hi:i ∉ l.lv):(l.up i S nu).objs = l.objs ++ [(S,.cells (Sg.cs ⟨l.M,l.c,l.j,nu,1 + i * l.p,l.p,1⟩) 44)]:=by
  unfold Lg.objs
  show (l.lv ++ [i]).map _ = _
  rw [List.map_append]
  congr 1
  · apply List.map_congr_left
    intro k hk
    have hne:k ≠ i:=fun e=>hi (e ▸ hk)
    show ((if k = i then some S else l.pt k).getD 0,Obj.cells (Sg.cs ⟨l.M,l.c,l.j,if k = i then nu else l.nu k,1 + k * l.p,l.p,if k = i then 1 else l.a k⟩) 44) = _
    rw [if_neg hne,if_neg hne,if_neg hne]
    rfl
  · show [((if i = i then some S else l.pt i).getD 0,Obj.cells (Sg.cs ⟨l.M,l.c,l.j,if i = i then nu else l.nu i,1 + i * l.p,l.p,if i = i then 1 else l.a i⟩) 44)] = _
    rw [if_pos rfl,if_pos rfl,if_pos rfl]
    rfl
theorem nodup_le:∀ (n:Nat) (l:List Nat),l.Nodup → (∀ x ∈ l,x < n) → l.length ≤ n
  | 0,l,_,h=>by
    cases l with
    | nil=>exact Nat.le_refl _
    | cons a r=>exact absurd (h a (List.mem_cons_self ..)) (Nat.not_lt_zero _)
  | n + 1,l,hd,h=>by
    by_cases hn:n ∈ l
    · have h1:=nodup_le n (l.erase n) (hd.erase n) (fun x hx=>by
        have:=(hd.mem_erase_iff).1 hx
        have:=h x this.2
        omega)
      rw [List.length_erase_of_mem hn] at h1
      omega
    · have h1:=nodup_le n l hd (fun x hx=>by
        have:=h x hx
        have:x ≠ n:=fun e=>hn (e ▸ hx)
        omega)
      omega
theorem Lg.up_ok {l:Lg} (h:l.Ok) (nd:l.lv.Nodup) (i S nu:Nat) (hi:i < l.ns) (hni:i ∉ l.lv):(l.up i S nu).Ok:=by
  have hnd:(l.lv ++ [i]).Nodup:=List.nodup_append.2 ⟨nd,by simp,fun a ha b hb=>by rw [List.mem_singleton.1 hb]; exact fun e=>hni (e ▸ ha)⟩
  have hlt:∀ k ∈ l.lv ++ [i],k < l.ns:=fun k hk=>by
    rcases List.mem_append.1 hk with hk | hk
    · exact h.lt k hk
    · rw [List.mem_singleton.1 hk]; exact hi
  refine ⟨h.p0,h.p1,h.n0,h.n1,hlt,nodup_le _ _ hnd hlt,fun k hk=>?_,h.c,h.j⟩
  have hp0:=h.p0
  show 1 ≤ (if k = i then 1 else l.a k) ∧ (if k = i then 1 else l.a k) ≤ l.p
  by_cases e:k = i
  · rw [if_pos e]; omega
  · rw [if_neg e]
    rcases List.mem_append.1 hk with hk | hk
    · exact h.at1 k hk
    · exact absurd (List.mem_singleton.1 hk) e
def V86 (Lb i nu:Nat) (l:Lg) (w8:World):Nat → Value → Prop
  | 0,v=>v = .pointer (some ⟨Lb,0,none⟩)
  | 1,v=>v = .pointer (some ⟨Lb,0,none⟩)
  | 2,v=>v = .pointer (some ⟨Lb,4,none⟩)
  | 3,v=>v = .slice (some ⟨l.G,0,none⟩) l.ns l.ns
  | 4,v=>v = .int .i64 (i:Nat)
  | 5,v=>v = .pointer (some ⟨Lb,0,none⟩)
  | 6,v=>v = .pointer (some ⟨Lb,0,none⟩)
  | 7,v=>v = .pointer (some ⟨Lb,0,none⟩)
  | 8,v=>v = .pointer (some ⟨l.M,0,none⟩)
  | 9,v=>v = .pointer (some ⟨Lb,0,none⟩)
  | 10,v=>v = .pointer (some ⟨Lb,0,none⟩)
  | 11,v=>v = .pointer (some ⟨Lb,1,none⟩)
  | 12,v=>v = .int .u64 (l.c:Nat)
  | 13,v=>v = .pointer (some ⟨Lb,0,none⟩)
  | 14,v=>v = .pointer (some ⟨Lb,0,none⟩)
  | 15,v=>v = .pointer (some ⟨Lb,2,none⟩)
  | 16,v=>v = .int .u64 (l.j:Nat)
  | 17,v=>v = .int .u64 (nu:Nat)
  | 18,v=>v = .pointer (some ⟨Lb,0,none⟩)
  | 19,v=>v = .int .i64 (i:Nat)
  | 20,v=>v = .int .i64 ((1 + i * l.p:Nat):Int)
  | 21,v=>v = .pointer (some ⟨Lb,0,none⟩)
  | 22,v=>v = .pointer (some ⟨Lb,0,none⟩)
  | 23,v=>v = .pointer (some ⟨Lb,3,none⟩)
  | 24,v=>v = .int .i64 (l.p:Nat)
  | 25,v=>v = .agg (Sg.cs ⟨l.M,l.c,l.j,nu,1 + i * l.p,l.p,1⟩)
  | 26,v=>v = .pointer (some ⟨w8.heap.size,0,none⟩)
  | 27,v=>v = .pointer (some ⟨l.G,i,none⟩)
  | _,_=>True
set_option maxHeartbeats 4000000 in
set_option maxRecDepth 100000 in
theorem enter_any {T:Nat} {w:World} {L:F.Loc} {q:Int} {n Lb:Nat} {l:Lg} {v:Value} {ol rest:List (Nat × Obj)} {now su:Nat → ByteArray} {c:Int} {W0:World} (h:LgI T w L q n Lb l v ol rest now su c W0) (i nu:Nat) (hi:i < l.ns) (hf:l.pt i = none) (hnu:nu < 18446744073709551616) (hm:l.m < 18446744073709551616) :
    Calls Tryz.prog 86 #[.pointer (some ⟨Lb,0,none⟩),.int .i64 (i:Nat),.int .u64 (nu:Nat)] W0 fun e w'=>e = .returned (.tuple #[]) ∧ ∃ S v' ol',LgI T w L q n Lb (l.up i S nu) v' ol' rest now su c w':=by
  obtain ⟨w8,hw8⟩:∃ w8,w8 = W0.drew:=⟨_,rfl⟩
  have h8:LgI T w L q n Lb l v ol rest now su c w8:=by rw [hw8]; exact h.below (Below.refl _ _).drew
  have HW8:Hid (w8 = W0.drew):=hw8
  have hil:i ∉ l.lv:=fun e=>((h.pn i hi).1 e) hf
  have HNL:Hid _:=hil
  have HI:Hid (i ≤ 1000 ∧ l.p ≤ 64 ∧ i < l.ns ∧ l.ns ≤ 1000):=⟨by have:=h.ok.n1; omega,h.ok.p1,hi,h.ok.n1⟩
  have HB8:Hid (w8.heap[Lb]? = some (.cells (l.cs v) 128)):=h8.lz.b
  have hd9:=h8.dv.alloc (.cells (Sg.cs ⟨l.M,l.c,l.j,nu,1 + i * l.p,l.p,1⟩) 44) (F.apart_of (by decide))
  have HB9:Hid ((w8.alloc (.cells (Sg.cs ⟨l.M,l.c,l.j,nu,1 + i * l.p,l.p,1⟩) 44)).heap[Lb]? = some (.cells (l.cs v) 128)):=hd9.at' (p:=(Lb,.cells (l.cs v) 128)) (by simp)
  have HG9:Hid ((w8.alloc (.cells (Sg.cs ⟨l.M,l.c,l.j,nu,1 + i * l.p,l.p,1⟩) 44)).heap[l.G]? = some (.cells l.row 28)):=hd9.at' (p:=(l.G,.cells l.row 28)) (by simp)
  have hl8:=h8.dv.lts
  have lG:l.G < w8.heap.size:=hl8 (l.G,.cells l.row 28) (by simp)
  have nG:∀ p ∈ (w8.heap.size,Obj.cells (Sg.cs ⟨l.M,l.c,l.j,nu,1 + i * l.p,l.p,1⟩) 44) :: (Lb,Obj.cells (l.cs v) 128) :: (ol ++ (l.objs ++ rest)),p.1 ≠ l.G:=by
    intro p hp
    rcases List.mem_cons.1 hp with rfl | hp
    · show w8.heap.size ≠ l.G; omega
    · rcases List.mem_cons.1 hp with rfl | hp
      · exact h8.dv.ne (p:=(Lb,Obj.cells (l.cs v) 128)) (r:=(l.G,Obj.cells l.row 28)) (by simp) (by simp) (cells_ne (by decide))
      · rcases List.mem_append.1 hp with hp | hp
        · obtain ⟨c',hc'⟩:=Plc.ty h8.pl p hp
          exact h8.dv.ne (p:=p) (r:=(l.G,Obj.cells l.row 28)) (by simp [hp]) (by simp) (by rw [hc']; exact cells_ne (by decide))
        · rcases List.mem_append.1 hp with hp | hp
          · obtain ⟨c',hc'⟩:=l.objs_ty p hp
            exact h8.dv.ne (p:=p) (r:=(l.G,Obj.cells l.row 28)) (by simp [hp]) (by simp) (by rw [hc']; exact cells_ne (by decide))
          · exact fun e=>h8.ap (l.G,Obj.cells l.row 28) (by simp) p hp e.symm
  have hd10:=(hd9.forget (oth':=(l.G,.cells l.row 28) :: (w8.heap.size,Obj.cells (Sg.cs ⟨l.M,l.c,l.j,nu,1 + i * l.p,l.p,1⟩) 44) :: (Lb,Obj.cells (l.cs v) 128) :: (ol ++ (l.objs ++ rest))) (by
    intro p hp
    simp only [List.mem_cons] at hp ⊢
    rcases hp with hp | hp | hp | hp <;> simp [hp])).off nG ((Off.refl l.G _).set i (.pointer (some ⟨w8.heap.size,0,none⟩))) (o':=.cells (l.up i w8.heap.size nu).row 28) (by rw [F.block_set HG9.out,l.up_row i w8.heap.size nu hi]) (F.apart_of (by decide))
  have HD10:Hid _:=hd10
  have HB10:Hid (((w8.alloc (.cells (Sg.cs ⟨l.M,l.c,l.j,nu,1 + i * l.p,l.p,1⟩) 44)).setCell ⟨l.G,i,none⟩ (.pointer (some ⟨w8.heap.size,0,none⟩))).heap[Lb]? = some (.cells (l.cs v) 128)):=hd10.at' (p:=(Lb,.cells (l.cs v) 128)) (by simp)
  have H8:Hid (LgI T w L q n Lb l v ol rest now su c w8):=h8
  have HNU:Hid (nu < 18446744073709551616 ∧ l.m < 18446744073709551616):=⟨hnu,hm⟩
  have hi1:(i:Int) < (l.ns:Int):=by omega
  have hn1000:l.ns ≤ 1000:=h.ok.n1
  clear h h8 hd9 hd10 nG lG hl8 hw8 hil hf hm
  go_enter Tryz.func86,Tryz.ntmps86
  go_wp2
  refine F.wp_region_pb (fun f=>⟨#[.pointer (some ⟨Lb,0,none⟩),.int .i64 (i:Nat),.int .u64 (nu:Nat),undef,undef,undef,f 0,f 1,f 2,f 3,f 4,f 5,f 6,f 7,f 8,f 9,f 10,f 11,f 12,f 13,f 14,f 15,f 16,f 17,f 18,f 19,f 20,f 21,f 22,f 23,f 24,f 25,f 26,f 27,undef,undef,undef,undef,undef,undef,undef,undef,undef,undef,undef,undef,undef,undef,undef,undef,undef,undef,undef],[]⟩) (V86 Lb i nu l w8) (Ph3 26 28 (fun W=>W = w8) (fun W=>W = w8.alloc (.cells (Sg.cs ⟨l.M,l.c,l.j,nu,1 + i * l.p,l.p,1⟩) 44)) (fun W=>W = (w8.alloc (.cells (Sg.cs ⟨l.M,l.c,l.j,nu,1 + i * l.p,l.p,1⟩) 44)).setCell ⟨l.G,i,none⟩ (.pointer (some ⟨w8.heap.size,0,none⟩)))) (fun i=>[undef,undef,undef,undef,undef,undef,undef,undef,undef,undef,undef,undef,undef,undef,undef,undef,undef,undef,undef,undef,undef,undef,undef,undef,undef,undef,undef,undef,undef].getD i undef) (by kernel_rfl) rfl rfl ?hIq ?hputq ?stepq ?finq
  case hIq=>exact Ph3.start HW8.out.symm
  case finq=>
    intro f W hP hV
    have v0:f 0 = .pointer (some ⟨Lb,0,none⟩):=hV 0 (by decide)
    have v1:f 1 = .pointer (some ⟨Lb,0,none⟩):=hV 1 (by decide)
    have v2:f 2 = .pointer (some ⟨Lb,4,none⟩):=hV 2 (by decide)
    have v3:f 3 = .slice (some ⟨l.G,0,none⟩) l.ns l.ns:=hV 3 (by decide)
    have v4:f 4 = .int .i64 (i:Nat):=hV 4 (by decide)
    have v5:f 5 = .pointer (some ⟨Lb,0,none⟩):=hV 5 (by decide)
    have v6:f 6 = .pointer (some ⟨Lb,0,none⟩):=hV 6 (by decide)
    have v7:f 7 = .pointer (some ⟨Lb,0,none⟩):=hV 7 (by decide)
    have v8:f 8 = .pointer (some ⟨l.M,0,none⟩):=hV 8 (by decide)
    have v9:f 9 = .pointer (some ⟨Lb,0,none⟩):=hV 9 (by decide)
    have v10:f 10 = .pointer (some ⟨Lb,0,none⟩):=hV 10 (by decide)
    have v11:f 11 = .pointer (some ⟨Lb,1,none⟩):=hV 11 (by decide)
    have v12:f 12 = .int .u64 (l.c:Nat):=hV 12 (by decide)
    have v13:f 13 = .pointer (some ⟨Lb,0,none⟩):=hV 13 (by decide)
    have v14:f 14 = .pointer (some ⟨Lb,0,none⟩):=hV 14 (by decide)
    have v15:f 15 = .pointer (some ⟨Lb,2,none⟩):=hV 15 (by decide)
    have v16:f 16 = .int .u64 (l.j:Nat):=hV 16 (by decide)
    have v17:f 17 = .int .u64 (nu:Nat):=hV 17 (by decide)
    have v18:f 18 = .pointer (some ⟨Lb,0,none⟩):=hV 18 (by decide)
    have v19:f 19 = .int .i64 (i:Nat):=hV 19 (by decide)
    have v20:f 20 = .int .i64 ((1 + i * l.p:Nat):Int):=hV 20 (by decide)
    have v21:f 21 = .pointer (some ⟨Lb,0,none⟩):=hV 21 (by decide)
    have v22:f 22 = .pointer (some ⟨Lb,0,none⟩):=hV 22 (by decide)
    have v23:f 23 = .pointer (some ⟨Lb,3,none⟩):=hV 23 (by decide)
    have v24:f 24 = .int .i64 (l.p:Nat):=hV 24 (by decide)
    have v25:f 25 = .agg (Sg.cs ⟨l.M,l.c,l.j,nu,1 + i * l.p,l.p,1⟩):=hV 25 (by decide)
    have v26:f 26 = .pointer (some ⟨w8.heap.size,0,none⟩):=hV 26 (by decide)
    have v27:f 27 = .pointer (some ⟨l.G,i,none⟩):=hV 27 (by decide)
    clear hV
    have HC:Hid (W = _):=hP.c rfl rfl
    clear hP
    generalize f 0 = z0 at *
    subst v0
    generalize f 1 = z1 at *
    subst v1
    generalize f 2 = z2 at *
    subst v2
    generalize f 3 = z3 at *
    subst v3
    generalize f 4 = z4 at *
    subst v4
    generalize f 5 = z5 at *
    subst v5
    generalize f 6 = z6 at *
    subst v6
    generalize f 7 = z7 at *
    subst v7
    generalize f 8 = z8 at *
    subst v8
    generalize f 9 = z9 at *
    subst v9
    generalize f 10 = z10 at *
    subst v10
    generalize f 11 = z11 at *
    subst v11
    generalize f 12 = z12 at *
    subst v12
    generalize f 13 = z13 at *
    subst v13
    generalize f 14 = z14 at *
    subst v14
    generalize f 15 = z15 at *
    subst v15
    generalize f 16 = z16 at *
    subst v16
    generalize f 17 = z17 at *
    subst v17
    generalize f 18 = z18 at *
    subst v18
    generalize f 19 = z19 at *
    subst v19
    generalize f 20 = z20 at *
    subst v20
    generalize f 21 = z21 at *
    subst v21
    generalize f 22 = z22 at *
    subst v22
    generalize f 23 = z23 at *
    subst v23
    generalize f 24 = z24 at *
    subst v24
    generalize f 25 = z25 at *
    subst v25
    generalize f 26 = z26 at *
    subst v26
    generalize f 27 = z27 at *
    subst v27
    have HDW:Hid (Dev T w L q n ((l.G,.cells (l.up i w8.heap.size nu).row 28) :: (w8.heap.size,Obj.cells (Sg.cs ⟨l.M,l.c,l.j,nu,1 + i * l.p,l.p,1⟩) 44) :: (Lb,Obj.cells (l.cs v) 128) :: (ol ++ (l.objs ++ rest))) now su c W):=by rw [HC.out]; exact HD10.out
    have hsz:w8.heap.size < W.heap.size:=by rw [HC.out]; simp [World.setCell]
    have HSZ:Hid (w8.heap.size < W.heap.size):=hsz
    clear hsz
    clear HC HD10 HB10 HB9 HG9 HB8
    have hd:=HDW.out
    have h8:=H8.out
    obtain ⟨ao,cp,hv⟩:=h8.pl.len
    have q5:W.cell? ⟨Lb,5,none⟩ = some v:=F.cell_of (hd.at' (p:=(Lb,Obj.cells (l.cs v) 128)) (by simp)) 5
    rw [hv] at q5
    have hown:=hd.ownI h8.pl (fun p hp=>by simp [hp])
    rw [hv] at hown
    have hown2:=hown.alloc (.cells #[nv i] 3)
    have hG2:(W.alloc (.cells #[nv i] 3)).heap[W.heap.size]? = some (.cells #[nv i] 3):=F.heap_new _ _
    have hle:T ≤ (W.alloc (.cells #[nv i] 3)).heap.size:=by have:=hd.le; simp; omega
    have hln:=h8.ok.ln
    have HV:Hid (v = .slice ao l.lv.length cp):=hv
    clear hd h8 hv hown
    unfold nv at hown2 hG2 hle
    go_wp2_with (first | refine papp rfl _ _ rfl T (.slice ao l.lv.length cp) l.lv rfl hown2 W.heap.size rfl i hG2 (by omega) hle (fun v' W' k1 k2 k3=>?_) | fail)
    have hdA:=(HDW.out.alloc (.cells #[.int .i64 (i:Nat)] 3) (F.apart_of (by decide))).forget (oth':=ol ++ ((Lb,Obj.cells (l.cs v) 128) :: (l.G,.cells (l.up i w8.heap.size nu).row 28) :: (w8.heap.size,Obj.cells (Sg.cs ⟨l.M,l.c,l.j,nu,1 + i * l.p,l.p,1⟩) 44) :: (l.objs ++ rest))) (by
      intro p hp
      simp only [List.mem_cons,List.mem_append] at hp ⊢
      rcases hp with hp | hp | hp | hp | hp | hp <;> simp [hp])
    have hap3:∀ p ∈ ol,∀ r ∈ (Lb,Obj.cells (l.cs v) 128) :: (l.G,Obj.cells (l.up i w8.heap.size nu).row 28) :: (w8.heap.size,Obj.cells (Sg.cs ⟨l.M,l.c,l.j,nu,1 + i * l.p,l.p,1⟩) 44) :: (l.objs ++ rest),p.1 ≠ r.1:=by
      intro p hp r hr
      obtain ⟨c',hc'⟩:=Plc.ty H8.out.pl p hp
      have hmem:p ∈ ol ++ ((Lb,Obj.cells (l.cs v) 128) :: (l.G,.cells (l.up i w8.heap.size nu).row 28) :: (w8.heap.size,Obj.cells (Sg.cs ⟨l.M,l.c,l.j,nu,1 + i * l.p,l.p,1⟩) 44) :: (l.objs ++ rest)):=List.mem_append_left _ hp
      by_cases hrr:r ∈ rest
      · exact H8.out.ap p (by simp [hp]) r hrr
      · refine hdA.ne hmem (List.mem_append_right _ hr) ?_
        rw [hc']
        simp only [List.mem_cons,List.mem_append] at hr
        rcases hr with rfl | rfl | rfl | hr | hr
        · exact cells_ne (by decide)
        · exact cells_ne (by decide)
        · exact cells_ne (by decide)
        · obtain ⟨c2,hc2⟩:=l.objs_ty r hr
          rw [hc2]; exact cells_ne (by decide)
        · exact absurd hr hrr
    obtain ⟨ol2,hp2,hd2,ha2⟩:=hdA.growI H8.out.pl hap3 (by rw [HV.out]; exact k2) k1 (by simp) (by rw [HV.out]; exact k3)
    have HP2:Hid (Plc v' (l.lv ++ [i]) ol2):=hp2
    have HA2:Hid (∀ p ∈ ol2,(∃ p0 ∈ ol,p0.1 = p.1) ∨ p.1 = (W.alloc (.cells #[.int .i64 (i:Nat)] 3)).heap.size):=ha2
    have hlR:∀ r ∈ rest,r.1 < (W.alloc (.cells #[.int .i64 (i:Nat)] 3)).heap.size:=fun r hr=>by have:=HDW.out.lts r (by simp [hr]); simp; omega
    have HAP:Hid (∀ p ∈ ol2,∀ r ∈ rest,p.1 ≠ r.1):=by
      intro p hp r hr
      rcases ha2 p hp with ⟨p0,h0,e0⟩ | e0
      · rw [← e0]; exact H8.out.ap p0 (by simp [h0]) r hr
      · have:=hlR r hr; omega
    have nL:∀ p ∈ ol2 ++ ((l.G,Obj.cells (l.up i w8.heap.size nu).row 28) :: (w8.heap.size,Obj.cells (Sg.cs ⟨l.M,l.c,l.j,nu,1 + i * l.p,l.p,1⟩) 44) :: (l.objs ++ rest)),p.1 ≠ Lb:=by
      intro p hp
      by_cases hrr:p ∈ rest
      · exact fun e=>H8.out.ap (Lb,Obj.cells (l.cs v) 128) (by simp) p hrr e.symm
      · have hm1:p ∈ ol2 ++ ((Lb,Obj.cells (l.cs v) 128) :: (l.G,Obj.cells (l.up i w8.heap.size nu).row 28) :: (w8.heap.size,Obj.cells (Sg.cs ⟨l.M,l.c,l.j,nu,1 + i * l.p,l.p,1⟩) 44) :: (l.objs ++ rest)):=by
          simp only [List.mem_cons,List.mem_append] at hp ⊢
          rcases hp with hp | hp | hp | hp | hp <;> simp [hp]
        refine hd2.ne (p:=p) (r:=(Lb,Obj.cells (l.cs v) 128)) hm1 (by simp) ?_
        simp only [List.mem_cons,List.mem_append] at hp
        rcases hp with hp | rfl | rfl | hp | hp
        · obtain ⟨c2,hc2⟩:=Plc.ty hp2 p hp
          rw [hc2]; exact cells_ne (by decide)
        · exact cells_ne (by decide)
        · exact cells_ne (by decide)
        · obtain ⟨c2,hc2⟩:=l.objs_ty p hp
          rw [hc2]; exact cells_ne (by decide)
        · exact absurd hp hrr
    have hb2:=hd2.at' (p:=(Lb,Obj.cells (l.cs v) 128)) (by simp)
    replace hb2:W'.heap[Lb]? = some (.cells (l.cs v) 128):=hb2
    have c5:W'.cell? ⟨Lb,5,none⟩ = some v:=F.cell_of hb2 5
    have f5:=F.frz_of hb2 5
    have hd3:=(hd2.forget (oth':=(Lb,Obj.cells (l.cs v) 128) :: (ol2 ++ ((l.G,Obj.cells (l.up i w8.heap.size nu).row 28) :: (w8.heap.size,Obj.cells (Sg.cs ⟨l.M,l.c,l.j,nu,1 + i * l.p,l.p,1⟩) 44) :: (l.objs ++ rest)))) (by
      intro p hp
      simp only [List.mem_cons,List.mem_append] at hp ⊢
      rcases hp with hp | hp | hp | hp | hp | hp <;> simp [hp])).off nL ((Off.refl Lb _).set 5 v') (o':=.cells (l.cs v') 128) (by rw [F.block_set hb2]; rfl) (F.apart_of (by decide))
    have hb3:=hd3.at' (p:=(Lb,Obj.cells (l.cs v') 128)) (by simp)
    replace hb3:(W'.setCell ⟨Lb,5,none⟩ v').heap[Lb]? = some (.cells (l.cs v') 128):=hb3
    have c6:(W'.setCell ⟨Lb,5,none⟩ v').cell? ⟨Lb,6,none⟩ = some (.int .u64 (l.m:Nat)):=F.cell_of hb3 6
    have f6:=F.frz_of hb3 6
    have hmx:max (l.m:Int) (nu:Int) = ((max l.m nu:Nat):Int):=by omega
    have hd4:=hd3.off nL ((Off.refl Lb _).set 6 (.int .u64 ((max l.m nu:Nat):Int))) (o':=.cells ((l.up i w8.heap.size nu).cs v') 128) (by rw [F.block_set hb3]; rfl) (F.apart_of (by decide))
    have HD4:Hid (Dev T w L q n ((Lb,Obj.cells ((l.up i w8.heap.size nu).cs v') 128) :: (ol2 ++ ((l.G,Obj.cells (l.up i w8.heap.size nu).row 28) :: (w8.heap.size,Obj.cells (Sg.cs ⟨l.M,l.c,l.j,nu,1 + i * l.p,l.p,1⟩) 44) :: (l.objs ++ rest)))) now su c ((W'.setCell ⟨Lb,5,none⟩ v').setCell ⟨Lb,6,none⟩ (.int .u64 ((max l.m nu:Nat):Int)))):=hd4
    clear hdA hap3 hp2 hd2 ha2 hlR nL hb2 hd3 hb3 hd4 k1 k2 k3 hown2 hG2 hle q5
    obtain ⟨bv,mv,cv,rfl⟩:∃ bv mv cv,v' = .slice bv mv cv:=by
      obtain ⟨x,y,e⟩:=HP2.out.len
      exact ⟨x,_,y,e⟩
    rw [HV.out] at c5
    unfold Stop
    go_wp2
    go_returns
    refine ⟨rfl,w8.heap.size,_,ol2,Lg.up_ok H8.out.ok H8.out.nd i w8.heap.size nu HI.out.2.2.1 HNL.out,HP2.out,HD4.out.forget ?_,H8.out.md,fun k hk=>?_,?_,?_,?_,H8.out.h5⟩
    · intro p hp
      rw [Lg.up_objs l i w8.heap.size nu HNL.out] at hp
      simp only [List.mem_cons,List.mem_append,List.not_mem_nil,or_false] at hp ⊢
      rcases hp with hp | hp | hp | (hp | hp) | hp
      · simp [hp]
      · right; right; left; exact hp
      · simp [hp]
      · simp [hp]
      · simp [hp]
      · simp [hp]
    · show (k ∈ l.lv ++ [i]) ↔ (if k = i then some w8.heap.size else l.pt k) ≠ none
      by_cases e:k = i
      · rw [if_pos e,e]; simp
      · rw [if_neg e]
        constructor
        · intro hm
          rcases List.mem_append.1 hm with hm | hm
          · exact (H8.out.pn k hk).1 hm
          · exact absurd (List.mem_singleton.1 hm) e
        · intro hm
          exact List.mem_append_left _ ((H8.out.pn k hk).2 hm)
    · exact List.nodup_append.2 ⟨H8.out.nd,by simp,fun a ha b hb=>by rw [List.mem_singleton.1 hb]; exact fun e=>HNL.out (e ▸ ha)⟩
    · have hold:∀ k ∈ l.lv,l.pt k ≠ some w8.heap.size:=fun k hk e=>by
        obtain ⟨S,s1,s2⟩:=H8.out.lz.s k hk
        rw [s1] at e
        have:=F.getElem?_lt s2
        have:=Option.some.inj e
        omega
      intro a ha b hb e
      replace e:(if a = i then some w8.heap.size else l.pt a) = (if b = i then some w8.heap.size else l.pt b):=e
      rcases List.mem_append.1 ha with ha | ha <;> rcases List.mem_append.1 hb with hb | hb
      · have na:a ≠ i:=fun x=>HNL.out (x ▸ ha)
        have nb:b ≠ i:=fun x=>HNL.out (x ▸ hb)
        rw [if_neg na,if_neg nb] at e
        exact H8.out.inj a ha b hb e
      · have na:a ≠ i:=fun x=>HNL.out (x ▸ ha)
        rw [if_neg na,if_pos (List.mem_singleton.1 hb)] at e
        exact absurd e (hold a ha)
      · have nb:b ≠ i:=fun x=>HNL.out (x ▸ hb)
        rw [if_neg nb,if_pos (List.mem_singleton.1 ha)] at e
        exact absurd e.symm (hold b hb)
      · rw [List.mem_singleton.1 ha,List.mem_singleton.1 hb]
    · intro p hp r hr
      rw [Lg.up_objs l i w8.heap.size nu HNL.out] at hp
      simp only [List.mem_cons,List.mem_append,List.not_mem_nil,or_false] at hp
      rcases hp with rfl | rfl | hp | (hp | rfl)
      · exact H8.out.ap (Lb,Obj.cells (l.cs v) 128) (by simp) r hr
      · exact H8.out.ap (l.G,Obj.cells l.row 28) (by simp) r hr
      · exact HAP.out p hp r hr
      · exact H8.out.ap p (by simp [hp]) r hr
      · have:=H8.out.dv.lts r (by simp [hr])
        show w8.heap.size ≠ r.1; omega
  case hputq=>
    repeat (refine ⟨fun f v=>rfl,?_⟩)
    trivial
  case stepq=>
    refine ⟨?_,?_⟩
    · intro done f W hP hdn hd K hK
      clear hd
      go_simp
      exact hK _ _ rfl (hP.pure (by decide) (by decide))
    refine ⟨?_,?_⟩
    · intro done f W hP hdn hd K hK
      have d0:=(hd.1 rfl).2
      have e0:done 0 = true:=(hd.1 rfl).1
      clear hd
      replace d0:f 0 = .pointer (some ⟨Lb,0,none⟩):=d0
      generalize f 0 = x0 at *
      subst d0
      clear e0
      go_simp
      exact hK _ _ rfl (hP.pure (by decide) (by decide))
    refine ⟨?_,?_⟩
    · intro done f W hP hdn hd K hK
      have d1:=(hd.1 rfl).2
      have e1:done 1 = true:=(hd.1 rfl).1
      clear hd
      replace d1:f 1 = .pointer (some ⟨Lb,0,none⟩):=d1
      generalize f 1 = x1 at *
      subst d1
      clear e1
      go_simp
      exact hK _ _ rfl (hP.pure (by decide) (by decide))
    refine ⟨?_,?_⟩
    · intro done f W hP hdn hd K hK
      have d2:=(hd.1 rfl).2
      have e2:done 2 = true:=(hd.1 rfl).1
      clear hd
      replace d2:f 2 = .pointer (some ⟨Lb,4,none⟩):=d2
      generalize f 2 = x2 at *
      subst d2
      clear e2
      have qb:W.heap[Lb]? = some (.cells (l.cs v) 128):=hP.any (D:=fun W=>W.heap[Lb]? = some (.cells (l.cs v) 128)) (fun e=>by rw [e]; exact HB8.out) (fun e=>by rw [e]; exact HB9.out) (fun e=>by rw [e]; exact HB10.out)
      have q:W.cell? ⟨Lb,4,none⟩ = some (.slice (some ⟨l.G,0,none⟩) l.ns l.ns):=F.cell_of qb 4
      go_simp
      exact hK _ _ rfl (hP.pure (by decide) (by decide))
    refine ⟨?_,?_⟩
    · intro done f W hP hdn hd K hK
      clear hd
      go_simp
      exact hK _ _ rfl (hP.pure (by decide) (by decide))
    refine ⟨?_,?_⟩
    · intro done f W hP hdn hd K hK
      clear hd
      go_simp
      exact hK _ _ rfl (hP.pure (by decide) (by decide))
    refine ⟨?_,?_⟩
    · intro done f W hP hdn hd K hK
      have d5:=(hd.1 rfl).2
      have e5:done 5 = true:=(hd.1 rfl).1
      clear hd
      replace d5:f 5 = .pointer (some ⟨Lb,0,none⟩):=d5
      generalize f 5 = x5 at *
      subst d5
      clear e5
      go_simp
      exact hK _ _ rfl (hP.pure (by decide) (by decide))
    refine ⟨?_,?_⟩
    · intro done f W hP hdn hd K hK
      have d6:=(hd.1 rfl).2
      have e6:done 6 = true:=(hd.1 rfl).1
      clear hd
      replace d6:f 6 = .pointer (some ⟨Lb,0,none⟩):=d6
      generalize f 6 = x6 at *
      subst d6
      clear e6
      go_simp
      exact hK _ _ rfl (hP.pure (by decide) (by decide))
    refine ⟨?_,?_⟩
    · intro done f W hP hdn hd K hK
      have d7:=(hd.1 rfl).2
      have e7:done 7 = true:=(hd.1 rfl).1
      clear hd
      replace d7:f 7 = .pointer (some ⟨Lb,0,none⟩):=d7
      generalize f 7 = x7 at *
      subst d7
      clear e7
      have qb:W.heap[Lb]? = some (.cells (l.cs v) 128):=hP.any (D:=fun W=>W.heap[Lb]? = some (.cells (l.cs v) 128)) (fun e=>by rw [e]; exact HB8.out) (fun e=>by rw [e]; exact HB9.out) (fun e=>by rw [e]; exact HB10.out)
      have q:W.cell? ⟨Lb,0,none⟩ = some (.pointer (some ⟨l.M,0,none⟩)):=F.cell_of qb 0
      go_simp
      exact hK _ _ rfl (hP.pure (by decide) (by decide))
    refine ⟨?_,?_⟩
    · intro done f W hP hdn hd K hK
      clear hd
      go_simp
      exact hK _ _ rfl (hP.pure (by decide) (by decide))
    refine ⟨?_,?_⟩
    · intro done f W hP hdn hd K hK
      have d9:=(hd.1 rfl).2
      have e9:done 9 = true:=(hd.1 rfl).1
      clear hd
      replace d9:f 9 = .pointer (some ⟨Lb,0,none⟩):=d9
      generalize f 9 = x9 at *
      subst d9
      clear e9
      go_simp
      exact hK _ _ rfl (hP.pure (by decide) (by decide))
    refine ⟨?_,?_⟩
    · intro done f W hP hdn hd K hK
      have d10:=(hd.1 rfl).2
      have e10:done 10 = true:=(hd.1 rfl).1
      clear hd
      replace d10:f 10 = .pointer (some ⟨Lb,0,none⟩):=d10
      generalize f 10 = x10 at *
      subst d10
      clear e10
      go_simp
      exact hK _ _ rfl (hP.pure (by decide) (by decide))
    refine ⟨?_,?_⟩
    · intro done f W hP hdn hd K hK
      have d11:=(hd.1 rfl).2
      have e11:done 11 = true:=(hd.1 rfl).1
      clear hd
      replace d11:f 11 = .pointer (some ⟨Lb,1,none⟩):=d11
      generalize f 11 = x11 at *
      subst d11
      clear e11
      have qb:W.heap[Lb]? = some (.cells (l.cs v) 128):=hP.any (D:=fun W=>W.heap[Lb]? = some (.cells (l.cs v) 128)) (fun e=>by rw [e]; exact HB8.out) (fun e=>by rw [e]; exact HB9.out) (fun e=>by rw [e]; exact HB10.out)
      have q:W.cell? ⟨Lb,1,none⟩ = some (.int .u64 (l.c:Nat)):=F.cell_of qb 1
      go_simp
      exact hK _ _ rfl (hP.pure (by decide) (by decide))
    refine ⟨?_,?_⟩
    · intro done f W hP hdn hd K hK
      clear hd
      go_simp
      exact hK _ _ rfl (hP.pure (by decide) (by decide))
    refine ⟨?_,?_⟩
    · intro done f W hP hdn hd K hK
      have d13:=(hd.1 rfl).2
      have e13:done 13 = true:=(hd.1 rfl).1
      clear hd
      replace d13:f 13 = .pointer (some ⟨Lb,0,none⟩):=d13
      generalize f 13 = x13 at *
      subst d13
      clear e13
      go_simp
      exact hK _ _ rfl (hP.pure (by decide) (by decide))
    refine ⟨?_,?_⟩
    · intro done f W hP hdn hd K hK
      have d14:=(hd.1 rfl).2
      have e14:done 14 = true:=(hd.1 rfl).1
      clear hd
      replace d14:f 14 = .pointer (some ⟨Lb,0,none⟩):=d14
      generalize f 14 = x14 at *
      subst d14
      clear e14
      go_simp
      exact hK _ _ rfl (hP.pure (by decide) (by decide))
    refine ⟨?_,?_⟩
    · intro done f W hP hdn hd K hK
      have d15:=(hd.1 rfl).2
      have e15:done 15 = true:=(hd.1 rfl).1
      clear hd
      replace d15:f 15 = .pointer (some ⟨Lb,2,none⟩):=d15
      generalize f 15 = x15 at *
      subst d15
      clear e15
      have qb:W.heap[Lb]? = some (.cells (l.cs v) 128):=hP.any (D:=fun W=>W.heap[Lb]? = some (.cells (l.cs v) 128)) (fun e=>by rw [e]; exact HB8.out) (fun e=>by rw [e]; exact HB9.out) (fun e=>by rw [e]; exact HB10.out)
      have q:W.cell? ⟨Lb,2,none⟩ = some (.int .u64 (l.j:Nat)):=F.cell_of qb 2
      go_simp
      exact hK _ _ rfl (hP.pure (by decide) (by decide))
    refine ⟨?_,?_⟩
    · intro done f W hP hdn hd K hK
      clear hd
      go_simp
      exact hK _ _ rfl (hP.pure (by decide) (by decide))
    refine ⟨?_,?_⟩
    · intro done f W hP hdn hd K hK
      clear hd
      go_simp
      exact hK _ _ rfl (hP.pure (by decide) (by decide))
    refine ⟨?_,?_⟩
    · intro done f W hP hdn hd K hK
      clear hd
      go_simp
      exact hK _ _ rfl (hP.pure (by decide) (by decide))
    refine ⟨?_,?_⟩
    · intro done f W hP hdn hd K hK
      have d18:=(hd.1 rfl).2
      have e18:done 18 = true:=(hd.1 rfl).1
      have d19:=(hd.2.1 rfl).2
      have e19:done 19 = true:=(hd.2.1 rfl).1
      clear hd
      replace d18:f 18 = .pointer (some ⟨Lb,0,none⟩):=d18
      replace d19:f 19 = .int .i64 (i:Nat):=d19
      generalize f 18 = x18 at *
      subst d18
      clear e18
      generalize f 19 = x19 at *
      subst d19
      clear e19
      have qb:W.heap[Lb]? = some (.cells (l.cs v) 128):=hP.any (D:=fun W=>W.heap[Lb]? = some (.cells (l.cs v) 128)) (fun e=>by rw [e]; exact HB8.out) (fun e=>by rw [e]; exact HB9.out) (fun e=>by rw [e]; exact HB10.out)
      have hba:=base_any qb i HI.out.1 HI.out.2.1
      go_simp
      refine Calls.mono hba ?_
      rintro er W' ⟨rfl,rfl⟩
      exact hK _ _ rfl (hP.pure (by decide) (by decide))
    refine ⟨?_,?_⟩
    · intro done f W hP hdn hd K hK
      clear hd
      go_simp
      exact hK _ _ rfl (hP.pure (by decide) (by decide))
    refine ⟨?_,?_⟩
    · intro done f W hP hdn hd K hK
      have d21:=(hd.1 rfl).2
      have e21:done 21 = true:=(hd.1 rfl).1
      clear hd
      replace d21:f 21 = .pointer (some ⟨Lb,0,none⟩):=d21
      generalize f 21 = x21 at *
      subst d21
      clear e21
      go_simp
      exact hK _ _ rfl (hP.pure (by decide) (by decide))
    refine ⟨?_,?_⟩
    · intro done f W hP hdn hd K hK
      have d22:=(hd.1 rfl).2
      have e22:done 22 = true:=(hd.1 rfl).1
      clear hd
      replace d22:f 22 = .pointer (some ⟨Lb,0,none⟩):=d22
      generalize f 22 = x22 at *
      subst d22
      clear e22
      go_simp
      exact hK _ _ rfl (hP.pure (by decide) (by decide))
    refine ⟨?_,?_⟩
    · intro done f W hP hdn hd K hK
      have d23:=(hd.1 rfl).2
      have e23:done 23 = true:=(hd.1 rfl).1
      clear hd
      replace d23:f 23 = .pointer (some ⟨Lb,3,none⟩):=d23
      generalize f 23 = x23 at *
      subst d23
      clear e23
      have qb:W.heap[Lb]? = some (.cells (l.cs v) 128):=hP.any (D:=fun W=>W.heap[Lb]? = some (.cells (l.cs v) 128)) (fun e=>by rw [e]; exact HB8.out) (fun e=>by rw [e]; exact HB9.out) (fun e=>by rw [e]; exact HB10.out)
      have q:W.cell? ⟨Lb,3,none⟩ = some (.int .i64 (l.p:Nat)):=F.cell_of qb 3
      go_simp
      exact hK _ _ rfl (hP.pure (by decide) (by decide))
    refine ⟨?_,?_⟩
    · intro done f W hP hdn hd K hK
      have d8:=(hd.1 rfl).2
      have e8:done 8 = true:=(hd.1 rfl).1
      have d12:=(hd.2.1 rfl).2
      have e12:done 12 = true:=(hd.2.1 rfl).1
      have d16:=(hd.2.2.1 rfl).2
      have e16:done 16 = true:=(hd.2.2.1 rfl).1
      have d17:=(hd.2.2.2.1 rfl).2
      have e17:done 17 = true:=(hd.2.2.2.1 rfl).1
      have d20:=(hd.2.2.2.2.1 rfl).2
      have e20:done 20 = true:=(hd.2.2.2.2.1 rfl).1
      have d24:=(hd.2.2.2.2.2.1 rfl).2
      have e24:done 24 = true:=(hd.2.2.2.2.2.1 rfl).1
      clear hd
      replace d8:f 8 = .pointer (some ⟨l.M,0,none⟩):=d8
      replace d12:f 12 = .int .u64 (l.c:Nat):=d12
      replace d16:f 16 = .int .u64 (l.j:Nat):=d16
      replace d17:f 17 = .int .u64 (nu:Nat):=d17
      replace d20:f 20 = .int .i64 ((1 + i * l.p:Nat):Int):=d20
      replace d24:f 24 = .int .i64 (l.p:Nat):=d24
      generalize f 8 = x8 at *
      subst d8
      clear e8
      generalize f 12 = x12 at *
      subst d12
      clear e12
      generalize f 16 = x16 at *
      subst d16
      clear e16
      generalize f 17 = x17 at *
      subst d17
      clear e17
      generalize f 20 = x20 at *
      subst d20
      clear e20
      generalize f 24 = x24 at *
      subst d24
      clear e24
      go_simp
      exact hK _ _ rfl (hP.pure (by decide) (by decide))
    refine ⟨?_,?_⟩
    · intro done f W hP hdn hd K hK
      have d25:=(hd.1 rfl).2
      have e25:done 25 = true:=(hd.1 rfl).1
      clear hd
      replace d25:f 25 = .agg (Sg.cs ⟨l.M,l.c,l.j,nu,1 + i * l.p,l.p,1⟩):=d25
      generalize f 25 = x25 at *
      subst d25
      clear e25
      have hA:=hP.a hdn
      have hB:=hP.one (g:=F.upd f 26 (.pointer (some ⟨w8.heap.size,0,none⟩))) (W':=w8.alloc (.cells (Sg.cs ⟨l.M,l.c,l.j,nu,1 + i * l.p,l.p,1⟩) 44)) (by decide) hdn rfl
      subst hA
      go_simp
      exact hK _ _ rfl hB
    refine ⟨?_,?_⟩
    · intro done f W hP hdn hd K hK
      have d3:=(hd.1 rfl).2
      have e3:done 3 = true:=(hd.1 rfl).1
      have d4:=(hd.2.1 rfl).2
      have e4:done 4 = true:=(hd.2.1 rfl).1
      clear hd
      replace d3:f 3 = .slice (some ⟨l.G,0,none⟩) l.ns l.ns:=d3
      replace d4:f 4 = .int .i64 (i:Nat):=d4
      generalize f 3 = x3 at *
      subst d3
      clear e3
      generalize f 4 = x4 at *
      subst d4
      clear e4
      go_simp
      exact hK _ _ rfl (hP.pure (by decide) (by decide))
    refine ⟨?_,?_⟩
    · intro done f W hP hdn hd K hK
      have d27:=(hd.1 rfl).2
      have e27:done 27 = true:=(hd.1 rfl).1
      have d26:=(hd.2.1 rfl).2
      have e26:done 26 = true:=(hd.2.1 rfl).1
      clear hd
      replace d27:f 27 = .pointer (some ⟨l.G,i,none⟩):=d27
      replace d26:f 26 = .pointer (some ⟨w8.heap.size,0,none⟩):=d26
      generalize f 27 = x27 at *
      subst d27
      clear e27
      generalize f 26 = x26 at *
      subst d26
      have e26:done 26 = true:=e26
      have hB:=hP.b e26 hdn
      have hC:=hP.two (g:=F.upd f 28 (.bool false)) (W':=(w8.alloc (.cells (Sg.cs ⟨l.M,l.c,l.j,nu,1 + i * l.p,l.p,1⟩) 44)).setCell ⟨l.G,i,none⟩ (.pointer (some ⟨w8.heap.size,0,none⟩))) (by decide) e26 rfl
      subst hB
      have qg:=F.cell_of HG9.out i
      rw [l.row_get i HI.out.2.2.1] at qg
      have qz:=F.frz_of HG9.out i
      go_simp
      exact hK (.bool false) _ trivial hC
    trivial
end Go.Proofs.YtncfbocbigdhiaaGreat.U
