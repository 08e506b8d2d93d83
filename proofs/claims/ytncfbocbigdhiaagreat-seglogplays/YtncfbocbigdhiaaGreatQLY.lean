/- Texts of this seat, one behind the other. -/
import Derived.Test.YtncfbocbigdhiaaGreatQLX
/- A row of texts that grows beside a log; all places of a log's groups, one by one. -/
namespace Go.Proofs.YtncfbocbigdhiaaGreat.U
open Go Go.RowKit Go.Sort
structure PhA (A0 A:World → Prop) (B C:Value → World → Prop) (D:World → Prop) (done:Nat → Bool) (f:Nat → Value) (W:World):Prop where
  a0:done 3 = false → A0 W
  a:done 3 = true → done 4 = false → A W
  b:done 4 = true → done 5 = false → B (f 4) W
  c:done 5 = true → done 6 = false → C (f 5) W
  d:done 6 = true → D W
  e8:done 4 = true → done 3 = true
  e9:done 5 = true → done 4 = true
  e10:done 6 = true → done 5 = true
  all:done 6 = true → ∀ j,j < 6 → done j = true
section
variable {A0 A:World → Prop} {B C:Value → World → Prop} {D:World → Prop} {done:Nat → Bool} {f:Nat → Value} {W W':World}
theorem PhA.start (h:A0 W):PhA A0 A B C D (fun _=>false) f W:=by
  refine ⟨fun _=>h,?_,?_,?_,?_,?_,?_,?_,?_⟩ <;> intro e <;> cases e
theorem PhA.not10 (h:PhA A0 A B C D done f W) {j:Nat} (hj:j < 6) (hd:done j = false):done 6 = false:=by
  cases e:done 6 with
  | false=>rfl
  | true=>rw [h.all e j hj] at hd; cases hd
theorem PhA.pure (h:PhA A0 A B C D done f W) (v:Value) {j:Nat} (hj:j < 3) (hd:done j = false):PhA A0 A B C D (F.updB done j) (F.upd f j v) W:=by
  have n10:=h.not10 (by omega) hd
  have e7:F.updB done j 3 = done 3:=if_neg (by omega)
  have e8:F.updB done j 4 = done 4:=if_neg (by omega)
  have e9:F.updB done j 5 = done 5:=if_neg (by omega)
  have e10:F.updB done j 6 = done 6:=if_neg (by omega)
  have f8:F.upd f j v 4 = f 4:=if_neg (by omega)
  have f9:F.upd f j v 5 = f 5:=if_neg (by omega)
  exact ⟨by rw [e7]; exact h.a0,by rw [e7,e8]; exact h.a,by rw [e8,e9,f8]; exact h.b,by rw [e9,e10,f9]; exact h.c,by rw [e10]; exact h.d,by rw [e7,e8]; exact h.e8,by rw [e8,e9]; exact h.e9,by rw [e9,e10]; exact h.e10,(by rw [e10,n10]; intro e; cases e)⟩
theorem PhA.s7 (h:PhA A0 A B C D done f W) (v:Value) (hd:done 3 = false) (hA:A W'):PhA A0 A B C D (F.updB done 3) (F.upd f 3 v) W':=by
  have n10:=h.not10 (by decide) hd
  have n8:done 4 = false:=by
    cases e:done 4 with
    | false=>rfl
    | true=>rw [h.e8 e] at hd; cases hd
  have n9:done 5 = false:=by
    cases e:done 5 with
    | false=>rfl
    | true=>rw [h.e9 e] at n8; cases n8
  have e7:F.updB done 3 3 = true:=rfl
  have e8:F.updB done 3 4 = false:=n8
  have e9:F.updB done 3 5 = false:=n9
  have e10:F.updB done 3 6 = false:=n10
  exact ⟨(by rw [e7]; intro e; cases e),fun _ _=>hA,(by rw [e8]; intro e; cases e),(by rw [e9]; intro e; cases e),(by rw [e10]; intro e; cases e),fun _=>e7,(by rw [e9]; intro e; cases e),(by rw [e10]; intro e; cases e),(by rw [e10]; intro e; cases e)⟩
theorem PhA.s8 (h:PhA A0 A B C D done f W) (v:Value) (h7:done 3 = true) (hd:done 4 = false) (hB:B v W'):PhA A0 A B C D (F.updB done 4) (F.upd f 4 v) W':=by
  have n10:=h.not10 (by decide) hd
  have n9:done 5 = false:=by
    cases e:done 5 with
    | false=>rfl
    | true=>rw [h.e9 e] at hd; cases hd
  have e7:F.updB done 4 3 = true:=h7
  have e8:F.updB done 4 4 = true:=rfl
  have e9:F.updB done 4 5 = false:=n9
  have e10:F.updB done 4 6 = false:=n10
  exact ⟨(by rw [e7]; intro e; cases e),(by rw [e8]; intro _ e; cases e),fun _ _=>hB,(by rw [e9]; intro e; cases e),(by rw [e10]; intro e; cases e),fun _=>e7,fun _=>e8,(by rw [e10]; intro e; cases e),(by rw [e10]; intro e; cases e)⟩
theorem PhA.s9 (h:PhA A0 A B C D done f W) (v:Value) (h8:done 4 = true) (hd:done 5 = false) (hC:C v W'):PhA A0 A B C D (F.updB done 5) (F.upd f 5 v) W':=by
  have n10:=h.not10 (by decide) hd
  have e7:F.updB done 5 3 = true:=h.e8 h8
  have e8:F.updB done 5 4 = true:=h8
  have e9:F.updB done 5 5 = true:=rfl
  have e10:F.updB done 5 6 = false:=n10
  exact ⟨(by rw [e7]; intro e; cases e),(by rw [e8]; intro _ e; cases e),(by rw [e9]; intro _ e; cases e),fun _ _=>hC,(by rw [e10]; intro e; cases e),fun _=>e7,fun _=>e8,fun _=>e9,(by rw [e10]; intro e; cases e)⟩
theorem PhA.s10 (h:PhA A0 A B C D done f W) (v:Value) (ha:∀ j,j < 6 → done j = true) (hD:D W'):PhA A0 A B C D (F.updB done 6) (F.upd f 6 v) W':=by
  have e7:F.updB done 6 3 = true:=ha 3 (by decide)
  have e8:F.updB done 6 4 = true:=ha 4 (by decide)
  have e9:F.updB done 6 5 = true:=ha 5 (by decide)
  have e10:F.updB done 6 6 = true:=rfl
  have _:=h.e8
  exact ⟨(by rw [e7]; intro e; cases e),(by rw [e8]; intro _ e; cases e),(by rw [e9]; intro _ e; cases e),(by rw [e10]; intro _ e; cases e),fun _=>hD,fun _=>e7,fun _=>e8,fun _=>e9,fun _ j hj=>by show (if j = 6 then true else done j) = true; rw [if_neg (by omega)]; exact ha j hj⟩
theorem PhA.any {E:World → Prop} (h:PhA A0 A B C D done f W) (n10:done 6 = false) (h1:A0 W → E W) (h2:A W → E W) (h3:∀ v,B v W → E W) (h4:∀ v,C v W → E W):E W:=by
  cases e7:done 3 with
  | false=>exact h1 (h.a0 e7)
  | true=>
    cases e8:done 4 with
    | false=>exact h2 (h.a e7 e8)
    | true=>
      cases e9:done 5 with
      | false=>exact h3 _ (h.b e8 e9)
      | true=>exact h4 _ (h.c e9 n10)
end
theorem tappw {o:Oper} {a:Act} {K:Act → World → Prop} {Q:Exit → Act → World → Prop} {W:World} (s x:Operand) (ho:o.op = .call { callee:=.builtin .append,args:=#[s,x],argTypes:=#[30,30] }) {T1:Nat} {v:Value} {xs:List ByteArray} {G:Nat} {y:ByteArray} (hs:a.eval s = v) (hx:a.eval x = .slice (some ⟨G,0,none⟩) 1 1) (hG:W.heap[G]? = some (.cells #[.string y] 9)) (hown:W.ownsRow T1 9 1 v xs.length (xs.map .string)) (hT:T1 ≤ W.heap.size) (hl:xs.length ≤ 1000)
    (hK:∀ v' W',W'.ownsRow T1 9 1 v' (xs.length + 1) (xs.map .string ++ [.string y]) → W.grownBy W' v.ownBlock → (v'.ownBlock = v.ownBlock ∨ v'.ownBlock = some W.heap.size) → K (a.put o.dst v') W'):Oper.wp Tryz.prog o a W K Q:=by
  obtain ⟨i,hi,hz,hsz,hby⟩:=info_parts tinfo
  obtain ⟨v',W',hr,r2,r3,r4,r5⟩:=run_append_own_at (P:=Tryz.prog) W T1 30 o.type 9 i (.string ⟨#[]⟩) 1 16 Tryz.underlying30 hi hz hsz hby (by kernel_rfl) (by decide) v xs.length (xs.map .string) hown ⟨G,0,none⟩ 1 1 [.string y] rfl (fun j u hj=>by
    rcases j with _ | j
    · simp at hj; subst hj
      have:(⟨G,0,none⟩:Addr).add 0 = ⟨G,0,none⟩:=by simp [Addr.add]
      rw [this,F.cell_of hG]; rfl
    · simp at hj) (fun u hu=>by simp at hu; rw [hu]; rfl) (by unfold maxLen; omega) (by omega) hT
  unfold Oper.wp execOp
  simp only [ho,resolve,invoke,builtin,Sem.run_bind,Sem.run_pure,Result.andThen_ok,List.map_toArray,List.map_cons,List.map_nil,hs,hx,hr]
  exact hK v' W' r2 r3 r5
section
variable {T:Nat} {w:World} {L:F.Loc} {q:Int} {n Lb:Nat} {l:Lg} {v:Value} {ol rest:List (Nat × Obj)} {now su:Nat → ByteArray} {c:Int} {W W':World}
theorem Dev.ownS {tv:Value} {xs:List ByteArray} {tl oth:List (Nat × Obj)} (h:Txs tv xs tl) (hd:Dev T w L q n oth now su c W) (hs:∀ p ∈ tl,p ∈ oth):W.ownsRow T 9 1 tv xs.length (xs.map .string):=by
  rcases h with ⟨rfl,rfl,rfl⟩ | ⟨g,cap,cur,rfl,rfl,h1,h2,h3,h4⟩
  · exact ⟨rfl,Or.inl ⟨rfl,rfl⟩⟩
  · have o1:=hd.at' (hs (g,.cells cur 9) (List.mem_singleton.2 rfl))
    have o4:=hd.ge (hs (g,.cells cur 9) (List.mem_singleton.2 rfl))
    exact ⟨by simp,Or.inr ⟨g,cap,cur,rfl,o4,o1,h1,h2,by rw [Nat.mul_one]; exact h3,by rw [Nat.mul_one]; exact h4⟩⟩
theorem Dev.growS {tv tv':Value} {xs:List ByteArray} {x:ByteArray} {tl oth:List (Nat × Obj)} (h:Dev T w L q n (tl ++ oth) now su c W) (ht:Txs tv xs tl) (hd:∀ p ∈ tl,∀ r ∈ oth,p.1 ≠ r.1) (hg:W.grownBy W' tv.ownBlock) (hn:W'.ownsRow T 9 1 tv' (xs.length + 1) (xs.map .string ++ [.string x])) (hw:tv'.ownBlock = tv.ownBlock ∨ tv'.ownBlock = some W.heap.size) :
    ∃ tl',Txs tv' (xs ++ [x]) tl' ∧ Dev T w L q n (tl' ++ oth) now su c W' ∧ (∀ p ∈ tl',∀ r ∈ oth,p.1 ≠ r.1) ∧ ∀ p ∈ tl',(∃ p0 ∈ tl,p0.1 = p.1) ∨ p.1 = W.heap.size:=by
  have hown:=Dev.ownS ht h (fun p hp=>List.mem_append_left _ hp)
  have hr:∀ g,tv.ownBlock = some g → T ≤ g ∧ ∃ c,W.heap[g]? = some (.cells c 9):=by
    intro g e
    rcases hown.2 with ⟨rfl,_⟩ | ⟨g',cap,cur,rfl,k1,k2,_⟩
    · cases e
    · injection e with e
      subst e
      exact ⟨k1,cur,k2⟩
  have hla:∀ g,tv.ownBlock = some g → ∃ p ∈ tl,p.1 = g:=by
    intro g e
    rcases ht with ⟨rfl,_,_⟩ | ⟨g',cap,cur,rfl,rfl,_⟩
    · cases e
    · injection e with e
      exact ⟨(g',.cells cur 9),List.mem_singleton.2 rfl,e⟩
  have hbase:∀ p ∈ oth,tv.ownBlock ≠ some p.1:=by
    intro p hp e
    obtain ⟨r,hr1,hr2⟩:=hla _ e
    exact hd r hr1 p hp hr2
  have hlts:=h.lts
  obtain ⟨st,lv,ats,h1,h2⟩:=h.ex
  have h3:F.One T w L st lv oth W:=h1.forget (fun p hp=>List.mem_append_right _ hp)
  have h4:=h3.grownS hg hr hbase
  rcases hn.2 with ⟨_,e0⟩ | ⟨g,cap,cur,rfl,k1,k2,k3,k4,k5,k6⟩
  · exact absurd e0 (Nat.succ_ne_zero _)
  · rw [Nat.mul_one] at k5 k6
    have h5:=h4.addS k2 k1
    have hgn:∀ p ∈ oth,p.1 ≠ g:=by
      intro p hp e
      rcases hw with hw | hw
      · exact hbase p hp (by rw [← hw,e]; rfl)
      · have:=hlts p (List.mem_append_right _ hp)
        have e2:g = W.heap.size:=Option.some.inj hw
        omega
    refine ⟨[(g,.cells cur 9)],Or.inr ⟨g,cap,cur,?_,rfl,?_,k4,k5,?_⟩,⟨st,lv,ats,h5,h2⟩,?_,?_⟩
    · rw [List.length_append]; rfl
    · rw [List.length_append]; exact k3
    · rw [List.length_append,List.map_append]; exact k6
    · intro p hp r hr'
      rw [List.mem_singleton.1 hp]
      exact fun e=>hgn r hr' e.symm
    · intro p hp
      rw [List.mem_singleton.1 hp]
      rcases hw with hw | hw
      · left
        obtain ⟨r,hr1,hr2⟩:=hla g (by rw [← hw]; rfl)
        exact ⟨r,hr1,hr2⟩
      · right
        exact Option.some.inj hw
theorem LgI.growS {tv tv':Value} {xs:List ByteArray} {x:ByteArray} {tl:List (Nat × Obj)} (h:LgI T w L q n Lb l v ol (tl ++ rest) now su c W) (hm:(l.M,F.med L.P 1 q) ∈ rest) (ht:Txs tv xs tl) (hd:∀ p ∈ tl,∀ r ∈ rest,p.1 ≠ r.1) (hg:W.grownBy W' tv.ownBlock) (hn:W'.ownsRow T 9 1 tv' (xs.length + 1) (xs.map .string ++ [.string x])) (hw:tv'.ownBlock = tv.ownBlock ∨ tv'.ownBlock = some W.heap.size) :
    ∃ tl',Txs tv' (xs ++ [x]) tl' ∧ LgI T w L q n Lb l v ol (tl' ++ rest) now su c W' ∧ ∀ p ∈ tl',∀ r ∈ rest,p.1 ≠ r.1:=by
  have hall:∀ p ∈ tl,∀ r ∈ (Lb,Obj.cells (l.cs v) 128) :: (l.G,Obj.cells l.row 28) :: (ol ++ (l.objs ++ rest)),p.1 ≠ r.1:=by
    intro p hp r hr
    by_cases hrr:r ∈ rest
    · exact hd p hp r hrr
    · refine fun e=>h.ap r ?_ p (List.mem_append_left _ hp) e.symm
      simp only [List.mem_cons,List.mem_append] at hr ⊢
      rcases hr with hr | hr | hr | hr | hr
      · simp [hr]
      · simp [hr]
      · simp [hr]
      · simp [hr]
      · exact absurd hr hrr
  obtain ⟨tl',a1,a2,a3,a4⟩:=Dev.growS (h.dv.forget (oth':=tl ++ ((Lb,Obj.cells (l.cs v) 128) :: (l.G,Obj.cells l.row 28) :: (ol ++ (l.objs ++ rest)))) (by
    intro p hp
    simp only [List.mem_cons,List.mem_append] at hp ⊢
    rcases hp with hp | hp | hp | hp | hp | hp <;> simp [hp])) ht hall hg hn hw
  refine ⟨tl',a1,⟨h.ok,h.pl,a2.forget ?_,List.mem_append_right _ hm,h.pn,h.nd,h.inj,?_,?_⟩,fun p hp r hr=>a3 p hp r (by simp [hr])⟩
  · intro p hp
    simp only [List.mem_cons,List.mem_append] at hp ⊢
    rcases hp with hp | hp | hp | hp | hp | hp <;> simp [hp]
  · intro p hp r hr
    rcases List.mem_append.1 hr with hr | hr
    · refine fun e=>a3 r hr p ?_ e.symm
      simp only [List.mem_cons,List.mem_append] at hp ⊢
      rcases hp with hp | hp | hp | hp <;> simp [hp]
    · exact h.ap p hp r (List.mem_append_right _ hr)
  · intro p hp
    rcases List.mem_append.1 hp with hp | hp
    · obtain ⟨c',hc'⟩:=a1.ty p hp
      rw [hc']; exact fun _ _=>cells_ne2 (by decide)
    · exact h.h5 p (List.mem_append_right _ hp)
end
def allX (gs:Nat → List (Nat × ByteArray)) (xs:List Nat):List ByteArray:=xs.flatMap (fun i=>(gs i).map Prod.snd)
theorem allX_len (gs:Nat → List (Nat × ByteArray)):∀ xs:List Nat,(allX gs xs).length = allN (fun i=>(gs i).length) xs
  | []=>rfl
  | i :: xs=>by
    have:=allX_len gs xs
    unfold allX at this ⊢
    rw [List.flatMap_cons,List.length_append,this,List.length_map]; rfl
theorem getE {l:List Nat} {k:Nat} (h:k < l.length):l[k]! = l[k]:=by
  rw [List.getElem!_eq_getElem?_getD,List.getElem?_eq_getElem h]; rfl
theorem locs_at (gs:Nat → List (Nat × ByteArray)) (e:Nat → Nat) (G:Nat → Nat → Nat → ByteArray → Prop):∀ (xs:List Nat),(∀ i ∈ xs,∀ m (hm:m < (gs i).length),∃ k,G i (gs i)[m].1 k (gs i)[m].2 ∧ ((gs i).map Prod.fst ++ [e i])[m + 1]! = (gs i)[m].1 + 1 + k) → ∀ t,t < allN (fun i=>(gs i).length) xs →
    ∃ i ∈ xs,∃ a k x,G i a k x ∧ (allX gs xs)[t]? = some x ∧ (allC (fun i=>(gs i).map Prod.fst ++ [e i]) (fun i=>(gs i).length) xs)[3 * t]? = some (nv i) ∧ (allC (fun i=>(gs i).map Prod.fst ++ [e i]) (fun i=>(gs i).length) xs)[3 * t + 1]? = some (nv a) ∧ (allC (fun i=>(gs i).map Prod.fst ++ [e i]) (fun i=>(gs i).length) xs)[3 * t + 2]? = some (.int .i64 (k:Nat))
  | [],_,t,ht=>absurd ht (Nat.not_lt_zero _)
  | i :: xs,h,t,ht=>by
    replace ht:t < (gs i).length + allN (fun i=>(gs i).length) xs:=ht
    have hl:=segC_len i ((gs i).map Prod.fst ++ [e i]) (gs i).length
    have eC:allC (fun i=>(gs i).map Prod.fst ++ [e i]) (fun i=>(gs i).length) (i :: xs) = segC i ((gs i).map Prod.fst ++ [e i]) (gs i).length ++ allC (fun i=>(gs i).map Prod.fst ++ [e i]) (fun i=>(gs i).length) xs:=by
      unfold allC; rw [List.flatMap_cons]
    have eX:allX gs (i :: xs) = (gs i).map Prod.snd ++ allX gs xs:=by
      unfold allX; rw [List.flatMap_cons]
    rw [eC,eX]
    rcases Nat.lt_or_ge t (gs i).length with c | c
    · obtain ⟨k,hG,hk⟩:=h i (List.mem_cons_self ..) t c
      obtain ⟨s1,s2,s3⟩:=segC_get i ((gs i).map Prod.fst ++ [e i]) (gs i).length t c
      have e1:((gs i).map Prod.fst ++ [e i])[t]! = (gs i)[t].1:=by
        rw [getE (by rw [List.length_append,List.length_map]; simp; omega),List.getElem_append_left (by rw [List.length_map]; exact c),List.getElem_map]
      rw [e1] at s2 s3
      rw [hk] at s3
      refine ⟨i,List.mem_cons_self ..,_,k,_,hG,?_,?_,?_,?_⟩
      · rw [List.getElem?_append_left (by rw [List.length_map]; exact c),List.getElem?_map,List.getElem?_eq_getElem c]; rfl
      · rw [List.getElem?_append_left (by omega)]; exact s1
      · rw [List.getElem?_append_left (by omega)]; exact s2
      · rw [List.getElem?_append_left (by omega),s3]
        congr 2
        omega
    · obtain ⟨i2,hi2,a,k,x,h1,h2,h3,h4,h5⟩:=locs_at gs e G xs (fun i hi=>h i (List.mem_cons_of_mem _ hi)) (t - (gs i).length) (by omega)
      refine ⟨i2,List.mem_cons_of_mem _ hi2,a,k,x,h1,?_,?_,?_,?_⟩
      · rw [List.getElem?_append_right (by rw [List.length_map]; exact c),List.length_map]; exact h2
      · rw [List.getElem?_append_right (by omega),hl,show 3 * t - 3 * (gs i).length = 3 * (t - (gs i).length) by omega]; exact h3
      · rw [List.getElem?_append_right (by omega),hl,show 3 * t + 1 - 3 * (gs i).length = 3 * (t - (gs i).length) + 1 by omega]; exact h4
      · rw [List.getElem?_append_right (by omega),hl,show 3 * t + 2 - 3 * (gs i).length = 3 * (t - (gs i).length) + 2 by omega]; exact h5
theorem Chn.places {now:Nat → ByteArray} {s:Sg} {l:List (Nat × ByteArray)} {e:Nat} (h:Chn now s l e):∀ m (hm:m < l.length),∃ k,(1 ≤ l[m].1 ∧ Grp now s l[m].1 k l[m].2 ∧ l[m].1 + k < e) ∧ (l.map Prod.fst ++ [e])[m + 1]! = l[m].1 + 1 + k:=by
  intro m hm
  obtain ⟨k,h1,h2,h3,h4⟩:=h.at' m hm
  rcases Nat.lt_or_ge (m + 1) l.length with c | c
  · have e1:(l.map Prod.fst ++ [e])[m + 1]! = l[m + 1].1:=by
      rw [getE (by rw [List.length_append,List.length_map]; simp; omega),List.getElem_append_left (by rw [List.length_map]; exact c),List.getElem_map]
    have h5:=h3 c
    have h6:=h.lt.2 _ (List.getElem_mem c)
    exact ⟨k,⟨h1,h2,by omega⟩,by rw [e1,h5]⟩
  · have e1:(l.map Prod.fst ++ [e])[m + 1]! = e:=by
      rw [getE (by rw [List.length_append,List.length_map]; simp; omega),List.getElem_append_right (by rw [List.length_map]; exact c)]
      simp
    have h5:=h4 (by omega)
    exact ⟨k,⟨h1,h2,by omega⟩,by rw [e1,h5]⟩
end Go.Proofs.YtncfbocbigdhiaaGreat.U

/- The statements' own Open: what it hands to Guard, as a call. -/
namespace Go.Proofs.YtncfbocbigdhiaaGreat.U
open Go Go.RowKit Go.Sort
theorem ent71 (args:Array Value) (W:World):(callFunc 71 args).run Tryz.prog W = .ok (.enter 71 args) W:=O.enter_of Tryz.func71 (by kernel_rfl) (by kernel_rfl) args W
theorem Lcs.cellW {av:Value} {N:Nat} {ys:List Value} {la:List (Nat × Obj)} (h:Lcs av N ys la):∃ ao cp A,av = .slice ao N cp ∧ (0 < N → ao = some ⟨A,0,none⟩) ∧ ∀ W:World,(∀ p ∈ la,W.heap[p.1]? = some p.2) → ∀ j v,j < N * 3 → ys[j]? = some v → W.cell? ⟨A,j,none⟩ = some v:=by
  rcases h with ⟨rfl,rfl,rfl,rfl⟩ | ⟨g,cap,cur,rfl,rfl,h1,h2,h3,h4⟩
  · exact ⟨_,_,0,rfl,fun h=>absurd h (Nat.lt_irrefl _),fun W _ j v hj=>by omega⟩
  · refine ⟨_,_,g,rfl,fun _=>rfl,fun W hW j v hj hv=>?_⟩
    rw [F.cell_of (hW (g,.cells cur 77) (List.mem_singleton.2 rfl)),← hv,← h4,List.getElem?_take_of_lt hj,Array.getElem?_toList]
theorem allN_le (K:Nat → Nat) (b:Nat):∀ xs:List Nat,(∀ i ∈ xs,K i ≤ b) → allN K xs ≤ b * xs.length
  | [],_=>Nat.zero_le _
  | i :: xs,h=>by
    have:=allN_le K b xs (fun i hi=>h i (List.mem_cons_of_mem _ hi))
    have h2:=h i (List.mem_cons_self ..)
    show K i + allN K xs ≤ b * (xs.length + 1)
    rw [Nat.mul_succ]; omega
def V71 (Lb i a k:Nat) (tv:Value) (x:ByteArray):Nat → Value → Prop
  | 0,v=>v = tv
  | 1,v=>v = .pointer (some ⟨Lb,0,none⟩)
  | 2,v=>v = .agg #[.int .i64 (i:Nat),.int .i64 (a:Nat),.int .i64 (k:Nat)]
  | 3,v=>v = .string x
  | _,_=>True
set_option maxHeartbeats 4000000 in
set_option maxRecDepth 100000 in
theorem op71 {T:Nat} {w:World} {L:F.Loc} {q:Int} {n:Nat} {oth:List (Nat × Obj)} {now su:Nat → ByteArray} {c:Int} {W0:World} {Mb Gb Pb Ob Xb M p ns:Nat} (h:Dev T w L q n ((Ob,.cells #[.slice none 0 0] 30) :: (Xb,.cells #[.pointer none] 62) :: oth) now su c W0)
    (hMb:(Mb,Obj.cells #[.pointer (some ⟨M,0,none⟩)] 25) ∈ oth) (hGb:(Gb,Obj.cells #[.int .i64 (ns:Nat)] 3) ∈ oth) (hPb:(Pb,Obj.cells #[.int .i64 (p:Nat)] 3) ∈ oth) (hM:(M,F.med L.P 1 q) ∈ oth) (h5:∀ r ∈ oth,∀ c fz,r.2 ≠ .cells c 5 fz) (hno:∀ r ∈ oth,r.1 ≠ Ob) (hnx:∀ r ∈ oth,r.1 ≠ Xb) (hOX:Ob ≠ Xb)
    {g:Nat → Hd} {xs:List Nat} {gs:Nat → List (Nat × ByteArray)} {e:Nat → Nat} (him:Im now n p ns g xs gs e) (hp:8 ≤ p ∧ p ≤ 20) (hns:2 ≤ ns ∧ ns ≤ 6) (hfit:1 + ns * p ≤ n) (hn1:n ≤ 1000) (hc:c ≤ 1000000) (hmx:∀ i,i ≤ ns → mxN 3 g i < 18446744073709551616) :
    Calls Tryz.prog 71 #[.pointer (some ⟨Mb,0,none⟩),.pointer (some ⟨Gb,0,none⟩),.pointer (some ⟨Pb,0,none⟩),.pointer (some ⟨Ob,0,none⟩),.pointer (some ⟨Xb,0,none⟩)] W0 fun r w'=>r = .returned (.tuple #[]) ∧ ∃ B l v ol tv tl,Opn M 3 7 p B ns g xs e xs.length l ∧ Txs tv (allX gs xs) tl ∧ LgI T w L q n (B + 1) l v ol (tl ++ (Ob,.cells #[tv] 30) :: (Xb,.cells #[.pointer (some ⟨B + 1,0,none⟩)] 62) :: oth) now now (c + 9000) w' ∧ (∀ r ∈ tl,∀ s ∈ (Ob,Obj.cells #[tv] 30) :: (Xb,Obj.cells #[.pointer (some ⟨B + 1,0,none⟩)] 62) :: oth,r.1 ≠ s.1):=by
  have hgl:∀ i ∈ xs,(gs i).length ≤ 9:=fun i hi=>by
    have h1:=(him.ch i hi).len
    have h2:=him.ep i hi
    omega
  have hlen:=him.len
  have hN:allN (fun i=>(gs i).length) xs ≤ 54:=by
    have:=allN_le (fun i=>(gs i).length) 9 xs hgl
    have h2:9 * xs.length ≤ 9 * 6:=Nat.mul_le_mul_left 9 (by omega)
    omega
  have hsum:c + 1 + ns + 66 * ((allN (fun i=>(gs i).length) xs:Nat):Int) + 66 * xs.length ≤ c + 4200:=by omega
  obtain ⟨er,her⟩:∃ er:Nat → Int,∀ i,i < ns → (∀ W,Calls Tryz.prog 142 #[.string (now (1 + i * p))] W fun e w'=>e = .returned (.tuple #[.agg (g i).cs,.int .i64 (er i)]) ∧ Below W.heap.size W w') ∧ ((g i).c ≠ 3 ∨ (er i = 0 ∧ (g i).c = 3 ∧ (g i).j = 7 ∧ (g i).n < 18446744073709551616)):=by
    refine ⟨fun i=>if hi:i < ns then (him.head i hi).choose else 0,fun i hi=>?_⟩
    show (∀ W,Calls Tryz.prog 142 #[.string (now (1 + i * p))] W fun e w'=>e = .returned (.tuple #[.agg (g i).cs,.int .i64 (if hi:i < ns then (him.head i hi).choose else 0)]) ∧ Below W.heap.size W w') ∧ ((g i).c ≠ 3 ∨ ((if hi:i < ns then (him.head i hi).choose else 0) = 0 ∧ _))
    rw [dif_pos hi]; exact (him.head i hi).choose_spec
  have hop:=open_any (oth:=(Ob,.cells #[.slice none 0 0] 30) :: (Xb,.cells #[.pointer none] 62) :: oth) h M 3 7 p ns (by simp [hM]) (by
    intro r hr
    simp only [List.mem_cons] at hr
    rcases hr with rfl | rfl | hr
    · exact fun _ _=>cells_ne2 (by decide)
    · exact fun _ _=>cells_ne2 (by decide)
    · exact h5 r hr) ⟨hp.1,by omega⟩ ⟨hns.1,by omega⟩ ⟨by decide,by decide⟩ hfit hn1 (by omega) g er (fun i hi=>(her i hi).1) (fun i hi=>(her i hi).2) hmx (by rw [← him.perm.length_eq]; omega) xs him.perm him.asc gs e him.ks (fun i hi a=>Chn.segM (him.ch i hi) M a) (fun i hi a=>him.ends hfit i hi M a) (fun i hi=>⟨him.ep i hi,by have:=hgl i hi; omega⟩) (by omega)
  have qM:W0.cell? ⟨Mb,0,none⟩ = some (.pointer (some ⟨M,0,none⟩)):=F.cell_of (h.at' (p:=(Mb,Obj.cells #[.pointer (some ⟨M,0,none⟩)] 25)) (by simp [hMb])) 0
  have qG:W0.cell? ⟨Gb,0,none⟩ = some (.int .i64 (ns:Nat)):=F.cell_of (h.at' (p:=(Gb,Obj.cells #[.int .i64 (ns:Nat)] 3)) (by simp [hGb])) 0
  have qP:W0.cell? ⟨Pb,0,none⟩ = some (.int .i64 (p:Nat)):=F.cell_of (h.at' (p:=(Pb,Obj.cells #[.int .i64 (p:Nat)] 3)) (by simp [hPb])) 0
  have HC:Hid (c ≤ 1000000 ∧ allN (fun i=>(gs i).length) xs ≤ 54 ∧ n ≤ 1000 ∧ 1 + ns * p ≤ n):=⟨hc,hN,hn1,hfit⟩
  have HS:Hid (c + 1 + ns + 66 * ((allN (fun i=>(gs i).length) xs:Nat):Int) + 66 * xs.length ≤ c + 4200):=hsum
  have HN:Hid ((∀ r ∈ oth,r.1 ≠ Ob) ∧ (∀ r ∈ oth,r.1 ≠ Xb) ∧ Ob ≠ Xb ∧ (M,F.med L.P 1 q) ∈ oth):=⟨hno,hnx,hOX,hM⟩
  have HIM:Hid (Im now n p ns g xs gs e):=him
  clear h hMb hGb hPb hM h5 hno hnx hOX him hfit hn1 hc hmx hgl hlen hN hsum her
  go_enter Tryz.func71,Tryz.ntmps71
  go_wp2_with fail
  go_call hop as e0 w1 ⟨B,l,v,ol,av,la,rfl,hopn,hlc,hl,hap⟩
  obtain ⟨N,hNe⟩:∃ N,N = allN (fun i=>(gs i).length) xs:=⟨_,rfl⟩
  rw [← hNe] at hlc
  obtain ⟨ao,cp,A,hav,hao,hcell⟩:=hlc.cellW
  subst hav
  obtain ⟨rst,hrst⟩:∃ rst,rst = la ++ (Xb,Obj.cells #[.pointer none] 62) :: oth:=⟨_,rfl⟩
  have hnb:∀ r ∈ rst,r.1 ≠ Ob:=by
    intro r hr
    rw [hrst] at hr
    rcases List.mem_append.1 hr with hr | hr
    · exact hap r hr (Ob,.cells #[.slice none 0 0] 30) (by simp)
    · rcases List.mem_cons.1 hr with rfl | hr
      · exact Ne.symm HN.out.2.2.1
      · exact HN.out.1 r hr
  have hmr:(l.M,F.med L.P 1 q) ∈ rst:=by rw [hrst,hopn.eM]; simp [HN.out.2.2.2]
  have hl0:LgI T w L q n (B + 1) l v ol ([] ++ (Ob,.cells #[.slice none 0 0] 30) :: rst) now now (c + 4200) w1:=(hl.drop (rest':=[] ++ (Ob,.cells #[.slice none 0 0] 30) :: rst) (by simp [hmr]) (by
    intro r hr
    rw [hrst] at hr
    simp only [List.nil_append,List.mem_cons,List.mem_append] at hr ⊢
    rcases hr with hr | hr | hr | hr <;> simp [hr])).more HS.out
  have HL0:Hid _:=hl0
  have HR:Hid ((∀ r ∈ rst,r.1 ≠ Ob) ∧ (l.M,F.med L.P 1 q) ∈ rst ∧ rst = la ++ (Xb,Obj.cells #[.pointer none] 62) :: oth):=⟨hnb,hmr,hrst⟩
  have HO:Hid (Opn M 3 7 p B ns g xs e xs.length l):=hopn
  have HAO:Hid (0 < N → ao = some ⟨A,0,none⟩):=hao
  have HCE:Hid (∀ W:World,(∀ p ∈ la,W.heap[p.1]? = some p.2) → ∀ j v,j < N * 3 → (allC (fun i=>(gs i).map Prod.fst ++ [e i]) (fun i=>(gs i).length) xs)[j]? = some v → W.cell? ⟨A,j,none⟩ = some v):=hcell
  have HNE:Hid (N = allN (fun i=>(gs i).length) xs):=hNe
  have hN54:N ≤ 54:=by rw [hNe]; exact HC.out.2.1
  have hXl:(allX gs xs).length = N:=by rw [allX_len,hNe]
  have HXL:Hid _:=hXl
  have HLOC:Hid (∀ t,t < N → ∃ i ∈ xs,∃ a k x,(1 ≤ a ∧ Grp now (l.sg i) a k x ∧ a + k < l.a i) ∧ (allX gs xs)[t]? = some x ∧ (allC (fun i=>(gs i).map Prod.fst ++ [e i]) (fun i=>(gs i).length) xs)[3 * t]? = some (nv i) ∧ (allC (fun i=>(gs i).map Prod.fst ++ [e i]) (fun i=>(gs i).length) xs)[3 * t + 1]? = some (nv a) ∧ (allC (fun i=>(gs i).map Prod.fst ++ [e i]) (fun i=>(gs i).length) xs)[3 * t + 2]? = some (.int .i64 (k:Nat))):=by
    intro t ht
    refine locs_at gs e (fun i a k x=>1 ≤ a ∧ Grp now (l.sg i) a k x ∧ a + k < l.a i) xs (fun i hi m hm=>?_) t (by rw [← hNe]; exact ht)
    obtain ⟨k,⟨k1,k2,k3⟩,k4⟩:=Chn.places (HIM.out.ch i hi) m hm
    have hsg:l.sg i = ⟨M,3,7,(g i).n,1 + i * p,p,l.a i⟩:=by
      unfold Lg.sg; rw [hopn.eM,hopn.ec,hopn.ej,hopn.ep,hopn.enu i hi]
    have hla:l.a i = e i:=by
      obtain ⟨m2,hm2,rfl⟩:=List.getElem_of_mem hi
      exact hopn.ea m2 hm2 hm2
    exact ⟨k,⟨k1,by rw [hsg]; exact ⟨k2.sz,k2.k1,k2.fit,k2.com,k2.pay⟩,by rw [hla]; exact k3⟩,k4⟩
  clear hop hopn hlc hl hap hao hcell hrst hnb hmr hl0 hNe qM qG qP hXl
  go_wp2
  go_loopw [18] (fun iv wr=>∃ t tv tl,iv = .int .i64 ((t:Nat):Int) ∧ t ≤ N ∧ Hid (Txs tv ((allX gs xs).take t) tl ∧ (∀ r ∈ tl,∀ s ∈ (Ob,Obj.cells #[tv] 30) :: rst,r.1 ≠ s.1) ∧ LgI T w L q n (B + 1) l v ol (tl ++ (Ob,.cells #[tv] 30) :: rst) now now (c + 4200 + 64 * t) wr)) (fun iv _=>N - (intOf iv).toNat)
  case atStart=>exact ⟨0,_,[],rfl,Nat.zero_le _,Txs.nil,(fun r hr=>by cases hr),by simpa using HL0.out⟩
  case round=>
    obtain ⟨t,tv,tl,rfl,htN,HI⟩:=hrel
    clear HL0
    obtain ⟨hT,hA,hL⟩:=HI.out
    obtain ⟨tao,tcp,hTV⟩:∃ tao tcp,tv = .slice tao ((allX gs xs).take t).length tcp:=by
      rcases hT with ⟨rfl,h2,_⟩ | ⟨g,cap,cur,rfl,_⟩
      · rw [h2]; exact ⟨_,_,rfl⟩
      · exact ⟨_,_,rfl⟩
    have HTV:Hid _:=hTV
    clear hT hA hL hTV
    rcases Nat.lt_or_ge t N with ht | ht
    · obtain ⟨i,hi,a,k,x,⟨k1,k2,k3⟩,hx,c0,c1,c2⟩:=HLOC.out t ht
      have hq:∀ j v,j < N * 3 → (allC (fun i=>(gs i).map Prod.fst ++ [e i]) (fun i=>(gs i).length) xs)[j]? = some v → wr.cell? ⟨A,j,none⟩ = some v:=HCE.out wr (fun r hr=>HI.out.2.2.dv.at' (by rw [HR.out.2.2]; simp [hr]))
      have q0:=hq (3 * t) _ (by omega) c0
      have q1:=hq (3 * t + 1) _ (by omega) c1
      have q2:=hq (3 * t + 2) _ (by omega) c2
      unfold nv at q0 q1
      rw [Nat.mul_comm 3 t] at q0 q1 q2
      obtain rfl:=HAO.out (by omega)
      have HG:Hid (i ∈ xs ∧ 1 ≤ a ∧ Grp now (l.sg i) a k x ∧ a + k < l.a i ∧ (allX gs xs)[t]? = some x):=⟨hi,k1,k2,k3,hx⟩
      have htI:(t:Int) < (N:Int):=by omega
      clear hi k1 k2 k3 hx c0 c1 c2 hq
      go_wp2_with fail
      obtain ⟨hT,hA,hL⟩:=HI.out
      have hlt:=hL.lt
      have hb:=hL.hold (Obj.cells #[.int .i64 (i:Nat),.int .i64 (a:Nat),.int .i64 (k:Nat)] 77) (F.apart_of (by decide)) (fun _ _=>cells_ne2 (by decide))
      obtain ⟨X,hX⟩:∃ X,X = wr.heap.size:=⟨_,rfl⟩
      obtain ⟨W2,hW2⟩:∃ W2,W2 = wr.alloc (Obj.cells #[.int .i64 (i:Nat),.int .i64 (a:Nat),.int .i64 (k:Nat)] 77):=⟨_,rfl⟩
      obtain ⟨cc,hcc⟩:∃ cc:Int,cc = c + 4200 + 64 * (t:Int):=⟨_,rfl⟩
      obtain ⟨ys,hys⟩:∃ ys,ys = (allX gs xs).take t:=⟨_,rfl⟩
      have hxs:=HG.out.2.2.2.2
      have HYS:Hid ((allX gs xs).take (t + 1) = ys ++ [x]):=by show _ = _; rw [hys,List.take_add_one,hxs]; rfl
      have HCC:Hid (cc = c + 4200 + 64 * (t:Int)):=hcc
      rw [← hX,← hW2,← hcc] at hb
      have hil:i ∈ l.lv:=by rw [HO.out.elv]; exact HG.out.1
      have hin:i < ns:=by have:=hL.ok.lt i hil; rw [HO.out.ens] at this; exact this
      have hla:l.a i ≤ l.p:=(hL.ok.at1 i hil).2
      have HK64:Hid (k ≤ 64):=by show k ≤ 64; have:=hL.ok.p1; have:=HG.out.2.2.2.1; omega
      have HRD:Hid (i ∈ l.lv ∧ 1 + i * l.p + l.p ≤ n ∧ n ≤ 1000 ∧ cc ≤ 9000000 ∧ 1 ≤ a ∧ Grp now (l.sg i) a k x ∧ a + k < l.a i):=by
        refine ⟨hil,?_,HC.out.2.2.1,by have:=HC.out.1; omega,HG.out.2.1,HG.out.2.2.1,HG.out.2.2.2.1⟩
        have:=seg_lt (p:=p) hin
        have:=HC.out.2.2.2
        rw [HO.out.ep]; omega
      have HTY:Hid (Txs tv ys tl ∧ (∀ r ∈ tl,∀ s ∈ (X,Obj.cells #[.int .i64 (i:Nat),.int .i64 (a:Nat),.int .i64 (k:Nat)] 77) :: (Ob,Obj.cells #[tv] 30) :: rst,r.1 ≠ s.1) ∧ ys.length ≤ 1000):=by
        refine ⟨by rw [hys]; exact hT,fun r hr s hs=>?_,by rw [hys,List.length_take]; omega⟩
        rcases List.mem_cons.1 hs with rfl | hs
        · have:=hlt r (List.mem_append_left _ hr)
          show r.1 ≠ X; omega
        · exact hA r hr s hs
      have HX:Hid (LgI T w L q n (B + 1) l v ol (tl ++ (X,Obj.cells #[.int .i64 (i:Nat),.int .i64 (a:Nat),.int .i64 (k:Nat)] 77) :: (Ob,Obj.cells #[tv] 30) :: rst) now now (cc) W2):=(hb.drop (by simp [HR.out.2.1]) (by
        intro r hr
        simp only [List.mem_cons,List.mem_append] at hr ⊢
        rcases hr with hr | hr | hr | hr <;> simp [hr]))
      rw [← hX,← hW2]
      clear hT hA hL hlt hb hX hW2 hcc hys hil hin hla hxs q0 q1 q2 HI
      refine F.wp_region_pb (fun f=>⟨#[.pointer (some ⟨Mb,0,none⟩),.pointer (some ⟨Gb,0,none⟩),.pointer (some ⟨Pb,0,none⟩),.pointer (some ⟨Ob,0,none⟩),.pointer (some ⟨Xb,0,none⟩),.pointer (some ⟨B + 1,0,none⟩),.slice (some ⟨A,0,none⟩) N cp,undef,.pointer (some ⟨X,0,none⟩),.tuple #[.pointer (some ⟨B + 1,0,none⟩),.slice (some ⟨A,0,none⟩) N cp],.pointer (some ⟨M,0,none⟩),.int .i64 (ns:Nat),.int .i64 (p:Nat),.tuple #[.pointer (some ⟨B + 1,0,none⟩),.slice (some ⟨A,0,none⟩) N cp],.pointer (some ⟨B + 1,0,none⟩),.slice (some ⟨A,0,none⟩) N cp,.slice (some ⟨A,0,none⟩) N cp,.int .i64 (N:Nat),.int .i64 (t:Nat),.bool true,.pointer (some ⟨A,t * 3,none⟩),.agg #[.int .i64 (i:Nat),.int .i64 (a:Nat),.int .i64 (k:Nat)],f 0,f 1,f 2,f 3,f 4,f 5,u28,undef],[]⟩) (V71 (B + 1) i a k tv x) (PhA (fun W=>LgI T w L q n (B + 1) l v ol (tl ++ (X,Obj.cells #[.int .i64 (i:Nat),.int .i64 (a:Nat),.int .i64 (k:Nat)] 77) :: (Ob,Obj.cells #[tv] 30) :: rst) now now (cc) W) (fun W=>LgI T w L q n (B + 1) l v ol (tl ++ (X,Obj.cells #[.int .i64 (i:Nat),.int .i64 (a:Nat),.int .i64 (k:Nat)] 77) :: (Ob,Obj.cells #[tv] 30) :: rst) now now (cc + k) W) (fun vv W=>LgI T w L q n (B + 1) l v ol (tl ++ (X,Obj.cells #[.int .i64 (i:Nat),.int .i64 (a:Nat),.int .i64 (k:Nat)] 77) :: (Ob,Obj.cells #[tv] 30) :: rst) now now (cc + k) W ∧ ∃ G,vv = .slice (some ⟨G,0,none⟩) 1 1 ∧ W.heap[G]? = some (.cells #[.string x] 9)) (fun vv W=>∃ tl2,Txs vv (ys ++ [x]) tl2 ∧ (∀ r ∈ tl2,∀ s ∈ (X,Obj.cells #[.int .i64 (i:Nat),.int .i64 (a:Nat),.int .i64 (k:Nat)] 77) :: (Ob,Obj.cells #[tv] 30) :: rst,r.1 ≠ s.1) ∧ LgI T w L q n (B + 1) l v ol (tl2 ++ (X,Obj.cells #[.int .i64 (i:Nat),.int .i64 (a:Nat),.int .i64 (k:Nat)] 77) :: (Ob,Obj.cells #[tv] 30) :: rst) now now (cc + k) W) (fun W=>∃ vv tl2,Txs vv (ys ++ [x]) tl2 ∧ (∀ r ∈ tl2,∀ s ∈ (Ob,Obj.cells #[vv] 30) :: rst,r.1 ≠ s.1) ∧ LgI T w L q n (B + 1) l v ol (tl2 ++ (Ob,Obj.cells #[vv] 30) :: rst) now now (cc + k) W)) (fun i=>[u22,u23,u24,u25,u26,u27,undef].getD i undef) (by kernel_rfl) rfl rfl ?hIq ?hputq ?stepq ?finq
      case hIq=>exact PhA.start (HX.out.below (Below.refl _ _).drew)
      case finq=>
        intro f W hP hV
        have w0:f 0 = tv:=hV 0 (by decide)
        have w1:f 1 = .pointer (some ⟨B + 1,0,none⟩):=hV 1 (by decide)
        have w2:f 2 = .agg #[.int .i64 (i:Nat),.int .i64 (a:Nat),.int .i64 (k:Nat)]:=hV 2 (by decide)
        have w3:f 3 = .string x:=hV 3 (by decide)
        clear hV
        have HD:Hid _:=hP.d rfl
        clear hP
        generalize f 0 = z0 at *
        subst w0
        generalize f 1 = z1 at *
        subst w1
        generalize f 2 = z2 at *
        subst w2
        generalize f 3 = z3 at *
        subst w3
        generalize f 4 = z4 at *
        generalize f 5 = z5 at *
        have HE:Hid (∃ tv tl,Txs tv ((allX gs xs).take (t + 1)) tl ∧ (∀ r ∈ tl,∀ s ∈ (Ob,Obj.cells #[tv] 30) :: rst,r.1 ≠ s.1) ∧ LgI T w L q n (B + 1) l v ol (tl ++ (Ob,.cells #[tv] 30) :: rst) now now (c + 4200 + 64 * ((t + 1:Nat):Int)) W):=by
          obtain ⟨vv,tl2,b1,b2,b3⟩:=HD.out
          rw [← HYS.out] at b1
          exact ⟨vv,tl2,b1,b2,b3.more (by have:=HCC.out; have:=HRD.out.2.2.2.2.2.2; have:=HK64.out; omega)⟩
        clear HD HTY
        go_wp2
        go_roundw
        case rel=>
          obtain ⟨tv2,tl2,b⟩:=HE.out
          exact ⟨t + 1,tv2,tl2,by congr 1,by omega,b⟩
        case measure=>
          show N - ((t:Int) + 1).toNat < N - ((t:Nat):Int).toNat
          omega
      case hputq=>
        repeat (refine ⟨fun f v=>rfl,?_⟩)
        trivial
      case stepq=>
        refine ⟨?_,?_⟩
        · intro done f W hP hdn hd K hK
          clear hd
          have qb:=hP.any (hP.not10 (by decide) hdn) (E:=fun W=>W.heap[((Ob,Obj.cells #[tv] 30)).1]? = some ((Ob,Obj.cells #[tv] 30)).2) (fun h=>h.dv.at' (p:=(Ob,Obj.cells #[tv] 30)) (by simp)) (fun h=>h.dv.at' (p:=(Ob,Obj.cells #[tv] 30)) (by simp)) (fun v h=>h.1.dv.at' (p:=(Ob,Obj.cells #[tv] 30)) (by simp)) (fun v h=>by obtain ⟨_,_,_,h⟩:=h; exact h.dv.at' (p:=(Ob,Obj.cells #[tv] 30)) (by simp))
          have q:W.cell? ⟨Ob,0,none⟩ = some tv:=F.cell_of qb 0
          clear qb
          go_simp
          exact hK _ _ rfl (hP.pure _ (by decide) hdn)
        refine ⟨?_,?_⟩
        · intro done f W hP hdn hd K hK
          clear hd
          go_simp
          exact hK _ _ rfl (hP.pure _ (by decide) hdn)
        refine ⟨?_,?_⟩
        · intro done f W hP hdn hd K hK
          clear hd
          have qb:=hP.any (hP.not10 (by decide) hdn) (E:=fun W=>W.heap[((X,Obj.cells #[.int .i64 (i:Nat),.int .i64 (a:Nat),.int .i64 (k:Nat)] 77)).1]? = some ((X,Obj.cells #[.int .i64 (i:Nat),.int .i64 (a:Nat),.int .i64 (k:Nat)] 77)).2) (fun h=>h.dv.at' (p:=(X,Obj.cells #[.int .i64 (i:Nat),.int .i64 (a:Nat),.int .i64 (k:Nat)] 77)) (by simp)) (fun h=>h.dv.at' (p:=(X,Obj.cells #[.int .i64 (i:Nat),.int .i64 (a:Nat),.int .i64 (k:Nat)] 77)) (by simp)) (fun v h=>h.1.dv.at' (p:=(X,Obj.cells #[.int .i64 (i:Nat),.int .i64 (a:Nat),.int .i64 (k:Nat)] 77)) (by simp)) (fun v h=>by obtain ⟨_,_,_,h⟩:=h; exact h.dv.at' (p:=(X,Obj.cells #[.int .i64 (i:Nat),.int .i64 (a:Nat),.int .i64 (k:Nat)] 77)) (by simp))
          have q0:W.cell? ⟨X,0,none⟩ = some (.int .i64 (i:Nat)):=F.cell_of qb 0
          have q1:W.cell? ⟨X,1,none⟩ = some (.int .i64 (a:Nat)):=F.cell_of qb 1
          have q2:W.cell? ⟨X,2,none⟩ = some (.int .i64 (k:Nat)):=F.cell_of qb 2
          clear qb
          go_simp
          exact hK _ _ rfl (hP.pure _ (by decide) hdn)
        refine ⟨?_,?_⟩
        · intro done f W hP hdn hd K hK
          have d1:=(hd.1 rfl).2
          have e1:done 1 = true:=(hd.1 rfl).1
          have d2:=(hd.2.1 rfl).2
          have e2:done 2 = true:=(hd.2.1 rfl).1
          clear hd
          replace d1:f 1 = .pointer (some ⟨B + 1,0,none⟩):=d1
          replace d2:f 2 = .agg #[.int .i64 (i:Nat),.int .i64 (a:Nat),.int .i64 (k:Nat)]:=d2
          generalize f 1 = x1 at *
          subst d1
          clear e1
          generalize f 2 = x2 at *
          subst d2
          clear e2
          have hrd:=read_any (hP.a0 hdn) i HRD.out.1 HRD.out.2.1 HRD.out.2.2.1 HRD.out.2.2.2.1 HRD.out.2.2.2.2.1 HRD.out.2.2.2.2.2.1 HRD.out.2.2.2.2.2.2
          go_simp
          refine Calls.mono hrd ?_
          rintro er W' ⟨rfl,hB⟩
          exact hK _ _ rfl (hP.s7 _ hdn hB)
        refine ⟨?_,?_⟩
        · intro done f W hP hdn hd K hK
          have d3:=(hd.1 rfl).2
          have e3:done 3 = true:=(hd.1 rfl).1
          clear hd
          replace d3:f 3 = .string x:=d3
          generalize f 3 = x3 at *
          subst d3
          have hA:=hP.a e3 hdn
          go_simp
          exact hK _ _ trivial (hP.s8 _ e3 hdn ⟨hA.below (Below.alloc (Below.refl _ _) (Nat.le_refl _) _),W.heap.size,rfl,F.heap_new _ _⟩)
        refine ⟨?_,?_⟩
        · intro done f W hP hdn hd K hK
          have d0:=(hd.1 rfl).2
          have e0:done 0 = true:=(hd.1 rfl).1
          have d4:=(hd.2.1 rfl).2
          have e4:done 4 = true:=(hd.2.1 rfl).1
          clear hd
          replace d0:f 0 = tv:=d0
          have d0':f 0 = tv:=d0
          obtain ⟨hR,G,hG4,hG⟩:=hP.b e4 hdn
          have hown:=Dev.ownS HTY.out.1 hR.dv (fun r hr=>by simp [hr])
          rw [if_pos (by rfl)]
          refine tappw (.tmp 22) (.tmp 26) rfl (v:=tv) (xs:=ys) (G:=G) (y:=x) d0' hG4 hG hown hR.dv.le HTY.out.2.2 ?_
          intro v' W' r1 r2 r3
          obtain ⟨tl2,b1,b2,b3⟩:=hR.growS (by simp [HR.out.2.1]) HTY.out.1 HTY.out.2.1 r2 r1 r3
          exact hK _ _ trivial (hP.s9 _ e4 hdn ⟨tl2,b1,b3,b2⟩)
        refine ⟨?_,?_⟩
        · intro done f W hP hdn hd K hK
          have d5:=(hd.1 rfl).2
          have e5:done 5 = true:=(hd.1 rfl).1
          have e0:done 0 = true:=(hd.2.2.1 rfl).1
          have e1:done 1 = true:=(hd.2.2.2.1 rfl).1
          have e2:done 2 = true:=(hd.2.2.2.2.1 rfl).1
          have e3:done 3 = true:=(hd.2.2.2.2.2.1 rfl).1
          have e4:done 4 = true:=(hd.2.2.2.2.2.2.1 rfl).1
          clear hd
          have hC:=hP.c e5 hdn
          obtain ⟨tl2,b1,b2,b3⟩:=hC
          have hbo:=b3.dv.at' (p:=(Ob,Obj.cells #[tv] 30)) (by simp)
          have q1:W.cell? ⟨Ob,0,none⟩ = some tv:=F.cell_of hbo 0
          have q2:W.frozen? ⟨Ob,0,none⟩ = false:=F.frz_of hbo 0
          have b4:=(b3.drop (rest':=(Ob,Obj.cells #[tv] 30) :: (tl2 ++ rst)) (by simp [HR.out.2.1]) (by
            intro r hr
            simp only [List.mem_cons,List.mem_append] at hr ⊢
            rcases hr with hr | hr | hr <;> simp [hr])).off (W':=W.setCell ⟨Ob,0,none⟩ (f 5)) (o':=Obj.cells #[f 5] 30) (by
            intro r hr
            rcases List.mem_append.1 hr with hr | hr
            · exact b2 r hr (Ob,Obj.cells #[tv] 30) (by simp)
            · exact HR.out.1 r hr) (by simp [HR.out.2.1]) ((Off.refl Ob _).set 0 (f 5)) (by rw [F.block_set hbo]; rfl) (F.apart_of (by decide)) (fun _ _=>cells_ne2 (by decide))
          have hD:∃ vv tl2,Txs vv (ys ++ [x]) tl2 ∧ (∀ r ∈ tl2,∀ s ∈ (Ob,Obj.cells #[vv] 30) :: rst,r.1 ≠ s.1) ∧ LgI T w L q n (B + 1) l v ol (tl2 ++ (Ob,Obj.cells #[vv] 30) :: rst) now now (cc + k) (W.setCell ⟨Ob,0,none⟩ (f 5)):=by
            refine ⟨f 5,tl2,b1,fun r hr s hs=>?_,b4.drop (by simp [HR.out.2.1]) (by
              intro r hr
              simp only [List.mem_cons,List.mem_append] at hr ⊢
              rcases hr with hr | hr | hr <;> simp [hr])⟩
            rcases List.mem_cons.1 hs with rfl | hs
            · exact b2 r hr (Ob,Obj.cells #[tv] 30) (by simp)
            · exact b2 r hr s (by simp [hs])
          obtain ⟨ao9,m9,cp9,hv9⟩:∃ ao m cp,f 5 = .slice ao m cp:=by
            obtain ⟨x1,x2,x3,x4,_⟩:=b1.cell (fun r hr=>b3.dv.at' (by simp [hr]))
            exact ⟨x1,_,x2,x4⟩
          have hall:∀ j,j < 6 → done j = true:=fun j hj=>match j,hj with
            | 0,_=>e0 | 1,_=>e1 | 2,_=>e2 | 3,_=>e3 | 4,_=>e4 | 5,_=>e5
          have HD:Hid _:=hP.s10 (W':=W.setCell ⟨Ob,0,none⟩ (f 5)) (.bool false) hall hD
          clear hall hD hP b1 b2 b3 b4 hbo e0 e1 e2 e3 e4 e5
          generalize f 5 = y9 at *
          subst hv9
          go_simp
          exact hK (.bool false) _ trivial HD.out
        trivial
    · obtain rfl:t = N:=by omega
      have htI:¬ ((t:Nat):Int) < ((t:Nat):Int):=by omega
      obtain ⟨hT,hA,hL⟩:=HI.out
      have hTX:(allX gs xs).take t = allX gs xs:=List.take_of_length_le (by rw [HXL.out]; exact Nat.le_refl _)
      rw [hTX] at hT
      have hre:=HR.out.2.2
      have hmo:(l.M,F.med L.P 1 q) ∈ oth:=by rw [HO.out.eM]; exact HN.out.2.2.2
      have hL2:=hL.drop (rest':=(Xb,Obj.cells #[.pointer none] 62) :: (tl ++ (Ob,Obj.cells #[tv] 30) :: oth)) (by simp [hmo]) (by
        intro r hr
        rw [hre]
        simp only [List.mem_cons,List.mem_append] at hr ⊢
        rcases hr with hr | hr | hr | hr <;> simp [hr])
      have hbx:=hL2.dv.at' (p:=(Xb,Obj.cells #[.pointer none] 62)) (by simp)
      have q1:wr.cell? ⟨Xb,0,none⟩ = some (.pointer none):=F.cell_of hbx 0
      have q2:wr.frozen? ⟨Xb,0,none⟩ = false:=F.frz_of hbx 0
      have hL3:=hL2.off (W':=wr.setCell ⟨Xb,0,none⟩ (.pointer (some ⟨B + 1,0,none⟩))) (o':=Obj.cells #[.pointer (some ⟨B + 1,0,none⟩)] 62) (by
        intro r hr
        rcases List.mem_append.1 hr with hr | hr
        · exact hA r hr (Xb,Obj.cells #[.pointer none] 62) (by rw [hre]; simp)
        · rcases List.mem_cons.1 hr with rfl | hr
          · exact HN.out.2.2.1
          · exact HN.out.2.1 r hr) (by simp [hmo]) ((Off.refl Xb _).set 0 _) (by rw [F.block_set hbx]; rfl) (F.apart_of (by decide)) (fun _ _=>cells_ne2 (by decide))
      have HF:Hid (LgI T w L q n (B + 1) l v ol (tl ++ (Ob,.cells #[tv] 30) :: (Xb,.cells #[.pointer (some ⟨B + 1,0,none⟩)] 62) :: oth) now now (c + 9000) (wr.setCell ⟨Xb,0,none⟩ (.pointer (some ⟨B + 1,0,none⟩)))):=(hL3.drop (by simp [hmo]) (by
        intro r hr
        simp only [List.mem_cons,List.mem_append] at hr ⊢
        rcases hr with hr | hr | hr | hr <;> simp [hr])).more (by omega)
      have HT:Hid (Txs tv (allX gs xs) tl ∧ ∀ r ∈ tl,∀ s ∈ (Ob,Obj.cells #[tv] 30) :: (Xb,Obj.cells #[.pointer (some ⟨B + 1,0,none⟩)] 62) :: oth,r.1 ≠ s.1):=by
        refine ⟨hT,fun r hr s hs=>?_⟩
        rcases List.mem_cons.1 hs with rfl | hs
        · exact hA r hr (Ob,Obj.cells #[tv] 30) (by simp)
        · rcases List.mem_cons.1 hs with rfl | hs
          · exact hA r hr (Xb,Obj.cells #[.pointer none] 62) (by rw [hre]; simp)
          · exact hA r hr s (by rw [hre]; simp [hs])
      clear hT hA hL hTX hre hL2 hbx hL3 hmo
      go_wp2
      go_returns
      exact ⟨rfl,B,l,HO.out,v,ol,tv,tl,HT.out.1,HF.out,fun a b hr=>⟨HT.out.2 (a,b) hr (Ob,Obj.cells #[tv] 30) (by simp),HT.out.2 (a,b) hr (Xb,Obj.cells #[.pointer (some ⟨B + 1,0,none⟩)] 62) (by simp),fun a2 b2 h2=>HT.out.2 (a,b) hr (a2,b2) (by simp [h2])⟩⟩
end Go.Proofs.YtncfbocbigdhiaaGreat.U

/- The statements' own Open, as a call. -/
namespace Go.Proofs.YtncfbocbigdhiaaGreat.U
open Go Go.RowKit Go.Sort
section
variable {T:Nat} {w:World} {L:F.Loc} {q:Int} {n Lb:Nat} {l:Lg} {v:Value} {ol rest rest1:List (Nat × Obj)} {now su:Nat → ByteArray} {c:Int} {W W':World}
theorem LgI.kt {B:Nat} (h:LgI T w L q n Lb l v ol rest1 now su c W) (hs:∀ r ∈ F.gob B rest,r ∈ rest1) (hm:(l.M,F.med L.P 1 q) ∈ rest) (hne:∀ p ∈ rest,p.1 ≠ B ∧ p.1 ≠ B + 1) (k:F.KT B W W'):LgI T w L q n Lb l v ol rest now su c W':=by
  have hsub:∀ r ∈ rest,r ∈ rest1:=fun r hr=>hs r (by simp [F.gob,hr])
  refine ⟨h.ok,h.pl,?_,hm,h.pn,h.nd,h.inj,fun p hp r hr=>h.ap p hp r (hsub r hr),fun p hp=>h.h5 p (hsub p hp)⟩
  have hd:Dev T w L q n (F.gob B ((Lb,Obj.cells (l.cs v) 128) :: (l.G,Obj.cells l.row 28) :: (ol ++ (l.objs ++ rest)))) now su c W:=h.dv.forget (by
    intro p hp
    simp only [F.gob,List.mem_cons,List.mem_append] at hp ⊢
    rcases hp with hp | hp | hp | hp | hp | hp | hp
    · right; right; right; right; exact hs p (by simp [F.gob,hp])
    · right; right; right; right; exact hs p (by simp [F.gob,hp])
    · simp [hp]
    · simp [hp]
    · simp [hp]
    · simp [hp]
    · simp [hsub p hp])
  refine hd.kt (fun p hp=>?_) k
  by_cases hr:p ∈ rest
  · exact hne p hr
  · have hp2:p ∈ (Lb,Obj.cells (l.cs v) 128) :: (l.G,Obj.cells l.row 28) :: (ol ++ l.objs):=by
      simp only [List.mem_cons,List.mem_append] at hp ⊢
      rcases hp with hp | hp | hp | hp | hp
      · simp [hp]
      · simp [hp]
      · simp [hp]
      · simp [hp]
      · exact absurd hp hr
    exact ⟨h.ap p hp2 (B,F.bob) (hs _ (by simp [F.gob])),h.ap p hp2 (B + 1,F.iob) (hs _ (by simp [F.gob]))⟩
end
set_option maxHeartbeats 4000000 in
set_option maxRecDepth 100000 in
theorem open34 {T:Nat} {w:World} {L:F.Loc} {q:Int} {n:Nat} {oth:List (Nat × Obj)} {now su:Nat → ByteArray} {c:Int} {W:World} {p ns:Nat} (h:Dev T w L q n oth now su c W) (h5:∀ r ∈ oth,∀ c fz,r.2 ≠ .cells c 5 fz)
    {g:Nat → Hd} {xs:List Nat} {gs:Nat → List (Nat × ByteArray)} {e0:Nat → Nat} (him:Im now n p ns g xs gs e0) (hp:8 ≤ p ∧ p ≤ 20) (hns:2 ≤ ns ∧ ns ≤ 6) (hfit:1 + ns * p ≤ n) (hn1:n ≤ 1000) (hc:c ≤ 1000000) (hmx:∀ i,i ≤ ns → mxN 3 g i < 18446744073709551616) :
    Calls Tryz.prog 34 #[.pointer (some ⟨L.P,0,none⟩),.int .i64 (ns:Nat),.int .i64 (p:Nat)] W fun r w'=>∃ M B l v ol tv tl,r = .returned (.tuple #[.pointer (some ⟨B + 1,0,none⟩),tv]) ∧ Opn M 3 7 p B ns g xs e0 xs.length l ∧ Txs tv (allX gs xs) tl ∧ LgI T w L q n (B + 1) l v ol (tl ++ (M,F.med L.P 1 q) :: oth) now now (c + 9000) w' ∧ (∀ r ∈ tl,∀ s ∈ (M,F.med L.P 1 q) :: oth,r.1 ≠ s.1):=by
  have d1:=h.alloc (.cells #[.int .i64 (ns:Nat)] 3) (F.apart_of (by decide))
  have d2:=d1.alloc (.cells #[.int .i64 (p:Nat)] 3) (F.apart_of (by decide))
  have e1:(W.alloc (.cells #[.int .i64 (ns:Nat)] 3)).heap.size = W.heap.size + 1:=by simp
  rw [e1] at d2
  have hlt:=h.lts
  have hof:Calls Tryz.prog 52 #[.pointer (some ⟨L.P,0,none⟩),.int .i64 1] ((W.alloc (.cells #[.int .i64 (ns:Nat)] 3)).alloc (.cells #[.int .i64 (p:Nat)] 3)) fun e w'=>∃ M,e = .returned (.tuple #[.pointer (some ⟨M,0,none⟩),.int .i64 0]) ∧ Dev T w L q n ((M,F.med L.P 1 q) :: (W.heap.size + 1,.cells #[.int .i64 (p:Nat)] 3) :: (W.heap.size,.cells #[.int .i64 (ns:Nat)] 3) :: oth) now su c w':=by
    obtain ⟨st,lv,ats,o1,a1,a2,a3,a4,a5⟩:=d2.ex
    have:=o1.of_any a4
    rw [a2] at this
    refine this.mono ?_
    rintro e w' ⟨M,rfl,o2⟩
    rw [a3] at o2
    exact ⟨M,rfl,st,lv,ats,o2,a1,a2,a3,a4,a5⟩
  have HH:Hid ((∀ r ∈ oth,∀ c fz,r.2 ≠ .cells c 5 fz) ∧ Im now n p ns g xs gs e0 ∧ (8 ≤ p ∧ p ≤ 20) ∧ (2 ≤ ns ∧ ns ≤ 6) ∧ 1 + ns * p ≤ n ∧ n ≤ 1000 ∧ c ≤ 1000000 ∧ (∀ i,i ≤ ns → mxN 3 g i < 18446744073709551616)):=⟨h5,him,hp,hns,hfit,hn1,hc,hmx⟩
  have HLT:Hid (∀ p ∈ oth,p.1 < W.heap.size):=hlt
  have hmf:∀ (fn:Fn) (first cap:Array Value) (w:World),(Instr.makeFunc fn first cap).run Tryz.prog w = .ok (.func fn first cap) w:=fun _ _ _ _=>rfl
  obtain ⟨B0,hB0⟩:∃ B0,B0 = W.heap.size:=⟨_,rfl⟩
  rw [← hB0] at hof HLT
  have HB0:Hid (B0 = W.heap.size):=hB0
  clear h h5 him hp hns hfit hn1 hc hmx d1 d2 e1 hlt hB0
  go_enter Tryz.func34,Tryz.ntmps34
  go_wp2_with fail
  go_call hof as e w2 ⟨M,rfl,hd2⟩
  rw [← HB0.out]
  have hl2:=hd2.lts
  have lM:M < w2.heap.size:=hl2 (M,F.med L.P 1 q) (by simp)
  have lB:B0 + 1 < w2.heap.size:=hl2 (B0 + 1,.cells #[.int .i64 (p:Nat)] 3) (by simp)
  have hd3:=((hd2.alloc (.cells #[.pointer (some ⟨M,0,none⟩)] 25) (F.apart_of (by decide))).alloc (.cells #[.pointer none] 62) (F.apart_of (by decide))).alloc (.cells #[.slice none 0 0] 30) (F.apart_of (by decide))
  have e2:(w2.alloc (.cells #[.pointer (some ⟨M,0,none⟩)] 25)).heap.size = w2.heap.size + 1:=by simp
  have e3:((w2.alloc (.cells #[.pointer (some ⟨M,0,none⟩)] 25)).alloc (.cells #[.pointer none] 62)).heap.size = w2.heap.size + 2:=by simp
  have e4:(((w2.alloc (.cells #[.pointer (some ⟨M,0,none⟩)] 25)).alloc (.cells #[.pointer none] 62)).alloc (.cells #[.slice none 0 0] 30)).heap.size = w2.heap.size + 3:=by simp
  rw [e2,e3] at hd3
  have HD3:Hid _:=hd3
  have HLM:Hid (M < w2.heap.size ∧ B0 + 1 < w2.heap.size ∧ ∀ r ∈ oth,r.1 < w2.heap.size):=⟨lM,lB,fun r hr=>hl2 r (by simp [hr])⟩
  have c1:(w2.alloc (.cells #[.pointer (some ⟨M,0,none⟩)] 25)).cell? ⟨w2.heap.size,0,none⟩ = some (.pointer (some ⟨M,0,none⟩)):=F.cell_of (F.heap_new _ _) 0
  obtain ⟨B2,hB2⟩:∃ B2,B2 = w2.heap.size:=⟨_,rfl⟩
  obtain ⟨W4,hW4⟩:∃ W4,W4 = ((w2.alloc (.cells #[.pointer (some ⟨M,0,none⟩)] 25)).alloc (.cells #[.pointer none] 62)).alloc (.cells #[.slice none 0 0] 30):=⟨_,rfl⟩
  rw [← hB2,← hW4] at hd3
  rw [← hW4,← hB2] at e4
  rw [← hB2] at HLM
  have HW4:Hid (((w2.alloc (.cells #[.pointer (some ⟨M,0,none⟩)] 25)).alloc (.cells #[.pointer none] 62)).alloc (.cells #[.slice none 0 0] 30) = W4 ∧ w2.heap.size = B2 ∧ W4.heap.size = B2 + 3):=⟨hW4.symm,hB2.symm,e4⟩
  have hgd:Calls Tryz.prog 15 #[.func (.func 71) #[] #[.pointer (some ⟨B2,0,none⟩),.pointer (some ⟨B0,0,none⟩),.pointer (some ⟨B0 + 1,0,none⟩),.pointer (some ⟨B2 + 2,0,none⟩),.pointer (some ⟨B2 + 1,0,none⟩)]] W4 fun e w'=>e = .returned (.tuple #[.agg #[.int .i64 0,.int .i64 0],.bool false]) ∧ ∃ B l v ol tv tl,Opn M 3 7 p B ns g xs e0 xs.length l ∧ Txs tv (allX gs xs) tl ∧ LgI T w L q n (B + 1) l v ol (tl ++ (B2 + 2,.cells #[tv] 30) :: (B2 + 1,.cells #[.pointer (some ⟨B + 1,0,none⟩)] 62) :: (M,F.med L.P 1 q) :: oth) now now (c + 9000) w' ∧ (∀ r ∈ tl,∀ s ∈ (M,F.med L.P 1 q) :: oth,r.1 ≠ s.1):=by
    obtain ⟨h5,him,hp,hns,hfit,hn1,hc,hmx⟩:=HH.out
    obtain ⟨hm1,hm2,hm3⟩:=HLM.out
    have hg0:=hd3.guarded
    rw [e4] at hg0
    have hop:=op71 (Mb:=B2) (Gb:=B0) (Pb:=B0 + 1) (Ob:=B2 + 2) (Xb:=B2 + 1) (M:=M) (oth:=F.gob (B2 + 3) ((B2,.cells #[.pointer (some ⟨M,0,none⟩)] 25) :: (M,F.med L.P 1 q) :: (B0 + 1,.cells #[.int .i64 (p:Nat)] 3) :: (B0,.cells #[.int .i64 (ns:Nat)] 3) :: oth)) (hg0.forget (by
      intro r hr
      simp only [F.gob,List.mem_cons] at hr ⊢
      rcases hr with hr | hr | hr | hr | hr <;> simp [hr])) (by simp [F.gob]) (by simp [F.gob]) (by simp [F.gob]) (by simp [F.gob]) (by
      intro r hr
      simp only [F.gob,List.mem_cons] at hr
      rcases hr with rfl | rfl | rfl | rfl | rfl | rfl | hr
      · exact fun _ _=>cells_ne2 (by decide)
      · exact fun _ _=>cells_ne2 (by decide)
      · exact fun _ _=>cells_ne2 (by decide)
      · exact fun _ _=>cells_ne2 (by decide)
      · exact fun _ _=>cells_ne2 (by decide)
      · exact fun _ _=>cells_ne2 (by decide)
      · exact h5 r hr) (by
      intro r hr
      simp only [F.gob,List.mem_cons] at hr
      rcases hr with rfl | rfl | rfl | rfl | rfl | rfl | hr
      · show B2 + 3 + 1 ≠ B2 + 2; omega
      · show B2 + 3 ≠ B2 + 2; omega
      · show B2 ≠ B2 + 2; omega
      · show M ≠ B2 + 2; omega
      · show B0 + 1 ≠ B2 + 2; omega
      · show B0 ≠ B2 + 2; omega
      · have:=hm3 r hr; omega) (by
      intro r hr
      simp only [F.gob,List.mem_cons] at hr
      rcases hr with rfl | rfl | rfl | rfl | rfl | rfl | hr
      · show B2 + 3 + 1 ≠ B2 + 1; omega
      · show B2 + 3 ≠ B2 + 1; omega
      · show B2 ≠ B2 + 1; omega
      · show M ≠ B2 + 1; omega
      · show B0 + 1 ≠ B2 + 1; omega
      · show B0 ≠ B2 + 1; omega
      · have:=hm3 r hr; omega) (by omega) him hp hns hfit hn1 hc hmx
    refine (F.guard_ok 71 _ (fun W'=>∃ B l v ol tv tl,Opn M 3 7 p B ns g xs e0 xs.length l ∧ Txs tv (allX gs xs) tl ∧ LgI T w L q n (B + 1) l v ol (tl ++ (B2 + 2,.cells #[tv] 30) :: (B2 + 1,.cells #[.pointer (some ⟨B + 1,0,none⟩)] 62) :: F.gob (B2 + 3) ((B2,.cells #[.pointer (some ⟨M,0,none⟩)] 25) :: (M,F.med L.P 1 q) :: (B0 + 1,.cells #[.int .i64 (p:Nat)] 3) :: (B0,.cells #[.int .i64 (ns:Nat)] 3) :: oth)) now now (c + 9000) W' ∧ (∀ r ∈ tl,∀ s ∈ F.gob (B2 + 3) ((B2,.cells #[.pointer (some ⟨M,0,none⟩)] 25) :: (M,F.med L.P 1 q) :: (B0 + 1,.cells #[.int .i64 (p:Nat)] 3) :: (B0,.cells #[.int .i64 (ns:Nat)] 3) :: oth),r.1 ≠ s.1)) W4 ent71 (hop.mono ?_)).mono ?_
    · rintro e w' ⟨rfl,B,l,v,ol,tv,tl,a1,a2,a3,a4⟩
      rw [e4]
      exact ⟨rfl,a3.dv.at' (p:=(B2 + 3,F.bob)) (by simp [F.gob]),a3.dv.at' (p:=(B2 + 3 + 1,F.iob)) (by simp [F.gob]),B,l,v,ol,tv,tl,a1,a2,a3,fun r hr s hs=>a4 r hr s (List.mem_cons_of_mem _ (List.mem_cons_of_mem _ hs))⟩
    · rintro e w' ⟨rfl,W5,⟨B,l,v,ol,tv,tl,a1,a2,a3,a4⟩,hk⟩
      rw [e4] at hk
      refine ⟨rfl,B,l,v,ol,tv,tl,a1,a2,a3.kt (B:=B2 + 3) ?_ (by rw [a1.eM]; simp) ?_ hk,fun r hr s hs=>a4 r hr s ?_⟩
      · intro r hr
        simp only [F.gob,List.mem_cons,List.mem_append] at hr ⊢
        rcases hr with hr | hr | hr | hr | hr | hr | hr <;> simp [hr]
      · intro r hr
        rcases List.mem_append.1 hr with hr | hr
        · exact ⟨a4 r hr (B2 + 3,F.bob) (by simp [F.gob]),a4 r hr (B2 + 3 + 1,F.iob) (by simp [F.gob])⟩
        · simp only [List.mem_cons] at hr
          rcases hr with rfl | rfl | rfl | hr
          · exact ⟨by show B2 + 2 ≠ B2 + 3; omega,by show B2 + 2 ≠ B2 + 3 + 1; omega⟩
          · exact ⟨by show B2 + 1 ≠ B2 + 3; omega,by show B2 + 1 ≠ B2 + 3 + 1; omega⟩
          · exact ⟨by show M ≠ B2 + 3; omega,by show M ≠ B2 + 3 + 1; omega⟩
          · have:=hm3 r hr; exact ⟨by omega,by omega⟩
      · simp only [F.gob,List.mem_cons] at hs ⊢
        rcases hs with hs | hs <;> simp [hs]
  clear hof hd2 hl2 lM lB hd3 e2 e3 e4 hB2 hW4 HD3
  go_wp2_with fail
  rw [HW4.out.1,HW4.out.2.1]
  refine Calls.mono hgd ?_
  rintro er w5 ⟨rfl,B,l,v,ol,tv,tl,a1,a2,a3,a4⟩
  have a5:=a3.hold (.cells #[.int .i64 0,.int .i64 0] 37) (F.apart_of (by decide)) (fun _ _=>cells_ne2 (by decide))
  have HA:Hid (Opn M 3 7 p B ns g xs e0 xs.length l ∧ Txs tv (allX gs xs) tl ∧ (∀ r ∈ tl,∀ s ∈ (M,F.med L.P 1 q) :: oth,r.1 ≠ s.1)):=⟨a1,a2,a4⟩
  obtain ⟨tao,tcp,hTV⟩:∃ tao tcp,tv = .slice tao (allX gs xs).length tcp:=by
    rcases a2 with ⟨rfl,h2,_⟩ | ⟨g,cap,cur,rfl,_⟩
    · rw [h2]; exact ⟨_,_,rfl⟩
    · exact ⟨_,_,rfl⟩
  have HM:Hid ((l.M,F.med L.P 1 q) ∈ tl ++ (M,F.med L.P 1 q) :: oth):=by show _ ∈ _; rw [a1.eM]; simp
  have A5:Hid _:=a5
  have qx:∀ z,((w5.alloc (.cells #[.int .i64 0,.int .i64 0] 37)).drewN z).cell? ⟨B2 + 1,0,none⟩ = some (.pointer (some ⟨B + 1,0,none⟩)):=fun z=>F.cell_of (w:=(w5.alloc (.cells #[.int .i64 0,.int .i64 0] 37)).drewN z) (a5.dv.at' (p:=(B2 + 1,.cells #[.pointer (some ⟨B + 1,0,none⟩)] 62)) (by simp)) 0
  have qo:∀ z,((w5.alloc (.cells #[.int .i64 0,.int .i64 0] 37)).drewN z).cell? ⟨B2 + 1 + 1,0,none⟩ = some tv:=fun z=>F.cell_of (w:=(w5.alloc (.cells #[.int .i64 0,.int .i64 0] 37)).drewN z) (a5.dv.at' (p:=(B2 + 2,.cells #[tv] 30)) (by simp)) 0
  subst hTV
  clear hgd a1 a2 a3 a4 a5 c1
  go_wp2_with fail
  go_quiet (fail)
  go_wp2
  go_returns
  exact ⟨M,B,l,v,ol,_,tl,rfl,HA.out.1,HA.out.2.1,(A5.out.drewN _).drop HM.out (fun r hr=>by
    rcases List.mem_append.1 hr with hr | hr
    · simp [hr]
    · rcases List.mem_cons.1 hr with hr | hr <;> simp [hr]),HA.out.2.2⟩
end Go.Proofs.YtncfbocbigdhiaaGreat.U
