/- Texts of this seat, one behind the other. -/
import Derived.Test.YtncfbocbigdhiaaGreatQMB
import Derived.Deep.Upon
/- The document's Start, as a call. -/
namespace Go.Proofs.YtncfbocbigdhiaaGreat.U
open Go Go.RowKit Go.Sort
theorem size67:(Tryz.prog.info? 67).map (·.size) = some 3:=by kernel_rfl
theorem lret1 {fn:Func} {p:Tmp} (h:fn.results = #[.cell p 67]) (tmps:Array Value) (w:World) (B:Nat) (cs:Array Value) (hs:cs.size = 3) (hp:tmps.getD p undef = .pointer (some ⟨B,0,none⟩)) (hg:w.heap[B]? = some (.cells cs 67)) :
    (results fn tmps).run Tryz.prog w = .ok (.agg cs) w:=results_cell_row h tmps w B 67 cs (0,0) _ hp hg Tryz.underlying67 rfl (by rw [size67,hs])
theorem lret2 {fn:Func} {p u:Tmp} (h:fn.results = #[.cell p 67,.tmp u]) (tmps:Array Value) (w:World) (B:Nat) (cs:Array Value) (v:Value) (hs:cs.size = 3) (hp:tmps.getD p undef = .pointer (some ⟨B,0,none⟩)) (hg:w.heap[B]? = some (.cells cs 67)) (hu:tmps.getD u undef = v) :
    (results fn tmps).run Tryz.prog w = .ok (.tuple #[.agg cs,v]) w:=by
  rw [results_cell_tmp h,hp,hu]
  simp [asAddr,run_loadVar_row w B 67 67 cs (0,0) _ hg Tryz.underlying67 rfl (by rw [size67,hs]),Result.andThen]
theorem info118:(Tryz.prog.info? 118).map (fun i=>(i.zero,i.size,i.bytes)) = some (some (.agg #[.int .i64 0,.slice none 0 0]),2,32):=by kernel_rfl
theorem run_gapp (ty:TypeId) {w:World} {base:Nat} {sv:Value} {n:Nat} {xs:List Value} (hown:w.ownsRow base 118 2 sv n xs) (ao:Option Addr) (m cp g off:Nat) (zs:List Value) (hao:0 < m → ao = some ⟨g,off,none⟩) (hzl:zs.length = m * 2) (hz:∀ j u,zs[j]? = some u → w.cell? ⟨g,off + j,none⟩ = some u) (h1:∀ u ∈ zs,u.oneCell' = true) (hl:n + m ≤ 1000) (hb:base ≤ w.heap.size) :
    ∃ v' w',(Builtin.append_ #[65,65] ty #[sv,.slice ao m cp]).run Tryz.prog w = .ok v' w' ∧ w'.ownsRow base 118 2 v' (n + m) (xs ++ zs) ∧ w.grownBy w' sv.ownBlock:=by
  obtain ⟨i,hi,hzr,hsz,hby⟩:=info_parts info118
  rcases Nat.eq_zero_or_pos m with rfl | hm
  · have hz0:zs = []:=List.eq_nil_of_length_eq_zero (by omega)
    subst hz0
    obtain ⟨ao1,cp1,rfl⟩:=own_len hown
    have hle:n ≤ cp1:=by
      rcases hown.2 with ⟨e,h0⟩ | ⟨g,cap,cur,e,_,_,h2,_⟩
      · omega
      · injection e with _ _ e; omega
    have hs:Src Tryz.prog i.size 65 (.slice ao 0 cp) 0 [] w:=by
      cases ao with
      | none=>exact Src.ofNil w Tryz.underlying65 cp
      | some a=>exact Src.ofSlice w Tryz.underlying65 a 0 cp [] (by simp) (fun j u hj=>by simp at hj) (fun u hu=>by cases hu)
    exact ⟨_,_,run_append_nothing w 65 65 ty 118 i Tryz.underlying65 hi ao1 n cp1 hle _ hs,by rw [List.append_nil]; exact hown,⟨rfl,rfl,rfl,Nat.le_refl _,fun _ _ _=>rfl⟩⟩
  · obtain rfl:=hao hm
    obtain ⟨v',w',hr,r2,r3,_⟩:=run_append_own_at (P:=Tryz.prog) w base 65 ty 118 i (.agg #[.int .i64 0,.slice none 0 0]) 2 32 Tryz.underlying65 hi hzr hsz hby (by kernel_rfl) (by decide) sv n xs hown ⟨g,off,none⟩ m cp zs hzl (fun j u hj=>by rw [Addr.add_lit]; exact hz j u hj) h1 (by unfold maxLen; omega) (by omega) hb
    exact ⟨v',w',hr,r2,r3⟩
theorem gappS {ops:Array Oper} {rest:List Oper} {o:Oper} {a:Act} {w:World} {Q:Exit → Act → World → Prop} (hgd:o.guard = none) (s x:Operand) (t:TypeId) (ho:o.op = .call { callee:=.builtin .append,args:=#[s,x],argTypes:=#[t,t] }) {v vx v':Value} {W':World} (hs:a.eval s = v) (hx:a.eval x = vx) (hr:(Builtin.append_ #[t,t] o.type #[v,vx]).run Tryz.prog w = .ok v' W')
    (k:wpList Tryz.prog ops Q rest (a.put o.dst v') W'):wpList Tryz.prog ops Q (o :: rest) a w:=by
  refine wpList_plain hgd fun K hK=>?_
  unfold Oper.wp execOp
  simp only [ho,resolve,invoke,builtin,Sem.run_bind,Sem.run_pure,Result.andThen_ok,List.map_toArray,List.map_cons,List.map_nil,hs,hx,hr]
  exact hK _ _ k
def Nw (W W':World) (ol:List (Nat × Obj)):Prop:=∀ p ∈ ol,W'.heap[p.1]? = some p.2 ∧ W.heap.size ≤ p.1 ∧ ((∃ c,p.2 = .cells c 118) ∨ ∃ c,p.2 = .cells c 9)
theorem find_at (X:List (Nat × List ByteArray)) (i:Nat):∃ m,m ≤ X.length ∧ (∀ j (hj:j < m) (h:j < X.length),X[j].1 ≠ i) ∧ ∀ h:m < X.length,X[m].1 = i:=by
  induction X with
  | nil=>exact ⟨0,Nat.le_refl _,fun j hj=>absurd hj (Nat.not_lt_zero _),fun h=>absurd h (Nat.not_lt_zero _)⟩
  | cons a r ih=>
    by_cases e:a.1 = i
    · exact ⟨0,Nat.zero_le _,fun j hj=>absurd hj (Nat.not_lt_zero _),fun _=>e⟩
    · obtain ⟨m,h1,h2,h3⟩:=ih
      refine ⟨m + 1,by simp only [List.length_cons]; omega,fun j hj h=>?_,fun h=>?_⟩
      · rcases j with _ | j
        · exact e
        · exact h2 j (by omega) (by simpa using h)
      · exact h3 (by simpa using h)
theorem find_mem {X:List (Nat × List ByteArray)} {i m:Nat} (h1:m ≤ X.length) (h2:∀ j (hj:j < m) (h:j < X.length),X[j].1 ≠ i) (h3:∀ h:m < X.length,X[m].1 = i):m < X.length ↔ i ∈ X.map Prod.fst:=by
  constructor
  · intro h
    exact List.mem_map.2 ⟨X[m],List.getElem_mem h,h3 h⟩
  · intro h
    obtain ⟨s,hs,hi⟩:=List.mem_map.1 h
    obtain ⟨j,hj,rfl⟩:=List.getElem_of_mem hs
    rcases Nat.lt_or_ge m X.length with c | c
    · exact c
    · exact absurd hi (h2 j (by omega) hj)
section
variable {v:Value} {X:List (Nat × List ByteArray)} {ol:List (Nat × Obj)} {W:World}
theorem Rl.src (h:Rl v X ol):∃ ao cp g zs,v = .slice ao X.length cp ∧ (0 < X.length → ao = some ⟨g,0,none⟩) ∧ X.length ≤ cp ∧ cp ≤ maxLen ∧ RlC ol X zs ∧ ∀ W:World,(∀ p ∈ ol,W.heap[p.1]? = some p.2) → ∀ j u,zs[j]? = some u → W.cell? ⟨g,0 + j,none⟩ = some u:=by
  rcases h with ⟨rfl,rfl⟩ | ⟨g,cap,cur,rfl,h2,h3,h4,h5,h6⟩
  · exact ⟨_,_,0,[],rfl,fun h=>absurd h (Nat.lt_irrefl _),Nat.le_refl _,Nat.zero_le _,rfl,fun W _ j u hj=>by simp at hj⟩
  · refine ⟨_,_,g,_,rfl,fun _=>rfl,h3,h4,h6,fun W hW j u hj=>?_⟩
    rw [F.cell_of (hW _ h2),Nat.zero_add]
    have hlt:=(List.getElem?_eq_some_iff.1 hj).1
    rw [List.length_take] at hlt
    rw [List.getElem?_take_of_lt (by omega),Array.getElem?_toList] at hj
    exact hj
theorem own_rl {b:Nat} {sv:Value} {zs:List Value} {W W':World} (ho:W'.ownsRow b 118 2 sv X.length zs) (hz:RlC ol X zs) (hX:0 < X.length) (hb:W.heap.size ≤ b):∃ ol',Nw W W' ol' ∧ Rl sv X (ol' ++ ol):=by
  rcases ho.2 with ⟨_,h0⟩ | ⟨g,cap,cur,h1,h2,h3,h4,h5,h6,h7⟩
  · omega
  · refine ⟨[(g,.cells cur 118)],fun p hp=>?_,Or.inr ⟨g,cap,cur,h1,by simp,h4,h5,h6,?_⟩⟩
    · rw [List.mem_singleton.1 hp]
      exact ⟨h3,by show W.heap.size ≤ g; omega,Or.inl ⟨cur,rfl⟩⟩
    · rw [h7]; exact hz.mono (fun p hp=>by simp [hp])
set_option maxHeartbeats 4000000 in
set_option maxRecDepth 100000 in
theorem rstart74 (h:Rl v X ol) (ho:∀ p ∈ ol,W.heap[p.1]? = some p.2) (ns p:Nat) (hns:ns ≤ 100) (hX:X.length < ns) (k:Nat) (hk:k < ns) (hkx:k ∉ X.map Prod.fst) (hlt:∀ j,j < k → j ∈ X.map Prod.fst) :
    Calls Tryz.prog 74 #[.agg #[.int .i64 (ns:Nat),.int .i64 (p:Nat),v]] W fun e w'=>∃ v',e = .returned (.tuple #[.agg #[.int .i64 (ns:Nat),.int .i64 (p:Nat),v'],.bool true]) ∧ Below W.heap.size W w' ∧ ∃ ol',Nw W w' ol' ∧ Rl v' (X ++ [(k,[])]) (ol' ++ ol):=by
  have hR:Hid (Rl v X ol):=h
  obtain ⟨ao,cp,g,hv,ha,hc⟩:=h.cells
  have HA:Hid _:=ha
  obtain ⟨B,hB⟩:∃ B,B = W.heap.size:=⟨_,rfl⟩
  have HB:Hid (B = W.heap.size):=hB
  have HO:Hid (∀ p ∈ ol,W.heap[p.1]? = some p.2):=ho
  have HX:Hid (X.length < ns ∧ k < ns ∧ k ∉ X.map Prod.fst ∧ (∀ j,j < k → j ∈ X.map Prod.fst)):=⟨hX,hk,hkx,hlt⟩
  have hX2:¬ ((X.length:Nat):Int) = (ns:Int):=by omega
  have hW1:Below W.heap.size W ((W.alloc (.cells #[.int .i64 (ns:Nat),.int .i64 (p:Nat),v] 67)).alloc (.cells #[.int .i64 0,.int .i64 0,.slice none 0 0] 67)):=((Below.refl _ _).alloc (Nat.le_refl _) _).alloc (by simp) _
  have hb1:((W.alloc (.cells #[.int .i64 (ns:Nat),.int .i64 (p:Nat),v] 67)).alloc (.cells #[.int .i64 0,.int .i64 0,.slice none 0 0] 67)).heap[W.heap.size]? = some (.cells #[.int .i64 (ns:Nat),.int .i64 (p:Nat),v] 67):=by
    have h1:=F.heap_new W (.cells #[.int .i64 (ns:Nat),.int .i64 (p:Nat),v] 67)
    exact (((Below.refl _ (W.alloc (.cells #[.int .i64 (ns:Nat),.int .i64 (p:Nat),v] 67))).alloc (Nat.le_refl _) _).block _ (F.getElem?_lt h1)).trans h1
  have hb2:((W.alloc (.cells #[.int .i64 (ns:Nat),.int .i64 (p:Nat),v] 67)).alloc (.cells #[.int .i64 0,.int .i64 0,.slice none 0 0] 67)).heap[W.heap.size + 1]? = some (.cells #[.int .i64 0,.int .i64 0,.slice none 0 0] 67):=by
    have h1:=F.heap_new (W.alloc (.cells #[.int .i64 (ns:Nat),.int .i64 (p:Nat),v] 67)) (.cells #[.int .i64 0,.int .i64 0,.slice none 0 0] 67)
    have e:(W.alloc (.cells #[.int .i64 (ns:Nat),.int .i64 (p:Nat),v] 67)).heap.size = W.heap.size + 1:=by simp
    rw [e] at h1; exact h1
  have HW1:Hid (Below W.heap.size W ((W.alloc (.cells #[.int .i64 (ns:Nat),.int .i64 (p:Nat),v] 67)).alloc (.cells #[.int .i64 0,.int .i64 0,.slice none 0 0] 67)) ∧ ((W.alloc (.cells #[.int .i64 (ns:Nat),.int .i64 (p:Nat),v] 67)).alloc (.cells #[.int .i64 0,.int .i64 0,.slice none 0 0] 67)).heap[W.heap.size]? = some (.cells #[.int .i64 (ns:Nat),.int .i64 (p:Nat),v] 67) ∧ ((W.alloc (.cells #[.int .i64 (ns:Nat),.int .i64 (p:Nat),v] 67)).alloc (.cells #[.int .i64 0,.int .i64 0,.slice none 0 0] 67)).heap[W.heap.size + 1]? = some (.cells #[.int .i64 0,.int .i64 0,.slice none 0 0] 67)):=⟨hW1,hb1,hb2⟩
  obtain ⟨n,hn⟩:∃ n,n = X.length:=⟨_,rfl⟩
  have HN:Hid (n = X.length):=hn
  rw [← hn] at hX2 hv
  have hX3:(((n:Nat):Int) == ((ns:Nat):Int)) = false:=by simp; omega
  subst hv
  clear h ho ha hc hX hk hkx hlt hW1 hb1 hb2 hB hn
  go_enter Tryz.func74,Tryz.ntmps74
  go_wp2_with fail
  go_loopw [4,5] (fun uv iv wr=>∃ t:Nat,iv = .int .i64 (t:Nat) ∧ t ≤ ns ∧ uv = .int .i64 ((min t k:Nat):Int) ∧ Hid (Below W.heap.size W wr ∧ wr.heap[W.heap.size]? = some (.cells #[.int .i64 (ns:Nat),.int .i64 (p:Nat),.slice ao n cp] 67) ∧ wr.heap[W.heap.size + 1]? = some (.cells #[.int .i64 0,.int .i64 0,.slice none 0 0] 67))) (fun _ iv _=>ns - (intOf iv).toNat)
  case atStart=>exact ⟨0,rfl,Nat.zero_le _,by rw [Nat.zero_min]; rfl,HW1.out⟩
  case round=>
    obtain ⟨t,rfl,htn,rfl,HI⟩:=hrel
    clear HW1
    have qb0:wr.cell? ⟨W.heap.size,0,none⟩ = some (.int .i64 (ns:Nat)):=F.cell_of HI.out.2.1 0
    have qb1:wr.cell? ⟨W.heap.size,1,none⟩ = some (.int .i64 (p:Nat)):=F.cell_of HI.out.2.1 1
    have qb2:wr.cell? ⟨W.heap.size,2,none⟩ = some (.slice ao n cp):=F.cell_of HI.out.2.1 2
    rcases Nat.lt_or_ge t ns with ht | ht
    · obtain ⟨m,m1,m2,m3⟩:=find_at X (min t k)
      have hmm:=find_mem m1 m2 m3
      have hpl:=place119 (W:=wr) (v:=.slice ao n cp) hR.out (fun r hr=>(HI.out.1.block _ (F.getElem?_lt (HO.out r hr))).trans (HO.out r hr)) (by have:=HX.out.1; omega) ns p ((min t k:Nat):Int) m m1 (fun j hj=>by have:=m2 j hj (by omega); omega) (fun hj=>by have:=m3 hj; omega)
      rw [← HN.out] at hpl hmm
      have htI:(t:Int) < (ns:Int):=by omega
      clear m1 m2 m3
      obtain ⟨i0,hi0⟩:∃ i0,i0 = min t k:=⟨_,rfl⟩
      have HI0:Hid (i0 = min t k):=hi0
      rw [← hi0] at hpl hmm ⊢
      have hi100:i0 ≤ 100:=by omega
      clear hi0
      by_cases hm:m < n
      · have hin:=hmm.1 hm
        rw [if_pos hm] at hpl
        have hik:i0 < k:=by
          rcases Nat.lt_or_ge i0 k with c | c
          · exact c
          · have:i0 = k:=by have:=HI0.out; omega
            rw [this] at hin
            exact absurd hin HX.out.2.2.1
        clear hmm hin
        go_wp2_with fail
        go_call hpl as e1 w1 ⟨rfl,hb1⟩
        have hm0:(0:Int) ≤ (m:Int):=by omega
        have HI2:Hid (Below W.heap.size W w1 ∧ w1.heap[W.heap.size]? = some (.cells #[.int .i64 (ns:Nat),.int .i64 (p:Nat),.slice ao n cp] 67) ∧ w1.heap[W.heap.size + 1]? = some (.cells #[.int .i64 0,.int .i64 0,.slice none 0 0] 67)):=⟨HI.out.1.trans (hb1.mono HI.out.1.size),(hb1.block _ (F.getElem?_lt HI.out.2.1)).trans HI.out.2.1,(hb1.block _ (F.getElem?_lt HI.out.2.2)).trans HI.out.2.2⟩
        clear hpl hb1 qb0 qb1 qb2 HI
        go_wp2
        go_roundw
        case rel=>
          refine ⟨t + 1,by congr 1,by omega,?_,HI2⟩
          have:=HI0.out
          congr 1
          omega
        case measure=>
          show ns - ((t:Int) + 1).toNat < ns - ((t:Nat):Int).toNat
          omega
      · rw [if_neg hm] at hpl
        have hik:i0 = k:=by
          rcases Nat.lt_or_ge i0 k with c | c
          · exact absurd (hmm.2 (HX.out.2.2.2 i0 c)) hm
          · have:=HI0.out; omega
        subst hik
        clear hmm
        go_wp2_with fail
        go_call hpl as e1 w1 ⟨rfl,hb1⟩
        have HI2:Hid (Below W.heap.size W w1 ∧ w1.heap[W.heap.size]? = some (.cells #[.int .i64 (ns:Nat),.int .i64 (p:Nat),.slice ao n cp] 67) ∧ w1.heap[W.heap.size + 1]? = some (.cells #[.int .i64 0,.int .i64 0,.slice none 0 0] 67)):=⟨HI.out.1.trans (hb1.mono HI.out.1.size),(hb1.block _ (F.getElem?_lt HI.out.2.1)).trans HI.out.2.1,(hb1.block _ (F.getElem?_lt HI.out.2.2)).trans HI.out.2.2⟩
        clear hpl hb1 qb0 qb1 qb2 HI
        go_wp2
        go_roundw
        case rel=>
          refine ⟨t + 1,by congr 1,by omega,?_,HI2⟩
          have:=HI0.out
          congr 1
          omega
        case measure=>
          show ns - ((t:Int) + 1).toNat < ns - ((t:Nat):Int).toNat
          omega
    · have hmk:min t k = k:=by have:=HX.out.2.1; omega
      rw [hmk]
      have htI:¬ (t:Int) < (ns:Int):=by omega
      obtain ⟨ao',cp',g',zs,hv',hao',hle',hmax',hzs,hcell'⟩:=hR.out.src
      rw [← HN.out] at hv' hao'
      injection hv' with e1 e2 e3
      subst e1
      subst e3
      clear e2
      have hb0:W.heap.size + 1 < wr.heap.size:=F.getElem?_lt HI.out.2.2
      have hb9:Below wr.heap.size wr (wr.alloc (.cells #[] 118)):=(Below.refl _ _).alloc (Nat.le_refl _) _
      have hown0:(wr.alloc (.cells #[] 118)).ownsRow wr.heap.size 118 2 (.slice (some ⟨wr.heap.size,0,none⟩) 0 0) 0 []:=⟨rfl,Or.inr ⟨wr.heap.size,0,#[],rfl,Nat.le_refl _,F.heap_new _ _,Nat.le_refl _,Nat.zero_le _,rfl,rfl⟩⟩
      have hzl:zs.length = n * 2:=by rw [hzs.len,HN.out]
      have hwo:∀ p ∈ ol,(wr.alloc (.cells #[] 118)).heap[p.1]? = some p.2:=fun r hr=>by
        have h1:=(HI.out.1.block _ (F.getElem?_lt (HO.out r hr))).trans (HO.out r hr)
        exact (hb9.block _ (F.getElem?_lt h1)).trans h1
      obtain ⟨s1,w1,hr1,ho1,hg1⟩:=run_gapp 65 hown0 ao n cp g' 0 zs hao' hzl (hcell' _ hwo) (fun u hu=>hzs.one u hu) (by have:=HX.out.1; have:=HN.out; omega) hb9.size
      rw [Nat.zero_add,List.nil_append] at ho1
      have hsz1:=hg1.size
      have hbw1:Below wr.heap.size wr w1:=hb9.grown hg1 hb9.size (fun k hk=>by have h:wr.heap.size = k:=Option.some.inj hk; omega)
      have hb10:Below wr.heap.size wr (w1.alloc (.cells #[.int .i64 (k:Nat),.slice none 0 0] 118)):=hbw1.alloc hbw1.size _
      have hown1:=ho1.alloc (.cells #[.int .i64 (k:Nat),.slice none 0 0] 118)
      obtain ⟨s2,w2,hr2,ho2,hg2⟩:=run_gapp 65 hown1 (some ⟨w1.heap.size,0,none⟩) 1 1 w1.heap.size 0 [nv k,.slice none 0 0] (fun _=>rfl) rfl (fun j u hj=>by
        rw [F.cell_of (F.heap_new w1 _),Nat.zero_add]
        rcases j with _ | _ | j
        · simpa [nv] using hj
        · simpa using hj
        · simp at hj) (fun u hu=>by simp [nv] at hu; rcases hu with rfl | rfl <;> rfl) (by have:=HX.out.1; have:=HN.out; omega) hb10.size
      have hbw2:Below wr.heap.size wr w2:=hb10.grown hg2 hb10.size (fun k hk=>by
        rcases ho1.2 with ⟨e,_⟩ | ⟨g,cap,cur,e,e2,_⟩
        · rw [e] at hk; cases hk
        · rw [e] at hk
          have h:g = k:=Option.some.inj hk
          omega)
      have HFIN:Hid (∃ ol',Nw wr w2 ol' ∧ Rl s2 (X ++ [(k,[])]) (ol' ++ ol)):=by
        have e:n + 1 = (X ++ [(k,([]:List ByteArray))]).length:=by rw [List.length_append,HN.out]; rfl
        rw [e] at ho2
        refine own_rl ho2 (RlC.app hzs ⟨_,[],rfl,⟨[],TxO.nil,fun p hp=>by cases hp⟩,rfl⟩) (by rw [← e]; omega) (Nat.le_refl _)
      have HBW2:Hid (Below wr.heap.size wr w2):=hbw2
      have qbox:=(hbw2.block _ (F.getElem?_lt HI.out.2.1)).trans HI.out.2.1
      have qres:=(hbw2.block _ (F.getElem?_lt HI.out.2.2)).trans HI.out.2.2
      obtain ⟨s1o,s1n,s1c,hs1⟩:∃ ao m cp,s1 = .slice ao m cp:=by
        obtain ⟨a,b,c⟩:=own_len ho1
        exact ⟨a,_,b,c⟩
      obtain ⟨s2o,s2n,s2c,hs2⟩:∃ ao m cp,s2 = .slice ao m cp:=by
        obtain ⟨a,b,c⟩:=own_len ho2
        exact ⟨a,_,b,c⟩
      have q9:(wr.alloc (.cells #[] 118)).cell? ⟨W.heap.size,2,none⟩ = some (.slice ao n cp):=(hb9.cell (World.block_lt_of_cell? wr _ qb2)).trans qb2
      have HBX:Hid (Below W.heap.size W wr):=HI.out.1
      subst hs1
      subst hs2
      have HR1:Hid _:=hr1
      have HR2:Hid _:=hr2
      have qb3:w2.cell? ⟨W.heap.size,0,none⟩ = some (.int .i64 (ns:Nat)):=F.cell_of qbox 0
      have qb4:w2.cell? ⟨W.heap.size,1,none⟩ = some (.int .i64 (p:Nat)):=F.cell_of qbox 1
      have qb5:w2.cell? ⟨W.heap.size,2,none⟩ = some (.slice ao n cp):=F.cell_of qbox 2
      have zb5:w2.frozen? ⟨W.heap.size,2,none⟩ = false:=F.frz_of qbox 2
      have qbox2:=F.block_set (i:=2) qbox (.slice s2o s2n s2c)
      have qres2:(w2.setCell ⟨W.heap.size,2,none⟩ (.slice s2o s2n s2c)).heap[W.heap.size + 1]? = some (.cells #[.int .i64 0,.int .i64 0,.slice none 0 0] 67):=(((Off.refl W.heap.size w2).set 2 (.slice s2o s2n s2c)).block _ (by omega)).trans qres
      obtain ⟨W3,hW3⟩:∃ W3,W3 = w2.setCell ⟨W.heap.size,2,none⟩ (.slice s2o s2n s2c):=⟨_,rfl⟩
      rw [← hW3] at qbox2 qres2
      have qc0:W3.cell? ⟨W.heap.size,0,none⟩ = some (.int .i64 (ns:Nat)):=F.cell_of qbox2 0
      have qc1:W3.cell? ⟨W.heap.size,1,none⟩ = some (.int .i64 (p:Nat)):=F.cell_of qbox2 1
      have qc2:W3.cell? ⟨W.heap.size,2,none⟩ = some (.slice s2o s2n s2c):=F.cell_of qbox2 2
      have qr0:W3.cell? ⟨W.heap.size + 1,0,none⟩ = some (.int .i64 0):=F.cell_of qres2 0
      have qr1:W3.cell? ⟨W.heap.size + 1,1,none⟩ = some (.int .i64 0):=F.cell_of qres2 1
      have qr2:W3.cell? ⟨W.heap.size + 1,2,none⟩ = some (.slice none 0 0):=F.cell_of qres2 2
      have zr0:W3.frozen? ⟨W.heap.size + 1,0,none⟩ = false:=F.frz_of qres2 0
      have zr1:W3.frozen? ⟨W.heap.size + 1,1,none⟩ = false:=F.frz_of qres2 1
      have zr2:W3.frozen? ⟨W.heap.size + 1,2,none⟩ = false:=F.frz_of qres2 2
      have HW3:Hid (w2.setCell ⟨W.heap.size,2,none⟩ (.slice s2o s2n s2c) = W3):=hW3.symm
      have QR2:Hid (W3.heap[W.heap.size + 1]? = some (.cells #[.int .i64 0,.int .i64 0,.slice none 0 0] 67)):=qres2
      clear qbox qbox2 qres qres2 hW3 hbw1 hbw2 hb10 hown1 hown0 ho1 ho2 hg1 hg2 hr1 hr2 hzs hcell' hao' hle' hmax' hzl hwo hb9 hsz1 hmk
      have hr1:=HR1.out
      have hr2:=HR2.out
      have hw3:=HW3.out
      go_wp2_with (first | refine gappS (v:=.slice (some ⟨wr.heap.size,0,none⟩) 0 0) (vx:=.slice ao n cp) rfl (.tmp 25) (.tmp 27) 65 rfl rfl rfl hr1 ?_ | refine gappS (v:=.slice s1o s1n s1c) (vx:=.slice (some ⟨w1.heap.size,0,none⟩) 1 1) rfl (.tmp 28) (.tmp 31) 65 rfl rfl rfl hr2 ?_ | fail)
      subst hw3
      have t1:((w2.setCell ⟨W.heap.size,2,none⟩ (.slice s2o s2n s2c)).setCell ⟨W.heap.size + 1,0,none⟩ (.int .i64 (ns:Nat))).heap[W.heap.size + 1]? = some (.cells #[.int .i64 (ns:Nat),.int .i64 0,.slice none 0 0] 67):=F.block_set (i:=0) QR2.out _
      have t2:(((w2.setCell ⟨W.heap.size,2,none⟩ (.slice s2o s2n s2c)).setCell ⟨W.heap.size + 1,0,none⟩ (.int .i64 (ns:Nat))).setCell ⟨W.heap.size + 1,1,none⟩ (.int .i64 (p:Nat))).heap[W.heap.size + 1]? = some (.cells #[.int .i64 (ns:Nat),.int .i64 (p:Nat),.slice none 0 0] 67):=F.block_set (i:=1) t1 _
      have t3:((((w2.setCell ⟨W.heap.size,2,none⟩ (.slice s2o s2n s2c)).setCell ⟨W.heap.size + 1,0,none⟩ (.int .i64 (ns:Nat))).setCell ⟨W.heap.size + 1,1,none⟩ (.int .i64 (p:Nat))).setCell ⟨W.heap.size + 1,2,none⟩ (.slice s2o s2n s2c)).heap[W.heap.size + 1]? = some (.cells #[.int .i64 (ns:Nat),.int .i64 (p:Nat),.slice s2o s2n s2c] 67):=F.block_set (i:=2) t2 _
      have hoff:=((((Off.refl (W.heap.size + 1) (w2.setCell ⟨W.heap.size,2,none⟩ (.slice s2o s2n s2c))).set 0 (.int .i64 (ns:Nat))).set 1 (.int .i64 (p:Nat))).set 2 (.slice s2o s2n s2c))
      have hoff0:=(Off.refl W.heap.size w2).set 2 (.slice s2o s2n s2c)
      obtain ⟨ol',hn1,hn2⟩:=HFIN.out
      have hsz:=HBX.out.size
      refine bodyPost_ret (lret2 Tryz.results74 _ _ (W.heap.size + 1) _ (.bool true) rfl rfl t3 rfl) rfl ⟨_,rfl,?_,ol',fun r hr=>?_,hn2⟩
      · exact ((((HBX.out.trans (HBW2.out.mono hsz)).setCell (Nat.le_refl _) _).setCell (by simp) _).setCell (by simp) _).setCell (by simp) _
      · obtain ⟨b1,b2,b3⟩:=hn1 r hr
        exact ⟨(hoff.block _ (by omega)).trans ((hoff0.block _ (by omega)).trans b1),by omega,b3⟩
end
end Go.Proofs.YtncfbocbigdhiaaGreat.U

/- The document's Append, as a call. -/
namespace Go.Proofs.YtncfbocbigdhiaaGreat.U
open Go Go.RowKit Go.Sort
theorem run_tgapp (ty:TypeId) {w:World} {base:Nat} {sv:Value} {n:Nat} {xs:List Value} (hown:w.ownsRow base 9 1 sv n xs) (ao:Option Addr) (m cp g off:Nat) (zs:List Value) (hao:0 < m → ao = some ⟨g,off,none⟩) (hzl:zs.length = m) (hz:∀ j u,zs[j]? = some u → w.cell? ⟨g,off + j,none⟩ = some u) (h1:∀ u ∈ zs,u.oneCell' = true) (hl:n + m ≤ 2000) (hb:base ≤ w.heap.size) :
    ∃ v' w',(Builtin.append_ #[30,30] ty #[sv,.slice ao m cp]).run Tryz.prog w = .ok v' w' ∧ w'.ownsRow base 9 1 v' (n + m) (xs ++ zs) ∧ w.grownBy w' sv.ownBlock:=by
  obtain ⟨i,hi,hzr,hsz,hby⟩:=info_parts tinfo
  rcases Nat.eq_zero_or_pos m with rfl | hm
  · have hz0:zs = []:=List.eq_nil_of_length_eq_zero (by omega)
    subst hz0
    obtain ⟨ao1,cp1,rfl⟩:=own_len hown
    have hle:n ≤ cp1:=by
      rcases hown.2 with ⟨e,h0⟩ | ⟨g,cap,cur,e,_,_,h2,_⟩
      · omega
      · injection e with _ _ e; omega
    have hs:Src Tryz.prog i.size 30 (.slice ao 0 cp) 0 [] w:=by
      cases ao with
      | none=>exact Src.ofNil w Tryz.underlying30 cp
      | some a=>exact Src.ofSlice w Tryz.underlying30 a 0 cp [] (by simp) (fun j u hj=>by simp at hj) (fun u hu=>by cases hu)
    exact ⟨_,_,run_append_nothing w 30 30 ty 9 i Tryz.underlying30 hi ao1 n cp1 hle _ hs,by rw [List.append_nil]; exact hown,⟨rfl,rfl,rfl,Nat.le_refl _,fun _ _ _=>rfl⟩⟩
  · obtain rfl:=hao hm
    obtain ⟨v',w',hr,r2,r3,_⟩:=run_append_own_at (P:=Tryz.prog) w base 30 ty 9 i _ 1 _ Tryz.underlying30 hi hzr hsz hby (by kernel_rfl) (by decide) sv n xs hown ⟨g,off,none⟩ m cp zs (by rw [hzl,Nat.mul_one]) (fun j u hj=>by rw [Addr.add_lit]; exact hz j u hj) h1 (by unfold maxLen; omega) (by omega) hb
    exact ⟨v',w',hr,r2,r3⟩
theorem own_keep {w w':World} {b:Nat} {e:TypeId} {s:Nat} {v:Value} {n:Nat} {xs:List Value} (h:w.ownsRow b e s v n xs) (hk:∀ k < w.heap.size,w'.heap[k]? = w.heap[k]?):w'.ownsRow b e s v n xs:=
  ⟨h.1,h.2.imp id fun ⟨g,cap,cur,h1,h2,h3,h4⟩=>⟨g,cap,cur,h1,h2,(hk g (F.getElem?_lt h3)).trans h3,h4⟩⟩
theorem TxO.src {v:Value} {xs:List ByteArray} {ol:List (Nat × Obj)} (h:TxO v xs ol):∃ ao cp g off,v = .slice ao xs.length cp ∧ (0 < xs.length → ao = some ⟨g,off,none⟩) ∧ ∀ W:World,(∀ p ∈ ol,W.heap[p.1]? = some p.2) → ∀ j u,(xs.map Value.string)[j]? = some u → W.cell? ⟨g,off + j,none⟩ = some u:=by
  rcases h with ⟨rfl,rfl,rfl⟩ | ⟨g,off,cap,cur,rfl,rfl,h1,h2,h3,h4⟩
  · exact ⟨none,0,0,0,rfl,fun h=>absurd h (Nat.lt_irrefl _),fun _ _ j u hj=>by simp at hj⟩
  · refine ⟨_,_,g,off,rfl,fun _=>rfl,fun W hW j u hj=>?_⟩
    rw [F.cell_of (hW _ (List.mem_singleton.2 rfl)),← Array.getElem?_toList]
    have hlt:=(List.getElem?_eq_some_iff.1 hj).1
    rw [List.length_map] at hlt
    rw [← h4,List.getElem?_take_of_lt hlt,List.getElem?_drop] at hj
    exact hj
theorem own_tx {b n:Nat} {sv:Value} {xs:List ByteArray} {W W':World} (ho:W'.ownsRow b 9 1 sv n (xs.map .string)) (hn:n = xs.length) (hX:0 < n) (hb:W.heap.size ≤ b):∃ ol',Nw W W' ol' ∧ TxO sv xs ol' ∧ sv.oneCell' = true:=by
  subst hn
  rcases ho.2 with ⟨_,h0⟩ | ⟨g,cap,cur,h1,h2,h3,h4,h5,h6,h7⟩
  · omega
  · refine ⟨[(g,.cells cur 9)],fun p hp=>?_,Or.inr ⟨g,0,cap,cur,h1,rfl,h4,h5,by omega,?_⟩,by rw [h1]; rfl⟩
    · rw [List.mem_singleton.1 hp]
      exact ⟨h3,by show W.heap.size ≤ g; omega,Or.inr ⟨cur,rfl⟩⟩
    · rw [List.drop_zero,← h7,Nat.mul_one]
theorem res3 {W5:World} {b:Nat} (h:W5.heap[b]? = some (.cells #[.int .i64 0,.int .i64 0,.slice none 0 0] 67)) (a1 a2 a3:Value):(((W5.setCell ⟨b,0,none⟩ a1).setCell ⟨b,1,none⟩ a2).setCell ⟨b,2,none⟩ a3).heap[b]? = some (.cells #[a1,a2,a3] 67) ∧ Off b W5 (((W5.setCell ⟨b,0,none⟩ a1).setCell ⟨b,1,none⟩ a2).setCell ⟨b,2,none⟩ a3) ∧ ∀ W0:World,∀ B,B ≤ b → Below B W0 W5 → Below B W0 (((W5.setCell ⟨b,0,none⟩ a1).setCell ⟨b,1,none⟩ a2).setCell ⟨b,2,none⟩ a3):=by
  have t1:(W5.setCell ⟨b,0,none⟩ a1).heap[b]? = some (.cells #[a1,.int .i64 0,.slice none 0 0] 67):=F.block_set (i:=0) h _
  have t2:((W5.setCell ⟨b,0,none⟩ a1).setCell ⟨b,1,none⟩ a2).heap[b]? = some (.cells #[a1,a2,.slice none 0 0] 67):=F.block_set (i:=1) t1 _
  exact ⟨F.block_set (i:=2) t2 _,(((Off.refl b W5).set 0 a1).set 1 a2).set 2 a3,fun W0 B hB hb=>((hb.setCell hB _).setCell hB _).setCell hB _⟩
section
variable {v:Value} {X:List (Nat × List ByteArray)} {ol:List (Nat × Obj)} {W:World}
set_option maxHeartbeats 4000000 in
set_option maxRecDepth 100000 in
theorem rappend80 {k:Nat} {ts:List ByteArray} (h:Rl v (X ++ [(k,ts)]) ol) (ho:∀ p ∈ ol,W.heap[p.1]? = some p.2) (ns p:Nat) (x:ByteArray) (hX:X.length ≤ 100) (ht:ts.length ≤ 1000) :
    Calls Tryz.prog 80 #[.agg #[.int .i64 (ns:Nat),.int .i64 (p:Nat),v],.string x] W fun e w'=>∃ v',e = .returned (.agg #[.int .i64 (ns:Nat),.int .i64 (p:Nat),v']) ∧ Below W.heap.size W w' ∧ ∃ ol',Nw W w' ol' ∧ Rl v' (X ++ [(k,ts ++ [x])]) (ol' ++ ol):=by
  have HO:Hid (∀ p ∈ ol,W.heap[p.1]? = some p.2):=ho
  obtain ⟨ao,cp,g',zs,hv,hao,hle,hmax,hzs,hcell⟩:=h.src
  obtain ⟨m,hm⟩:∃ m,m = X.length:=⟨_,rfl⟩
  have hlen:(X ++ [(k,ts)]).length = m + 1:=by rw [List.length_append,hm]; rfl
  rw [hlen] at hv hao hle
  subst hv
  obtain ⟨hz1,hz2⟩:=hzs.split
  rw [← hm] at hz1 hz2 hX
  obtain ⟨tv,r,hz3,⟨tl,hz4,hz5⟩,hz6⟩:=hz2
  have hz6:r = []:=hz6
  subst hz6
  have hzz:zs = zs.take (m * 2) ++ [nv k,tv]:=by conv=>lhs; rw [← List.take_append_drop (m * 2) zs,hz3]
  have hzl1:(zs.take (m * 2)).length = m * 2:=by rw [hz1.len,hm]
  have hzl:zs.length = (m + 1) * 2:=by rw [hzs.len,hlen]
  obtain ⟨Wa,hWa⟩:∃ Wa,Wa = ((W.alloc (.cells #[.int .i64 (ns:Nat),.int .i64 (p:Nat),.slice ao (m + 1) cp] 67)).alloc (.cells #[.int .i64 0,.int .i64 0,.slice none 0 0] 67)):=⟨_,rfl⟩
  have ha1:Below W.heap.size W Wa:=by rw [hWa]; exact ((Below.refl _ _).alloc (Nat.le_refl _) _).alloc (by simp) _
  have ha2:Wa.heap[W.heap.size]? = some (.cells #[.int .i64 (ns:Nat),.int .i64 (p:Nat),.slice ao (m + 1) cp] 67):=by
    have h1:=F.heap_new W (.cells #[.int .i64 (ns:Nat),.int .i64 (p:Nat),.slice ao (m + 1) cp] 67)
    rw [hWa]
    exact (((Below.refl _ (W.alloc (.cells #[.int .i64 (ns:Nat),.int .i64 (p:Nat),.slice ao (m + 1) cp] 67))).alloc (Nat.le_refl _) _).block _ (F.getElem?_lt h1)).trans h1
  have ha3:Wa.heap[W.heap.size + 1]? = some (.cells #[.int .i64 0,.int .i64 0,.slice none 0 0] 67):=by
    have h1:=F.heap_new (W.alloc (.cells #[.int .i64 (ns:Nat),.int .i64 (p:Nat),.slice ao (m + 1) cp] 67)) (.cells #[.int .i64 0,.int .i64 0,.slice none 0 0] 67)
    have e:(W.alloc (.cells #[.int .i64 (ns:Nat),.int .i64 (p:Nat),.slice ao (m + 1) cp] 67)).heap.size = W.heap.size + 1:=by simp
    rw [e] at h1; rw [hWa]; exact h1
  have ha4:Wa.heap.size = W.heap.size + 2:=by rw [hWa]; simp
  have hoa:∀ r ∈ ol,Wa.heap[r.1]? = some r.2:=fun r hr=>(ha1.block _ (F.getElem?_lt (ho r hr))).trans (ho r hr)
  -- the row of segments, copied
  have hb9:Below Wa.heap.size Wa (Wa.alloc (.cells #[] 118)):=(Below.refl _ _).alloc (Nat.le_refl _) _
  have hown0:(Wa.alloc (.cells #[] 118)).ownsRow Wa.heap.size 118 2 (.slice (some ⟨Wa.heap.size,0,none⟩) 0 0) 0 []:=⟨rfl,Or.inr ⟨Wa.heap.size,0,#[],rfl,Nat.le_refl _,F.heap_new _ _,Nat.le_refl _,Nat.zero_le _,rfl,rfl⟩⟩
  have hwo:∀ p ∈ ol,(Wa.alloc (.cells #[] 118)).heap[p.1]? = some p.2:=fun r hr=>(hb9.block _ (F.getElem?_lt (hoa r hr))).trans (hoa r hr)
  obtain ⟨s1,w1,hr1,ho1,hg1⟩:=run_gapp 65 hown0 ao (m + 1) cp g' 0 zs hao hzl (hcell _ hwo) (fun u hu=>hzs.one u hu) (by omega) hb9.size
  rw [Nat.zero_add,List.nil_append] at ho1
  have hbw1:Below Wa.heap.size Wa w1:=hb9.grown hg1 hb9.size (fun k hk=>by have h:Wa.heap.size = k:=Option.some.inj hk; omega)
  obtain ⟨g1,c1,cur1,hs1,hge1,hbl1,hle1,hmx1,hsz1,htk1⟩:∃ g cap cur,s1 = .slice (some ⟨g,0,none⟩) (m + 1) cap ∧ Wa.heap.size ≤ g ∧ w1.heap[g]? = some (.cells cur 118) ∧ m + 1 ≤ cap ∧ cap ≤ maxLen ∧ cur.size = cap * 2 ∧ cur.toList.take ((m + 1) * 2) = zs:=by
    rcases ho1.2 with ⟨_,e⟩ | e
    · omega
    · exact e
  subst hs1
  -- the texts of the last one, copied
  obtain ⟨tao,tcp,tg,tof,htv,htao,htc⟩:=hz4.src
  have hb10:Below w1.heap.size w1 (w1.alloc (.cells #[] 9)):=(Below.refl _ _).alloc (Nat.le_refl _) _
  have hown2:(w1.alloc (.cells #[] 9)).ownsRow w1.heap.size 9 1 (.slice (some ⟨w1.heap.size,0,none⟩) 0 0) 0 []:=⟨rfl,Or.inr ⟨w1.heap.size,0,#[],rfl,Nat.le_refl _,F.heap_new _ _,Nat.le_refl _,Nat.zero_le _,rfl,rfl⟩⟩
  have hwt:∀ p ∈ tl,(w1.alloc (.cells #[] 9)).heap[p.1]? = some p.2:=fun r hr=>by
    have h1:=hoa r (hz5 r hr)
    have h2:=(hbw1.block _ (F.getElem?_lt h1)).trans h1
    exact (hb10.block _ (F.getElem?_lt h2)).trans h2
  obtain ⟨s2,w2,hr2,ho2,hg2⟩:=run_tgapp 30 hown2 tao ts.length tcp tg tof (ts.map .string) htao (by rw [List.length_map]) (htc _ hwt) (fun u hu=>by obtain ⟨y,_,rfl⟩:=List.mem_map.1 hu; rfl) (by omega) hb10.size
  rw [Nat.zero_add,List.nil_append] at ho2
  have hbw2:Below w1.heap.size w1 w2:=hb10.grown hg2 hb10.size (fun k hk=>by have h:w1.heap.size = k:=Option.some.inj hk; omega)
  have hb11:Below w1.heap.size w1 (w2.alloc (.cells #[.string x] 9)):=hbw2.alloc hbw2.size _
  obtain ⟨s3,w3,hr3,ho3,hg3⟩:=run_tgapp 30 (ho2.alloc (.cells #[.string x] 9)) (some ⟨w2.heap.size,0,none⟩) 1 1 w2.heap.size 0 [.string x] (fun _=>rfl) rfl (fun j u hj=>by
    rw [F.cell_of (F.heap_new w2 _),Nat.zero_add]
    rcases j with _ | j
    · simpa using hj
    · simp at hj) (fun u hu=>by simp at hu; rw [hu]; rfl) (by omega) hb11.size
  have hbw3:Below w1.heap.size w1 w3:=hb11.grown hg3 hb11.size (fun k hk=>by
    rcases ho2.2 with ⟨e,_⟩ | ⟨g,cap,cur,e,e2,_⟩
    · rw [e] at hk; cases hk
    · rw [e] at hk
      have h:g = k:=Option.some.inj hk
      omega)
  have ho3':w3.ownsRow w1.heap.size 9 1 s3 (ts.length + 1) ((ts ++ [x]).map .string):=by rw [List.map_append]; exact ho3
  obtain ⟨ol3,hn3,htx3,hone3⟩:=own_tx (W:=w1) ho3' (by rw [List.length_append]; rfl) (Nat.succ_pos _) (Nat.le_refl _)
  obtain ⟨s2o,s2c,hs2⟩:=own_len ho2
  obtain ⟨s3o,s3c,hs3⟩:=own_len ho3
  subst hs2
  subst hs3
  have hbl3:w3.heap[g1]? = some (.cells cur1 118):=(hbw3.block _ (F.getElem?_lt hbl1)).trans hbl1
  have hown3:w3.ownsRow Wa.heap.size 118 2 (.slice (some ⟨g1,0,none⟩) (m + 1) c1) (m + 1) zs:=own_keep ho1 (fun k hk=>hbw3.block k hk)
  obtain ⟨hown4,hg4⟩:=hown3.stored (m * 2 + 1) (.slice s3o (ts.length + 1) s3c)
  have hset:zs.set (m * 2 + 1) (.slice s3o (ts.length + 1) s3c) = zs.take (m * 2) ++ [nv k,.slice s3o (ts.length + 1) s3c]:=by
    conv=>lhs; rw [hzz]
    rw [List.set_append,if_neg (by rw [hzl1]; omega),hzl1,show m * 2 + 1 - m * 2 = 1 by omega]
    rfl
  rw [hset] at hown4
  obtain ⟨W4,hW4⟩:∃ W4,W4 = w3.setCell ⟨g1,m * 2 + 1,none⟩ (.slice s3o (ts.length + 1) s3c):=⟨_,rfl⟩
  rw [← hW4] at hown4 hg4
  have hlt1:=F.getElem?_lt hbl1
  have hw13:=hbw3.size
  have hwa1:=hbw1.size
  have hn4:Nw Wa W4 ol3:=fun r hr=>by
    obtain ⟨b1,b2,b3⟩:=hn3 r hr
    refine ⟨?_,by omega,b3⟩
    have hr3':=F.getElem?_lt b1
    rw [hW4]
    exact (((Off.refl g1 w3).set (m * 2 + 1) (.slice s3o (ts.length + 1) s3c)).block _ (by omega)).trans b1
  have HFIN:Hid (∃ ol',Nw Wa W4 ol' ∧ Rl (.slice (some ⟨g1,0,none⟩) (m + 1) c1) (X ++ [(k,ts ++ [x])]) (ol' ++ ol)):=by
    have hrl:RlC (ol3 ++ ol) (X ++ [(k,ts ++ [x])]) (zs.take (m * 2) ++ [nv k,.slice s3o (ts.length + 1) s3c]):=(hz1.mono (fun p hp=>by simp [hp])).app ⟨_,[],rfl,⟨ol3,htx3,fun p hp=>by simp [hp]⟩,rfl⟩
    have e:m + 1 = (X ++ [(k,ts ++ [x])]).length:=by rw [List.length_append,hm]; rfl
    rw [e] at hown4 ⊢
    obtain ⟨ol4,hn5,hrl4⟩:=own_rl (W:=Wa) hown4 hrl (by rw [← e]; omega) (Nat.le_refl _)
    refine ⟨ol4 ++ ol3,fun r hr=>?_,by rw [List.append_assoc]; exact hrl4⟩
    rcases List.mem_append.1 hr with hr | hr
    · exact hn5 r hr
    · exact hn4 r hr
  have hb4:Below Wa.heap.size Wa W4:=by rw [hW4]; exact (hbw1.trans (hbw3.mono hwa1)).setCell (by show _ ≤ g1; omega) _
  have HB4:Hid (Below Wa.heap.size Wa W4):=hb4
  have HBA:Hid (Below W.heap.size W Wa):=ha1
  -- what the walk wants
  have qa2:(Wa.alloc (.cells #[] 118)).cell? ⟨W.heap.size,2,none⟩ = some (.slice ao (m + 1) cp):=F.cell_of ((hb9.block _ (by omega)).trans ha2) 2
  have hk1:(w1.alloc (.cells #[] 9)).heap[g1]? = some (.cells cur1 118):=(hb10.block _ hlt1).trans hbl1
  have q1t:(w1.alloc (.cells #[] 9)).cell? ⟨g1,m * 2 + 1,none⟩ = some (.slice tao ts.length tcp):=by
    rw [F.cell_of hk1]
    have hlt:m * 2 + 1 < (m + 1) * 2:=by omega
    have h1:(cur1.toList.take ((m + 1) * 2))[m * 2 + 1]? = some tv:=by
      rw [htk1,hzz,List.getElem?_append_right (by rw [hzl1]; omega),hzl1,show m * 2 + 1 - m * 2 = 1 by omega]; rfl
    rw [List.getElem?_take_of_lt hlt,Array.getElem?_toList,htv] at h1
    exact h1
  have q3t:∃ u,w3.cell? ⟨g1,m * 2 + 1,none⟩ = some u:=by
    have:m * 2 + 1 < cur1.size:=by omega
    exact ⟨cur1[m * 2 + 1],by rw [F.cell_of hbl3,Array.getElem?_eq_getElem this]⟩
  obtain ⟨u3,q3⟩:=q3t
  have z3:w3.frozen? ⟨g1,m * 2 + 1,none⟩ = false:=F.frz_of hbl3 _
  have qbox:W4.heap[W.heap.size]? = some (.cells #[.int .i64 (ns:Nat),.int .i64 (p:Nat),.slice ao (m + 1) cp] 67):=(hb4.block _ (by omega)).trans ha2
  have qres:W4.heap[W.heap.size + 1]? = some (.cells #[.int .i64 0,.int .i64 0,.slice none 0 0] 67):=(hb4.block _ (by omega)).trans ha3
  have q42:W4.cell? ⟨W.heap.size,2,none⟩ = some (.slice ao (m + 1) cp):=F.cell_of qbox 2
  have z42:W4.frozen? ⟨W.heap.size,2,none⟩ = false:=F.frz_of qbox 2
  have qbox2:=F.block_set (i:=2) qbox (.slice (some ⟨g1,0,none⟩) (m + 1) c1)
  have qres2:(W4.setCell ⟨W.heap.size,2,none⟩ (.slice (some ⟨g1,0,none⟩) (m + 1) c1)).heap[W.heap.size + 1]? = some (.cells #[.int .i64 0,.int .i64 0,.slice none 0 0] 67):=(((Off.refl W.heap.size W4).set 2 (.slice (some ⟨g1,0,none⟩) (m + 1) c1)).block _ (by omega)).trans qres
  obtain ⟨W5,hW5⟩:∃ W5,W5 = W4.setCell ⟨W.heap.size,2,none⟩ (.slice (some ⟨g1,0,none⟩) (m + 1) c1):=⟨_,rfl⟩
  rw [← hW5] at qbox2 qres2
  have qc0:W5.cell? ⟨W.heap.size,0,none⟩ = some (.int .i64 (ns:Nat)):=F.cell_of qbox2 0
  have qc1:W5.cell? ⟨W.heap.size,1,none⟩ = some (.int .i64 (p:Nat)):=F.cell_of qbox2 1
  have qc2:W5.cell? ⟨W.heap.size,2,none⟩ = some (.slice (some ⟨g1,0,none⟩) (m + 1) c1):=F.cell_of qbox2 2
  have qr0:W5.cell? ⟨W.heap.size + 1,0,none⟩ = some (.int .i64 0):=F.cell_of qres2 0
  have qr1:W5.cell? ⟨W.heap.size + 1,1,none⟩ = some (.int .i64 0):=F.cell_of qres2 1
  have qr2:W5.cell? ⟨W.heap.size + 1,2,none⟩ = some (.slice none 0 0):=F.cell_of qres2 2
  have zr0:W5.frozen? ⟨W.heap.size + 1,0,none⟩ = false:=F.frz_of qres2 0
  have zr1:W5.frozen? ⟨W.heap.size + 1,1,none⟩ = false:=F.frz_of qres2 1
  have zr2:W5.frozen? ⟨W.heap.size + 1,2,none⟩ = false:=F.frz_of qres2 2
  have QR2:Hid (W5.heap[W.heap.size + 1]? = some (.cells #[.int .i64 0,.int .i64 0,.slice none 0 0] 67)):=qres2
  have hw4:=hW4.symm
  have hw5:=hW5.symm
  have HSZ:Hid (Wa.heap.size = W.heap.size + 2):=ha4
  have hmI:((m + 1:Nat):Int) = (m:Int) + 1:=by omega
  have hWa':=hWa.symm
  clear h ho hao hle hmax hzs hcell hm hlen hz1 hz3 hz4 hz5 hzz hzl1 hzl hWa ha1 ha2 ha3 hoa hb9 hown0 hwo ho1 hg1 hbw1 hge1 hbl1 hle1 hmx1 hsz1 htk1 htv htao htc hb10 hown2 hwt ho2 hg2 hbw2 hb11 ho3 ho3' hg3 hbw3 hn3 htx3 hone3 hbl3 hown3 hown4 hg4 hset hW4 hlt1 hw13 hwa1 hn4 hb4 hk1 qbox qres qbox2 qres2 hW5 ha4
  go_enter Tryz.func80,Tryz.ntmps80
  go_wp2_with (first | refine gappS (v:=.slice (some ⟨Wa.heap.size,0,none⟩) 0 0) (vx:=.slice ao (m + 1) cp) rfl (.tmp 7) (.tmp 9) 65 rfl rfl rfl hr1 ?_ | refine gappS (v:=.slice (some ⟨w1.heap.size,0,none⟩) 0 0) (vx:=.slice tao ts.length tcp) rfl (.tmp 16) (.tmp 21) 30 rfl rfl rfl hr2 ?_ | refine gappS (v:=.slice s2o ts.length s2c) (vx:=.slice (some ⟨w2.heap.size,0,none⟩) 1 1) rfl (.tmp 22) (.tmp 24) 30 rfl rfl rfl hr3 ?_ | fail)
  subst hw5
  obtain ⟨t3,hoff,hbel⟩:=res3 QR2.out (.int .i64 (ns:Nat)) (.int .i64 (p:Nat)) (.slice (some ⟨g1,0,none⟩) (m + 1) c1)
  have hoff0:=(Off.refl W.heap.size W4).set 2 (.slice (some ⟨g1,0,none⟩) (m + 1) c1)
  obtain ⟨ol',hn1,hn2⟩:=HFIN.out
  have hsz:=HSZ.out
  refine bodyPost_ret (lret1 Tryz.results80 _ _ (W.heap.size + 1) _ rfl rfl t3) rfl ⟨_,rfl,?_,ol',fun r hr=>?_,hn2⟩
  · exact hbel W _ (by omega) ((HBA.out.trans (HB4.out.mono (by omega))).setCell (Nat.le_refl _) _)
  · obtain ⟨b1,b2,b3⟩:=hn1 r hr
    exact ⟨(hoff.block _ (by omega)).trans ((hoff0.block _ (by omega)).trans b1),by omega,b3⟩
end
end Go.Proofs.YtncfbocbigdhiaaGreat.U

/- The document's Reclaim, as a call. -/
namespace Go.Proofs.YtncfbocbigdhiaaGreat.U
open Go Go.RowKit Go.Sort
structure PhD (n e0 e1 e2:Nat) (W0 W1 W2 W3 W4:World) (done:Nat → Bool) (W:World):Prop where
  a:done e0 = false → W = W0
  b:done e0 = true → done e1 = false → W = W1
  c:done e1 = true → done e2 = false → W = W2
  d:done e2 = true → done n = false → W = W3
  z:done n = true → W = W4
  k1:done e1 = true → done e0 = true
  k2:done e2 = true → done e1 = true
  all:done n = true → ∀ j,j < n → done j = true
section
variable {n e0 e1 e2:Nat} {W0 W1 W2 W3 W4:World} {done:Nat → Bool} {W:World}
theorem PhD.start:PhD n e0 e1 e2 W0 W1 W2 W3 W4 (fun _=>false) W0:=
  ⟨fun _=>rfl,(fun e=>by cases e),(fun e=>by cases e),(fun e=>by cases e),(fun e=>by cases e),(fun e=>by cases e),(fun e=>by cases e),(fun e=>by cases e)⟩
theorem PhD.not (h:PhD n e0 e1 e2 W0 W1 W2 W3 W4 done W) {j:Nat} (hj:j < n) (hd:done j = false):done n = false:=by
  cases e:done n with
  | false=>rfl
  | true=>rw [h.all e j hj] at hd; cases hd
theorem PhD.now (h:PhD n e0 e1 e2 W0 W1 W2 W3 W4 done W) {j:Nat} (hj:j < n) (hd:done j = false):W = W0 ∨ W = W1 ∨ W = W2 ∨ W = W3:=by
  have hn:=h.not hj hd
  cases e:done e0 with
  | false=>exact Or.inl (h.a e)
  | true=>
    cases f:done e1 with
    | false=>exact Or.inr (Or.inl (h.b e f))
    | true=>
      cases g:done e2 with
      | false=>exact Or.inr (Or.inr (Or.inl (h.c f g)))
      | true=>exact Or.inr (Or.inr (Or.inr (h.d g hn)))
theorem PhD.pure (h:PhD n e0 e1 e2 W0 W1 W2 W3 W4 done W) {j:Nat} (hj:j < n) (hd:done j = false) (h0:e0 ≠ j) (h1:e1 ≠ j) (h2:e2 ≠ j):PhD n e0 e1 e2 W0 W1 W2 W3 W4 (F.updB done j) W:=by
  have hn:=h.not hj hd
  have f0:F.updB done j e0 = done e0:=if_neg h0
  have f1:F.updB done j e1 = done e1:=if_neg h1
  have f2:F.updB done j e2 = done e2:=if_neg h2
  have fn:F.updB done j n = done n:=if_neg (by omega)
  refine ⟨by rw [f0]; exact h.a,by rw [f0,f1]; exact h.b,by rw [f1,f2]; exact h.c,by rw [f2,fn]; exact h.d,by rw [fn]; exact h.z,by rw [f0,f1]; exact h.k1,by rw [f1,f2]; exact h.k2,fun e=>?_⟩
  rw [fn,hn] at e; cases e
theorem PhD.first (h:PhD n e0 e1 e2 W0 W1 W2 W3 W4 done W) (hd:done e0 = false) (hn:e0 < n) (h01:e1 ≠ e0) (h02:e2 ≠ e0):W = W0 ∧ PhD n e0 e1 e2 W0 W1 W2 W3 W4 (F.updB done e0) W1:=by
  have dn:=h.not hn hd
  have d1:done e1 = false:=by
    cases e:done e1 with
    | false=>rfl
    | true=>rw [h.k1 e] at hd; cases hd
  have d2:done e2 = false:=by
    cases e:done e2 with
    | false=>rfl
    | true=>rw [h.k2 e] at d1; cases d1
  have f0:F.updB done e0 e0 = true:=if_pos rfl
  have f1:F.updB done e0 e1 = false:=by rw [← d1]; exact if_neg h01
  have f2:F.updB done e0 e2 = false:=by rw [← d2]; exact if_neg h02
  have fn:F.updB done e0 n = false:=by rw [← dn]; exact if_neg (by omega)
  exact ⟨h.a hd,fun e=>by (rw [f0] at e; cases e),fun _ _=>rfl,fun e=>by (rw [f1] at e; cases e),fun e=>by (rw [f2] at e; cases e),fun e=>by (rw [fn] at e; cases e),fun e=>by (rw [f1] at e; cases e),fun e=>by (rw [f2] at e; cases e),fun e=>by (rw [fn] at e; cases e)⟩
theorem PhD.second (h:PhD n e0 e1 e2 W0 W1 W2 W3 W4 done W) (d0:done e0 = true) (hd:done e1 = false) (hn:e1 < n) (h01:e0 ≠ e1) (h12:e2 ≠ e1):W = W1 ∧ PhD n e0 e1 e2 W0 W1 W2 W3 W4 (F.updB done e1) W2:=by
  have dn:=h.not hn hd
  have d2:done e2 = false:=by
    cases e:done e2 with
    | false=>rfl
    | true=>rw [h.k2 e] at hd; cases hd
  have f0:F.updB done e1 e0 = true:=by rw [← d0]; exact if_neg h01
  have f1:F.updB done e1 e1 = true:=if_pos rfl
  have f2:F.updB done e1 e2 = false:=by rw [← d2]; exact if_neg h12
  have fn:F.updB done e1 n = false:=by rw [← dn]; exact if_neg (by omega)
  exact ⟨h.b d0 hd,fun e=>by (rw [f0] at e; cases e),fun _ e=>by (rw [f1] at e; cases e),fun _ _=>rfl,fun e=>by (rw [f2] at e; cases e),fun e=>by (rw [fn] at e; cases e),fun _=>f0,fun e=>by (rw [f2] at e; cases e),fun e=>by (rw [fn] at e; cases e)⟩
theorem PhD.third (h:PhD n e0 e1 e2 W0 W1 W2 W3 W4 done W) (d1:done e1 = true) (hd:done e2 = false) (hn:e2 < n) (h02:e0 ≠ e2) (h12:e1 ≠ e2):W = W2 ∧ PhD n e0 e1 e2 W0 W1 W2 W3 W4 (F.updB done e2) W3:=by
  have dn:=h.not hn hd
  have f0:F.updB done e2 e0 = true:=by rw [← h.k1 d1]; exact if_neg h02
  have f1:F.updB done e2 e1 = true:=by rw [← d1]; exact if_neg h12
  have f2:F.updB done e2 e2 = true:=if_pos rfl
  have fn:F.updB done e2 n = false:=by rw [← dn]; exact if_neg (by omega)
  exact ⟨h.c d1 hd,fun e=>by (rw [f0] at e; cases e),fun _ e=>by (rw [f1] at e; cases e),fun _ e=>by (rw [f2] at e; cases e),fun _ _=>rfl,fun e=>by (rw [fn] at e; cases e),fun _=>f0,fun _=>f1,fun e=>by (rw [fn] at e; cases e)⟩
theorem PhD.last (h:PhD n e0 e1 e2 W0 W1 W2 W3 W4 done W) (d2:done e2 = true) (hd:done n = false) (hal:∀ j,j < n → done j = true) (hn:e2 < n) (hn1:e1 < n) (hn0:e0 < n):W = W3 ∧ PhD n e0 e1 e2 W0 W1 W2 W3 W4 (F.updB done n) W4:=by
  have f0:F.updB done n e0 = true:=by rw [← hal e0 hn0]; exact if_neg (by omega)
  have f1:F.updB done n e1 = true:=by rw [← hal e1 hn1]; exact if_neg (by omega)
  have f2:F.updB done n e2 = true:=by rw [← d2]; exact if_neg (by omega)
  have fn:F.updB done n n = true:=if_pos rfl
  exact ⟨h.d d2 hd,fun e=>by (rw [f0] at e; cases e),fun _ e=>by (rw [f1] at e; cases e),fun _ e=>by (rw [f2] at e; cases e),fun _ e=>by (rw [fn] at e; cases e),fun _=>rfl,fun _=>f0,fun _=>f1,fun _ j hj=>by rw [← hal j hj]; exact if_neg (by omega)⟩
end
set_option maxRecDepth 100000 in
theorem oapp {o:Oper} {a:Act} {W:World} {K:Act → World → Prop} {Q:Exit → Act → World → Prop} (s x:Operand) (t:TypeId) (ho:o.op = .call { callee:=.builtin .append,args:=#[s,x],argTypes:=#[t,t] }) {v vx v':Value} {W':World} (hs:a.eval s = v) (hx:a.eval x = vx) (hr:(Builtin.append_ #[t,t] o.type #[v,vx]).run Tryz.prog W = .ok v' W')
    (k:K (a.put o.dst v') W'):Oper.wp Tryz.prog o a W K Q:=by
  unfold Oper.wp execOp
  simp only [ho,resolve,invoke,builtin,Sem.run_bind,Sem.run_pure,Result.andThen_ok,List.map_toArray,List.map_cons,List.map_nil,hs,hx,hr]
  exact k
set_option maxRecDepth 100000 in
theorem oslice {o:Oper} {a:Act} {W:World} {K:Act → World → Prop} {Q:Exit → Act → World → Prop} (t:TypeId) (x:Operand) (l h m:Option Operand) (ho:o.op = .slice t x l h m) {vx v':Value} {vl vh vm:Option Value} {W':World} (hx:a.eval x = vx) (hl:l.map a.eval = vl) (hh:h.map a.eval = vh) (hm:m.map a.eval = vm) (hr:(Instr.sliceAt t vx vl vh vm).run Tryz.prog W = .ok v' W')
    (k:K (a.put o.dst v') W'):Oper.wp Tryz.prog o a W K Q:=by
  unfold Oper.wp execOp
  simp only [ho,hx,hl,hh,hm,Sem.run_bind,Sem.run_pure,hr,Result.andThen_ok]
  exact k
theorem seg_upto (ao:Option Addr) (n cp m:Nat) (h:m ≤ cp) (W:World):(Instr.slice 65 (.slice ao n cp) none (some (.int .i64 (m:Nat))) none).run Tryz.prog W = .ok (.slice ao m cp) W:=by
  rw [run_slice_h W 65 ao n cp (by kernel_rfl) .i64 (m:Int) (by omega) (by omega)]
  obtain ⟨i,hi,hz,hs,hb⟩:=info_parts info118
  have he:Tryz.prog.elem 65 = 118:=by kernel_rfl
  rw [he]
  simp [sizeOf,typeInfo,hi,hs,sliced,Result.andThen]
  intro _
  cases ao <;> simp [Addr.add]
theorem seg_from (g n cp m:Nat) (h:m < n) (hn:n ≤ cp) (W:World):(Instr.slice 65 (.slice (some ⟨g,0,none⟩) n cp) (some (.int .i64 (m:Nat))) none none).run Tryz.prog W = .ok (.slice (some ⟨g,m * 2,none⟩) (n - m) (cp - m)) W:=by
  rw [run_slice_l W 65 (some ⟨g,0,none⟩) n cp (by kernel_rfl) .i64 (m:Int) (by omega) (by omega)]
  obtain ⟨i,hi,hz,hs,hb⟩:=info_parts info118
  have he:Tryz.prog.elem 65 = 118:=by kernel_rfl
  rw [he]
  simp [sizeOf,typeInfo,hi,hs,sliced,Result.andThen,Addr.add]
  rw [if_neg (by omega)]
  by_cases e:m * 2 = 0
  · rw [if_pos e,e]
  · rw [if_neg e]
theorem u65:Tryz.prog.underlying 65 = some (.slice (Tryz.prog.elem 65)):=by kernel_rfl
theorem seg_uptoA (ao:Option Addr) (n cp m:Nat) (h:m ≤ cp) (W:World):(Instr.sliceAt 65 (.slice ao n cp) none (some (.int .i64 (m:Nat))) none).run Tryz.prog W = .ok (.slice ao m cp) W:=by
  rw [run_sliceAt_slice W 65 _ _ _ _ u65]
  exact seg_upto ao n cp m h W
theorem seg_fromA (g n cp m:Nat) (h:m < n) (hn:n ≤ cp) (W:World):(Instr.sliceAt 65 (.slice (some ⟨g,0,none⟩) n cp) (some (.int .i64 (m:Nat))) none none).run Tryz.prog W = .ok (.slice (some ⟨g,m * 2,none⟩) (n - m) (cp - m)) W:=by
  rw [run_sliceAt_slice W 65 _ _ _ _ u65]
  exact seg_from g n cp m h hn W
section
variable {v:Value} {X:List (Nat × List ByteArray)} {ol:List (Nat × Obj)} {W:World}
set_option maxHeartbeats 4000000 in
set_option maxRecDepth 100000 in
theorem rreclaim76_no (h:Rl v X ol) (ho:∀ p ∈ ol,W.heap[p.1]? = some p.2) (ns p:Nat) (i:Int) (hX:X.length ≤ 100) (m:Nat) (hm:m ≤ X.length) (hlt:∀ j (hj:j < m),(X[j].1:Int) ≠ i) (hat:∀ hj:m < X.length,(X[m].1:Int) = i) (hno:m = X.length ∨ m + 1 = X.length) :
    Calls Tryz.prog 76 #[.agg #[.int .i64 (ns:Nat),.int .i64 (p:Nat),v],.int .i64 i] W fun e w'=>e = .returned (.tuple #[.agg #[.int .i64 (ns:Nat),.int .i64 (p:Nat),v],.bool false]) ∧ Below W.heap.size W w':=by
  obtain ⟨Wa,hWa⟩:∃ Wa,Wa = ((W.alloc (.cells #[.int .i64 (ns:Nat),.int .i64 (p:Nat),v] 67)).alloc (.cells #[.int .i64 0,.int .i64 0,.slice none 0 0] 67)):=⟨_,rfl⟩
  have ha1:Below W.heap.size W Wa:=by rw [hWa]; exact ((Below.refl _ _).alloc (Nat.le_refl _) _).alloc (by simp) _
  have ha2:Wa.heap[W.heap.size]? = some (.cells #[.int .i64 (ns:Nat),.int .i64 (p:Nat),v] 67):=by
    have h1:=F.heap_new W (.cells #[.int .i64 (ns:Nat),.int .i64 (p:Nat),v] 67)
    rw [hWa]
    exact (((Below.refl _ (W.alloc (.cells #[.int .i64 (ns:Nat),.int .i64 (p:Nat),v] 67))).alloc (Nat.le_refl _) _).block _ (F.getElem?_lt h1)).trans h1
  have ha3:Wa.heap[W.heap.size + 1]? = some (.cells #[.int .i64 0,.int .i64 0,.slice none 0 0] 67):=by
    have h1:=F.heap_new (W.alloc (.cells #[.int .i64 (ns:Nat),.int .i64 (p:Nat),v] 67)) (.cells #[.int .i64 0,.int .i64 0,.slice none 0 0] 67)
    have e:(W.alloc (.cells #[.int .i64 (ns:Nat),.int .i64 (p:Nat),v] 67)).heap.size = W.heap.size + 1:=by simp
    rw [e] at h1; rw [hWa]; exact h1
  have ha4:Wa.heap.size = W.heap.size + 2:=by rw [hWa]; simp
  have hpl:=place119 (W:=Wa) h (fun r hr=>(ha1.block _ (F.getElem?_lt (ho r hr))).trans (ho r hr)) (by omega) ns p i m hm hlt hat
  obtain ⟨ao,cp,g',zs,hv,hao,hle,hmax,hzs,hcell⟩:=h.src
  obtain ⟨n,hn⟩:∃ n,n = X.length:=⟨_,rfl⟩
  rw [← hn] at hpl hno hv hm hX
  subst hv
  have qa0:Wa.cell? ⟨W.heap.size,0,none⟩ = some (.int .i64 (ns:Nat)):=F.cell_of ha2 0
  have qa1:Wa.cell? ⟨W.heap.size,1,none⟩ = some (.int .i64 (p:Nat)):=F.cell_of ha2 1
  have qa2:Wa.cell? ⟨W.heap.size,2,none⟩ = some (.slice ao n cp):=F.cell_of ha2 2
  have HA:Hid (Below W.heap.size W Wa ∧ Wa.heap[W.heap.size]? = some (.cells #[.int .i64 (ns:Nat),.int .i64 (p:Nat),.slice ao n cp] 67) ∧ Wa.heap[W.heap.size + 1]? = some (.cells #[.int .i64 0,.int .i64 0,.slice none 0 0] 67) ∧ Wa.heap.size = W.heap.size + 2):=⟨ha1,ha2,ha3,ha4⟩
  have hWa':=hWa.symm
  clear h ho hao hle hmax hzs hcell hWa ha1 ha2 ha3 ha4 hlt hat hn
  obtain ⟨r0,hr0,hr1⟩:∃ r0:Int,(if m < n then (m:Int) else -1) = r0 ∧ ((r0 < 0) ∨ (0 ≤ r0 ∧ r0 = (n:Int) - 1)):=by
    refine ⟨_,rfl,?_⟩
    split
    · exact Or.inr ⟨by omega,by omega⟩
    · exact Or.inl (by omega)
  rw [hr0] at hpl
  have HX:Hid (n ≤ 100):=hX
  clear hr0 hno hm hX
  go_enter Tryz.func76,Tryz.ntmps76
  go_wp2_with fail
  go_call hpl as e1 w1 ⟨rfl,hb1⟩
  have hsz:=HA.out.2.2.2
  have hbx:w1.heap[W.heap.size]? = some (.cells #[.int .i64 (ns:Nat),.int .i64 (p:Nat),.slice ao n cp] 67):=(hb1.block _ (by omega)).trans HA.out.2.1
  have hrs:w1.heap[W.heap.size + 1]? = some (.cells #[.int .i64 0,.int .i64 0,.slice none 0 0] 67):=(hb1.block _ (by omega)).trans HA.out.2.2.1
  have qc0:w1.cell? ⟨W.heap.size,0,none⟩ = some (.int .i64 (ns:Nat)):=F.cell_of hbx 0
  have qc1:w1.cell? ⟨W.heap.size,1,none⟩ = some (.int .i64 (p:Nat)):=F.cell_of hbx 1
  have qc2:w1.cell? ⟨W.heap.size,2,none⟩ = some (.slice ao n cp):=F.cell_of hbx 2
  have qr0:w1.cell? ⟨W.heap.size + 1,0,none⟩ = some (.int .i64 0):=F.cell_of hrs 0
  have qr1:w1.cell? ⟨W.heap.size + 1,1,none⟩ = some (.int .i64 0):=F.cell_of hrs 1
  have qr2:w1.cell? ⟨W.heap.size + 1,2,none⟩ = some (.slice none 0 0):=F.cell_of hrs 2
  have zr0:w1.frozen? ⟨W.heap.size + 1,0,none⟩ = false:=F.frz_of hrs 0
  have zr1:w1.frozen? ⟨W.heap.size + 1,1,none⟩ = false:=F.frz_of hrs 1
  have zr2:w1.frozen? ⟨W.heap.size + 1,2,none⟩ = false:=F.frz_of hrs 2
  have QR2:Hid (w1.heap[W.heap.size + 1]? = some (.cells #[.int .i64 0,.int .i64 0,.slice none 0 0] 67)):=hrs
  have HB1:Hid (Below W.heap.size W w1):=HA.out.1.trans (hb1.mono (by omega))
  clear hbx hrs hb1 hpl hsz qa0 qa1 qa2 hWa' HA
  obtain ⟨t3,hoff,hbel⟩:=res3 QR2.out (.int .i64 (ns:Nat)) (.int .i64 (p:Nat)) (.slice ao n cp)
  have HF:Hid (_ ∧ _):=⟨t3,hbel⟩
  clear t3 hoff hbel
  have hnI:((n:Int) - 1) ≤ 100:=by have:=HX.out; omega
  rcases hr1 with hr1 | ⟨hr1,hr2⟩
  · go_wp2_with fail
    refine bodyPost_ret (lret2 Tryz.results76 _ _ (W.heap.size + 1) _ (.bool false) rfl rfl HF.out.1 rfl) rfl ⟨rfl,HF.out.2 W _ (by omega) HB1.out⟩
  · subst hr2
    have hr3:¬ ((n:Int) - 1) < 0:=by omega
    have hr4:(((n:Int) - 1) == ((n:Int) - 1)) = true:=by simp
    go_wp2_with fail
    refine bodyPost_ret (lret2 Tryz.results76 _ _ (W.heap.size + 1) _ (.bool false) rfl rfl HF.out.1 rfl) rfl ⟨rfl,HF.out.2 W _ (by omega) HB1.out⟩
end
end Go.Proofs.YtncfbocbigdhiaaGreat.U
