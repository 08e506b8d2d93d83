/- Texts of this seat, one behind the other. -/
import Derived.Test.YtncfbocbigdhiaaGreatQNB
/- A log in the document's words, more: blocks of the call's own are held; Room, Reclaim refused, Read of the last group, a crash. -/
namespace Go.Proofs.YtncfbocbigdhiaaGreat.U
open Go Go.RowKit Go.Sort
theorem One.adopt {b0:Nat} {w0 w w':World} {L:F.Loc} {st:F.St} {lv:Value} {oth ol':List (Nat × Obj)} (h:F.One b0 w0 L st lv oth w) (hb:Below w.heap.size w w') (ho:∀ p ∈ ol',w'.heap[p.1]? = some p.2 ∧ w.heap.size ≤ p.1) (ha:∀ p ∈ ol',F.Obj.apart p.2):F.One b0 w0 L st lv (ol' ++ oth) w':=by
  have h2:=h.ofBelow hb
  refine { h2 with oth:=?_ }
  intro p hp
  rcases List.mem_append.1 hp with hp | hp
  · obtain ⟨a1,a2⟩:=ho p hp
    have k1:=F.getElem?_lt h.pool
    have k2:=F.getElem?_lt h.rowb
    have k3:=F.getElem?_lt h.dev
    have k4:=F.getElem?_lt h.sec
    have k5:=h.bP
    exact ⟨a1,⟨by omega,by omega,by omega,by omega⟩,ha p hp,by omega⟩
  · exact h2.oth p hp
section
variable {T:Nat} {w:World} {L:F.Loc} {q:Int} {n Lb:Nat} {l:Lg} {v:Value} {ol rest:List (Nat × Obj)} {now su:Nat → ByteArray} {c:Int} {W W':World}
theorem LgI.adopt {ol':List (Nat × Obj)} (h:LgI T w L q n Lb l v ol rest now su c W) (hb:Below W.heap.size W W') (ho:∀ p ∈ ol',W'.heap[p.1]? = some p.2 ∧ W.heap.size ≤ p.1) (ha:∀ p ∈ ol',F.Obj.apart p.2) (h5:∀ p ∈ ol',∀ c fz,p.2 ≠ .cells c 5 fz):LgI T w L q n Lb l v ol (ol' ++ rest) now su c W':=by
  have hd:Dev T w L q n (ol' ++ ((Lb,.cells (l.cs v) 128) :: (l.G,.cells l.row 28) :: (ol ++ (l.objs ++ rest)))) now su c W':=by
    obtain ⟨st,lv,ats,h1,h2⟩:=h.dv.ex
    exact ⟨st,lv,ats,One.adopt h1 hb ho ha,h2⟩
  refine ⟨h.ok,h.pl,hd.forget ?_,List.mem_append_right _ h.md,h.pn,h.nd,h.inj,fun p hp r hr=>?_,fun p hp=>?_⟩
  · intro p hp
    simp only [List.mem_cons,List.mem_append] at hp ⊢
    rcases hp with hp | hp | hp | hp | hp | hp <;> simp [hp]
  · rcases List.mem_append.1 hr with hr | hr
    · have:=h.dv.lts p (by
        simp only [List.mem_cons,List.mem_append] at hp ⊢
        rcases hp with hp | hp | hp | hp <;> simp [hp])
      have:=(ho r hr).2
      omega
    · exact h.ap p hp r hr
  · rcases List.mem_append.1 hp with hp | hp
    · exact h5 p hp
    · exact h.h5 p hp
end
def roomB (X:List (Nat × List ByteArray)) (p k:Nat):Bool:=
  match X.getLast? with
  | none=>false
  | some s=>decide (0 < k ∧ used s.2 + k < p)
theorem roomB_snoc (Y:List (Nat × List ByteArray)) (s:Nat × List ByteArray) (p k:Nat):roomB (Y ++ [s]) p k = decide (0 < k ∧ used s.2 + k < p):=by
  unfold roomB
  rw [List.getLast?_concat]
theorem snoc_cases (X:List (Nat × List ByteArray)):X = [] ∨ ∃ Y i ts,X = Y ++ [(i,ts)]:=by
  rcases List.eq_nil_or_concat X with h | ⟨Y,s,h⟩
  · exact Or.inl h
  · exact Or.inr ⟨Y,s.1,s.2,by rw [h,List.concat_eq_append]⟩
theorem rroom {v:Value} {X:List (Nat × List ByteArray)} {ol:List (Nat × Obj)} {W:World} (h:Rl v X ol) (ho:∀ p ∈ ol,W.heap[p.1]? = some p.2) (ns p k:Nat) (hX:X.length ≤ 100) (hk2:k ≤ 1000) (hu:∀ s ∈ X,used s.2 ≤ 1000) :
    Calls Tryz.prog 78 #[.agg #[.int .i64 (ns:Nat),.int .i64 (p:Nat),v],.int .i64 (k:Nat)] W fun e w'=>e = .returned (.bool (roomB X p k)) ∧ Below W.heap.size W w':=by
  rcases snoc_cases X with rfl | ⟨Y,i,ts,rfl⟩
  · exact rroom78_no h ns p k (Or.inl rfl)
  · rw [roomB_snoc]
    rcases Nat.eq_zero_or_pos k with rfl | hk
    · have e:decide (0 < 0 ∧ used ts + 0 < p) = false:=by simp
      rw [e]
      exact rroom78_no h ns p 0 (Or.inr rfl)
    · have e:decide (0 < k ∧ used ts + k < p) = decide (used ts + k < p):=by
        by_cases c:used ts + k < p
        · rw [decide_eq_true c,decide_eq_true ⟨hk,c⟩]
        · rw [decide_eq_false c,decide_eq_false (fun x=>c x.2)]
      show Calls _ _ _ _ fun e w'=>e = .returned (.bool (decide (0 < k ∧ used ts + k < p))) ∧ _
      rw [e]
      rw [List.length_append] at hX
      exact rroom78 h ho ns p k (by simp at hX; omega) hk hk2 (hu (i,ts) (by simp))
section
variable {T:Nat} {w:World} {L:F.Loc} {q:Int} {N p ns M Lb:Nat} {base base':List (Nat × Obj)} {b:Nat} {X:List (Nat × List ByteArray)} {c c':Int} {W W':World}
theorem LgX.adopt {ol':List (Nat × Obj)} (h:LgX T w L q N p ns M Lb base b X c W) (hb:Below W.heap.size W W') (ho:∀ p ∈ ol',W'.heap[p.1]? = some p.2 ∧ W.heap.size ≤ p.1) (ha:∀ p ∈ ol',F.Obj.apart p.2) (h5:∀ p ∈ ol',∀ c fz,p.2 ≠ .cells c 5 fz):LgX T w L q N p ns M Lb (ol' ++ base) b X c W':=h.lift (fun _ _ _ _ _ h=>h.adopt hb ho ha h5)
theorem LgX.adoptN {ol':List (Nat × Obj)} (h:LgX T w L q N p ns M Lb base b X c W) (hb:Below W.heap.size W W') (hn:Nw W W' ol'):LgX T w L q N p ns M Lb (ol' ++ base) b X c W':=by
  refine h.adopt hb (fun r hr=>⟨(hn r hr).1,(hn r hr).2.1⟩) (fun r hr=>?_) (fun r hr=>?_)
  · rcases (hn r hr).2.2 with ⟨c,e⟩ | ⟨c,e⟩ <;> rw [e] <;> exact F.apart_of (by decide)
  · rcases (hn r hr).2.2 with ⟨c,e⟩ | ⟨c,e⟩ <;> rw [e] <;> exact fun _ _=>cells_ne2 (by decide)
theorem LgX.room (h:LgX T w L q N p ns M Lb base b X c W) (hp:p ≤ 64) (k:Nat):Calls Tryz.prog 69 #[.pointer (some ⟨Lb,0,none⟩),.int .i64 (k:Nat)] W fun e w'=>e = .returned (.bool (roomB X p k)) ∧ LgX T w L q N p ns M Lb base b X c w':=by
  have h0:=h
  obtain ⟨nw,g,gs,e,l,v,ol,h1,h2,h3,h4,h5⟩:=h
  rcases snoc_cases X with rfl | ⟨Y,i,ts,rfl⟩
  · have hlv:l.lv = []:=by rw [h2.elv]; rfl
    obtain ⟨ao,cp,g',e1,e2,e3⟩:=h5.lz.v
    rw [hlv] at e1
    have hb:=h5.lz.b
    rw [e1] at hb
    exact (room_none hb (k:Int)).mono (fun er w' hh=>⟨hh.1,h0.below hh.2⟩)
  · have hlv:l.lv = Y.map Prod.fst ++ [i]:=by rw [h2.elv,List.map_append]; rfl
    have hmi:i ∈ (Y ++ [(i,ts)]).map Prod.fst:=by simp
    have e2:=(h4 (i,ts) (by simp)).2
    have hla:=h2.ea i hmi
    refine (room_some h5 (by rw [hlv]; simp) i (by simp only [hlv]; simp) (k:Int) (roomB (Y ++ [(i,ts)]) p k) ?_).mono (fun er w' hh=>⟨hh.1,h0.below hh.2⟩)
    rw [roomB_snoc,h2.ep,hla,e2]
    show decide (0 < (k:Int) ∧ (k:Int) < (p:Nat) - (used ts:Nat)) = decide (0 < k ∧ used ts + k < p)
    by_cases c:0 < k ∧ used ts + k < p
    · rw [decide_eq_true c,decide_eq_true (by omega)]
    · rw [decide_eq_false c,decide_eq_false (by omega)]
theorem Chn.inv {now:Nat → ByteArray} {s:Sg} {G:List (Nat × ByteArray)} {e:Nat} (h:Chn now s G e):∀ l t x,G = l ++ [(t,x)] → ∃ k,Chn now s l t ∧ Grp now s t k x ∧ e = t + 1 + k:=by
  cases h with
  | nil=>intro l t x h; cases l <;> cases h
  | next h1 h2=>
    intro l t x h
    obtain ⟨e1,e2⟩:=List.append_inj' h rfl
    injection e2 with e2 _
    injection e2 with e2 e3
    subst e1
    subst e2
    subst e3
    exact ⟨_,h1,h2,rfl⟩
theorem LgX.read {Y:List (Nat × List ByteArray)} {i:Nat} {ts:List ByteArray} {x:ByteArray} {k:Nat} (h:LgX T w L q N p ns M Lb base b (Y ++ [(i,ts ++ [x])]) c W) (hN:1 + ns * p ≤ N) (hN1:N ≤ 1000) (hx:x.size = 63 * k) (hk:k ≤ 100) (hc:c ≤ 9000000) :
    Calls Tryz.prog 73 #[.pointer (some ⟨Lb,0,none⟩),.agg #[.int .i64 (i:Nat),.int .i64 (used ts:Nat),.int .i64 (k:Nat)]] W fun r W'=>r = .returned (.string x) ∧ LgX T w L q N p ns M Lb base b (Y ++ [(i,ts ++ [x])]) (c + 100) W':=by
  have h0:=h
  obtain ⟨nw,g,gs,e,l,v,ol,h1,h2,h3,h4,h5⟩:=h
  have hmi:i ∈ (Y ++ [(i,ts ++ [x])]).map Prod.fst:=by simp
  have hin:=h1.lt i hmi
  have hseg:=seg_lt (p:=p) hin
  obtain ⟨e1,e2⟩:=h4 (i,ts ++ [x]) (by simp)
  have e1:(gs i).map Prod.snd = ts ++ [x]:=e1
  have e2:e i = used (ts ++ [x]):=e2
  obtain ⟨l1,t,hg1,hg2⟩:∃ l1 t,gs i = l1 ++ [(t,x)] ∧ l1.map Prod.snd = ts:=by
    rcases List.eq_nil_or_concat (gs i) with hh | ⟨l1,s,hh⟩
    · rw [hh] at e1; cases ts <;> cases e1
    · rw [hh,List.concat_eq_append,List.map_append] at e1
      obtain ⟨a1,a2⟩:=List.append_inj' e1 rfl
      injection a2 with a2 _
      have a2:s.2 = x:=a2
      exact ⟨l1,s.1,by rw [hh,List.concat_eq_append,← a2],a1⟩
  obtain ⟨k2,_,hgr,he⟩:=Chn.inv (h1.ch i hmi) l1 t x hg1
  have hkk:k2 = k:=by have:=hgr.sz; omega
  subst hkk
  rw [used_snoc,hx] at e2
  have ht:t = used ts:=by
    have:63 * k2 / 63 = k2:=by omega
    omega
  subst ht
  have hla:=h2.ea i hmi
  have hlv:i ∈ l.lv:=by rw [h2.elv]; exact hmi
  have hu1:1 ≤ used ts:=by unfold used; omega
  have hgr2:Grp nw (l.sg i) (used ts) k2 x:=by
    rw [h2.sg i hmi]
    exact ⟨hgr.sz,hgr.k1,hgr.fit,hgr.com,hgr.pay⟩
  refine (read_any h5 i hlv (by rw [h2.ep]; omega) hN1 hc hu1 hgr2 (by rw [hla,he]; omega)).mono ?_
  rintro r W' ⟨rfl,h6⟩
  exact ⟨rfl,nw,g,gs,e,l,v,ol,h1,h2,h3,h4,h6.more (by omega)⟩
theorem Im.congr {now now':Nat → ByteArray} {n p ns:Nat} {g:Nat → Hd} {xs:List Nat} {gs:Nat → List (Nat × ByteArray)} {e:Nat → Nat} (h:Im now n p ns g xs gs e) (hfit:1 + ns * p ≤ n) (hp:1 ≤ p) (he:∀ i,i < n → now' i = now i):Im now' n p ns g xs gs e:=by
  have hat:∀ i,i < ns → ∀ t,t < p → now' (1 + i * p + t) = now (1 + i * p + t):=fun i hi t ht=>he _ (by have:=seg_lt (p:=p) hi; omega)
  have h0:∀ i,i < ns → now' (1 + i * p) = now (1 + i * p):=fun i hi=>hat i hi 0 (by omega)
  refine ⟨fun i hi=>by rw [h0 i hi]; exact h.hd i hi,fun i hi=>by rw [he i hi]; exact h.ks i hi,fun i hi t h1 h2=>by rw [hat i hi t h2]; exact h.old i hi t h1 h2,fun i hi=>?_,h.ep,h.mem,h.asc⟩
  exact Chn.ofL (h.ch i hi) (fun u h1 h2=>hat i (h.lt i hi) u (by have:=h.ep i hi; omega))
theorem LgX.crash (h:LgX T w L q N p ns M Lb base b X c W) (hs:∀ r ∈ base',r ∈ base) (hfit:1 + ns * p ≤ N) (hp:1 ≤ p) (hN1:N ≤ 1000) (hq:0 ≤ q ∧ q ≤ 1000) :
    Calls Tryz.prog 25 #[.pointer (some ⟨L.P,0,none⟩),.slice none 0 0] W fun e w'=>e = .returned (.tuple #[]) ∧ DvX T w L (q + 1) N p ns base' b X c w':=by
  obtain ⟨nw,g,gs,e,l,v,ol,h1,h2,h3,h4,h5⟩:=h
  obtain ⟨st,lv,ats,o1,q1,q2,q3,q4,q5,hd1,q6,q7,_⟩:=(h5.dv.forget (oth':=base') (fun r hr=>by simp [hs r hr])).ex
  refine (o1.crash_dv hd1 q4 (by omega) ⟨by omega,by omega⟩ 0 0 0 (.slice none 0 0) (fun _=>0) ⟨none,0,rfl,Nat.le_refl _,by omega,fun h=>absurd h (Nat.lt_irrefl _)⟩ (fun _ _ j hj=>absurd hj (Nat.not_lt_zero _))).mono ?_
  rintro er w' ⟨rfl,st2,now',o2,hd2,he,p1,p2,p3,p4,p5,p6,p7,p8,p9⟩
  rw [q1] at he
  refine ⟨rfl,now',now',g,gs,e,h1.congr hfit hp (fun i hi=>by rcases he i hi with x | x <;> exact x),fun i hi=>Nat.le_trans (h2.em i hi) h3,h4,st2,_,ats,o2,by rw [p4]; exact q1,by rw [p1]; exact q2,by rw [p2,q3],p3,⟨p7,p5,p6⟩,hd2,by rw [p8]; exact q6,by rw [p8]; exact q7,fun _=>p9⟩
end
section
variable {T:Nat} {w:World} {L:F.Loc} {q:Int} {n Lb:Nat} {l:Lg} {v:Value} {ol rest:List (Nat × Obj)} {now su:Nat → ByteArray} {c:Int} {W W':World}
set_option maxRecDepth 100000 in
theorem index88_no (ao:Option Addr) (g cp:Nat) (i:Int) (xs:List Nat) (hx:xs.length ≤ 1000) (hao:0 < xs.length → ao = some ⟨g,0,none⟩) (hc:∀ k (hk:k < xs.length),W.cell? ⟨g,k,none⟩ = some (nv xs[k])) (hlt:∀ k (hk:k < xs.length),(xs[k]:Int) ≠ i) :
    Calls Tryz.prog 88 #[.slice ao xs.length cp,.int .i64 i] W fun e w'=>e = .returned (.int .i64 (-1)) ∧ w' = W:=by
  have HC:Hid _:=hc
  have HL:Hid _:=hlt
  have HA:Hid _:=hao
  clear hc hlt hao
  obtain ⟨m,hm⟩:∃ m,m = xs.length:=⟨_,rfl⟩
  have HM:Hid _:=hm
  rw [← hm] at hx ⊢
  clear hm
  go_enter Tryz.func88,Tryz.ntmps88
  go_wp2
  go_loopw [8] (fun iv wr=>∃ k:Nat,iv = .int .i64 (k:Nat) ∧ k ≤ m ∧ wr = W) (fun iv _=>m - (intOf iv).toNat)
  case atStart=>exact ⟨0,rfl,Nat.zero_le _,rfl⟩
  case round=>
    obtain ⟨k,rfl,hkj,rfl⟩:=hrel
    rcases Nat.lt_or_ge k m with hkm | hkm
    · have hq:=HC.out k (by rw [← HM.out]; exact hkm)
      have hne:=HL.out k (by rw [← HM.out]; exact hkm)
      have hao:=HA.out (by rw [← HM.out]; omega)
      subst hao
      obtain ⟨x,hx2⟩:∃ x,x = xs[k]'(by rw [← HM.out]; exact hkm):=⟨_,rfl⟩
      rw [← hx2] at hq hne
      unfold nv at hq
      have hne2:¬ i = (x:Int):=fun e=>hne e.symm
      have hneb:(i == (x:Int)) = false:=by simp; exact hne2
      have hkI:(k:Int) < (m:Int):=by omega
      clear hx2
      go_wp2
      go_roundw
      case rel=>exact ⟨k + 1,by congr 1,by omega,trivial⟩
      case measure=>
        show m - ((k:Int) + 1).toNat < m - ((k:Nat):Int).toNat
        omega
    · have hkI:¬ (k:Int) < (m:Int):=by omega
      go_wp2
      go_returns
      exact ⟨rfl,rfl⟩
end
section
variable {T:Nat} {w:World} {L:F.Loc} {q:Int} {N p ns M Lb:Nat} {base base':List (Nat × Obj)} {b:Nat} {X:List (Nat × List ByteArray)} {c c':Int} {W W':World}
set_option maxRecDepth 100000 in
theorem LgX.reclaim_no (h:LgX T w L q N p ns M Lb base b X c W) (hns:ns ≤ 100) (i:Int) (hno:(∀ s ∈ X,(s.1:Int) ≠ i) ∨ ∃ Y s,X = Y ++ [s] ∧ (s.1:Int) = i) :
    Calls Tryz.prog 47 #[.pointer (some ⟨Lb,0,none⟩),.int .i64 i] W fun e w'=>e = .returned (.bool false) ∧ LgX T w L q N p ns M Lb base b X c w':=by
  have h0:=h
  have hln:=h.len
  obtain ⟨nw,g,gs,e,l,v,ol,h1,h2,h3,h4,h5⟩:=h
  obtain ⟨ao,cp,g',e1,e2,e3⟩:=h5.lz.v
  have q5:W.cell? ⟨Lb,5,none⟩ = some (.slice ao l.lv.length cp):=by rw [← e1]; exact F.cell_of h5.lz.b 5
  have hlen:l.lv.length = X.length:=by rw [h2.elv,List.length_map]
  have H0:Hid (LgX T w L q N p ns M Lb base b X c W):=h0
  rcases hno with hno | ⟨Y,s,rfl,rfl⟩
  · have hix:=index88_no (W:=W) ao g' cp i l.lv (by omega) e2 e3 (fun k hk=>by
      have hm:l.lv[k] ∈ X.map Prod.fst:=by rw [← h2.elv]; exact List.getElem_mem _
      obtain ⟨s,hs,hs2⟩:=List.mem_map.1 hm
      rw [← hs2]; exact hno s hs)
    clear h0 h1 h2 h3 h4 h5 e1 e2 e3 hno hlen
    generalize l.lv.length = m at *
    go_enter Tryz.func47,Tryz.ntmps47
    go_wp2_with fail
    go_call hix as e w1 ⟨rfl,rfl⟩
    clear hix
    go_wp2
    go_returns
    exact ⟨rfl,H0.out⟩
  · have hnd:=h1.nd
    have hlv:l.lv = Y.map Prod.fst ++ [s.1]:=by rw [h2.elv,List.map_append]; rfl
    have hl1:l.lv.length = Y.length + 1:=by rw [hlen,List.length_append]; rfl
    have hix:=index88 (W:=W) g' cp Y.length s.1 l.lv (by omega) e3 (by omega) (by simp only [hlv]; simp) (fun k hk hx=>by
      have:=nd_inj h5.nd (a:=k) (b:=Y.length) (by omega) (by omega) (hx.trans (by simp only [hlv]; simp))
      omega)
    have hcu:=current_any h5.lz (by omega) (by omega)
    have hce:l.lv[l.lv.length - 1]'(by omega) = s.1:=by simp only [hlv]; simp
    rw [hce] at hcu
    have hao:=e2 (by omega)
    subst hao
    clear h0 h1 h2 h3 h4 h5 e1 e2 e3 hlen hnd hlv hl1 hce
    generalize l.lv.length = m at *
    obtain ⟨j,hj⟩:∃ j,j = Y.length:=⟨_,rfl⟩
    rw [← hj] at hix
    obtain ⟨u,hu⟩:∃ u,u = s.1:=⟨_,rfl⟩
    rw [← hu] at hix hcu ⊢
    have hjI:¬ (j:Int) < 0:=by omega
    have hjb:decide ((j:Int) < 0) = false:=by simp
    have hub:((u:Int) == (u:Int)) = true:=by simp
    clear hj hu
    go_enter Tryz.func47,Tryz.ntmps47
    go_wp2_with fail
    go_call hix as e w1 ⟨rfl,rfl⟩
    clear hix
    go_wp2_with fail
    go_call hcu as e w2 ⟨rfl,hb2⟩
    clear hcu
    have HF:Hid (LgX T w L q N p ns M Lb base b (Y ++ [s]) c w2):=H0.out.below hb2
    clear hb2 H0
    go_wp2
    go_returns
    exact ⟨rfl,HF.out⟩
end
end Go.Proofs.YtncfbocbigdhiaaGreat.U

/- What does hands out: its closures, as calls, over whatever their calls do. -/
namespace Go.Proofs.YtncfbocbigdhiaaGreat.U
open Go Go.RowKit Go.Sort
structure PhU (k:Nat) (P Q:World → Prop) (done:Nat → Bool) (W:World):Prop where
  a:done k = false → P W
  b:done k = true → Q W
section
variable {k:Nat} {P Q:World → Prop} {done:Nat → Bool} {W W':World}
theorem PhU.step (h:PhU k P Q done W) {j:Nat} (hj:k ≠ j):PhU k P Q (F.updB done j) W:=by
  have e:F.updB done j k = done k:=if_neg hj
  exact ⟨by rw [e]; exact h.a,by rw [e]; exact h.b⟩
theorem PhU.call (h:Q W'):PhU k P Q (F.updB done k) W':=by
  have e:F.updB done k k = true:=if_pos rfl
  exact ⟨fun x=>by (rw [e] at x; cases x),fun _=>h⟩
theorem PhU.or (h:PhU k P Q done W):P W ∨ Q W:=by
  cases e:done k with
  | false=>exact Or.inl (h.a e)
  | true=>exact Or.inr (h.b e)
theorem PhU.keep (h:PhU k P Q done W) (hp:P W → P W') (hq:Q W → Q W') {j:Nat} (hj:k ≠ j):PhU k P Q (F.updB done j) W':=by
  have e:F.updB done j k = done k:=if_neg hj
  exact ⟨fun x=>hp (h.a (by rw [← e]; exact x)),fun x=>hq (h.b (by rw [← e]; exact x))⟩
end
def V75 (Lb:Nat) (ok:Bool):Nat → Value → Prop
  | 0,v=>v = .pointer (some ⟨Lb,0,none⟩)
  | 1,v=>v = .bool ok
  | 2,v=>v = .bool ok
  | 3,v=>v = .bool true
  | 4,v=>v = .bool true
  | _,_=>True
def V77 (Lb:Nat) (i:Int) (ok:Bool):Nat → Value → Prop
  | 0,v=>v = .pointer (some ⟨Lb,0,none⟩)
  | 1,v=>v = .int .i64 i
  | 2,v=>v = .bool ok
  | 3,v=>v = .bool ok
  | 4,v=>v = .bool true
  | 5,v=>v = .bool true
  | _,_=>True
section
variable {P Q:World → Prop} {Lb Bl Bo Bs:Nat} {ok:Bool} {i:Int}
set_option maxHeartbeats 4000000 in
set_option maxRecDepth 100000 in
theorem clos75 (hrd:∀ W,P W ∨ Q W → W.cell? ⟨Bl,0,none⟩ = some (.pointer (some ⟨Lb,0,none⟩)) ∧ W.cell? ⟨Bo,0,none⟩ = some (.bool ok)) (hd:∀ W,P W → P W.drew) (hcall:∀ W,P W → Calls Tryz.prog 43 #[.pointer (some ⟨Lb,0,none⟩)] W fun e w'=>e = .returned (.bool ok) ∧ Q w') (W0:World) (h0:P W0) :
    Calls Tryz.prog 75 #[.pointer (some ⟨Bl,0,none⟩),.pointer (some ⟨Bo,0,none⟩)] W0 fun e w'=>e = .returned (.bool true) ∧ Q w':=by
  have HRD:Hid (∀ W,P W ∨ Q W → W.cell? ⟨Bl,0,none⟩ = some (.pointer (some ⟨Lb,0,none⟩)) ∧ W.cell? ⟨Bo,0,none⟩ = some (.bool ok)):=hrd
  have HCL:Hid (∀ W,P W → Calls Tryz.prog 43 #[.pointer (some ⟨Lb,0,none⟩)] W fun e w'=>e = .returned (.bool ok) ∧ Q w'):=hcall
  have H0:Hid (P W0.drew):=hd _ h0
  clear hrd hcall h0 hd
  go_enter Tryz.func75,Tryz.ntmps75
  go_wp2_with fail
  refine F.wp_region_pb (fun f=>⟨#[.pointer (some ⟨Bl,0,none⟩),.pointer (some ⟨Bo,0,none⟩),f 4,f 0,f 1,f 2,f 3],[]⟩) (V75 Lb ok) (fun done _ W=>PhU 1 P Q done W) (fun i=>[undef,undef,undef,undef,.bool false].getD i undef) (by kernel_rfl) rfl rfl ?hI ?hput ?step ?fin
  case hI=>exact ⟨fun _=>H0.out,fun e=>by cases e⟩
  case fin=>
    intro f W hP hV
    have y0:f 0 = .pointer (some ⟨Lb,0,none⟩):=hV 0 (by decide)
    have y1:f 1 = .bool ok:=hV 1 (by decide)
    have y2:f 2 = .bool ok:=hV 2 (by decide)
    have y3:f 3 = .bool true:=hV 3 (by decide)
    have y4:f 4 = .bool true:=hV 4 (by decide)
    clear hV
    have HC:Hid (Q W):=hP.b rfl
    clear hP
    generalize f 0 = z0 at *
    subst y0
    generalize f 1 = z1 at *
    subst y1
    generalize f 2 = z2 at *
    subst y2
    generalize f 3 = z3 at *
    subst y3
    generalize f 4 = z4 at *
    subst y4
    go_wp2
    go_returns
    exact ⟨rfl,HC.out⟩
  case hput=>
    repeat (refine ⟨fun f v=>rfl,?_⟩)
    trivial
  case step=>
    refine ⟨?_,?_⟩
    · intro done f W hP hdn hd K hK
      clear hd
      have q:=HRD.out W hP.or
      go_simp
      exact hK _ _ rfl (hP.step (by decide))
    refine ⟨?_,?_⟩
    · intro done f W hP hdn hd K hK
      have d0:=(hd.1 rfl).2
      have e0:done 0 = true:=(hd.1 rfl).1
      clear hd
      replace d0:f 0 = .pointer (some ⟨Lb,0,none⟩):=d0
      generalize f 0 = x0 at *
      subst d0
      clear e0
      have hcl:=HCL.out W (hP.a hdn)
      go_simp
      refine Calls.mono hcl ?_
      rintro er W' ⟨rfl,hb⟩
      exact hK _ _ rfl (PhU.call hb)
    refine ⟨?_,?_⟩
    · intro done f W hP hdn hd K hK
      clear hd
      have q:=HRD.out W hP.or
      go_simp
      exact hK _ _ rfl (hP.step (by decide))
    refine ⟨?_,?_⟩
    · intro done f W hP hdn hd K hK
      have d1:=(hd.1 rfl).2
      have e1:done 1 = true:=(hd.1 rfl).1
      have d2:=(hd.2.1 rfl).2
      have e2:done 2 = true:=(hd.2.1 rfl).1
      clear hd
      replace d1:f 1 = .bool ok:=d1
      replace d2:f 2 = .bool ok:=d2
      generalize f 1 = x1 at *
      subst d1
      clear e1
      generalize f 2 = x2 at *
      subst d2
      clear e2
      have hbb:(ok == ok) = true:=by cases ok <;> rfl
      go_simp
      exact hK _ _ rfl (hP.step (by decide))
    refine ⟨?_,?_⟩
    · intro done f W hP hdn hd K hK
      have d3:=(hd.1 rfl).2
      have e3:done 3 = true:=(hd.1 rfl).1
      clear hd
      replace d3:f 3 = .bool true:=d3
      generalize f 3 = x3 at *
      subst d3
      clear e3
      go_simp
      exact hK _ _ rfl (hP.step (by decide))
    trivial
set_option maxHeartbeats 4000000 in
set_option maxRecDepth 100000 in
theorem clos77 (hrd:∀ W,P W ∨ Q W → W.cell? ⟨Bl,0,none⟩ = some (.pointer (some ⟨Lb,0,none⟩)) ∧ W.cell? ⟨Bs,0,none⟩ = some (.int .i64 i) ∧ W.cell? ⟨Bo,0,none⟩ = some (.bool ok)) (hd:∀ W,P W → P W.drew) (hcall:∀ W,P W → Calls Tryz.prog 47 #[.pointer (some ⟨Lb,0,none⟩),.int .i64 i] W fun e w'=>e = .returned (.bool ok) ∧ Q w') (W0:World) (h0:P W0) :
    Calls Tryz.prog 77 #[.pointer (some ⟨Bl,0,none⟩),.pointer (some ⟨Bs,0,none⟩),.pointer (some ⟨Bo,0,none⟩)] W0 fun e w'=>e = .returned (.bool true) ∧ Q w':=by
  have HRD:Hid (∀ W,P W ∨ Q W → W.cell? ⟨Bl,0,none⟩ = some (.pointer (some ⟨Lb,0,none⟩)) ∧ W.cell? ⟨Bs,0,none⟩ = some (.int .i64 i) ∧ W.cell? ⟨Bo,0,none⟩ = some (.bool ok)):=hrd
  have HCL:Hid (∀ W,P W → Calls Tryz.prog 47 #[.pointer (some ⟨Lb,0,none⟩),.int .i64 i] W fun e w'=>e = .returned (.bool ok) ∧ Q w'):=hcall
  have H0:Hid (P W0.drew):=hd _ h0
  clear hrd hcall h0 hd
  go_enter Tryz.func77,Tryz.ntmps77
  go_wp2_with fail
  refine F.wp_region_pb (fun f=>⟨#[.pointer (some ⟨Bl,0,none⟩),.pointer (some ⟨Bs,0,none⟩),.pointer (some ⟨Bo,0,none⟩),f 5,f 0,f 1,f 2,f 3,f 4],[]⟩) (V77 Lb i ok) (fun done _ W=>PhU 2 P Q done W) (fun i=>[undef,undef,undef,undef,undef,.bool false].getD i undef) (by kernel_rfl) rfl rfl ?hI ?hput ?step ?fin
  case hI=>exact ⟨fun _=>H0.out,fun e=>by cases e⟩
  case fin=>
    intro f W hP hV
    have y0:f 0 = .pointer (some ⟨Lb,0,none⟩):=hV 0 (by decide)
    have y1:f 1 = .int .i64 i:=hV 1 (by decide)
    have y2:f 2 = .bool ok:=hV 2 (by decide)
    have y3:f 3 = .bool ok:=hV 3 (by decide)
    have y4:f 4 = .bool true:=hV 4 (by decide)
    have y5:f 5 = .bool true:=hV 5 (by decide)
    clear hV
    have HC:Hid (Q W):=hP.b rfl
    clear hP
    generalize f 0 = z0 at *
    subst y0
    generalize f 1 = z1 at *
    subst y1
    generalize f 2 = z2 at *
    subst y2
    generalize f 3 = z3 at *
    subst y3
    generalize f 4 = z4 at *
    subst y4
    generalize f 5 = z5 at *
    subst y5
    go_wp2
    go_returns
    exact ⟨rfl,HC.out⟩
  case hput=>
    repeat (refine ⟨fun f v=>rfl,?_⟩)
    trivial
  case step=>
    refine ⟨?_,?_⟩
    · intro done f W hP hdn hd K hK
      clear hd
      have q:=HRD.out W hP.or
      go_simp
      exact hK _ _ rfl (hP.step (by decide))
    refine ⟨?_,?_⟩
    · intro done f W hP hdn hd K hK
      clear hd
      have q:=HRD.out W hP.or
      go_simp
      exact hK _ _ rfl (hP.step (by decide))
    refine ⟨?_,?_⟩
    · intro done f W hP hdn hd K hK
      have d0:=(hd.1 rfl).2
      have e0:done 0 = true:=(hd.1 rfl).1
      have d1:=(hd.2.1 rfl).2
      have e1:done 1 = true:=(hd.2.1 rfl).1
      clear hd
      replace d0:f 0 = .pointer (some ⟨Lb,0,none⟩):=d0
      replace d1:f 1 = .int .i64 i:=d1
      generalize f 0 = x0 at *
      subst d0
      clear e0
      generalize f 1 = x1 at *
      subst d1
      clear e1
      have hcl:=HCL.out W (hP.a hdn)
      go_simp
      refine Calls.mono hcl ?_
      rintro er W' ⟨rfl,hb⟩
      exact hK _ _ rfl (PhU.call hb)
    refine ⟨?_,?_⟩
    · intro done f W hP hdn hd K hK
      clear hd
      have q:=HRD.out W hP.or
      go_simp
      exact hK _ _ rfl (hP.step (by decide))
    refine ⟨?_,?_⟩
    · intro done f W hP hdn hd K hK
      have d2:=(hd.1 rfl).2
      have e2:done 2 = true:=(hd.1 rfl).1
      have d3:=(hd.2.1 rfl).2
      have e3:done 3 = true:=(hd.2.1 rfl).1
      clear hd
      replace d2:f 2 = .bool ok:=d2
      replace d3:f 3 = .bool ok:=d3
      generalize f 2 = x2 at *
      subst d2
      clear e2
      generalize f 3 = x3 at *
      subst d3
      clear e3
      have hbb:(ok == ok) = true:=by cases ok <;> rfl
      go_simp
      exact hK _ _ rfl (hP.step (by decide))
    refine ⟨?_,?_⟩
    · intro done f W hP hdn hd K hK
      have d4:=(hd.1 rfl).2
      have e4:done 4 = true:=(hd.1 rfl).1
      clear hd
      replace d4:f 4 = .bool true:=d4
      generalize f 4 = x4 at *
      subst d4
      clear e4
      go_simp
      exact hK _ _ rfl (hP.step (by decide))
    trivial
theorem clos79 (W:World):Calls Tryz.prog 79 #[] W fun e w'=>e = .returned (.bool true) ∧ w' = W:=by
  go_enter Tryz.func79,Tryz.ntmps79
  go_wp2
  go_returns
  exact ⟨rfl,rfl⟩
theorem clos38 (W:World):Calls Tryz.prog 38 #[] W fun e w'=>e = .returned (.bool true) ∧ w' = W:=by
  go_enter Tryz.func38,Tryz.ntmps38
  go_wp2
  go_returns
  exact ⟨rfl,rfl⟩
end
end Go.Proofs.YtncfbocbigdhiaaGreat.U

/- What does hands out for Append: its closure, as a call. -/
namespace Go.Proofs.YtncfbocbigdhiaaGreat.U
open Go Go.RowKit Go.Sort
def V81 (Lb Bx g m i u k:Nat) (x:ByteArray) (sl tv:Value):Nat → Value → Prop
  | 0,v=>v = .agg #[.int .i64 (i:Nat),.int .i64 (u:Nat),.int .i64 (k:Nat)]
  | 1,v=>v = .pointer (some ⟨Bx,2,none⟩)
  | 2,v=>v = sl
  | 3,v=>v = .pointer (some ⟨Bx,2,none⟩)
  | 4,v=>v = sl
  | 5,v=>v = .int .i64 ((m:Int) + 1)
  | 6,v=>v = .int .i64 (m:Nat)
  | 7,v=>v = .pointer (some ⟨g,m * 2,none⟩)
  | 8,v=>v = .pointer (some ⟨g,m * 2,none⟩)
  | 9,v=>v = .int .i64 (i:Nat)
  | 10,v=>v = .pointer (some ⟨Bx,2,none⟩)
  | 11,v=>v = sl
  | 12,v=>v = .pointer (some ⟨Bx,2,none⟩)
  | 13,v=>v = sl
  | 14,v=>v = .int .i64 ((m:Int) + 1)
  | 15,v=>v = .int .i64 (m:Nat)
  | 16,v=>v = .pointer (some ⟨g,m * 2,none⟩)
  | 17,v=>v = .agg #[.int .i64 (i:Nat),tv]
  | 18,v=>v = .int .i64 (u:Nat)
  | 19,v=>v = .int .i64 (k:Nat)
  | 20,v=>v = .agg #[.int .i64 (i:Nat),.int .i64 (u:Nat),.int .i64 (k:Nat)]
  | 21,v=>v = .bool true
  | 22,v=>v = .bool true
  | 23,v=>v = .pointer (some ⟨Lb,0,none⟩)
  | 24,v=>v = .agg #[.int .i64 (i:Nat),.int .i64 (u:Nat),.int .i64 (k:Nat)]
  | 25,v=>v = .string x
  | 26,v=>v = .string x
  | 27,v=>v = .bool true
  | 28,v=>v = .bool true
  | 29,v=>v = .bool true
  | _,_=>True
section
variable {T:Nat} {w:World} {L:F.Loc} {q:Int} {N p ns M Lb:Nat} {base:List (Nat × Obj)} {b:Nat} {c:Int}
set_option maxHeartbeats 8000000 in
set_option maxRecDepth 100000 in
theorem clos81 {Y:List (Nat × List ByteArray)} {i:Nat} {ts:List ByteArray} {v:Value} {ol:List (Nat × Obj)} {Bl Bt Bx Bn k:Nat} {x:ByteArray} {W0:World} (h:LgX T w L q N p ns M Lb base b (Y ++ [(i,ts)]) c W0) (hM:(M,F.med L.P 1 q) ∈ base) (hr:Rl v (Y ++ [(i,ts)]) ol) (ho:∀ r ∈ ol,r ∈ base)
    (hl:(Bl,Obj.cells #[.pointer (some ⟨Lb,0,none⟩)] 62) ∈ base) (ht:(Bt,Obj.cells #[.string x] 9) ∈ base) (hx:(Bx,Obj.cells #[.int .i64 (ns:Nat),.int .i64 (p:Nat),v] 67) ∈ base) (hn:(Bn,Obj.cells #[.int .i64 (k:Nat)] 3) ∈ base)
    (hp:8 ≤ p ∧ p ≤ 64) (hns:ns ≤ 100) (hN:1 + ns * p ≤ N) (hN1:N ≤ 1000) (hk:1 ≤ k ∧ k ≤ 100) (hsz:x.size = 63 * k) (hroom:used ts + k < p) (hb:b < 18446744073709551616) (hc:c ≤ 5000000) :
    Calls Tryz.prog 81 #[.pointer (some ⟨Bl,0,none⟩),.pointer (some ⟨Bt,0,none⟩),.pointer (some ⟨Bx,0,none⟩),.pointer (some ⟨Bn,0,none⟩)] W0 fun e w'=>e = .returned (.bool true) ∧ LgX T w L q N p ns M Lb base b (Y ++ [(i,ts ++ [x])]) (c + 200) w':=by
  have hlen:=h.len
  rw [List.length_append] at hlen
  obtain ⟨ao,cp,g,hv,hao,hcc⟩:=hr.cells
  obtain ⟨m,hm⟩:∃ m,m = Y.length:=⟨_,rfl⟩
  have hlenm:(Y ++ [(i,ts)]).length = m + 1:=by rw [List.length_append,hm]; rfl
  rw [hlenm] at hv hao
  subst hv
  have hao:=hao (by omega)
  subst hao
  obtain ⟨u,hu0⟩:∃ u,u = used ts:=⟨_,rfl⟩
  obtain ⟨tv,tl,hc1,hc2,hc3,hc4⟩:∃ tv tl,(∀ W:World,(∀ r ∈ ol,W.heap[r.1]? = some r.2) → W.cell? ⟨g,m * 2,none⟩ = some (.int .i64 (i:Nat))) ∧ (∀ W:World,(∀ r ∈ ol,W.heap[r.1]? = some r.2) → W.cell? ⟨g,m * 2 + 1,none⟩ = some tv) ∧ TxO tv ts tl ∧ ∀ r ∈ tl,r ∈ ol:=by
    rcases hr with ⟨e,_⟩ | ⟨g2,cap,cur,e,k2,k3,k4,k5,k6⟩
    · cases e
    · injection e with e _ _
      injection e with e
      injection e with e _ _
      subst e
      obtain ⟨tv,tl,a1,a2,a3,a4⟩:=k6.get m (by omega)
      have hgt:(Y ++ [(i,ts)])[m]'(by omega) = (i,ts):=by
        subst hm
        rw [List.getElem_append_right (Nat.le_refl _)]
        simp
      rw [hgt] at a1 a3
      refine ⟨tv,tl,fun W hW=>?_,fun W hW=>?_,a3,a4⟩
      · rw [F.cell_of (hW _ k2),← Array.getElem?_toList]
        rw [List.getElem?_take_of_lt (by omega)] at a1
        exact a1
      · rw [F.cell_of (hW _ k2),← Array.getElem?_toList]
        rw [List.getElem?_take_of_lt (by omega)] at a2
        exact a2
  obtain ⟨tao,tcp,htv⟩:=hc3.len
  obtain ⟨tn,htn⟩:∃ tn,tn = ts.length:=⟨_,rfl⟩
  rw [← htn] at htv
  subst htv
  have hap:=h.append hp hns hN hN1 x k hk.1 hsz hroom hb (by omega)
  rw [← hu0] at hap
  have HAL:Hid (∀ W:World,(∀ r ∈ base,W.heap[r.1]? = some r.2) → W.cell? ⟨Bl,0,none⟩ = some (.pointer (some ⟨Lb,0,none⟩)) ∧ W.cell? ⟨Bt,0,none⟩ = some (.string x) ∧ W.cell? ⟨Bx,2,none⟩ = some (.slice (some ⟨g,0,none⟩) (m + 1) cp) ∧ W.cell? ⟨Bn,0,none⟩ = some (.int .i64 (k:Nat)) ∧ W.cell? ⟨g,m * 2,none⟩ = some (.int .i64 (i:Nat)) ∧ W.cell? ⟨g,m * 2 + 1,none⟩ = some (.slice tao tn tcp) ∧ Calls Tryz.prog 82 #[.agg #[.int .i64 (i:Nat),.slice tao tn tcp]] W fun e w'=>e = .returned (.int .i64 (u:Nat)) ∧ Below W.heap.size W w'):=by
    intro W hW
    refine ⟨F.cell_of (hW _ hl) 0,F.cell_of (hW _ ht) 0,F.cell_of (hW _ hx) 2,F.cell_of (hW _ hn) 0,hc1 W (fun r hr=>hW r (ho r hr)),hc2 W (fun r hr=>hW r (ho r hr)),?_⟩
    rw [hu0]
    exact used82 hc3 (i:Int) W (fun r hr=>hW r (ho r (hc4 r hr))) (by omega)
  have H0:Hid (LgX T w L q N p ns M Lb base b (Y ++ [(i,ts)]) c W0):=h
  have HH:Hid (1 + ns * p ≤ N ∧ N ≤ 1000 ∧ x.size = 63 * k ∧ k ≤ 100 ∧ c ≤ 5000000 ∧ u = used ts):=⟨hN,hN1,hsz,hk.2,hc,hu0⟩
  have HM:Hid (m ≤ 100):=by show m ≤ 100; rw [hm]; omega
  have HMB:Hid ((M,F.med L.P 1 q) ∈ base):=hM
  obtain ⟨z1,z2,z3,z4,_,_,_⟩:=HAL.out W0 (fun r hr=>h.at' hr)
  clear h hM hr ho hl ht hx hn hp hns hN hN1 hk hsz hroom hb hc hlen hcc hm hlenm hao hc1 hc2 hc3 hc4 htn hu0
  go_enter Tryz.func81,Tryz.ntmps81
  go_wp2_with fail
  go_call hap as e w1 ⟨rfl,h1⟩
  clear hap z1 z2 z3 z4 H0
  have H1:Hid (LgX T w L q N p ns M Lb base b (Y ++ [(i,ts ++ [x])]) (c + 100) w1):=h1
  clear h1
  go_wp2_with fail
  have h2:=H1.out.hold (.cells #[.int .i64 (i:Nat),.int .i64 (u:Nat),.int .i64 (k:Nat)] 77) (F.apart_of (by decide)) (fun _ _=>cells_ne2 (by decide))
  obtain ⟨B,hB⟩:∃ B,B = w1.heap.size:=⟨_,rfl⟩
  obtain ⟨w2,hw2⟩:∃ w2,w2 = w1.alloc (.cells #[.int .i64 (i:Nat),.int .i64 (u:Nat),.int .i64 (k:Nat)] 77):=⟨_,rfl⟩
  rw [← hB,← hw2] at h2
  rw [← hB,← hw2]
  have H2:Hid (LgX T w L q N p ns M Lb ((B,Obj.cells #[.int .i64 (i:Nat),.int .i64 (u:Nat),.int .i64 (k:Nat)] 77) :: base) b (Y ++ [(i,ts ++ [x])]) (c + 100) w2):=h2
  have HRD:Hid (∀ W,(LgX T w L q N p ns M Lb ((B,Obj.cells #[.int .i64 (i:Nat),.int .i64 (u:Nat),.int .i64 (k:Nat)] 77) :: base) b (Y ++ [(i,ts ++ [x])]) (c + 100) W) ∨ (LgX T w L q N p ns M Lb ((B,Obj.cells #[.int .i64 (i:Nat),.int .i64 (u:Nat),.int .i64 (k:Nat)] 77) :: base) b (Y ++ [(i,ts ++ [x])]) (c + 100 + 100) W) → W.cell? ⟨Bl,0,none⟩ = some (.pointer (some ⟨Lb,0,none⟩)) ∧ W.cell? ⟨Bt,0,none⟩ = some (.string x) ∧ W.cell? ⟨Bx,2,none⟩ = some (.slice (some ⟨g,0,none⟩) (m + 1) cp) ∧ W.cell? ⟨Bn,0,none⟩ = some (.int .i64 (k:Nat)) ∧ W.cell? ⟨g,m * 2,none⟩ = some (.int .i64 (i:Nat)) ∧ W.cell? ⟨g,m * 2 + 1,none⟩ = some (.slice tao tn tcp) ∧ W.cell? ⟨B,0,none⟩ = some (.int .i64 (i:Nat)) ∧ W.cell? ⟨B,1,none⟩ = some (.int .i64 (u:Nat)) ∧ W.cell? ⟨B,2,none⟩ = some (.int .i64 (k:Nat))):=by
    intro W hW
    have hat:∀ r ∈ (B,Obj.cells #[.int .i64 (i:Nat),.int .i64 (u:Nat),.int .i64 (k:Nat)] 77) :: base,W.heap[r.1]? = some r.2:=by
      rcases hW with hW | hW <;> exact fun r hr=>hW.at' hr
    have hB0:=hat _ (List.mem_cons_self ..)
    obtain ⟨a1,a2,a3,a4,a5,a6,_⟩:=HAL.out W (fun r hr=>hat r (List.mem_cons_of_mem _ hr))
    exact ⟨a1,a2,a3,a4,a5,a6,F.cell_of hB0 0,F.cell_of hB0 1,F.cell_of hB0 2⟩
  have HCU:Hid (∀ W,(LgX T w L q N p ns M Lb ((B,Obj.cells #[.int .i64 (i:Nat),.int .i64 (u:Nat),.int .i64 (k:Nat)] 77) :: base) b (Y ++ [(i,ts ++ [x])]) (c + 100) W) ∨ (LgX T w L q N p ns M Lb ((B,Obj.cells #[.int .i64 (i:Nat),.int .i64 (u:Nat),.int .i64 (k:Nat)] 77) :: base) b (Y ++ [(i,ts ++ [x])]) (c + 100 + 100) W) → Calls Tryz.prog 82 #[.agg #[.int .i64 (i:Nat),.slice tao tn tcp]] W fun e w'=>e = .returned (.int .i64 (u:Nat)) ∧ Below W.heap.size W w'):=by
    intro W hW
    have hat:∀ r ∈ base,W.heap[r.1]? = some r.2:=by
      rcases hW with hW | hW <;> exact fun r hr=>hW.at' (List.mem_cons_of_mem _ hr)
    exact (HAL.out W hat).2.2.2.2.2.2
  have HCL:Hid (∀ W,(LgX T w L q N p ns M Lb ((B,Obj.cells #[.int .i64 (i:Nat),.int .i64 (u:Nat),.int .i64 (k:Nat)] 77) :: base) b (Y ++ [(i,ts ++ [x])]) (c + 100) W) → Calls Tryz.prog 73 #[.pointer (some ⟨Lb,0,none⟩),.agg #[.int .i64 (i:Nat),.int .i64 (u:Nat),.int .i64 (k:Nat)]] W fun e w'=>e = .returned (.string x) ∧ (LgX T w L q N p ns M Lb ((B,Obj.cells #[.int .i64 (i:Nat),.int .i64 (u:Nat),.int .i64 (k:Nat)] 77) :: base) b (Y ++ [(i,ts ++ [x])]) (c + 100 + 100) w')):=by
    intro W hW
    obtain ⟨b1,b2,b3,b4,b5,b6⟩:=HH.out
    have hrd:=hW.read b1 b2 b3 b4 (by omega)
    rw [← b6] at hrd
    exact hrd
  clear h2 hB hw2 H1 HAL
  refine F.wp_region_pb (fun f=>⟨#[.pointer (some ⟨Bl,0,none⟩),.pointer (some ⟨Bt,0,none⟩),.pointer (some ⟨Bx,0,none⟩),.pointer (some ⟨Bn,0,none⟩),f 29,.pointer (some ⟨B,0,none⟩),.pointer (some ⟨Lb,0,none⟩),.string x,.agg #[.int .i64 (i:Int),.int .i64 (u:Int),.int .i64 (k:Int)],f 0,f 1,f 2,f 3,f 4,f 5,f 6,f 7,f 8,f 9,f 10,f 11,f 12,f 13,f 14,f 15,f 16,f 17,f 18,f 19,f 20,f 21,f 22,f 23,f 24,f 25,f 26,f 27,f 28],[]⟩) (V81 Lb Bx g m i u k x (.slice (some ⟨g,0,none⟩) (m + 1) cp) (.slice tao tn tcp)) (fun done _ W=>PhU 25 (fun W=>LgX T w L q N p ns M Lb ((B,Obj.cells #[.int .i64 (i:Nat),.int .i64 (u:Nat),.int .i64 (k:Nat)] 77) :: base) b (Y ++ [(i,ts ++ [x])]) (c + 100) W) (fun W=>LgX T w L q N p ns M Lb ((B,Obj.cells #[.int .i64 (i:Nat),.int .i64 (u:Nat),.int .i64 (k:Nat)] 77) :: base) b (Y ++ [(i,ts ++ [x])]) (c + 100 + 100) W) done W) (fun i=>[undef,undef,undef,undef,undef,undef,undef,undef,undef,undef,undef,undef,undef,undef,undef,undef,undef,undef,undef,undef,undef,undef,undef,undef,undef,undef,undef,undef,undef,.bool false].getD i undef) (by kernel_rfl) rfl rfl ?hI ?hput ?step ?fin
  case hI=>exact ⟨fun _=>H2.out.below (Below.refl _ _).drew,fun e=>by cases e⟩
  case fin=>
    intro f W9 hP hV
    have y0:f 0 = .agg #[.int .i64 (i:Nat),.int .i64 (u:Nat),.int .i64 (k:Nat)]:=hV 0 (by decide)
    have y1:f 1 = .pointer (some ⟨Bx,2,none⟩):=hV 1 (by decide)
    have y2:f 2 = .slice (some ⟨g,0,none⟩) (m + 1) cp:=hV 2 (by decide)
    have y3:f 3 = .pointer (some ⟨Bx,2,none⟩):=hV 3 (by decide)
    have y4:f 4 = .slice (some ⟨g,0,none⟩) (m + 1) cp:=hV 4 (by decide)
    have y5:f 5 = .int .i64 ((m:Int) + 1):=hV 5 (by decide)
    have y6:f 6 = .int .i64 (m:Nat):=hV 6 (by decide)
    have y7:f 7 = .pointer (some ⟨g,m * 2,none⟩):=hV 7 (by decide)
    have y8:f 8 = .pointer (some ⟨g,m * 2,none⟩):=hV 8 (by decide)
    have y9:f 9 = .int .i64 (i:Nat):=hV 9 (by decide)
    have y10:f 10 = .pointer (some ⟨Bx,2,none⟩):=hV 10 (by decide)
    have y11:f 11 = .slice (some ⟨g,0,none⟩) (m + 1) cp:=hV 11 (by decide)
    have y12:f 12 = .pointer (some ⟨Bx,2,none⟩):=hV 12 (by decide)
    have y13:f 13 = .slice (some ⟨g,0,none⟩) (m + 1) cp:=hV 13 (by decide)
    have y14:f 14 = .int .i64 ((m:Int) + 1):=hV 14 (by decide)
    have y15:f 15 = .int .i64 (m:Nat):=hV 15 (by decide)
    have y16:f 16 = .pointer (some ⟨g,m * 2,none⟩):=hV 16 (by decide)
    have y17:f 17 = .agg #[.int .i64 (i:Nat),.slice tao tn tcp]:=hV 17 (by decide)
    have y18:f 18 = .int .i64 (u:Nat):=hV 18 (by decide)
    have y19:f 19 = .int .i64 (k:Nat):=hV 19 (by decide)
    have y20:f 20 = .agg #[.int .i64 (i:Nat),.int .i64 (u:Nat),.int .i64 (k:Nat)]:=hV 20 (by decide)
    have y21:f 21 = .bool true:=hV 21 (by decide)
    have y22:f 22 = .bool true:=hV 22 (by decide)
    have y23:f 23 = .pointer (some ⟨Lb,0,none⟩):=hV 23 (by decide)
    have y24:f 24 = .agg #[.int .i64 (i:Nat),.int .i64 (u:Nat),.int .i64 (k:Nat)]:=hV 24 (by decide)
    have y25:f 25 = .string x:=hV 25 (by decide)
    have y26:f 26 = .string x:=hV 26 (by decide)
    have y27:f 27 = .bool true:=hV 27 (by decide)
    have y28:f 28 = .bool true:=hV 28 (by decide)
    have y29:f 29 = .bool true:=hV 29 (by decide)
    clear hV
    have HC:Hid (LgX T w L q N p ns M Lb ((B,Obj.cells #[.int .i64 (i:Nat),.int .i64 (u:Nat),.int .i64 (k:Nat)] 77) :: base) b (Y ++ [(i,ts ++ [x])]) (c + 100 + 100) W9):=hP.b rfl
    clear hP
    generalize f 0 = z0 at *
    subst y0
    generalize f 1 = z1 at *
    subst y1
    generalize f 2 = z2 at *
    subst y2
    generalize f 3 = z3 at *
    subst y3
    generalize f 4 = z4 at *
    subst y4
    generalize f 5 = z5 at *
    subst y5
    generalize f 6 = z6 at *
    subst y6
    generalize f 7 = z7 at *
    subst y7
    generalize f 8 = z8 at *
    subst y8
    generalize f 9 = z9 at *
    subst y9
    generalize f 10 = z10 at *
    subst y10
    generalize f 11 = z11 at *
    subst y11
    generalize f 12 = z12 at *
    subst y12
    generalize f 13 = z13 at *
    subst y13
    generalize f 14 = z14 at *
    subst y14
    generalize f 15 = z15 at *
    subst y15
    generalize f 16 = z16 at *
    subst y16
    generalize f 17 = z17 at *
    subst y17
    generalize f 18 = z18 at *
    subst y18
    generalize f 19 = z19 at *
    subst y19
    generalize f 20 = z20 at *
    subst y20
    generalize f 21 = z21 at *
    subst y21
    generalize f 22 = z22 at *
    subst y22
    generalize f 23 = z23 at *
    subst y23
    generalize f 24 = z24 at *
    subst y24
    generalize f 25 = z25 at *
    subst y25
    generalize f 26 = z26 at *
    subst y26
    generalize f 27 = z27 at *
    subst y27
    generalize f 28 = z28 at *
    subst y28
    generalize f 29 = z29 at *
    subst y29
    go_wp2
    go_returns
    exact ⟨rfl,(HC.out.drop HMB.out (fun r hr=>List.mem_cons_of_mem _ hr)).more (by omega)⟩
  case hput=>
    repeat (refine ⟨fun f v=>rfl,?_⟩)
    trivial
  case step=>
    refine ⟨?_,?_⟩
    · intro done f W hP hdn hd K hK
      clear hd
      obtain ⟨q1,q2,q3,q4,q5,q6,q7,q8,q9⟩:=HRD.out W hP.or
      go_simp
      exact hK _ _ rfl (hP.step (by decide))
    refine ⟨?_,?_⟩
    · intro done f W hP hdn hd K hK
      clear hd
      go_simp
      exact hK _ _ rfl (hP.step (by decide))
    refine ⟨?_,?_⟩
    · intro done f W hP hdn hd K hK
      have d1:=(hd.1 rfl).2
      have e1:done 1 = true:=(hd.1 rfl).1
      clear hd
      replace d1:f 1 = .pointer (some ⟨Bx,2,none⟩):=d1
      generalize f 1 = x1 at *
      subst d1
      clear e1
      obtain ⟨q1,q2,q3,q4,q5,q6,q7,q8,q9⟩:=HRD.out W hP.or
      go_simp
      exact hK _ _ rfl (hP.step (by decide))
    refine ⟨?_,?_⟩
    · intro done f W hP hdn hd K hK
      clear hd
      go_simp
      exact hK _ _ rfl (hP.step (by decide))
    refine ⟨?_,?_⟩
    · intro done f W hP hdn hd K hK
      have d3:=(hd.1 rfl).2
      have e3:done 3 = true:=(hd.1 rfl).1
      clear hd
      replace d3:f 3 = .pointer (some ⟨Bx,2,none⟩):=d3
      generalize f 3 = x3 at *
      subst d3
      clear e3
      obtain ⟨q1,q2,q3,q4,q5,q6,q7,q8,q9⟩:=HRD.out W hP.or
      go_simp
      exact hK _ _ rfl (hP.step (by decide))
    refine ⟨?_,?_⟩
    · intro done f W hP hdn hd K hK
      have d4:=(hd.1 rfl).2
      have e4:done 4 = true:=(hd.1 rfl).1
      clear hd
      replace d4:f 4 = .slice (some ⟨g,0,none⟩) (m + 1) cp:=d4
      generalize f 4 = x4 at *
      subst d4
      clear e4
      go_simp
      exact hK _ _ rfl (hP.step (by decide))
    refine ⟨?_,?_⟩
    · intro done f W hP hdn hd K hK
      have d5:=(hd.1 rfl).2
      have e5:done 5 = true:=(hd.1 rfl).1
      clear hd
      replace d5:f 5 = .int .i64 ((m:Int) + 1):=d5
      generalize f 5 = x5 at *
      subst d5
      clear e5
      have hwr:IntKind.i64.wrap (m:Int) = (m:Int):=by
        have:=HM.out
        rw [IntKind.wrap_i64]; omega
      go_simp
      exact hK _ _ rfl (hP.step (by decide))
    refine ⟨?_,?_⟩
    · intro done f W hP hdn hd K hK
      have d2:=(hd.1 rfl).2
      have e2:done 2 = true:=(hd.1 rfl).1
      have d6:=(hd.2.1 rfl).2
      have e6:done 6 = true:=(hd.2.1 rfl).1
      clear hd
      replace d2:f 2 = .slice (some ⟨g,0,none⟩) (m + 1) cp:=d2
      replace d6:f 6 = .int .i64 (m:Nat):=d6
      generalize f 2 = x2 at *
      subst d2
      clear e2
      generalize f 6 = x6 at *
      subst d6
      clear e6
      have hc:(0:Int) ≤ (m:Int):=by omega
      have hc2:(m:Int) < (m:Int) + 1:=by omega
      go_simp
      exact hK _ _ rfl (hP.step (by decide))
    refine ⟨?_,?_⟩
    · intro done f W hP hdn hd K hK
      have d7:=(hd.1 rfl).2
      have e7:done 7 = true:=(hd.1 rfl).1
      clear hd
      replace d7:f 7 = .pointer (some ⟨g,m * 2,none⟩):=d7
      generalize f 7 = x7 at *
      subst d7
      clear e7
      go_simp
      exact hK _ _ rfl (hP.step (by decide))
    refine ⟨?_,?_⟩
    · intro done f W hP hdn hd K hK
      have d8:=(hd.1 rfl).2
      have e8:done 8 = true:=(hd.1 rfl).1
      clear hd
      replace d8:f 8 = .pointer (some ⟨g,m * 2,none⟩):=d8
      generalize f 8 = x8 at *
      subst d8
      clear e8
      obtain ⟨q1,q2,q3,q4,q5,q6,q7,q8,q9⟩:=HRD.out W hP.or
      go_simp
      exact hK _ _ rfl (hP.step (by decide))
    refine ⟨?_,?_⟩
    · intro done f W hP hdn hd K hK
      clear hd
      go_simp
      exact hK _ _ rfl (hP.step (by decide))
    refine ⟨?_,?_⟩
    · intro done f W hP hdn hd K hK
      have d10:=(hd.1 rfl).2
      have e10:done 10 = true:=(hd.1 rfl).1
      clear hd
      replace d10:f 10 = .pointer (some ⟨Bx,2,none⟩):=d10
      generalize f 10 = x10 at *
      subst d10
      clear e10
      obtain ⟨q1,q2,q3,q4,q5,q6,q7,q8,q9⟩:=HRD.out W hP.or
      go_simp
      exact hK _ _ rfl (hP.step (by decide))
    refine ⟨?_,?_⟩
    · intro done f W hP hdn hd K hK
      clear hd
      go_simp
      exact hK _ _ rfl (hP.step (by decide))
    refine ⟨?_,?_⟩
    · intro done f W hP hdn hd K hK
      have d12:=(hd.1 rfl).2
      have e12:done 12 = true:=(hd.1 rfl).1
      clear hd
      replace d12:f 12 = .pointer (some ⟨Bx,2,none⟩):=d12
      generalize f 12 = x12 at *
      subst d12
      clear e12
      obtain ⟨q1,q2,q3,q4,q5,q6,q7,q8,q9⟩:=HRD.out W hP.or
      go_simp
      exact hK _ _ rfl (hP.step (by decide))
    refine ⟨?_,?_⟩
    · intro done f W hP hdn hd K hK
      have d13:=(hd.1 rfl).2
      have e13:done 13 = true:=(hd.1 rfl).1
      clear hd
      replace d13:f 13 = .slice (some ⟨g,0,none⟩) (m + 1) cp:=d13
      generalize f 13 = x13 at *
      subst d13
      clear e13
      go_simp
      exact hK _ _ rfl (hP.step (by decide))
    refine ⟨?_,?_⟩
    · intro done f W hP hdn hd K hK
      have d14:=(hd.1 rfl).2
      have e14:done 14 = true:=(hd.1 rfl).1
      clear hd
      replace d14:f 14 = .int .i64 ((m:Int) + 1):=d14
      generalize f 14 = x14 at *
      subst d14
      clear e14
      have hwr:IntKind.i64.wrap (m:Int) = (m:Int):=by
        have:=HM.out
        rw [IntKind.wrap_i64]; omega
      go_simp
      exact hK _ _ rfl (hP.step (by decide))
    refine ⟨?_,?_⟩
    · intro done f W hP hdn hd K hK
      have d11:=(hd.1 rfl).2
      have e11:done 11 = true:=(hd.1 rfl).1
      have d15:=(hd.2.1 rfl).2
      have e15:done 15 = true:=(hd.2.1 rfl).1
      clear hd
      replace d11:f 11 = .slice (some ⟨g,0,none⟩) (m + 1) cp:=d11
      replace d15:f 15 = .int .i64 (m:Nat):=d15
      generalize f 11 = x11 at *
      subst d11
      clear e11
      generalize f 15 = x15 at *
      subst d15
      clear e15
      have hc:(0:Int) ≤ (m:Int):=by omega
      have hc2:(m:Int) < (m:Int) + 1:=by omega
      go_simp
      exact hK _ _ rfl (hP.step (by decide))
    refine ⟨?_,?_⟩
    · intro done f W hP hdn hd K hK
      have d16:=(hd.1 rfl).2
      have e16:done 16 = true:=(hd.1 rfl).1
      clear hd
      replace d16:f 16 = .pointer (some ⟨g,m * 2,none⟩):=d16
      generalize f 16 = x16 at *
      subst d16
      clear e16
      obtain ⟨q1,q2,q3,q4,q5,q6,q7,q8,q9⟩:=HRD.out W hP.or
      go_simp
      exact hK _ _ rfl (hP.step (by decide))
    refine ⟨?_,?_⟩
    · intro done f W hP hdn hd K hK
      have d17:=(hd.1 rfl).2
      have e17:done 17 = true:=(hd.1 rfl).1
      clear hd
      replace d17:f 17 = .agg #[.int .i64 (i:Nat),.slice tao tn tcp]:=d17
      generalize f 17 = x17 at *
      subst d17
      clear e17
      have hcl:=HCU.out W hP.or
      go_simp
      refine Calls.mono hcl ?_
      rintro er W' ⟨rfl,hb⟩
      exact hK _ _ rfl (hP.keep (fun h=>h.below hb) (fun h=>h.below hb) (by decide))
    refine ⟨?_,?_⟩
    · intro done f W hP hdn hd K hK
      clear hd
      obtain ⟨q1,q2,q3,q4,q5,q6,q7,q8,q9⟩:=HRD.out W hP.or
      go_simp
      exact hK _ _ rfl (hP.step (by decide))
    refine ⟨?_,?_⟩
    · intro done f W hP hdn hd K hK
      have d9:=(hd.1 rfl).2
      have e9:done 9 = true:=(hd.1 rfl).1
      have d18:=(hd.2.1 rfl).2
      have e18:done 18 = true:=(hd.2.1 rfl).1
      have d19:=(hd.2.2.1 rfl).2
      have e19:done 19 = true:=(hd.2.2.1 rfl).1
      clear hd
      replace d9:f 9 = .int .i64 (i:Nat):=d9
      replace d18:f 18 = .int .i64 (u:Nat):=d18
      replace d19:f 19 = .int .i64 (k:Nat):=d19
      generalize f 9 = x9 at *
      subst d9
      clear e9
      generalize f 18 = x18 at *
      subst d18
      clear e18
      generalize f 19 = x19 at *
      subst d19
      clear e19
      go_simp
      exact hK _ _ rfl (hP.step (by decide))
    refine ⟨?_,?_⟩
    · intro done f W hP hdn hd K hK
      have d0:=(hd.1 rfl).2
      have e0:done 0 = true:=(hd.1 rfl).1
      have d20:=(hd.2.1 rfl).2
      have e20:done 20 = true:=(hd.2.1 rfl).1
      clear hd
      replace d0:f 0 = .agg #[.int .i64 (i:Nat),.int .i64 (u:Nat),.int .i64 (k:Nat)]:=d0
      replace d20:f 20 = .agg #[.int .i64 (i:Nat),.int .i64 (u:Nat),.int .i64 (k:Nat)]:=d20
      generalize f 0 = x0 at *
      subst d0
      clear e0
      generalize f 20 = x20 at *
      subst d20
      clear e20
      go_simp
      exact hK _ _ rfl (hP.step (by decide))
    refine ⟨?_,?_⟩
    · intro done f W hP hdn hd K hK
      have d21:=(hd.1 rfl).2
      have e21:done 21 = true:=(hd.1 rfl).1
      clear hd
      replace d21:f 21 = .bool true:=d21
      generalize f 21 = x21 at *
      subst d21
      clear e21
      go_simp
      exact hK _ _ rfl (hP.step (by decide))
    refine ⟨?_,?_⟩
    · intro done f W hP hdn hd K hK
      have d22:=(hd.1 rfl).2
      have e22:done 22 = true:=(hd.1 rfl).1
      clear hd
      replace d22:f 22 = .bool true:=d22
      generalize f 22 = x22 at *
      subst d22
      clear e22
      obtain ⟨q1,q2,q3,q4,q5,q6,q7,q8,q9⟩:=HRD.out W hP.or
      go_simp
      exact hK _ _ rfl (hP.step (by decide))
    refine ⟨?_,?_⟩
    · intro done f W hP hdn hd K hK
      have d22:=(hd.1 rfl).2
      have e22:done 22 = true:=(hd.1 rfl).1
      clear hd
      replace d22:f 22 = .bool true:=d22
      generalize f 22 = x22 at *
      subst d22
      clear e22
      obtain ⟨q1,q2,q3,q4,q5,q6,q7,q8,q9⟩:=HRD.out W hP.or
      go_simp
      exact hK _ _ rfl (hP.step (by decide))
    refine ⟨?_,?_⟩
    · intro done f W hP hdn hd K hK
      have d23:=(hd.1 rfl).2
      have e23:done 23 = true:=(hd.1 rfl).1
      have d24:=(hd.2.1 rfl).2
      have e24:done 24 = true:=(hd.2.1 rfl).1
      have d22:=(hd.2.2.2.1 rfl).2
      have e22:done 22 = true:=(hd.2.2.2.1 rfl).1
      clear hd
      replace d23:f 23 = .pointer (some ⟨Lb,0,none⟩):=d23
      replace d24:f 24 = .agg #[.int .i64 (i:Nat),.int .i64 (u:Nat),.int .i64 (k:Nat)]:=d24
      replace d22:f 22 = .bool true:=d22
      generalize f 23 = x23 at *
      subst d23
      clear e23
      generalize f 24 = x24 at *
      subst d24
      clear e24
      generalize f 22 = x22 at *
      subst d22
      clear e22
      have hcl:=HCL.out W (hP.a hdn)
      go_simp
      refine Calls.mono hcl ?_
      rintro er W' ⟨rfl,hb⟩
      exact hK _ _ rfl (PhU.call hb)
    refine ⟨?_,?_⟩
    · intro done f W hP hdn hd K hK
      have d22:=(hd.1 rfl).2
      have e22:done 22 = true:=(hd.1 rfl).1
      clear hd
      replace d22:f 22 = .bool true:=d22
      generalize f 22 = x22 at *
      subst d22
      clear e22
      obtain ⟨q1,q2,q3,q4,q5,q6,q7,q8,q9⟩:=HRD.out W hP.or
      go_simp
      exact hK _ _ rfl (hP.step (by decide))
    refine ⟨?_,?_⟩
    · intro done f W hP hdn hd K hK
      have d25:=(hd.1 rfl).2
      have e25:done 25 = true:=(hd.1 rfl).1
      have d26:=(hd.2.1 rfl).2
      have e26:done 26 = true:=(hd.2.1 rfl).1
      have d22:=(hd.2.2.1 rfl).2
      have e22:done 22 = true:=(hd.2.2.1 rfl).1
      clear hd
      replace d25:f 25 = .string x:=d25
      replace d26:f 26 = .string x:=d26
      replace d22:f 22 = .bool true:=d22
      generalize f 25 = x25 at *
      subst d25
      clear e25
      generalize f 26 = x26 at *
      subst d26
      clear e26
      generalize f 22 = x22 at *
      subst d22
      clear e22
      go_simp
      exact hK _ _ rfl (hP.step (by decide))
    refine ⟨?_,?_⟩
    · intro done f W hP hdn hd K hK
      have d22:=(hd.1 rfl).2
      have e22:done 22 = true:=(hd.1 rfl).1
      have d27:=(hd.2.1 rfl).2
      have e27:done 27 = true:=(hd.2.1 rfl).1
      clear hd
      replace d22:f 22 = .bool true:=d22
      replace d27:f 27 = .bool true:=d27
      generalize f 22 = x22 at *
      subst d22
      clear e22
      generalize f 27 = x27 at *
      subst d27
      clear e27
      go_simp
      exact hK _ _ rfl (hP.step (by decide))
    refine ⟨?_,?_⟩
    · intro done f W hP hdn hd K hK
      have d28:=(hd.1 rfl).2
      have e28:done 28 = true:=(hd.1 rfl).1
      clear hd
      replace d28:f 28 = .bool true:=d28
      generalize f 28 = x28 at *
      subst d28
      clear e28
      go_simp
      exact hK _ _ rfl (hP.step (by decide))
    trivial
end
end Go.Proofs.YtncfbocbigdhiaaGreat.U
