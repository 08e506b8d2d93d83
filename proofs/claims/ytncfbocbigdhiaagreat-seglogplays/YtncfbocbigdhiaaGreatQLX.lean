/- Texts of this seat, one behind the other. -/
import Derived.Test.YtncfbocbigdhiaaGreatQLQ
import Derived.Test.YtncfbocbigdhiaaGreatQP
/- What the segments of a log hold on a device, between two calls; what each call makes of it. -/
namespace Go.Proofs.YtncfbocbigdhiaaGreat.U
open Go Go.RowKit Go.Sort
theorem seg_lt {i k p:Nat} (h:i < k):i * p + p ≤ k * p:=by
  have:=Nat.mul_le_mul_right p (Nat.succ_le_of_lt h)
  rw [Nat.succ_mul] at this; exact this
theorem seg_ne {i k p t u:Nat} (h:i ≠ k) (ht:t < p) (hu:u < p):1 + i * p + t ≠ 1 + k * p + u:=by
  rcases Nat.lt_or_gt_of_ne h with h | h
  · have:=seg_lt (p:=p) h; omega
  · have:=seg_lt (p:=p) h; omega
section
variable {now now':Nat → ByteArray} {s:Sg} {l:List (Nat × ByteArray)} {t e k:Nat} {x:ByteArray}
theorem Grp.ofL (hg:Grp now s t k x) (h:∀ u,t ≤ u → u < t + 1 + k → now' (s.b + u) = now (s.b + u)):Grp now' s t k x:=
  ⟨hg.sz,hg.k1,hg.fit,by rw [h t (Nat.le_refl _) (by omega)]; exact hg.com,fun i hi=>by
    have e:s.b + t + 1 + i = s.b + (t + 1 + i):=by omega
    rw [e,h _ (by omega) (by omega),← e]; exact hg.pay i hi⟩
theorem Chn.ofL (hc:Chn now s l e) (h:∀ u,1 ≤ u → u < e → now' (s.b + u) = now (s.b + u)):Chn now' s l e:=by
  induction hc with
  | nil=>exact Chn.nil
  | next h1 h2 ih=>
    have:=h1.lt.1
    exact Chn.next (ih (fun u a b=>h u a (by omega))) (Grp.ofL h2 (fun u a b=>h u (by omega) (by omega)))
end
theorem perm_mem:∀ (a b:List Nat),a.Nodup → b.Nodup → (∀ x,x ∈ a ↔ x ∈ b) → a.Perm b
  | [],b,_,_,h=>by
    have:b = []:=List.eq_nil_iff_forall_not_mem.2 (fun x hx=>by cases (h x).2 hx)
    rw [this]
  | x :: a,b,ha,hb,h=>by
    have hx:x ∈ b:=(h x).1 (List.mem_cons_self ..)
    refine ((perm_mem a (b.erase x) (List.nodup_cons.1 ha).2 (hb.erase x) (fun y=>?_)).cons x).trans (List.perm_cons_erase hx).symm
    rw [hb.mem_erase_iff]
    constructor
    · intro hy
      exact ⟨fun e=>(List.nodup_cons.1 ha).1 (e ▸ hy),(h y).1 (List.mem_cons_of_mem _ hy)⟩
    · rintro ⟨h1,h2⟩
      rcases List.mem_cons.1 ((h y).2 h2) with h3 | h3
      · exact absurd h3 h1
      · exact h3
theorem asc_nd {f:Nat → Nat} {xs:List Nat} (h:xs.Pairwise (fun x y=>f x < f y)):xs.Nodup:=
  h.imp (fun {a b} hab e=>by rw [e] at hab; exact absurd hab (Nat.lt_irrefl _))
structure Im (now:Nat → ByteArray) (n p ns:Nat) (g:Nat → Hd) (xs:List Nat) (gs:Nat → List (Nat × ByteArray)) (e:Nat → Nat):Prop where
  hd:∀ i,i < ns → (now (1 + i * p) = F.pad ⟨#[]⟩ ∧ g i = ⟨0,0,0,false⟩) ∨ ((g i).Ok ∧ (g i).c = 3 ∧ (g i).j = 7 ∧ now (1 + i * p) = (g i).sec)
  ks:∀ i,i < n → Ksec (now i)
  old:∀ i,i < ns → ∀ t,1 ≤ t → t < p → (now (1 + i * p + t))[0]? ≠ some 67 ∨ ∃ q:Cm,q.Ok ∧ now (1 + i * p + t) = q.sec ∧ q.n ≤ (g i).n ∧ ((g i).fr = false → q.n = (g i).n → t < e i)
  ch:∀ i ∈ xs,Chn now ⟨0,3,7,(g i).n,1 + i * p,p,0⟩ (gs i) (e i)
  ep:∀ i ∈ xs,e i ≤ p
  mem:∀ i,i ∈ xs ↔ (i < ns ∧ (g i).c = 3 ∧ (g i).fr = false)
  asc:xs.Pairwise (fun x y=>(g x).n < (g y).n)
theorem im_zero (n p ns:Nat):Im (fun _=>F.pad ⟨#[]⟩) n p ns (fun _=>⟨0,0,0,false⟩) [] (fun _=>[]) (fun _=>1):=
  ⟨fun _ _=>Or.inl ⟨rfl,rfl⟩,fun _ _=>ksec0,fun _ _ _ _ _=>Or.inl pad0_ne,(fun i hi=>by cases hi),(fun i hi=>by cases hi),fun i=>⟨(fun h=>by cases h),fun h=>absurd h.2.1 (by decide:¬ (0:Nat) = 3)⟩,List.Pairwise.nil⟩
theorem hd_mark (h:Hd):h.sec[0]? = some 72:=by
  unfold Hd.sec secL
  rfl
theorem hd_ksec (h:Hd):Ksec h.sec:=⟨h.sec_size,Or.inl (by rw [hd_mark]; decide)⟩
section
variable {now:Nat → ByteArray} {n p ns:Nat} {g:Nat → Hd} {xs:List Nat} {gs:Nat → List (Nat × ByteArray)} {e:Nat → Nat}
theorem Im.nd (h:Im now n p ns g xs gs e):xs.Nodup:=asc_nd h.asc
theorem Im.perm (h:Im now n p ns g xs gs e):xs.Perm (lvN 3 g ns):=by
  refine perm_mem _ _ h.nd (List.nodup_range.filter _) (fun i=>?_)
  rw [h.mem i]
  unfold lvN
  rw [List.mem_filter,List.mem_range]
  simp
theorem Im.lt (h:Im now n p ns g xs gs e):∀ i ∈ xs,i < ns:=fun i hi=>((h.mem i).1 hi).1
theorem Im.len (h:Im now n p ns g xs gs e):xs.length ≤ ns:=nodup_le ns xs h.nd h.lt
theorem Im.hok (h:Im now n p ns g xs gs e) (i:Nat) (hi:i ∈ xs):(g i).Ok ∧ (g i).c = 3 ∧ (g i).j = 7 ∧ now (1 + i * p) = (g i).sec:=by
  obtain ⟨h1,h2,_⟩:=(h.mem i).1 hi
  rcases h.hd i h1 with ⟨_,h3⟩ | h3
  · rw [h3] at h2; exact absurd h2 (by decide)
  · exact h3
theorem Im.head (h:Im now n p ns g xs gs e) (i:Nat) (hi:i < ns):∃ er:Int,(∀ W,Calls Tryz.prog 142 #[.string (now (1 + i * p))] W fun e w'=>e = .returned (.tuple #[.agg (g i).cs,.int .i64 er]) ∧ Below W.heap.size W w') ∧ ((g i).c ≠ 3 ∨ (er = 0 ∧ (g i).c = 3 ∧ (g i).j = 7 ∧ (g i).n < 18446744073709551616)):=by
  rcases h.hd i hi with ⟨h1,h2⟩ | ⟨h1,h2,h3,h4⟩
  · obtain ⟨er,hr⟩:=H.tohead_other (F.pad ⟨#[]⟩) (F.pad_size _ (by decide)) (by rw [pad0]; decide)
    rw [h1,h2]
    exact ⟨er,hr,Or.inl (by decide)⟩
  · rw [h4]
    exact ⟨0,fun W=>H.tohead_back _ h1 W,Or.inr ⟨rfl,h2,h3,h1.n⟩⟩
theorem Im.ends (h:Im now n p ns g xs gs e) (hfit:1 + ns * p ≤ n) (i:Nat) (hi:i ∈ xs) (M a:Nat):Ends now n ⟨M,3,7,(g i).n,1 + i * p,p,a⟩ (e i):=by
  rcases Nat.lt_or_ge (e i) p with hlt | hge
  · have h1:=(h.ch i hi).lt.1
    have hin:=h.lt i hi
    have hs:=seg_lt (p:=p) hin
    rcases h.old i hin (e i) h1 hlt with h2 | ⟨q,hq,h3,h4,h5⟩
    · exact ends_other (s:=⟨M,3,7,(g i).n,1 + i * p,p,a⟩) h1 (h.ks _ (by show 1 + i * p + e i < n; omega)) h2
    · intro _
      refine ⟨q,0,by have:=hq.ak; omega,fun W=>?_,fun st ats sure _ _ e2=>?_⟩
      · show Calls Tryz.prog 131 #[.string (now (1 + i * p + e i))] W _
        rw [h3]; exact tocommit_back _ hq W
      · have e3:q.n = (g i).n:=congrArg Cm.n e2
        exact absurd (h5 ((h.mem i).1 hi).2.2 e3) (Nat.lt_irrefl _)
  · exact ends_out hge
theorem Im.start (h:Im now n p ns g xs gs e) (hp:8 ≤ p) (k m:Nat) (hk:k < ns) (hkx:k ∉ xs) (hm:∀ i,i < ns → (g i).n ≤ m) (hm2:m + 1 < 18446744073709551616) :
    Im (F.lay now (1 + k * p) (Hd.mk 3 7 (m + 1) false).sec 1) n p ns (fun i=>if i = k then ⟨3,7,m + 1,false⟩ else g i) (xs ++ [k]) (fun i=>if i = k then [] else gs i) (fun i=>if i = k then 1 else e i):=by
  have hne:∀ i t,i ≠ k → t < p → F.lay now (1 + k * p) (Hd.mk 3 7 (m + 1) false).sec 1 (1 + i * p + t) = now (1 + i * p + t):=fun i t hi ht=>lay1_ne _ _ _ _ (by have:=seg_ne (u:=0) hi ht (by omega:0 < p); omega)
  have hne2:∀ i t,1 ≤ t → t < p → F.lay now (1 + k * p) (Hd.mk 3 7 (m + 1) false).sec 1 (1 + i * p + t) = now (1 + i * p + t):=fun i t h1 ht=>by
    by_cases hi:i = k
    · subst hi; exact lay1_ne _ _ _ _ (by omega)
    · exact hne i t hi ht
  have hxk:∀ i ∈ xs,i ≠ k:=fun i hi e=>hkx (e ▸ hi)
  refine ⟨fun i hi=>?_,fun i hi=>?_,fun i hi t h1 h2=>?_,fun i hi=>?_,fun i hi=>?_,fun i=>?_,?_⟩
  · show (_ ∧ (if i = k then (⟨3,7,m + 1,false⟩:Hd) else g i) = _) ∨ ((if i = k then (⟨3,7,m + 1,false⟩:Hd) else g i).Ok ∧ (if i = k then (⟨3,7,m + 1,false⟩:Hd) else g i).c = 3 ∧ (if i = k then (⟨3,7,m + 1,false⟩:Hd) else g i).j = 7 ∧ _ = (if i = k then (⟨3,7,m + 1,false⟩:Hd) else g i).sec)
    by_cases hik:i = k
    · subst hik
      rw [if_pos rfl]
      exact Or.inr ⟨⟨(by decide:(3:Nat) < 18446744073709551616),(by decide:(7:Nat) < 18446744073709551616),by show 1 ≤ m + 1; omega,hm2⟩,rfl,rfl,lay1_eq _ _ _ (Hd.sec_size _)⟩
    · rw [if_neg hik]
      have e1:_ = now (1 + i * p):=hne i 0 hik (by omega)
      rw [show 1 + i * p = 1 + i * p + 0 from rfl,e1]
      exact h.hd i hi
  · by_cases hik:i = 1 + k * p
    · rw [hik,lay1_eq _ _ _ (Hd.sec_size _)]; exact hd_ksec _
    · rw [lay1_ne _ _ _ _ hik]; exact h.ks i hi
  · show _ ∨ ∃ q:Cm,q.Ok ∧ _ = q.sec ∧ q.n ≤ (if i = k then (⟨3,7,m + 1,false⟩:Hd) else g i).n ∧ ((if i = k then (⟨3,7,m + 1,false⟩:Hd) else g i).fr = false → q.n = (if i = k then (⟨3,7,m + 1,false⟩:Hd) else g i).n → t < (if i = k then 1 else e i))
    rw [hne2 i t h1 h2]
    rcases h.old i hi t h1 h2 with h3 | ⟨q,hq,h3,h4,h5⟩
    · exact Or.inl h3
    · refine Or.inr ⟨q,hq,h3,?_⟩
      by_cases hik:i = k
      · rw [if_pos hik,if_pos hik]
        have:=hm i hi
        exact ⟨by show q.n ≤ m + 1; omega,fun _ e2=>by have e3:q.n = m + 1:=e2; omega⟩
      · rw [if_neg hik,if_neg hik]; exact ⟨h4,h5⟩
  · show Chn _ ⟨0,3,7,(if i = k then (⟨3,7,m + 1,false⟩:Hd) else g i).n,1 + i * p,p,0⟩ (if i = k then [] else gs i) (if i = k then 1 else e i)
    rcases List.mem_append.1 hi with hi | hi
    · have hik:=hxk i hi
      rw [if_neg hik,if_neg hik,if_neg hik]
      exact Chn.ofL (h.ch i hi) (fun u a b=>hne2 i u a (by have:=h.ep i hi; omega))
    · have hik:=List.mem_singleton.1 hi
      rw [if_pos hik,if_pos hik,if_pos hik]
      exact Chn.nil
  · show (if i = k then 1 else e i) ≤ p
    rcases List.mem_append.1 hi with hi | hi
    · rw [if_neg (hxk i hi)]; exact h.ep i hi
    · rw [if_pos (List.mem_singleton.1 hi)]; omega
  · show _ ↔ _ ∧ (if i = k then (⟨3,7,m + 1,false⟩:Hd) else g i).c = 3 ∧ (if i = k then (⟨3,7,m + 1,false⟩:Hd) else g i).fr = false
    rw [List.mem_append,List.mem_singleton]
    by_cases hik:i = k
    · rw [if_pos hik]
      exact ⟨fun _=>⟨by omega,rfl,rfl⟩,fun _=>Or.inr hik⟩
    · rw [if_neg hik,h.mem i]
      exact ⟨fun h1=>h1.resolve_right hik,Or.inl⟩
  · refine List.pairwise_append.2 ⟨h.asc.imp_of_mem (fun {a b} ha hb hab=>?_),List.pairwise_singleton _ _,fun a ha b hb=>?_⟩
    · show (if a = k then (⟨3,7,m + 1,false⟩:Hd) else g a).n < (if b = k then (⟨3,7,m + 1,false⟩:Hd) else g b).n
      rw [if_neg (hxk a ha),if_neg (hxk b hb)]; exact hab
    · show (if a = k then (⟨3,7,m + 1,false⟩:Hd) else g a).n < (if b = k then (⟨3,7,m + 1,false⟩:Hd) else g b).n
      rw [if_neg (hxk a ha),if_pos (List.mem_singleton.1 hb)]
      have:=hm a (h.lt a ha)
      show (g a).n < m + 1; omega
theorem Im.reclaim (h:Im now n p ns g xs gs e) (hp:8 ≤ p) (k:Nat) (hkx:k ∈ xs) :
    Im (F.lay now (1 + k * p) (Hd.mk 3 7 (g k).n true).sec 1) n p ns (fun i=>if i = k then ⟨3,7,(g k).n,true⟩ else g i) (xs.erase k) gs e:=by
  have hne:∀ i t,i ≠ k → t < p → F.lay now (1 + k * p) (Hd.mk 3 7 (g k).n true).sec 1 (1 + i * p + t) = now (1 + i * p + t):=fun i t hi ht=>lay1_ne _ _ _ _ (by have:=seg_ne (u:=0) hi ht (by omega:0 < p); omega)
  have hne2:∀ i t,1 ≤ t → t < p → F.lay now (1 + k * p) (Hd.mk 3 7 (g k).n true).sec 1 (1 + i * p + t) = now (1 + i * p + t):=fun i t h1 ht=>by
    by_cases hi:i = k
    · subst hi; exact lay1_ne _ _ _ _ (by omega)
    · exact hne i t hi ht
  have hx:∀ i ∈ xs.erase k,i ≠ k ∧ i ∈ xs:=fun i hi=>(h.nd.mem_erase_iff).1 hi
  obtain ⟨hk1,hk2,hk3,hk4⟩:=h.hok k hkx
  refine ⟨fun i hi=>?_,fun i hi=>?_,fun i hi t h1 h2=>?_,fun i hi=>?_,fun i hi=>h.ep i (hx i hi).2,fun i=>?_,?_⟩
  · show (_ ∧ (if i = k then (⟨3,7,(g k).n,true⟩:Hd) else g i) = _) ∨ ((if i = k then (⟨3,7,(g k).n,true⟩:Hd) else g i).Ok ∧ (if i = k then (⟨3,7,(g k).n,true⟩:Hd) else g i).c = 3 ∧ (if i = k then (⟨3,7,(g k).n,true⟩:Hd) else g i).j = 7 ∧ _ = (if i = k then (⟨3,7,(g k).n,true⟩:Hd) else g i).sec)
    by_cases hik:i = k
    · subst hik
      rw [if_pos rfl]
      exact Or.inr ⟨⟨(by decide:(3:Nat) < 18446744073709551616),(by decide:(7:Nat) < 18446744073709551616),hk1.n0,hk1.n⟩,rfl,rfl,lay1_eq _ _ _ (Hd.sec_size _)⟩
    · rw [if_neg hik]
      have e1:_ = now (1 + i * p):=hne i 0 hik (by omega)
      rw [show 1 + i * p = 1 + i * p + 0 from rfl,e1]
      exact h.hd i hi
  · by_cases hik:i = 1 + k * p
    · rw [hik,lay1_eq _ _ _ (Hd.sec_size _)]; exact hd_ksec _
    · rw [lay1_ne _ _ _ _ hik]; exact h.ks i hi
  · show _ ∨ ∃ q:Cm,q.Ok ∧ _ = q.sec ∧ q.n ≤ (if i = k then (⟨3,7,(g k).n,true⟩:Hd) else g i).n ∧ ((if i = k then (⟨3,7,(g k).n,true⟩:Hd) else g i).fr = false → q.n = (if i = k then (⟨3,7,(g k).n,true⟩:Hd) else g i).n → t < e i)
    rw [hne2 i t h1 h2]
    rcases h.old i hi t h1 h2 with h3 | ⟨q,hq,h3,h4,h5⟩
    · exact Or.inl h3
    · refine Or.inr ⟨q,hq,h3,?_⟩
      by_cases hik:i = k
      · subst hik
        rw [if_pos rfl]
        exact ⟨h4,fun x=>by cases x⟩
      · rw [if_neg hik]; exact ⟨h4,h5⟩
  · obtain ⟨hik,hi2⟩:=hx i hi
    show Chn _ ⟨0,3,7,(if i = k then (⟨3,7,(g k).n,true⟩:Hd) else g i).n,1 + i * p,p,0⟩ (gs i) (e i)
    rw [if_neg hik]
    exact Chn.ofL (h.ch i hi2) (fun u a b=>hne2 i u a (by have:=h.ep i hi2; omega))
  · show _ ↔ _ ∧ (if i = k then (⟨3,7,(g k).n,true⟩:Hd) else g i).c = 3 ∧ (if i = k then (⟨3,7,(g k).n,true⟩:Hd) else g i).fr = false
    rw [h.nd.mem_erase_iff]
    by_cases hik:i = k
    · rw [if_pos hik]
      exact ⟨fun h1=>absurd hik h1.1,fun h1=>by cases h1.2.2⟩
    · rw [if_neg hik,h.mem i]
      exact ⟨fun h1=>h1.2,fun h1=>⟨hik,h1⟩⟩
  · refine (h.asc.sublist (List.erase_sublist)).imp_of_mem (fun {a b} ha hb hab=>?_)
    show (if a = k then (⟨3,7,(g k).n,true⟩:Hd) else g a).n < (if b = k then (⟨3,7,(g k).n,true⟩:Hd) else g b).n
    rw [if_neg (hx a ha).1,if_neg (hx b hb).1]; exact hab
theorem Im.append (h:Im now n p ns g xs gs e) (hp:8 ≤ p ∧ p ≤ 64) (hns:ns ≤ 100) (i M k:Nat) (x:ByteArray) (hi:i ∈ xs) (hx:x.size = 63 * k) (hk:1 ≤ k) (hr:e i + k < p) :
    Im (layC now ⟨M,3,7,(g i).n,1 + i * p,p,e i⟩ x k) n p ns g xs (fun j=>if j = i then gs i ++ [(e i,x)] else gs j) (fun j=>if j = i then e i + 1 + k else e j):=by
  obtain ⟨hk1,hk2,hk3,hk4⟩:=h.hok i hi
  have he1:=(h.ch i hi).lt.1
  have hin:=h.lt i hi
  have hip:i * p ≤ 6400:=Nat.le_trans (Nat.mul_le_mul (Nat.le_trans (Nat.le_of_lt hin) hns) hp.2) (by decide)
  obtain ⟨s,hs⟩:∃ s:Sg,s = ⟨M,3,7,(g i).n,1 + i * p,p,e i⟩:=⟨_,rfl⟩
  have hsb:s.b = 1 + i * p:=by rw [hs]
  have hsa:s.a = e i:=by rw [hs]
  have hsp:s.p = p:=by rw [hs]
  have hsn:s.n = (g i).n:=by rw [hs]
  have hsok:s.Ok:=by rw [hs]; exact ⟨(by decide:(3:Nat) < 18446744073709551616),(by decide:(7:Nat) < 18446744073709551616),hk1.n,by show 1 + i * p ≤ 10000; omega,hp.1,hp.2,he1,by show e i ≤ p; omega⟩
  rw [← hs]
  have hlow:∀ j t,t < p → (j ≠ i ∨ t < e i ∨ e i + 1 + k ≤ t) → layC now s x k (1 + j * p + t) = now (1 + j * p + t):=by
    intro j t ht hj
    by_cases hji:j = i
    · subst hji
      rcases hj with h1 | h1 | h1
      · exact absurd rfl h1
      · exact layC_lt _ (by rw [hsb,hsa]; omega)
      · exact layC_ge _ (by rw [hsb,hsa]; omega)
    · rcases Nat.lt_or_gt_of_ne hji with h1 | h1
      · have:=seg_lt (p:=p) h1
        exact layC_lt _ (by rw [hsb,hsa]; omega)
      · have:=seg_lt (p:=p) h1
        exact layC_ge _ (by rw [hsb,hsa]; omega)
  have hcmok:(s.cm s.a x).Ok:=⟨hsok.c,hsok.j,hsok.n,hsok.a0,by show 1 ≤ x.size / 63; omega,by show s.a + x.size / 63 ≤ 63; omega,sm_lt x⟩
  refine ⟨fun j hj=>?_,?_,fun j hj t h1 h2=>?_,fun j hj=>?_,fun j hj=>?_,h.mem,h.asc⟩
  · have:=hlow j 0 (by omega) (by by_cases hji:j = i; exact Or.inr (Or.inl (by omega)); exact Or.inl hji)
    have e1:layC now s x k (1 + j * p) = now (1 + j * p):=this
    rw [e1]; exact h.hd j hj
  · exact layC_ksec hsok hx hk (by rw [hsa,hsp]; exact hr) h.ks
  · show _ ∨ ∃ q:Cm,q.Ok ∧ _ = q.sec ∧ q.n ≤ (g j).n ∧ ((g j).fr = false → q.n = (g j).n → t < (if j = i then e i + 1 + k else e j))
    by_cases hji:j = i
    · subst hji
      rw [if_pos rfl]
      rcases Nat.lt_trichotomy t (e j) with h3 | h3 | h3
      · rw [hlow j t h2 (Or.inr (Or.inl h3))]
        rcases h.old j hj t h1 h2 with h4 | ⟨q,q1,q2,q3,q4⟩
        · exact Or.inl h4
        · exact Or.inr ⟨q,q1,q2,q3,fun _ _=>by omega⟩
      · have e1:1 + j * p + t = s.b + s.a:=by rw [hsb,hsa]; omega
        rw [e1,layC_com]
        exact Or.inr ⟨_,hcmok,rfl,by show s.n ≤ _; omega,fun _ _=>by omega⟩
      · rcases Nat.lt_or_ge t (e j + 1 + k) with h4 | h4
        · left
          obtain ⟨u,rfl⟩:∃ u,t = e j + 1 + u:=⟨t - (e j + 1),by omega⟩
          have e1:1 + j * p + (e j + 1 + u) = s.b + s.a + 1 + u:=by rw [hsb,hsa]; omega
          have e2:layC now s x k (s.b + s.a + 1 + u) = layP now s x k (s.b + s.a + 1 + u):=layP_same _ (by omega)
          rw [e1,e2,(V.layP_d (now:=now) hsok hx (by rw [hsa,hsp]; exact hr) u (by omega)).2]
          decide
        · rw [hlow j t h2 (Or.inr (Or.inr h4))]
          rcases h.old j hj t h1 h2 with h5 | ⟨q,q1,q2,q3,q4⟩
          · exact Or.inl h5
          · exact Or.inr ⟨q,q1,q2,q3,fun a b=>by have:=q4 a b; omega⟩
    · rw [if_neg hji,hlow j t h2 (Or.inl hji)]
      exact h.old j hj t h1 h2
  · show Chn _ ⟨0,3,7,(g j).n,1 + j * p,p,0⟩ (if j = i then gs i ++ [(e i,x)] else gs j) (if j = i then e i + 1 + k else e j)
    by_cases hji:j = i
    · subst hji
      rw [if_pos rfl,if_pos rfl]
      refine Chn.next (Chn.ofL (h.ch j hj) (fun u a b=>hlow j u (by omega) (Or.inr (Or.inl b)))) ⟨hx,hk,hr,?_,fun u hu=>?_⟩
      · have:layC now s x k (s.b + s.a) = (s.cm s.a x).sec:=layC_com
        rw [hsb,hsa] at this
        rw [this,hs]; rfl
      · have:layC now s x k (s.b + s.a + 1 + u) = F.pad (F.chunk (O.tx (secP x k)) u):=layC_pay u hu
        rw [hsb,hsa] at this
        exact this
    · rw [if_neg hji,if_neg hji]
      exact Chn.ofL (h.ch j hj) (fun u a b=>hlow j u (by have:=h.ep j hj; omega) (Or.inl hji))
  · show (if j = i then e i + 1 + k else e j) ≤ p
    by_cases hji:j = i
    · rw [if_pos hji]; omega
    · rw [if_neg hji]; exact h.ep j hj
end
end Go.Proofs.YtncfbocbigdhiaaGreat.U

/- The cells of the places of a segment's groups. -/
namespace Go.Proofs.YtncfbocbigdhiaaGreat.U
open Go Go.RowKit Go.Sort
def locC (i:Nat) (P:List Nat) (m:Nat):List Value:=[nv i,nv P[m]!,.int .i64 ((P[m + 1]!:Int) - (P[m]!:Int) - 1)]
def segC (i:Nat) (P:List Nat) (k:Nat):List Value:=(List.range k).flatMap (locC i P)
theorem segC_len (i:Nat) (P:List Nat):∀ k,(segC i P k).length = 3 * k
  | 0=>rfl
  | k + 1=>by
    have:=segC_len i P k
    unfold segC at this ⊢
    rw [List.range_succ,List.flatMap_append,List.length_append,this]
    simp [locC]
    omega
theorem segC_get (i:Nat) (P:List Nat):∀ (k m:Nat),m < k → (segC i P k)[3 * m]? = some (nv i) ∧ (segC i P k)[3 * m + 1]? = some (nv P[m]!) ∧ (segC i P k)[3 * m + 2]? = some (.int .i64 ((P[m + 1]!:Int) - (P[m]!:Int) - 1))
  | 0,m,h=>absurd h (Nat.not_lt_zero _)
  | k + 1,m,h=>by
    have hl:=segC_len i P k
    have e:segC i P (k + 1) = segC i P k ++ locC i P k:=by
      unfold segC
      rw [List.range_succ,List.flatMap_append]
      simp
    rw [e]
    rcases Nat.lt_or_ge m k with c | c
    · obtain ⟨a,b,d⟩:=segC_get i P k m c
      rw [List.getElem?_append_left (by omega),List.getElem?_append_left (by omega),List.getElem?_append_left (by omega)]
      exact ⟨a,b,d⟩
    · obtain rfl:m = k:=by omega
      rw [List.getElem?_append_right (by omega),List.getElem?_append_right (by omega),List.getElem?_append_right (by omega),hl]
      rw [show 3 * m - 3 * m = 0 by omega,show 3 * m + 1 - 3 * m = 1 by omega,show 3 * m + 2 - 3 * m = 2 by omega]
      exact ⟨rfl,rfl,rfl⟩
theorem segC_of {i k:Nat} {P:List Nat} {ys:List Value} (hl:ys.length = k * 3) (h:∀ m,m < k → ys[3 * m]? = some (nv i) ∧ ys[3 * m + 1]? = some (nv P[m]!) ∧ ys[3 * m + 2]? = some (.int .i64 ((P[m + 1]!:Int) - (P[m]!:Int) - 1))):ys = segC i P k:=by
  apply List.ext_getElem?
  intro m
  have h2:=segC_len i P k
  rcases Nat.lt_or_ge m (k * 3) with c | c
  · obtain ⟨a,r,e,hr⟩:∃ a r,m = 3 * a + r ∧ r < 3:=⟨m / 3,m % 3,by omega,by omega⟩
    obtain ⟨x,y,z⟩:=h a (by omega)
    obtain ⟨x2,y2,z2⟩:=segC_get i P k a (by omega)
    rcases (by omega:r = 0 ∨ r = 1 ∨ r = 2) with rfl | rfl | rfl
    · rw [e,Nat.add_zero,x,x2]
    · rw [e,y,y2]
    · rw [e,z,z2]
  · rw [List.getElem?_eq_none (by omega),List.getElem?_eq_none (by omega)]
theorem info77b:(Tryz.prog.info? 77).map (fun i=>(i.zero,i.size,i.bytes)) = some (some (.agg #[.int .i64 0,.int .i64 0,.int .i64 0]),3,24):=by kernel_rfl
theorem segC_one (i:Nat) (P:List Nat) (k:Nat):∀ u ∈ segC i P k,u.oneCell' = true:=by
  intro u hu
  unfold segC at hu
  obtain ⟨m,_,h⟩:=List.mem_flatMap.1 hu
  simp only [locC,List.mem_cons,List.not_mem_nil,or_false] at h
  rcases h with rfl | rfl | rfl <;> rfl
theorem lapp {ops:Array Oper} {rest:List Oper} {o:Oper} {a:Act} {w:World} {Q:Exit → Act → World → Prop} (hgd:o.guard = none) (s x:Operand) (ho:o.op = .call { callee:=.builtin .append,args:=#[s,x],argTypes:=#[113,113] })
    (base:Nat) (v:Value) (n:Nat) (ys:List Value) (hs:a.eval s = v) (hown:w.ownsRow base 77 3 v n ys) (A k:Nat) (hx:a.eval x = .slice (some ⟨A,0,none⟩) k k) (zs:List Value) (hz:w.ownsRow base 77 3 (.slice (some ⟨A,0,none⟩) k k) k zs) (h1:∀ u ∈ zs,u.oneCell' = true) (hl:n + k ≤ 100000) (hb:base ≤ w.heap.size)
    (kk:∀ (v':Value) (w':World),w'.ownsRow base 77 3 v' (n + k) (ys ++ zs) → w.grownBy w' v.ownBlock → (v' = .slice none 0 0 ↔ v = .slice none 0 0 ∧ k = 0) → (v'.ownBlock = v.ownBlock ∨ v'.ownBlock = some w.heap.size) → Stop (wpList Tryz.prog ops Q rest (a.put o.dst v') w')):wpList Tryz.prog ops Q (o :: rest) a w:=by
  refine wpList_plain hgd fun K hK=>?_
  obtain ⟨i,hi,hzr,hsz,hby⟩:=info_parts info77b
  obtain ⟨v',W',hr,r2,r3,r4,r5⟩:=run_append_own_at (P:=Tryz.prog) w base 113 o.type 77 i (.agg #[.int .i64 0,.int .i64 0,.int .i64 0]) 3 24 Tryz.underlying113 hi hzr hsz hby (by kernel_rfl) (by decide) v n ys hown ⟨A,0,none⟩ k k zs hz.1 (fun j u hj=>by
    have hj2:j < k * 3:=by rw [← hz.1]; exact (List.getElem?_eq_some_iff.1 hj).1
    rw [Addr.add_lit,Nat.zero_add,World.ownsRow.cellAt hz j hj2]
    exact hj) h1 (by unfold maxLen; omega) (by omega) hb
  unfold Oper.wp execOp
  simp only [ho,resolve,invoke,builtin,Sem.run_bind,Sem.run_pure,Result.andThen_ok,List.map_toArray,List.map_cons,List.map_nil,hs,hx,hr]
  exact hK _ _ (kk v' W' r2 r3 r4 r5)
end Go.Proofs.YtncfbocbigdhiaaGreat.U

/- seglog.Open, as a call: its walk. -/
namespace Go.Proofs.YtncfbocbigdhiaaGreat.U
open Go Go.RowKit Go.Sort
def allC (P:Nat → List Nat) (K:Nat → Nat) (l:List Nat):List Value:=l.flatMap (fun i=>segC i (P i) (K i))
def allN (K:Nat → Nat):List Nat → Nat
  | []=>0
  | i :: l=>K i + allN K l
theorem allN_snoc (K:Nat → Nat):∀ (l:List Nat) (i:Nat),allN K (l ++ [i]) = allN K l + K i
  | [],i=>by simp [allN]
  | a :: l,i=>by
    show K a + allN K (l ++ [i]) = K a + allN K l + K i
    rw [allN_snoc K l i]; omega
theorem allN_take (K:Nat → Nat):∀ (l:List Nat) (t:Nat),allN K (l.take t) ≤ allN K l
  | [],t=>by simp [allN]
  | a :: l,0=>Nat.zero_le _
  | a :: l,t + 1=>by
    show K a + allN K (l.take t) ≤ K a + allN K l
    have:=allN_take K l t; omega
theorem allC_snoc (P:Nat → List Nat) (K:Nat → Nat) (l:List Nat) (i:Nat):allC P K (l ++ [i]) = allC P K l ++ segC i (P i) (K i):=by
  unfold allC; rw [List.flatMap_append]; simp
structure Opn (M c j p G ns:Nat) (g:Nat → Hd) (xs:List Nat) (e:Nat → Nat) (t:Nat) (l:Lg):Prop where
  eM:l.M = M
  ec:l.c = c
  ej:l.j = j
  ep:l.p = p
  eG:l.G = G
  ens:l.ns = ns
  elv:l.lv = xs
  enu:∀ k ∈ xs,l.nu k = (g k).n
  em:l.m = mxN c g ns
  ea:∀ m (h:m < xs.length),m < t → l.a xs[m] = e xs[m]
theorem Opn.next {M c j p G ns:Nat} {g:Nat → Hd} {xs:List Nat} {e:Nat → Nat} {t:Nat} {l:Lg} (h:Opn M c j p G ns g xs e t l) (ht:t < xs.length) (i:Nat) (hi:xs[t] = i):Opn M c j p G ns g xs e (t + 1) (l.to i (e i)):=by
  refine ⟨h.eM,h.ec,h.ej,h.ep,h.eG,h.ens,h.elv,h.enu,h.em,fun m hm hmt=>?_⟩
  show (if xs[m] = i then e i else l.a xs[m]) = e xs[m]
  by_cases x:xs[m] = i
  · rw [if_pos x,x]
  · rw [if_neg x]
    refine h.ea m hm ?_
    rcases Nat.lt_or_ge m t with c | c
    · exact c
    · obtain rfl:m = t:=by omega
      exact absurd hi x
section
variable {T:Nat} {w:World} {L:F.Loc} {q:Int} {n:Nat} {oth:List (Nat × Obj)} {now su:Nat → ByteArray} {c:Int} {W:World}
set_option maxHeartbeats 2000000 in
set_option maxRecDepth 100000 in
theorem open_any (h:Dev T w L q n oth now su c W) (M cc j p ns:Nat) (hM:(M,F.med L.P 1 q) ∈ oth) (h5:∀ r ∈ oth,∀ c fz,r.2 ≠ .cells c 5 fz) (hp:8 ≤ p ∧ p ≤ 64) (hns:2 ≤ ns ∧ ns ≤ 1000) (hcj:cc < 18446744073709551616 ∧ j < 18446744073709551616) (hfit:1 + ns * p ≤ n) (hn1:n ≤ 1000) (hcnt:c ≤ 2000000) (g:Nat → Hd) (er:Nat → Int)
    (hg:∀ i,i < ns → ∀ W,Calls Tryz.prog 142 #[.string (now (1 + i * p))] W fun e w'=>e = .returned (.tuple #[.agg (g i).cs,.int .i64 (er i)]) ∧ Below W.heap.size W w') (hcase:∀ i,i < ns → (g i).c ≠ cc ∨ (er i = 0 ∧ (g i).c = cc ∧ (g i).j = j ∧ (g i).n < 18446744073709551616)) (hmx:∀ i,i ≤ ns → mxN cc g i < 18446744073709551616) (hl19:(lvN cc g ns).length ≤ 19) (xs:List Nat) (hxs:xs.Perm (lvN cc g ns)) (hasc:xs.Pairwise (fun x y=>(g x).n < (g y).n)) (gs:Nat → List (Nat × ByteArray)) (e:Nat → Nat) (hks:∀ i,i < n → Ksec (now i)) (hch:∀ i ∈ xs,∀ a,Chn now ⟨M,cc,j,(g i).n,1 + i * p,p,a⟩ (gs i) (e i)) (hen:∀ i ∈ xs,∀ a,Ends now n ⟨M,cc,j,(g i).n,1 + i * p,p,a⟩ (e i)) (hep:∀ i ∈ xs,e i ≤ p ∧ (gs i).length ≤ 64) (hsum:c + 1 + ns + 66 * allN (fun i=>(gs i).length) xs + 66 * xs.length ≤ 4000000) :
    Calls Tryz.prog 72 #[.pointer (some ⟨M,0,none⟩),.int .u64 (cc:Nat),.int .u64 (j:Nat),.int .i64 (ns:Nat),.int .i64 (p:Nat)] W fun r W'=>∃ B l v ol av la,r = .returned (.tuple #[.pointer (some ⟨B + 1,0,none⟩),av]) ∧ Opn M cc j p B ns g xs e xs.length l ∧ Lcs av (allN (fun i=>(gs i).length) xs) (allC (fun i=>(gs i).map Prod.fst ++ [e i]) (fun i=>(gs i).length) xs) la ∧ LgI T w L q n (B + 1) l v ol (la ++ oth) now now (c + 1 + ns + 66 * allN (fun i=>(gs i).length) xs + 66 * xs.length) W' ∧ ∀ r ∈ la,∀ s ∈ oth,r.1 ≠ s.1:=by
  have hz:=LgI.zero h M cc j p ns hM h5 hp ⟨by omega,hns.2⟩ hcj
  have hmk:=mk_segs ns hns.2 W
  have HD:Hid (Dev T w L q n oth now su c W):=h
  have d1:decide ((ns:Int) < 2) = false:=by simp; omega
  have d2:decide ((1000:Int) < (ns:Int)) = false:=by simp; omega
  have d3:decide ((p:Int) < 8) = false:=by simp; omega
  have d4:decide ((64:Int) < (p:Int)) = false:=by simp; omega
  have hz2:=hz.hold (.cells #[.pointer (some ⟨W.heap.size + 1,0,none⟩)] 62) (F.apart_of (by decide)) (fun _ _=>cells_ne2 (by decide))
  have e2:((W.alloc (.cells (Array.replicate ns (.pointer none)) 28)).alloc (.cells ((lg0 M cc j p W.heap.size ns).cs (.slice none 0 0)) 128)).heap.size = W.heap.size + 1 + 1:=by simp
  rw [e2] at hz2
  have hms:=hz2.makeSure (by omega)
  have HG:Hid _:=hg
  have HCS:Hid _:=hcase
  have HMX:Hid _:=hmx
  have HFIT:Hid (1 + ns * p ≤ n ∧ n ≤ 1000 ∧ c ≤ 2000000 ∧ ns ≤ 1000 ∧ 8 ≤ p):=⟨hfit,hn1,hcnt,hns.2,hp.1⟩
  have hns1000:=hns.2
  have HC0:Hid (0 ≤ c):=by
    show 0 ≤ c
    obtain ⟨st,lv,ats,x1,x2,x3,x4,x5,x6,x7,x8,x9,_⟩:=h.ex
    omega
  have HSC:Hid ((∀ i,i < n → Ksec (now i)) ∧ (∀ i ∈ xs,∀ a,Chn now ⟨M,cc,j,(g i).n,1 + i * p,p,a⟩ (gs i) (e i)) ∧ (∀ i ∈ xs,∀ a,Ends now n ⟨M,cc,j,(g i).n,1 + i * p,p,a⟩ (e i)) ∧ (∀ i ∈ xs,e i ≤ p ∧ (gs i).length ≤ 64) ∧ c + 1 + ns + 66 * allN (fun i=>(gs i).length) xs + 66 * xs.length ≤ 4000000 ∧ (M,F.med L.P 1 q) ∈ oth):=⟨hks,hch,hen,hep,hsum,hM⟩
  have HXS:Hid ((lvN cc g ns).length ≤ 19 ∧ xs.Perm (lvN cc g ns) ∧ xs.Pairwise (fun x y=>(g x).n < (g y).n)):=⟨hl19,hxs,hasc⟩
  clear h hz h5 hM hz2 hg hcase hmx e2 hfit hl19 hxs hasc hks hch hen hep hsum
  unfold Lg.cs lg0 at hms
  go_enter Tryz.func72,Tryz.ntmps72
  go_wp2_with fail
  go_call hms as e0 w1 ⟨rfl,h1⟩
  replace h1:LgI T w L q n (W.heap.size + 1) (lg0 M cc j p W.heap.size ns) (.slice none 0 0) [] ((W.heap.size + 1 + 1,.cells #[.pointer (some ⟨W.heap.size + 1,0,none⟩)] 62) :: oth) now now (c + 1) w1:=h1
  have H1:Hid _:=h1
  clear hms h1 hmk d1 d2 d3 d4
  go_wp2_with fail
  generalize W.heap.size = B at *
  go_loopw [45] (fun iv wr=>∃ i l v ol,iv = .int .i64 ((i:Nat):Int) ∧ i ≤ ns ∧ Fnd M cc j p B ns g i l ∧ LgI T w L q n (B + 1) l v ol ((B + 1 + 1,.cells #[.pointer (some ⟨B + 1,0,none⟩)] 62) :: oth) now now (c + 1 + i) wr) (fun iv _=>ns - (intOf iv).toNat)
  case atStart=>exact ⟨0,_,_,_,rfl,Nat.zero_le _,Fnd.zero _ _ _ _ _ _ _,by simpa using H1.out⟩
  case round=>
    obtain ⟨i,l,v,ol,rfl,hin,hf,hl⟩:=hrel
    have hX:=hl.dv.at' (p:=(B + 1 + 1,.cells #[.pointer (some ⟨B + 1,0,none⟩)] 62)) (by simp)
    have qX:wr.cell? ⟨B + 1 + 1,0,none⟩ = some (.pointer (some ⟨B + 1,0,none⟩)):=F.cell_of hX 0
    clear hX
    rcases Nat.lt_or_ge i ns with hi | hi
    · have hip:1 + i * p < n:=by
        have:=HFIT.out.1
        have h2:(i + 1) * p ≤ ns * p:=Nat.mul_le_mul_right p hi
        have h3:(i + 1) * p = i * p + p:=Nat.succ_mul i p
        have:=HFIT.out.2.2.2.2
        omega
      have hlk:=look_any hl i (by rw [hf.ens]; exact hi) (by rw [hf.ep]; exact hip) HFIT.out.2.1 (by have:=HFIT.out.2.2.1; omega) (g i) (er i) (by rw [hf.ep]; exact HG.out i hi) (by
        rw [hf.ec,hf.ej,hf.em]
        rcases HCS.out i hi with x | ⟨x1,x2,x3,x4⟩
        · exact Or.inl x
        · cases hfr:(g i).fr with
          | true=>exact Or.inr (Or.inl ⟨x1,x2,x3,rfl⟩)
          | false=>exact Or.inr (Or.inr ⟨x1,x2,x3,rfl,hf.efr i (Nat.le_refl _) hi,x4,HMX.out i hin⟩))
      have hiI:(i:Int) < (ns:Int):=by omega
      have HF:Hid _:=hf
      clear hl hf hip
      go_wp2_with fail
      go_call hlk as e3 w3 ⟨rfl,h3⟩
      have HN:Hid (∃ l' v' ol',Fnd M cc j p B ns g (i + 1) l' ∧ LgI T w L q n (B + 1) l' v' ol' ((B + 1 + 1,.cells #[.pointer (some ⟨B + 1,0,none⟩)] 62) :: oth) now now (c + 1 + ((i + 1:Nat):Int)) w3):=by
        have hf:=HF.out
        have e4:c + 1 + ((i + 1:Nat):Int) = c + 1 + (i:Int) + 1:=by omega
        rw [e4]
        rw [hf.ec] at h3
        rcases h3 with ⟨a,b⟩ | ⟨a,a2,b⟩ | ⟨a,a2,S,v',ol',b⟩
        · exact ⟨_,_,_,hf.skip a,b⟩
        · exact ⟨_,_,_,hf.free a a2,b⟩
        · exact ⟨_,_,_,hf.live a a2,b⟩
      clear hlk h3 qX
      go_wp2_with fail
      go_roundw
      case rel=>
        obtain ⟨l',v',ol',b1,b2⟩:=HN.out
        exact ⟨i + 1,l',v',ol',rfl,by omega,b1,b2⟩
      case measure=>simp only [intOf]; omega
    · obtain rfl:i = ns:=by omega
      have HF:Hid _:=hf
      have hlv:=hf.elv
      have hsort:=sort_any hl (by rw [hlv]; exact HXS.out.1) (B + 1 + 1) (by simp) xs (by rw [hlv]; exact HXS.out.2.1) (HXS.out.2.2.imp_of_mem (fun {a b} ha hb hab=>by
        rw [(HF.out.enu a (by rw [hlv]; exact HXS.out.2.1.mem_iff.1 ha)).1,(HF.out.enu b (by rw [hlv]; exact HXS.out.2.1.mem_iff.1 hb)).1]; exact hab))
      have q5:wr.cell? ⟨B + 1,5,none⟩ = some v:=F.cell_of hl.lz.b 5
      obtain ⟨ao,cp,hv⟩:=hl.pl.len
      have HV:Hid (v = .slice ao l.lv.length cp):=hv
      rw [hv] at q5 hsort
      clear hl hf hlv hv
      go_wp2_with fail
      go_call hsort as e3 w3 ⟨rfl,ol3,h3⟩
      have h3X:=h3.dv.at' (p:=(B + 1 + 1,.cells #[.pointer (some ⟨B + 1,0,none⟩)] 62)) (by simp)
      have qX3:w3.cell? ⟨B + 1 + 1,0,none⟩ = some (.pointer (some ⟨B + 1,0,none⟩)):=F.cell_of h3X 0
      have q53:w3.cell? ⟨B + 1,5,none⟩ = some (.slice ao l.lv.length cp):=F.cell_of h3.lz.b 5
      have hlk:l.lv.length = xs.length:=by rw [HF.out.elv]; exact HXS.out.2.1.length_eq.symm
      rw [hlk] at h3 q53
      have H3:Hid _:=h3
      clear hsort h3 h3X qX q5
      go_wp2_with fail
      clear hlk
      go_loopw [14,63] (fun av iv wr=>∃ t la lg ol,iv = .int .i64 ((t:Nat):Int) ∧ t ≤ xs.length ∧ Opn M cc j p B i g xs e t lg ∧ Lcs av (allN (fun i=>(gs i).length) (xs.take t)) (allC (fun i=>(gs i).map Prod.fst ++ [e i]) (fun i=>(gs i).length) (xs.take t)) la ∧ (allN (fun i=>(gs i).length) (xs.take t) = 0 → av = .slice none 0 0 ∧ la = []) ∧ (∀ r ∈ la,∀ s ∈ (B + 1 + 1,Obj.cells #[.pointer (some ⟨B + 1,0,none⟩)] 62) :: oth,r.1 ≠ s.1) ∧ LgI T w L q n (B + 1) lg (.slice ao xs.length cp) ol (la ++ ((B + 1 + 1,.cells #[.pointer (some ⟨B + 1,0,none⟩)] 62) :: oth)) now now (c + 1 + i + 66 * allN (fun i=>(gs i).length) (xs.take t) + 66 * t) wr) (fun _ iv _=>xs.length - (intOf iv).toNat)
      case atStart=>
        refine ⟨0,[],l.ord xs,ol3,rfl,Nat.zero_le _,⟨HF.out.eM,HF.out.ec,HF.out.ej,HF.out.ep,HF.out.eG,HF.out.ens,rfl,fun k hk=>(HF.out.enu k (by rw [HF.out.elv]; exact HXS.out.2.1.mem_iff.1 hk)).1,HF.out.em,fun m hm h0=>absurd h0 (Nat.not_lt_zero _)⟩,Lcs.nil,fun _=>⟨rfl,rfl⟩,(fun r hr=>by cases hr),?_⟩
        have e5:c + 1 + (i:Int) + 66 * ((allN (fun i=>(gs i).length) (xs.take 0):Nat):Int) + 66 * ((0:Nat):Int) = c + 1 + (i:Int):=by simp [allN]
        rw [e5]
        exact H3.out
      case round=>
        obtain ⟨t,la,lg,ol,rfl,ht,hop,hlc,hn0,hap,hl⟩:=hrel
        have hX:=hl.dv.at' (p:=(B + 1 + 1,.cells #[.pointer (some ⟨B + 1,0,none⟩)] 62)) (by simp)
        have qX:wr.cell? ⟨B + 1 + 1,0,none⟩ = some (.pointer (some ⟨B + 1,0,none⟩)):=F.cell_of hX 0
        clear hX
        rcases Nat.lt_or_ge t xs.length with htl | htl
        · obtain ⟨ao2,cp2,g2,hv2,hao,hcell⟩:=hl.lz.v
          injection hv2 with hv2 hA1 hA2
          clear hA1 hA2
          have hlen:lg.lv.length = xs.length:=by rw [hop.elv]
          have hao2:=hao (by omega)
          rw [← hv2] at hao2
          have qt:wr.cell? ⟨g2,t,none⟩ = some (nv xs[t]):=by
            rw [hcell t (by omega)]
            have:lg.lv[t]'(by omega) = xs[t]:=by congr 1; exact hop.elv
            rw [this]
          obtain ⟨x,hx⟩:∃ x,x = xs[t]:=⟨_,rfl⟩
          rw [← hx] at qt
          unfold nv at qt
          have hxm:x ∈ xs:=hx ▸ List.getElem_mem htl
          have htI:(t:Int) < (xs.length:Int):=by omega
          have hx19:xs.length ≤ 19:=by rw [HXS.out.2.1.length_eq]; exact HXS.out.1
          have hxi:x < i:=lvN_lt x (HXS.out.2.1.mem_iff.1 hxm)
          have htake:xs.take (t + 1) = xs.take t ++ [x]:=by rw [List.take_succ_eq_append_getElem htl,hx]
          have hNt:=allN_take (fun i=>(gs i).length) xs (t + 1)
          rw [htake,allN_snoc] at hNt
          replace hNt:allN (fun i=>(gs i).length) (xs.take t) + (gs x).length ≤ allN (fun i=>(gs i).length) xs:=hNt
          have hsg:lg.sg x = ⟨M,cc,j,(g x).n,1 + x * p,p,lg.a x⟩:=by
            unfold Lg.sg; rw [hop.eM,hop.ec,hop.ej,hop.ep,hop.enu x hxm]
          have hfx:1 + x * p + p ≤ n:=by
            have:=HFIT.out.1
            have h2:(x + 1) * p ≤ i * p:=Nat.mul_le_mul_right p hxi
            have h3:(x + 1) * p = x * p + p:=Nat.succ_mul x p
            omega
          have hscan:=scan_any hl x (by rw [hop.elv]; exact hxm) (by rw [hop.ep]; exact hfx) HFIT.out.2.1 (by
            rw [hop.enu x hxm]
            rcases HCS.out x hxi with y | ⟨_,_,_,y⟩
            · have:=(List.mem_filter.1 (HXS.out.2.1.mem_iff.1 hxm)).2
              exact absurd (of_decide_eq_true this).1 y
            · exact y) (by have:=HSC.out.2.2.2.2.1; omega) HSC.out.1 (gs:=gs x) (e:=e x) (by rw [hop.ep]; exact (HSC.out.2.2.2.1 x hxm).1) (HSC.out.2.2.2.1 x hxm).2 (by rw [hsg]; exact HSC.out.2.1 x hxm _) (by rw [hsg]; exact HSC.out.2.2.1 x hxm _)
          have HOP:Hid _:=hop
          have HLC:Hid _:=hlc
          have HN0:Hid _:=hn0
          have HAP:Hid _:=hap
          have HTK:Hid _:=htake
          have HX2:Hid (x = xs[t]):=hx
          have HNT:Hid _:=hNt
          clear hl hop hlc hn0 hap hao hcell hx htake hsg hNt hv2 hxm hlen
          subst hao2
          go_wp2_with fail
          go_call hscan as e3 w5 ⟨A,zs,rfl,hzo,hzs,h5⟩
          have hzl:zs = segC x ((gs x).map Prod.fst ++ [e x]) (gs x).length:=segC_of hzo.1 hzs
          subst hzl
          have hown:=(Lcs.own HLC.out h5.dv (fun r hr=>by simp [hr])).2
          have hT5:T ≤ w5.heap.size:=h5.dv.le
          have H5:Hid _:=h5
          have hk64:=(HSC.out.2.2.2.1 x (HX2.out ▸ List.getElem_mem htl)).2
          have hcap:allN (fun i=>(gs i).length) (xs.take t) + (gs x).length ≤ 100000:=by
            have h1:=HNT.out
            have h2:=HSC.out.2.2.2.2.1
            have h3:=HC0.out
            omega
          clear hscan h5 hzs qX qt
          go_wp2_with (first | refine lapp rfl _ _ rfl T u14 _ _ rfl hown A _ rfl _ hzo (segC_one _ _ _) hcap hT5 (fun av' w6 k1 k2 k3 k4=>?_) | fail)
          have HNEW:Hid (∃ la',Lcs av' (allN (fun i=>(gs i).length) (xs.take (t + 1))) (allC (fun i=>(gs i).map Prod.fst ++ [e i]) (fun i=>(gs i).length) (xs.take (t + 1))) la' ∧ (allN (fun i=>(gs i).length) (xs.take (t + 1)) = 0 → av' = .slice none 0 0 ∧ la' = []) ∧ (∀ r ∈ la',∀ s ∈ (B + 1 + 1,Obj.cells #[.pointer (some ⟨B + 1,0,none⟩)] 62) :: oth,r.1 ≠ s.1) ∧ LgI T w L q n (B + 1) (lg.to x (e x)) (.slice (some ⟨g2,0,none⟩) xs.length cp) ol (la' ++ ((B + 1 + 1,.cells #[.pointer (some ⟨B + 1,0,none⟩)] 62) :: oth)) now now (c + 1 + i + 66 * allN (fun i=>(gs i).length) (xs.take (t + 1)) + 66 * ((t + 1:Nat):Int)) w6):=by
            show ∃ la',_
            rw [HTK.out,allN_snoc,allC_snoc]
            have h5:=H5.out.more (d:=c + 1 + i + 66 * ((allN (fun i=>(gs i).length) (xs.take t) + (gs x).length:Nat):Int) + 66 * ((t + 1:Nat):Int)) (by omega)
            rcases Nat.eq_zero_or_pos (allN (fun i=>(gs i).length) (xs.take t) + (gs x).length) with hz | hz
            · obtain ⟨a1,a2⟩:=HN0.out (by omega)
              have a3:=k3.2 ⟨a1,by omega⟩
              subst a2
              have hb6:Below w5.heap.size w5 w6:=⟨k2.os,k2.tape,k2.output,k2.size,fun b hb=>k2.block b hb (by rw [a1]; exact fun x=>by cases x)⟩
              refine ⟨[],?_,fun _=>⟨a3,rfl⟩,(fun r hr=>by cases hr),h5.below hb6⟩
              have y1:=k1.1
              rw [hz] at y1
              have y2:=List.eq_nil_of_length_eq_zero (y1.trans (Nat.zero_mul 3))
              have y3:allN (fun i=>(gs i).length) (xs.take t) + (fun i=>(gs i).length) x = 0:=hz
              rw [y3,a3]
              exact Or.inl ⟨rfl,rfl,y2,rfl⟩
            · obtain ⟨la',b1,b2,b3⟩:=h5.growL (List.mem_cons_of_mem _ (by show ((lg.to x (e x)).M,_) ∈ oth; rw [show (lg.to x (e x)).M = M from HOP.out.eM]; exact HSC.out.2.2.2.2.2)) HLC.out HAP.out k2 k1 hz k4
              exact ⟨la',b1,fun x0=>by have:allN (fun i=>(gs i).length) (xs.take t) + (gs x).length = 0:=x0; omega,b3,b2⟩
          clear k1 k2 k3 k4 hown hzo hcap hT5
          unfold Stop
          go_wp2_with fail
          go_roundw
          case rel=>
            obtain ⟨la',b1,b2,b3,b4⟩:=HNEW.out
            exact ⟨t + 1,la',lg.to x (e x),ol,rfl,by omega,HOP.out.next htl x HX2.out.symm,b1,b2,b3,b4⟩
          case measure=>simp only [intOf]; omega
        · obtain rfl:t = xs.length:=by omega
          have htI:¬ ((xs.length:Nat):Int) < ((xs.length:Nat):Int):=by omega
          rw [List.take_length] at hlc hl
          have HLC:Hid _:=hlc
          have HL2:Hid _:=hl
          have HOP:Hid _:=hop
          have HAP:Hid _:=hap
          clear hl hop hlc hn0 hap
          go_wp2_with fail
          go_returns
          have hM2:(lg.M,F.med L.P 1 q) ∈ la ++ oth:=List.mem_append_right _ (by rw [HOP.out.eM]; exact HSC.out.2.2.2.2.2)
          exact ⟨B,lg,_,ol,u14,rfl,HOP.out,la,HLC.out,HL2.out.drop hM2 (fun r hr=>by
            rcases List.mem_append.1 hr with hr | hr
            · exact List.mem_append_left _ hr
            · exact List.mem_append_right _ (List.mem_cons_of_mem _ hr)),fun a b hr a' b' hs=>HAP.out (a,b) hr (a',b') (List.mem_cons_of_mem _ hs)⟩
end
end Go.Proofs.YtncfbocbigdhiaaGreat.U
