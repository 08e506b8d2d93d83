/- Texts of this seat, one behind the other. -/
import Derived.Test.YtncfbocbigdhiaaGreatQM
import Derived.Deep.AppendSrc
/- A log in memory and its segments on the device, together; a row of texts that may begin anywhere in its array. -/
namespace Go.Proofs.YtncfbocbigdhiaaGreat.U
open Go Go.RowKit Go.Sort
structure Lm (M p ns:Nat) (g:Nat → Hd) (xs:List Nat) (e:Nat → Nat) (l:Lg):Prop where
  eM:l.M = M
  ec:l.c = 3
  ej:l.j = 7
  ep:l.p = p
  ens:l.ns = ns
  elv:l.lv = xs
  enu:∀ k ∈ xs,l.nu k = (g k).n
  ea:∀ k ∈ xs,l.a k = e k
  em:∀ i,i < ns → (g i).n ≤ l.m
section
variable {now:Nat → ByteArray} {n M p ns B:Nat} {g:Nat → Hd} {xs:List Nat} {gs:Nat → List (Nat × ByteArray)} {e:Nat → Nat} {l:Lg}
theorem Lm.of (h:Opn M 3 7 p B ns g xs e xs.length l) (hi:Im now n p ns g xs gs e):Lm M p ns g xs e l:=by
  refine ⟨h.eM,h.ec,h.ej,h.ep,h.ens,h.elv,h.enu,fun k hk=>?_,fun i hin=>?_⟩
  · obtain ⟨m,hm,rfl⟩:=List.getElem_of_mem hk
    exact h.ea m hm hm
  · rw [h.em]
    rcases hi.hd i hin with ⟨_,h2⟩ | ⟨_,h2,_⟩
    · rw [h2]; exact Nat.zero_le _
    · exact le_mxN 3 g ns i hin h2
theorem Lm.start (h:Lm M p ns g xs e l) (k S:Nat) (hk:k ∉ xs):Lm M p ns (fun i=>if i = k then ⟨3,7,l.m + 1,false⟩ else g i) (xs ++ [k]) (fun i=>if i = k then 1 else e i) (l.up k S (l.m + 1)):=by
  have hne:∀ i ∈ xs,i ≠ k:=fun i hi e=>hk (e ▸ hi)
  refine ⟨h.eM,h.ec,h.ej,h.ep,h.ens,by show l.lv ++ [k] = _; rw [h.elv],fun i hi=>?_,fun i hi=>?_,fun i hi=>?_⟩
  · show (if i = k then l.m + 1 else l.nu i) = (if i = k then (⟨3,7,l.m + 1,false⟩:Hd) else g i).n
    by_cases c:i = k
    · rw [if_pos c,if_pos c]
    · rw [if_neg c,if_neg c]
      rcases List.mem_append.1 hi with hi | hi
      · exact h.enu i hi
      · exact absurd (List.mem_singleton.1 hi) c
  · show (if i = k then 1 else l.a i) = (if i = k then 1 else e i)
    by_cases c:i = k
    · rw [if_pos c,if_pos c]
    · rw [if_neg c,if_neg c]
      rcases List.mem_append.1 hi with hi | hi
      · exact h.ea i hi
      · exact absurd (List.mem_singleton.1 hi) c
  · show (if i = k then (⟨3,7,l.m + 1,false⟩:Hd) else g i).n ≤ max l.m (l.m + 1)
    by_cases c:i = k
    · rw [if_pos c]; show l.m + 1 ≤ _; omega
    · rw [if_neg c]; have:=h.em i hi; omega
theorem Lm.reclaim (h:Lm M p ns g xs e l) (k:Nat) (nd:xs.Nodup):Lm M p ns (fun i=>if i = k then ⟨3,7,(g k).n,true⟩ else g i) (xs.erase k) e (l.rm k):=by
  have hx:∀ i ∈ xs.erase k,i ≠ k ∧ i ∈ xs:=fun i hi=>(nd.mem_erase_iff).1 hi
  refine ⟨h.eM,h.ec,h.ej,h.ep,h.ens,by show l.lv.erase k = _; rw [h.elv],fun i hi=>?_,fun i hi=>h.ea i (hx i hi).2,fun i hi=>?_⟩
  · show l.nu i = (if i = k then (⟨3,7,(g k).n,true⟩:Hd) else g i).n
    rw [if_neg (hx i hi).1]; exact h.enu i (hx i hi).2
  · show (if i = k then (⟨3,7,(g k).n,true⟩:Hd) else g i).n ≤ l.m
    by_cases c:i = k
    · rw [if_pos c]; subst c; exact h.em i hi
    · rw [if_neg c]; exact h.em i hi
theorem Lm.append (h:Lm M p ns g xs e l) (i k:Nat) (hi:i ∈ xs):Lm M p ns g xs (fun j=>if j = i then e i + 1 + k else e j) (l.to i (l.a i + 1 + k)):=by
  refine ⟨h.eM,h.ec,h.ej,h.ep,h.ens,h.elv,h.enu,fun j hj=>?_,h.em⟩
  show (if j = i then l.a i + 1 + k else l.a j) = (if j = i then e i + 1 + k else e j)
  by_cases c:j = i
  · rw [if_pos c,if_pos c,h.ea i hi]
  · rw [if_neg c,if_neg c]; exact h.ea j hj
theorem Lm.sg (h:Lm M p ns g xs e l) (i:Nat) (hi:i ∈ xs):l.sg i = ⟨M,3,7,(g i).n,1 + i * p,p,e i⟩:=by
  unfold Lg.sg; rw [h.eM,h.ec,h.ej,h.ep,h.enu i hi,h.ea i hi]
end
theorem sub_len:∀ (a b:List Nat),a.Nodup → (∀ x ∈ a,x ∈ b) → a.length ≤ b.length
  | [],_,_,_=>Nat.zero_le _
  | x :: a,b,ha,h=>by
    have hx:=h x (List.mem_cons_self ..)
    have h2:=sub_len a (b.erase x) (List.nodup_cons.1 ha).2 (fun y hy=>by
      have hne:y ≠ x:=fun e=>(List.nodup_cons.1 ha).1 (e ▸ hy)
      exact (List.mem_erase_of_ne hne).2 (h y (List.mem_cons_of_mem _ hy)))
    rw [List.length_erase_of_mem hx] at h2
    have:=List.length_pos_of_mem hx
    simp only [List.length_cons]
    omega
theorem least_free (xs:List Nat) (ns:Nat) (h:xs.length < ns):∃ k,k < ns ∧ k ∉ xs ∧ ∀ j,j < k → j ∈ xs:=by
  have key:∀ m,(∀ j,j < m → j ∈ xs) ∨ ∃ k,k < m ∧ k ∉ xs ∧ ∀ j,j < k → j ∈ xs:=by
    intro m
    induction m with
    | zero=>exact Or.inl (fun j hj=>absurd hj (Nat.not_lt_zero _))
    | succ m ih=>
      rcases ih with ih | ⟨k,h1,h2,h3⟩
      · by_cases hm:m ∈ xs
        · exact Or.inl (fun j hj=>by
            rcases Nat.lt_or_ge j m with c | c
            · exact ih j c
            · obtain rfl:j = m:=by omega
              exact hm)
        · exact Or.inr ⟨m,Nat.lt_succ_self m,hm,ih⟩
      · exact Or.inr ⟨k,by omega,h2,h3⟩
  rcases key ns with h1 | h1
  · have:=sub_len (List.range ns) xs List.nodup_range (fun x hx=>h1 x (List.mem_range.1 hx))
    rw [List.length_range] at this
    omega
  · exact h1
def TxO (v:Value) (xs:List ByteArray) (ol:List (Nat × Obj)):Prop:=
  (v = .slice none 0 0 ∧ xs = [] ∧ ol = []) ∨ ∃ g off cap cur,v = .slice (some ⟨g,off,none⟩) xs.length cap ∧ ol = [(g,.cells cur 9)] ∧ xs.length ≤ cap ∧ cap ≤ maxLen ∧ off + cap ≤ cur.size ∧ (cur.toList.drop off).take xs.length = xs.map .string
theorem TxO.nil:TxO (.slice none 0 0) [] []:=Or.inl ⟨rfl,rfl,rfl⟩
theorem TxO.of {v:Value} {xs:List ByteArray} {ol:List (Nat × Obj)} (h:Txs v xs ol):TxO v xs ol:=by
  rcases h with h | ⟨g,cap,cur,h1,h2,h3,h4,h5,h6⟩
  · exact Or.inl h
  · exact Or.inr ⟨g,0,cap,cur,h1,h2,h3,h4,by omega,by rw [List.drop_zero]; exact h6⟩
theorem TxO.len {v:Value} {xs:List ByteArray} {ol:List (Nat × Obj)} (h:TxO v xs ol):∃ ao cp,v = .slice ao xs.length cp:=by
  rcases h with ⟨rfl,rfl,rfl⟩ | ⟨g,off,cap,cur,rfl,_⟩
  · exact ⟨_,_,rfl⟩
  · exact ⟨_,_,rfl⟩
theorem TxO.cellN {v:Value} {xs:List ByteArray} {ol:List (Nat × Obj)} (h:TxO v xs ol) {W:World} (ho:∀ p ∈ ol,W.heap[p.1]? = some p.2) :
    ∃ ao cp g off,v = .slice ao xs.length cp ∧ (0 < xs.length → ao = some ⟨g,off,none⟩) ∧ ∀ k j (hj:j < xs.length),(W.drewN k).cell? ⟨g,off + j,none⟩ = some (.string xs[j]):=by
  rcases h with ⟨rfl,rfl,rfl⟩ | ⟨g,off,cap,cur,rfl,rfl,h1,h2,h3,h4⟩
  · exact ⟨none,0,0,0,rfl,fun h=>absurd h (Nat.lt_irrefl _),fun _ j hj=>absurd hj (Nat.not_lt_zero _)⟩
  · have o1:=ho (g,.cells cur 9) (List.mem_singleton.2 rfl)
    refine ⟨_,_,g,off,rfl,fun _=>rfl,fun k j hj=>?_⟩
    rw [F.cell_of (w:=W.drewN k) o1]
    have:=congrArg (fun l=>l[j]?) h4
    simp only [List.getElem?_take_of_lt hj,List.getElem?_map,List.getElem?_drop,Array.getElem?_toList,List.getElem?_eq_getElem hj] at this
    exact this
section
variable {T:Nat} {w:World} {L:F.Loc} {q:Int} {n Lb:Nat} {l:Lg} {v:Value} {ol rest:List (Nat × Obj)} {now su:Nat → ByteArray} {c:Int} {W W':World}
end
end Go.Proofs.YtncfbocbigdhiaaGreat.U

/- A log told as the document tells it: its live segments, by place, each with its payloads; its calls in these words. -/
namespace Go.Proofs.YtncfbocbigdhiaaGreat.U
open Go Go.RowKit Go.Sort
def used (ts:List ByteArray):Nat:=1 + (ts.map (fun x=>1 + x.size / 63)).sum
theorem used_snoc (ts:List ByteArray) (x:ByteArray):used (ts ++ [x]) = used ts + (1 + x.size / 63):=by
  unfold used
  rw [List.map_append,List.sum_append]
  simp
  omega
structure LgX (T:Nat) (w:World) (L:F.Loc) (q:Int) (N p ns M Lb:Nat) (base:List (Nat × Obj)) (b:Nat) (X:List (Nat × List ByteArray)) (c:Int) (W:World):Prop where
  ex:∃ nw g gs e l v ol,Im nw N p ns g (X.map Prod.fst) gs e ∧ Lm M p ns g (X.map Prod.fst) e l ∧ l.m ≤ b ∧ (∀ s ∈ X,(gs s.1).map Prod.snd = s.2 ∧ e s.1 = used s.2) ∧ LgI T w L q N Lb l v ol base nw nw c W
section
variable {T:Nat} {w:World} {L:F.Loc} {q:Int} {N p ns M Lb:Nat} {base base':List (Nat × Obj)} {b:Nat} {X:List (Nat × List ByteArray)} {c c':Int} {W W':World}
theorem LgX.lift (h:LgX T w L q N p ns M Lb base b X c W) (f:∀ l v ol nw,l.M = M → LgI T w L q N Lb l v ol base nw nw c W → LgI T w L q N Lb l v ol base' nw nw c' W'):LgX T w L q N p ns M Lb base' b X c' W':=by
  obtain ⟨nw,g,gs,e,l,v,ol,h1,h2,h3,h4,h5⟩:=h
  exact ⟨nw,g,gs,e,l,v,ol,h1,h2,h3,h4,f l v ol nw h2.eM h5⟩
theorem LgX.below (h:LgX T w L q N p ns M Lb base b X c W) (hb:Below W.heap.size W W'):LgX T w L q N p ns M Lb base b X c W':=h.lift (fun _ _ _ _ _ h=>h.below hb)
theorem LgX.more (h:LgX T w L q N p ns M Lb base b X c W) (hc:c ≤ c'):LgX T w L q N p ns M Lb base b X c' W:=h.lift (fun _ _ _ _ _ h=>h.more hc)
theorem LgX.moreB {b':Nat} (h:LgX T w L q N p ns M Lb base b X c W) (hb:b ≤ b'):LgX T w L q N p ns M Lb base b' X c W:=by
  obtain ⟨nw,g,gs,e,l,v,ol,h1,h2,h3,h4,h5⟩:=h
  exact ⟨nw,g,gs,e,l,v,ol,h1,h2,Nat.le_trans h3 hb,h4,h5⟩
theorem LgX.drop (h:LgX T w L q N p ns M Lb base b X c W) (hm:(M,F.med L.P 1 q) ∈ base') (hs:∀ r ∈ base',r ∈ base):LgX T w L q N p ns M Lb base' b X c W:=h.lift (fun l _ _ _ hM h=>h.drop (by rw [hM]; exact hm) hs)
theorem LgX.hold (h:LgX T w L q N p ns M Lb base b X c W) (o:Obj) (ho:F.Obj.apart o) (h5:∀ c fz,o ≠ .cells c 5 fz):LgX T w L q N p ns M Lb ((W.heap.size,o) :: base) b X c (W.alloc o):=h.lift (fun _ _ _ _ _ h=>h.hold o ho h5)
theorem LgX.off {B:Nat} {o o':Obj} (h:LgX T w L q N p ns M Lb ((B,o) :: base) b X c W) (hne:∀ r ∈ base,r.1 ≠ B) (hm:(M,F.med L.P 1 q) ∈ base) (k:Off B W W') (hb:W'.heap[B]? = some o') (ho:F.Obj.apart o') (h5:∀ c fz,o' ≠ .cells c 5 fz):LgX T w L q N p ns M Lb ((B,o') :: base) b X c W':=h.lift (fun l _ _ _ hM h=>h.off hne (by rw [hM]; exact hm) k hb ho h5)
theorem LgX.at' (h:LgX T w L q N p ns M Lb base b X c W) {r:Nat × Obj} (hr:r ∈ base):W.heap[r.1]? = some r.2:=by
  obtain ⟨nw,g,gs,e,l,v,ol,h1,h2,h3,h4,h5⟩:=h
  exact h5.dv.at' (by simp [hr])
theorem LgX.lt (h:LgX T w L q N p ns M Lb base b X c W):∀ r ∈ base,r.1 < W.heap.size:=by
  obtain ⟨nw,g,gs,e,l,v,ol,h1,h2,h3,h4,h5⟩:=h
  exact h5.lt
theorem LgX.bel (h:LgX T w L q N p ns M Lb base b X c W):Below T w W:=by
  obtain ⟨nw,g,gs,e,l,v,ol,h1,h2,h3,h4,h5⟩:=h
  exact h5.dv.bel
theorem LgX.len (h:LgX T w L q N p ns M Lb base b X c W):X.length ≤ ns:=by
  obtain ⟨nw,g,gs,e,l,v,ol,h1,h2,h3,h4,h5⟩:=h
  have:=h1.len
  rw [List.length_map] at this
  exact this
theorem LgX.uses (h:LgX T w L q N p ns M Lb base b X c W):∀ s ∈ X,1 ≤ used s.2 ∧ used s.2 ≤ p ∧ s.1 < ns:=by
  obtain ⟨nw,g,gs,e,l,v,ol,h1,h2,h3,h4,h5⟩:=h
  intro s hs
  have hm:s.1 ∈ X.map Prod.fst:=List.mem_map.2 ⟨s,hs,rfl⟩
  have e1:=(h4 s hs).2
  have:=h1.ep s.1 hm
  have:=h1.lt s.1 hm
  exact ⟨by unfold used; omega,by omega,this⟩
theorem LgX.ne (h:LgX T w L q N p ns M Lb base b X c W) {r s:Nat × Obj} (hr:r ∈ base) (hs:s ∈ base) (hne:r.2 ≠ s.2):r.1 ≠ s.1:=by
  obtain ⟨nw,g,gs,e,l,v,ol,h1,h2,h3,h4,h5⟩:=h
  exact h5.dv.ne (by simp [hr]) (by simp [hs]) hne
theorem LgX.free (h:LgX T w L q N p ns M Lb base b X c W) (hns:ns ≤ 100):Calls Tryz.prog 46 #[.pointer (some ⟨Lb,0,none⟩)] W fun e w'=>e = .returned (.int .i64 ((ns - X.length:Nat):Int)) ∧ LgX T w L q N p ns M Lb base b X c w':=by
  have hl:=h.len
  have h0:=h
  obtain ⟨nw,g,gs,e,l,v,ol,h1,h2,h3,h4,h5⟩:=h
  have e1:l.lv.length = X.length:=by rw [h2.elv,List.length_map]
  have:=free_any h5.lz (by rw [h2.ens]; omega) (by rw [h2.ens,e1]; exact hl)
  rw [h2.ens,e1] at this
  exact this.mono (fun er w' hh=>⟨hh.1,h0.below hh.2⟩)
theorem lv_pt {n:Nat} {l:Lg} {v:Value} {ol rest:List (Nat × Obj)} {now su:Nat → ByteArray} (h:LgI T w L q n Lb l v ol rest now su c W) (i:Nat) (hi:i < l.ns):(i ∉ l.lv → l.pt i = none) ∧ (i ∈ l.lv → l.pt i ≠ none):=by
  refine ⟨fun hn=>?_,(h.pn i hi).1⟩
  cases hp:l.pt i with
  | none=>rfl
  | some S=>exact absurd ((h.pn i hi).2 (by rw [hp]; exact fun x=>by cases x)) hn
theorem LgX.start (h:LgX T w L q N p ns M Lb base b X c W) (hp:8 ≤ p ∧ p ≤ 64) (hN:1 + ns * p ≤ N) (hN1:N ≤ 1000) (k:Nat) (hk:k < ns) (hkx:k ∉ X.map Prod.fst) (hlt:∀ j,j < k → j ∈ X.map Prod.fst) (hb:b + 1 < 18446744073709551616) (hc:c ≤ 50000000) :
    Calls Tryz.prog 43 #[.pointer (some ⟨Lb,0,none⟩)] W fun e w'=>e = .returned (.bool true) ∧ LgX T w L q N p ns M Lb base (b + 1) (X ++ [(k,[])]) (c + 2) w':=by
  obtain ⟨nw,g,gs,e,l,v,ol,h1,h2,h3,h4,h5⟩:=h
  have hseg:=seg_lt (p:=p) hk
  have hst:=start_yes h5 k (by rw [h2.ens]; exact hk) ((lv_pt h5 k (by rw [h2.ens]; exact hk)).1 (by rw [h2.elv]; exact hkx)) (fun j hj=>(lv_pt h5 j (by rw [h2.ens]; omega)).2 (by rw [h2.elv]; exact hlt j hj)) (by omega) (by rw [h2.ep]; omega) hN1 hc
  refine hst.mono ?_
  rintro er w' ⟨rfl,S,v',ol',h6⟩
  rw [h2.ep,h2.ec,h2.ej] at h6
  refine ⟨rfl,_,(fun i=>if i = k then ⟨3,7,l.m + 1,false⟩ else g i),(fun i=>if i = k then [] else gs i),(fun i=>if i = k then 1 else e i),_,v',ol',?_,?_,?_,?_,h6⟩
  · have:=h1.start hp.1 k l.m hk hkx h2.em (by omega)
    rw [List.map_append]
    exact this
  · have:=h2.start k S hkx
    rw [List.map_append]
    exact this
  · show max l.m (l.m + 1) ≤ b + 1; omega
  · intro s hs
    show (if s.1 = k then [] else gs s.1).map Prod.snd = s.2 ∧ (if s.1 = k then 1 else e s.1) = used s.2
    rcases List.mem_append.1 hs with hs | hs
    · have hne:s.1 ≠ k:=fun e=>hkx (e ▸ List.mem_map.2 ⟨s,hs,rfl⟩)
      rw [if_neg hne,if_neg hne]; exact h4 s hs
    · rw [List.mem_singleton.1 hs]
      rw [if_pos rfl,if_pos rfl]; exact ⟨rfl,rfl⟩
theorem LgX.start_none (h:LgX T w L q N p ns M Lb base b X c W) (hX:X.length = ns) :
    Calls Tryz.prog 43 #[.pointer (some ⟨Lb,0,none⟩)] W fun e w'=>e = .returned (.bool false) ∧ w' = W:=by
  obtain ⟨nw,g,gs,e,l,v,ol,h1,h2,h3,h4,h5⟩:=h
  refine start_no h5 (fun i hi=>(lv_pt h5 i hi).2 ?_)
  rw [h2.elv]
  rw [h2.ens] at hi
  by_cases hm:i ∈ X.map Prod.fst
  · exact hm
  · have:=sub_len (i :: X.map Prod.fst) (List.range ns) (List.nodup_cons.2 ⟨hm,h1.nd⟩) (fun x hx=>by
      rcases List.mem_cons.1 hx with rfl | hx
      · exact List.mem_range.2 hi
      · exact List.mem_range.2 (h1.lt x hx))
    rw [List.length_range,List.length_cons,List.length_map] at this
    omega
theorem LgX.append {Y:List (Nat × List ByteArray)} {i:Nat} {ts:List ByteArray} (h:LgX T w L q N p ns M Lb base b (Y ++ [(i,ts)]) c W) (hp:8 ≤ p ∧ p ≤ 64) (hns:ns ≤ 100) (hN:1 + ns * p ≤ N) (hN1:N ≤ 1000) (x:ByteArray) (k:Nat) (hk:1 ≤ k) (hx:x.size = 63 * k) (hroom:used ts + k < p) (hb:b < 18446744073709551616) (hc:c ≤ 50000000) :
    Calls Tryz.prog 45 #[.pointer (some ⟨Lb,0,none⟩),.string x] W fun e w'=>e = .returned (.agg #[.int .i64 (i:Nat),.int .i64 (used ts:Nat),.int .i64 (k:Nat)]) ∧ LgX T w L q N p ns M Lb base b (Y ++ [(i,ts ++ [x])]) (c + 100) w':=by
  obtain ⟨nw,g,gs,e,l,v,ol,h1,h2,h3,h4,h5⟩:=h
  have hmi:i ∈ (Y ++ [(i,ts)]).map Prod.fst:=by simp
  have hin:=h1.lt i hmi
  have hseg:=seg_lt (p:=p) hin
  obtain ⟨e1,e2⟩:=h4 (i,ts) (by simp)
  have hla:=h2.ea i hmi
  have hlv:l.lv = Y.map Prod.fst ++ [i]:=by rw [h2.elv,List.map_append]; rfl
  have ha:=append_any h5 i (by rw [hlv]; simp) (by simp only [hlv]; simp) x k hk (by rw [hla,h2.ep,e2]; exact hroom) hx (by rw [h2.ep]; omega) hN1 (by
    rw [h2.enu i hmi]
    have:=h2.em i hin; omega) hc
  rw [hla,e2] at ha
  refine ha.mono ?_
  rintro er w' ⟨rfl,h6⟩
  rw [h2.sg i hmi] at h6
  have hfst:(Y ++ [(i,ts ++ [x])]).map Prod.fst = (Y ++ [(i,ts)]).map Prod.fst:=by simp
  have hap:=h1.append hp hns i M k x hmi hx hk (by rw [e2]; exact hroom)
  have hmm:=h2.append i k hmi
  rw [hla,e2] at hmm
  rw [e2] at h6 hap
  refine ⟨rfl,_,g,_,_,l.to i (used ts + 1 + k),v,ol,by rw [hfst]; exact hap,by rw [hfst]; exact hmm,h3,?_,h6⟩
  intro s hs
  show (if s.1 = i then gs i ++ [(used ts,x)] else gs s.1).map Prod.snd = s.2 ∧ (if s.1 = i then used ts + 1 + k else e s.1) = used s.2
  rcases List.mem_append.1 hs with hs | hs
  · have hnd:=h1.nd
    rw [List.map_append] at hnd
    have hne:s.1 ≠ i:=by
      have:=(List.nodup_append.1 hnd).2.2 s.1 (List.mem_map.2 ⟨s,hs,rfl⟩) i (by simp)
      exact this
    rw [if_neg hne,if_neg hne]; exact h4 s (List.mem_append_left _ hs)
  · rw [List.mem_singleton.1 hs]
    rw [if_pos rfl,if_pos rfl,List.map_append,e1,used_snoc,hx]
    exact ⟨rfl,by omega⟩
theorem LgX.reclaim {Y Z:List (Nat × List ByteArray)} {i:Nat} {ts:List ByteArray} (h:LgX T w L q N p ns M Lb base b (Y ++ (i,ts) :: Z) c W) (hZ:Z ≠ []) (hp:8 ≤ p ∧ p ≤ 64) (hN:1 + ns * p ≤ N) (hN1:N ≤ 1000) (hb:b < 18446744073709551616) (hc:c ≤ 50000000) :
    Calls Tryz.prog 47 #[.pointer (some ⟨Lb,0,none⟩),.int .i64 (i:Nat)] W fun e w'=>e = .returned (.bool true) ∧ LgX T w L q N p ns M Lb base b (Y ++ Z) (c + 2) w':=by
  obtain ⟨nw,g,gs,e,l,v,ol,h1,h2,h3,h4,h5⟩:=h
  have hmi:i ∈ (Y ++ (i,ts) :: Z).map Prod.fst:=by simp
  have hin:=h1.lt i hmi
  have hseg:=seg_lt (p:=p) hin
  have hzl:0 < Z.length:=by cases Z with
    | nil=>exact absurd rfl hZ
    | cons a r=>simp
  have hlv:l.lv = Y.map Prod.fst ++ i :: Z.map Prod.fst:=by rw [h2.elv,List.map_append]; rfl
  have hlen:l.lv.length = Y.length + 1 + Z.length:=by rw [hlv]; simp; omega
  obtain ⟨k1,k2,k3,k4⟩:=h1.hok i hmi
  have hr:=reclaim_yes h5 i Y.length (by omega) (by simp only [hlv]; rw [List.getElem_append_right (by simp)]; simp) (by rw [h2.enu i hmi]; exact k1.n0) (by rw [h2.enu i hmi]; exact k1.n) (by rw [h2.ep]; omega) hN1 hc
  refine hr.mono ?_
  rintro er w' ⟨rfl,v',ol',h6⟩
  rw [h2.ep,h2.ec,h2.ej,h2.enu i hmi] at h6
  have hnd:=h1.nd
  have hfst:(Y ++ Z).map Prod.fst = ((Y ++ (i,ts) :: Z).map Prod.fst).erase i:=by
    rw [List.map_append,List.map_append,List.map_cons] at *
    have hni:i ∉ Y.map Prod.fst:=fun hm=>(List.nodup_append.1 hnd).2.2 i hm i (List.mem_cons_self ..) rfl
    rw [List.erase_append_right _ hni,List.erase_cons_head]
  have hne:∀ s ∈ Y ++ Z,s ∈ Y ++ (i,ts) :: Z:=by
    intro s hs
    rcases List.mem_append.1 hs with hs | hs <;> simp [hs]
  refine ⟨rfl,_,_,gs,e,l.rm i,v',ol',by rw [hfst]; exact h1.reclaim hp.1 i hmi,by rw [hfst]; exact h2.reclaim i hnd,h3,fun s hs=>h4 s (hne s hs),h6⟩
end
end Go.Proofs.YtncfbocbigdhiaaGreat.U

/- Open, once more, in the document's words; rows of texts held against each other. -/
namespace Go.Proofs.YtncfbocbigdhiaaGreat.U
open Go Go.RowKit Go.Sort
structure DvX (T:Nat) (w:World) (L:F.Loc) (q:Int) (N p ns:Nat) (base:List (Nat × Obj)) (b:Nat) (X:List (Nat × List ByteArray)) (c:Int) (W:World):Prop where
  ex:∃ nw su g gs e,Im nw N p ns g (X.map Prod.fst) gs e ∧ (∀ i,i < ns → (g i).n ≤ b) ∧ (∀ s ∈ X,(gs s.1).map Prod.snd = s.2 ∧ e s.1 = used s.2) ∧ Dev T w L q N base nw su c W
theorem allX_of {gs:Nat → List (Nat × ByteArray)} {e:Nat → Nat}:∀ {X:List (Nat × List ByteArray)},(∀ s ∈ X,(gs s.1).map Prod.snd = s.2 ∧ e s.1 = used s.2) → allX gs (X.map Prod.fst) = X.flatMap Prod.snd
  | [],_=>rfl
  | s :: X,h=>by
    have h1:=allX_of (X:=X) (fun s hs=>h s (List.mem_cons_of_mem _ hs))
    unfold allX at h1 ⊢
    rw [List.map_cons,List.flatMap_cons,List.flatMap_cons,h1,(h s (List.mem_cons_self ..)).1]
section
variable {T:Nat} {w:World} {L:F.Loc} {q:Int} {N p ns M Lb:Nat} {base base':List (Nat × Obj)} {b:Nat} {X:List (Nat × List ByteArray)} {c c':Int} {W W':World}
theorem DvX.open (h:DvX T w L q N p ns base b X c W) (h5:∀ r ∈ base,∀ c fz,r.2 ≠ .cells c 5 fz) (hp:8 ≤ p ∧ p ≤ 20) (hns:2 ≤ ns ∧ ns ≤ 6) (hfit:1 + ns * p ≤ N) (hn1:N ≤ 1000) (hc:c ≤ 1000000) (hb:b < 18446744073709551616) :
    Calls Tryz.prog 34 #[.pointer (some ⟨L.P,0,none⟩),.int .i64 (ns:Nat),.int .i64 (p:Nat)] W fun r w'=>∃ M B tv tl,r = .returned (.tuple #[.pointer (some ⟨B + 1,0,none⟩),tv]) ∧ Txs tv (X.flatMap Prod.snd) tl ∧ LgX T w L q N p ns M (B + 1) (tl ++ (M,F.med L.P 1 q) :: base) b X (c + 9000) w' ∧ (∀ r ∈ tl,∀ s ∈ (M,F.med L.P 1 q) :: base,r.1 ≠ s.1):=by
  obtain ⟨nw,su,g,gs,e,h1,h2,h3,h4⟩:=h
  refine (open34 h4 h5 h1 hp hns hfit hn1 hc (fun i hi=>by have:=mxN_le 3 g b i (fun j hj=>h2 j (by omega)); omega)).mono ?_
  rintro r w' ⟨M,B,l,v,ol,tv,tl,rfl,a1,a2,a3,a4⟩
  rw [allX_of h3] at a2
  refine ⟨M,B,tv,tl,rfl,a2,⟨nw,g,gs,e,l,v,ol,h1,Lm.of a1 h1,?_,h3,a3⟩,a4⟩
  rw [a1.em]; exact mxN_le 3 g b ns h2
end
set_option maxHeartbeats 2000000 in
set_option maxRecDepth 100000 in
theorem same35O {v u:Value} {xs:List ByteArray} {ol ol2:List (Nat × Obj)} (h:TxO v xs ol) (h2:TxO u xs ol2) (hl:xs.length ≤ 1000) (W:World) (ho:∀ p ∈ ol,W.heap[p.1]? = some p.2) (ho2:∀ p ∈ ol2,W.heap[p.1]? = some p.2) :
    Calls Tryz.prog 35 #[v,u] W fun e w'=>e = .returned (.bool true) ∧ Below W.heap.size W w':=by
  obtain ⟨ao,cp,g,of1,rfl,ha,hc⟩:=h.cellN ho
  obtain ⟨ao2,cp2,g2,of2,rfl,ha2,hc2⟩:=h2.cellN ho2
  have HA:Hid _:=ha
  have HA2:Hid _:=ha2
  have HC:Hid _:=hc
  have HC2:Hid _:=hc2
  obtain ⟨n,hn⟩:∃ n,n = xs.length:=⟨_,rfl⟩
  have HN:Hid _:=hn
  rw [← hn] at hl ⊢
  clear h h2 ho ho2 ha ha2 hc hc2 hn
  go_enter Tryz.func35,Tryz.ntmps35
  go_wp2
  go_loopw [13] (fun iv wr=>∃ i:Nat,iv = .int .i64 (i:Nat) ∧ i ≤ n ∧ Hid (∃ k,wr = W.drewN k)) (fun iv _=>n - (intOf iv).toNat)
  case atStart=>exact ⟨0,rfl,Nat.zero_le _,⟨0,rfl⟩⟩
  case round=>
    obtain ⟨i,rfl,hin,HW⟩:=hrel
    rcases Nat.eq_or_lt_of_le hin with rfl | hlt
    · go_wp2
      go_returns
      obtain ⟨k,rfl⟩:=HW.out
      exact ⟨rfl,⟨rfl,rfl,rfl,Nat.le_refl _,fun _ _=>rfl⟩⟩
    · obtain ⟨k,hk⟩:=HW.out
      have hi:i < xs.length:=by rw [← HN.out]; exact hlt
      obtain rfl:=HA.out (by omega)
      obtain rfl:=HA2.out (by omega)
      obtain ⟨x,hx⟩:∃ x,x = xs[i]:=⟨_,rfl⟩
      have q1:∀ m,(wr.drewN m).cell? ⟨g,of1 + i,none⟩ = some (.string x):=fun m=>by rw [hx,hk]; exact HC.out (k + m) i hi
      have q2:∀ m,(wr.drewN m).cell? ⟨g2,of2 + i,none⟩ = some (.string x):=fun m=>by rw [hx,hk]; exact HC2.out (k + m) i hi
      clear hx hk
      go_wp2_with fail
      go_quiet (fail)
      have HW2:Hid (∃ k2,wr.drewN nq = W.drewN k2):=by
        obtain ⟨k,hk⟩:=HW.out
        exact ⟨k + nq,by rw [hk]; first | rfl | (simp [World.drewN]; omega) | simp⟩
      clear q1 q2
      go_wp2
      go_roundw
      case rel=>exact ⟨i + 1,by congr 1,by omega,HW2⟩
      case measure=>
        show n - ((i:Int) + 1).toNat < n - ((i:Nat):Int).toNat
        omega
end Go.Proofs.YtncfbocbigdhiaaGreat.U

/- The document's log, as it lies in memory; where a segment stands in it, and how much of it is used, as calls. -/
namespace Go.Proofs.YtncfbocbigdhiaaGreat.U
open Go Go.RowKit Go.Sort
def RlC (ol:List (Nat × Obj)):List (Nat × List ByteArray) → List Value → Prop
  | [],cs=>cs = []
  | s :: X,cs=>∃ b r,cs = nv s.1 :: b :: r ∧ (∃ tl,TxO b s.2 tl ∧ ∀ p ∈ tl,p ∈ ol) ∧ RlC ol X r
section
variable {ol ol':List (Nat × Obj)}
theorem RlC.len:∀ {X:List (Nat × List ByteArray)} {cs:List Value},RlC ol X cs → cs.length = X.length * 2
  | [],cs,h=>by rw [show cs = [] from h]; rfl
  | s :: X,cs,⟨b,r,h1,_,h3⟩=>by
    have:=RlC.len h3
    rw [h1]; simp only [List.length_cons]; omega
theorem RlC.mono (hs:∀ p ∈ ol,p ∈ ol'):∀ {X:List (Nat × List ByteArray)} {cs:List Value},RlC ol X cs → RlC ol' X cs
  | [],_,h=>h
  | s :: X,_,⟨b,r,h1,⟨tl,h4,h5⟩,h3⟩=>⟨b,r,h1,⟨tl,h4,fun p hp=>hs p (h5 p hp)⟩,RlC.mono hs h3⟩
theorem RlC.app:∀ {X Y:List (Nat × List ByteArray)} {cs ds:List Value},RlC ol X cs → RlC ol Y ds → RlC ol (X ++ Y) (cs ++ ds)
  | [],_,cs,_,h,h2=>by rw [show cs = [] from h]; exact h2
  | s :: X,Y,_,ds,⟨b,r,h1,h4,h3⟩,h2=>⟨b,r ++ ds,by rw [h1]; rfl,h4,RlC.app h3 h2⟩
theorem RlC.split:∀ {X Y:List (Nat × List ByteArray)} {cs:List Value},RlC ol (X ++ Y) cs → RlC ol X (cs.take (X.length * 2)) ∧ RlC ol Y (cs.drop (X.length * 2))
  | [],Y,cs,h=>⟨by show List.take (0 * 2) cs = []; simp,by show RlC ol Y (cs.drop (0 * 2)); simpa using h⟩
  | s :: X,Y,cs,⟨b,r,h1,h4,h3⟩=>by
    obtain ⟨a1,a2⟩:=RlC.split h3
    have e:(s :: X).length * 2 = X.length * 2 + 1 + 1:=by simp only [List.length_cons]; omega
    rw [e,h1]
    exact ⟨⟨b,r.take (X.length * 2),rfl,h4,a1⟩,a2⟩
theorem RlC.get:∀ {X:List (Nat × List ByteArray)} {cs:List Value},RlC ol X cs → ∀ m (h:m < X.length),∃ tv tl,cs[m * 2]? = some (nv X[m].1) ∧ cs[m * 2 + 1]? = some tv ∧ TxO tv X[m].2 tl ∧ ∀ p ∈ tl,p ∈ ol
  | [],_,_,m,h=>absurd h (Nat.not_lt_zero _)
  | s :: X,cs,⟨b,r,h1,⟨tl,h4,h5⟩,h3⟩,0,_=>⟨b,tl,by rw [h1]; rfl,by rw [h1]; rfl,h4,h5⟩
  | s :: X,cs,⟨b,r,h1,_,h3⟩,m + 1,h=>by
    obtain ⟨tv,tl,a1,a2,a3,a4⟩:=RlC.get h3 m (by simpa using h)
    have e:(m + 1) * 2 = m * 2 + 1 + 1:=by omega
    refine ⟨tv,tl,?_,?_,a3,a4⟩
    · rw [e,h1,List.getElem?_cons_succ,List.getElem?_cons_succ]; exact a1
    · rw [e,h1,List.getElem?_cons_succ,List.getElem?_cons_succ]; exact a2
theorem RlC.one:∀ {X:List (Nat × List ByteArray)} {cs:List Value},RlC ol X cs → ∀ u ∈ cs,u.oneCell' = true
  | [],cs,h,u,hu=>by rw [show cs = [] from h] at hu; cases hu
  | s :: X,cs,⟨b,r,h1,⟨tl,h4,h5⟩,h3⟩,u,hu=>by
    rw [h1] at hu
    simp only [List.mem_cons] at hu
    rcases hu with rfl | rfl | hu
    · rfl
    · obtain ⟨ao,cp,e⟩:=h4.len
      rw [e]; rfl
    · exact RlC.one h3 u hu
end
def Rl (v:Value) (X:List (Nat × List ByteArray)) (ol:List (Nat × Obj)):Prop:=
  (v = .slice none 0 0 ∧ X = []) ∨ ∃ g cap cur,v = .slice (some ⟨g,0,none⟩) X.length cap ∧ (g,Obj.cells cur 118) ∈ ol ∧ X.length ≤ cap ∧ cap ≤ maxLen ∧ cur.size = cap * 2 ∧ RlC ol X (cur.toList.take (X.length * 2))
theorem Rl.mono {v:Value} {X:List (Nat × List ByteArray)} {ol ol':List (Nat × Obj)} (hs:∀ p ∈ ol,p ∈ ol') (h:Rl v X ol):Rl v X ol':=by
  rcases h with h | ⟨g,cap,cur,h1,h2,h3,h4,h5,h6⟩
  · exact Or.inl h
  · exact Or.inr ⟨g,cap,cur,h1,hs _ h2,h3,h4,h5,h6.mono hs⟩
theorem Rl.cells {v:Value} {X:List (Nat × List ByteArray)} {ol:List (Nat × Obj)} (h:Rl v X ol):∃ ao cp g,v = .slice ao X.length cp ∧ (0 < X.length → ao = some ⟨g,0,none⟩) ∧ ∀ W:World,(∀ p ∈ ol,W.heap[p.1]? = some p.2) → ∀ m (h:m < X.length),∃ tv tl,W.cell? ⟨g,m * 2,none⟩ = some (nv X[m].1) ∧ W.cell? ⟨g,m * 2 + 1,none⟩ = some tv ∧ TxO tv X[m].2 tl ∧ ∀ p ∈ tl,p ∈ ol:=by
  rcases h with ⟨rfl,rfl⟩ | ⟨g,cap,cur,rfl,h2,h3,h4,h5,h6⟩
  · exact ⟨_,_,0,rfl,fun h=>absurd h (Nat.lt_irrefl _),fun W _ m hm=>absurd hm (Nat.not_lt_zero _)⟩
  · refine ⟨_,_,g,rfl,fun _=>rfl,fun W hW m hm=>?_⟩
    obtain ⟨tv,tl,a1,a2,a3,a4⟩:=h6.get m hm
    have hb:=hW _ h2
    refine ⟨tv,tl,?_,?_,a3,a4⟩
    · rw [F.cell_of hb,← a1,List.getElem?_take_of_lt (by omega),Array.getElem?_toList]
    · rw [F.cell_of hb,← a2,List.getElem?_take_of_lt (by omega),Array.getElem?_toList]
theorem used_take (ts:List ByteArray) (k:Nat) (h:k < ts.length):used (ts.take (k + 1)) = used (ts.take k) + (1 + ts[k].size / 63):=by
  rw [List.take_succ_eq_append_getElem h,used_snoc]
theorem used_take_le (ts:List ByteArray):∀ k,used (ts.take k) ≤ used ts:=by
  intro k
  conv=>rhs; rw [← List.take_append_drop k ts]
  unfold used
  rw [List.map_append,List.sum_append]
  omega
set_option maxHeartbeats 2000000 in
set_option maxRecDepth 100000 in
theorem used82 {tv:Value} {ts:List ByteArray} {tl:List (Nat × Obj)} (h:TxO tv ts tl) (i:Int) (W:World) (ho:∀ p ∈ tl,W.heap[p.1]? = some p.2) (hu:used ts ≤ 1000) :
    Calls Tryz.prog 82 #[.agg #[.int .i64 i,tv]] W fun e w'=>e = .returned (.int .i64 (used ts:Nat)) ∧ Below W.heap.size W w':=by
  obtain ⟨ao,cp,g,of,rfl,ha,hc⟩:=h.cellN ho
  have HA:Hid _:=ha
  have HC:Hid _:=hc
  have hn100:ts.length ≤ 1000:=by
    have:∀ l:List ByteArray,l.length ≤ used l:=by
      intro l
      induction l with
      | nil=>exact Nat.zero_le _
      | cons a r ih=>unfold used at ih ⊢; simp only [List.map_cons,List.sum_cons,List.length_cons]; omega
    exact Nat.le_trans (this ts) hu
  have HU:Hid (used ts ≤ 1000):=hu
  obtain ⟨n,hn⟩:∃ n,n = ts.length:=⟨_,rfl⟩
  have HN:Hid _:=hn
  rw [← hn] at hn100 ⊢
  have hb1:Below W.heap.size W (W.alloc (.cells #[.int .i64 i,.slice ao n cp] 118)):=(Below.refl _ _).alloc (Nat.le_refl _) _
  have HB1:Hid _:=hb1
  clear h ho ha hc hn hb1 hu
  go_enter Tryz.func82,Tryz.ntmps82
  go_wp2
  go_loopw [3,9] (fun uv iv wr=>∃ k:Nat,iv = .int .i64 (k:Nat) ∧ k ≤ n ∧ uv = .int .i64 (used (ts.take k):Nat) ∧ Hid (Below W.heap.size W wr)) (fun _ iv _=>n - (intOf iv).toNat)
  case atStart=>exact ⟨0,rfl,Nat.zero_le _,rfl,HB1⟩
  case round=>
    obtain ⟨k,rfl,hkn,rfl,HB⟩:=hrel
    clear HB1
    rcases Nat.eq_or_lt_of_le hkn with rfl | hlt
    · have e:used (ts.take k) = used ts:=by rw [HN.out,List.take_length]
      rw [e]
      go_wp2
      go_returns
      exact ⟨rfl,HB.out⟩
    · have hk:k < ts.length:=by rw [← HN.out]; exact hlt
      obtain rfl:=HA.out (by omega)
      obtain ⟨x,hx⟩:∃ x,x = ts[k]:=⟨_,rfl⟩
      have q1:wr.cell? ⟨g,of + k,none⟩ = some (.string x):=by
        have h1:=HC.out 0 k hk
        rw [hx]
        have h2:W.cell? ⟨g,of + k,none⟩ = some (.string ts[k]):=h1
        exact (HB.out.cell (World.block_lt_of_cell? W _ h2)).trans h2
      have hus:=used_take ts k hk
      rw [← hx] at hus
      have hle:=used_take_le ts (k + 1)
      have HUT:Hid (used (ts.take (k + 1)) = used (ts.take k) + (1 + x.size / 63)):=hus
      have hb1:used (ts.take k) + (1 + x.size / 63) ≤ 1000:=by have:=HU.out; omega
      obtain ⟨u,hu⟩:∃ u,u = used (ts.take k):=⟨_,rfl⟩
      rw [← hu] at hb1 HUT ⊢
      have hxs:x.size ≤ 63000:=by omega
      clear hx hus hle hu
      go_wp2
      go_roundw
      case rel=>
        refine ⟨k + 1,by congr 1,by omega,?_,HB⟩
        rw [HUT.out]
        congr 1
      case measure=>
        show n - ((k:Int) + 1).toNat < n - ((k:Nat):Int).toNat
        omega
section
variable {v:Value} {X:List (Nat × List ByteArray)} {ol:List (Nat × Obj)} {W:World}
set_option maxHeartbeats 2000000 in
set_option maxRecDepth 100000 in
theorem place119 (h:Rl v X ol) (ho:∀ p ∈ ol,W.heap[p.1]? = some p.2) (hl:X.length ≤ 1000) (ns p:Nat) (i:Int) (m:Nat) (hm:m ≤ X.length) (hlt:∀ j (hj:j < m),(X[j].1:Int) ≠ i) (hat:∀ hj:m < X.length,(X[m].1:Int) = i) :
    Calls Tryz.prog 119 #[.agg #[.int .i64 (ns:Nat),.int .i64 (p:Nat),v],.int .i64 i] W fun e w'=>e = .returned (.int .i64 (if m < X.length then (m:Int) else -1)) ∧ Below W.heap.size W w':=by
  obtain ⟨ao,cp,g,rfl,ha,hc⟩:=h.cells
  have HA:Hid _:=ha
  have HC:Hid (∀ m (h:m < X.length),∃ tv tl,W.cell? ⟨g,m * 2,none⟩ = some (nv X[m].1) ∧ W.cell? ⟨g,m * 2 + 1,none⟩ = some tv ∧ TxO tv X[m].2 tl ∧ ∀ p ∈ tl,p ∈ ol):=hc W ho
  have HL:Hid _:=hlt
  have HT:Hid _:=hat
  obtain ⟨n,hn⟩:∃ n,n = X.length:=⟨_,rfl⟩
  have HN:Hid _:=hn
  rw [← hn] at hl hm ⊢
  have hb1:Below W.heap.size W (W.alloc (.cells #[.int .i64 (ns:Nat),.int .i64 (p:Nat),.slice ao n cp] 67)):=(Below.refl _ _).alloc (Nat.le_refl _) _
  have HB1:Hid _:=hb1
  clear h ho ha hc hlt hat hn hb1
  go_enter Tryz.func119,Tryz.ntmps119
  go_wp2
  go_loopw [10] (fun iv wr=>∃ k:Nat,iv = .int .i64 (k:Nat) ∧ k ≤ m ∧ Hid (Below W.heap.size W wr)) (fun iv _=>n - (intOf iv).toNat)
  case atStart=>exact ⟨0,rfl,Nat.zero_le _,HB1⟩
  case round=>
    obtain ⟨k,rfl,hkm,HB⟩:=hrel
    clear HB1
    rcases Nat.lt_or_ge k n with hlt | hge
    · have hk:k < X.length:=by rw [← HN.out]; exact hlt
      obtain rfl:=HA.out (by omega)
      obtain ⟨tv,tl,a1,a2,a3,a4⟩:=HC.out k hk
      obtain ⟨x,hx⟩:∃ x,x = X[k].1:=⟨_,rfl⟩
      rw [← hx] at a1
      unfold nv at a1
      obtain ⟨tao,tn,tcp,htv⟩:∃ ao m cp,tv = .slice ao m cp:=by
        obtain ⟨a,b,c⟩:=a3.len
        exact ⟨a,_,b,c⟩
      subst htv
      have q1:wr.cell? ⟨g,k * 2,none⟩ = some (.int .i64 (x:Nat)):=(HB.out.cell (World.block_lt_of_cell? W _ a1)).trans a1
      have q2:wr.cell? ⟨g,k * 2 + 1,none⟩ = some (.slice tao tn tcp):=(HB.out.cell (World.block_lt_of_cell? W _ a2)).trans a2
      have HB2:Hid (Below W.heap.size W (wr.alloc (.cells #[.int .i64 (x:Nat),.slice tao tn tcp] 118))):=HB.out.alloc HB.out.size _
      have hkI:(k:Int) < (n:Int):=by omega
      by_cases e:k = m
      · have hxi:(x:Int) = i:=by
          have:=HT.out (by rw [← HN.out]; omega)
          rw [hx,← this]
          congr 2
          simp only [e]
        clear a1 a2 a3 a4 hx
        subst e
        go_wp2
        go_returns
        exact ⟨rfl,by have hb:=HB2.out; rw [hxi] at hb; exact hb⟩
      · have hxi:¬ (x:Int) = i:=by
          rw [hx]; exact HL.out k (by omega)
        clear a1 a2 a3 a4 hx
        go_wp2
        go_roundw
        case rel=>exact ⟨k + 1,by congr 1,by omega,HB2⟩
        case measure=>
          show n - ((k:Int) + 1).toNat < n - ((k:Nat):Int).toNat
          omega
    · have hkn:k = n:=by omega
      subst hkn
      have hkI:¬ (k:Int) < (k:Int):=by omega
      have hmk:¬ m < k:=by omega
      go_wp2
      go_returns
      exact ⟨rfl,HB.out⟩
end
end Go.Proofs.YtncfbocbigdhiaaGreat.U
