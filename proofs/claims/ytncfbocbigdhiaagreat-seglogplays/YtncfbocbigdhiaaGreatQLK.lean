/- Texts of this seat, one behind the other. -/
import Derived.Test.YtncfbocbigdhiaaGreatQP
/- Reclaim of a log, as a call. -/
namespace Go.Proofs.YtncfbocbigdhiaaGreat.U
open Go Go.RowKit Go.Sort
theorem nd_inj {xs:List Nat} (h:xs.Nodup) {a b:Nat} (ha:a < xs.length) (hb:b < xs.length) (e:xs[a] = xs[b]):a = b:=by
  rcases Nat.lt_trichotomy a b with c | c | c
  · exact absurd e (List.pairwise_iff_getElem.1 h a b ha hb c)
  · exact c
  · exact absurd e.symm (List.pairwise_iff_getElem.1 h b a hb ha c)
section
variable {T:Nat} {w:World} {L:F.Loc} {q:Int} {n Lb:Nat} {l:Lg} {v:Value} {ol rest:List (Nat × Obj)} {now su:Nat → ByteArray} {c:Int} {W W':World}
theorem Off.put (g:Nat) (W:World) (z:Nat) (d:Array Int):Off g W (putRow (Value.int .i64) (Sort.ahead W z) g 0 d):=
  ⟨rfl,rfl,rfl,by simp [putRow,mapBlock,Sort.ahead],fun k hk=>by
    have:g ≠ k:=fun e=>hk e.symm
    simp [putRow,mapBlock,Sort.ahead,Array.getElem?_modify,this]⟩
theorem heap_put {g z:Nat} {cur:Array Value} {e:TypeId} {fr:Nat × Nat} (d:Array Int) (hb:W.heap[g]? = some (.cells cur e fr)) :
    (putRow (Value.int .i64) (Sort.ahead W z) g 0 d).heap[g]? = some (.cells (putCells (Value.int .i64) 0 d cur) e fr):=by
  simp [putRow,mapBlock,Sort.ahead,Array.getElem?_modify,hb,onCells]
theorem take_put (cur:Array Value) (ts:List Int) (h:ts.length ≤ cur.size):(putCells (Value.int .i64) 0 ts.toArray cur).toList.take ts.length = ts.map (Value.int .i64):=by
  apply List.ext_getElem?
  intro j
  by_cases hj:j < ts.length
  · rw [List.getElem?_take_of_lt hj,Array.getElem?_toList]
    simp [putCells,hj,show j < cur.size by omega]
  · rw [List.getElem?_take_eq_none (by omega),List.getElem?_eq_none (by simp; omega)]
theorem holds_row {g:Nat} {cur:Array Value} {xs:List Nat} (hb:W.heap[g]? = some (.cells cur 3)) (h4:cur.toList.take xs.length = xs.map nv):Holds (Value.int .i64) W g 0 ((xs.map (fun x:Nat=>(x:Int))).toArray):=by
  intro j hj
  have hj':j < xs.length:=by simpa using hj
  refine ⟨?_,F.frz_of hb _⟩
  rw [Nat.zero_add,F.cell_of hb]
  have:=congrArg (fun l=>l[j]?) h4
  simp only [List.getElem?_take_of_lt hj',List.getElem?_map,Array.getElem?_toList,List.getElem?_eq_getElem hj'] at this
  rw [this]
  simp [nv,hj']
theorem LgI.rmv (h:LgI T w L q n Lb l v ol rest now su c W) (i j:Nat) (hj:j < l.lv.length) (hi:l.lv[j] = i) (g cap:Nat) (cur:Array Value) (hv:v = .slice (some ⟨g,0,none⟩) l.lv.length cap) (hol:ol = [(g,.cells cur 3)]) (hle:l.lv.length ≤ cap) (hcap:cap ≤ maxLen) (hcs:cur.size = cap) (z:Nat) :
    ∃ cur',LgI T w L q n Lb (l.rm i) (.slice (some ⟨g,0,none⟩) (l.lv.length - 1) cap) [(g,.cells cur' 3)] rest now su c ((putRow (Value.int .i64) (Sort.ahead (W.setCell ⟨l.G,i,none⟩ (.pointer none)) z) g 0 (((l.lv.map (fun x:Nat=>(x:Int))).take j ++ (l.lv.map (fun x:Nat=>(x:Int))).drop (j + 1) ++ [0]).toArray)).setCell ⟨Lb,5,none⟩ (.slice (some ⟨g,0,none⟩) (l.lv.length - 1) cap)):=by
  have him:i ∈ l.lv:=hi ▸ List.getElem_mem hj
  have hil:=h.ok.lt i him
  have hla:l.lv.erase i = l.lv.take j ++ l.lv.drop (j + 1):=by
    have:=erase_at l.lv j hj h.nd
    rw [hi] at this
    exact this
  have hll:(l.lv.erase i).length = l.lv.length - 1:=List.length_erase_of_mem him
  obtain ⟨d,hd⟩:∃ d,d = (l.lv.map (fun x:Nat=>(x:Int))).take j ++ (l.lv.map (fun x:Nat=>(x:Int))).drop (j + 1) ++ [0]:=⟨_,rfl⟩
  have hd2:d = (l.lv.erase i).map (fun x:Nat=>(x:Int)) ++ [0]:=by rw [hd,hla,List.map_append,List.map_take,List.map_drop]
  have hdl:d.length = l.lv.length:=by rw [hd2,List.length_append,List.length_map,hll]; simp; omega
  rw [← hd]
  subst hv
  subst hol
  obtain ⟨oL,eL⟩:∃ o,o = Obj.cells (l.cs (.slice (some ⟨g,0,none⟩) l.lv.length cap)) 128:=⟨_,rfl⟩
  have hdv:=h.dv
  have tys:∀ p ∈ l.objs,∃ c,p.2 = .cells c 44:=l.objs_ty
  have mL:(Lb,Obj.cells (l.cs (.slice (some ⟨g,0,none⟩) l.lv.length cap)) 128) ∈ (Lb,Obj.cells (l.cs (.slice (some ⟨g,0,none⟩) l.lv.length cap)) 128) :: (l.G,Obj.cells l.row 28) :: ([(g,Obj.cells cur 3)] ++ (l.objs ++ rest)):=by simp
  have mG:(l.G,Obj.cells l.row 28) ∈ (Lb,Obj.cells (l.cs (.slice (some ⟨g,0,none⟩) l.lv.length cap)) 128) :: (l.G,Obj.cells l.row 28) :: ([(g,Obj.cells cur 3)] ++ (l.objs ++ rest)):=by simp
  have mg:(g,Obj.cells cur 3) ∈ (Lb,Obj.cells (l.cs (.slice (some ⟨g,0,none⟩) l.lv.length cap)) 128) :: (l.G,Obj.cells l.row 28) :: ([(g,Obj.cells cur 3)] ++ (l.objs ++ rest)):=by simp
  have mo:∀ p ∈ l.objs,p ∈ (Lb,Obj.cells (l.cs (.slice (some ⟨g,0,none⟩) l.lv.length cap)) 128) :: (l.G,Obj.cells l.row 28) :: ([(g,Obj.cells cur 3)] ++ (l.objs ++ rest)):=fun p hp=>by simp [hp]
  have nLG:Lb ≠ l.G:=hdv.ne mL mG (cells_ne (by decide))
  have nLg:Lb ≠ g:=hdv.ne mL mg (cells_ne (by decide))
  have nGg:l.G ≠ g:=hdv.ne mG mg (cells_ne (by decide))
  have noL:∀ p ∈ l.objs,p.1 ≠ Lb:=fun p hp=>hdv.ne (mo p hp) mL (by obtain ⟨x,e⟩:=tys p hp; rw [e]; exact cells_ne (by decide))
  have noG:∀ p ∈ l.objs,p.1 ≠ l.G:=fun p hp=>hdv.ne (mo p hp) mG (by obtain ⟨x,e⟩:=tys p hp; rw [e]; exact cells_ne (by decide))
  have nog:∀ p ∈ l.objs,p.1 ≠ g:=fun p hp=>hdv.ne (mo p hp) mg (by obtain ⟨x,e⟩:=tys p hp; rw [e]; exact cells_ne (by decide))
  have nrL:∀ p ∈ rest,p.1 ≠ Lb:=fun p hp e=>h.ap _ (List.mem_cons_self ..) p hp e.symm
  have nrG:∀ p ∈ rest,p.1 ≠ l.G:=fun p hp e=>h.ap (l.G,Obj.cells l.row 28) (by simp) p hp e.symm
  have nrg:∀ p ∈ rest,p.1 ≠ g:=fun p hp e=>h.ap (g,Obj.cells cur 3) (by simp) p hp e.symm
  -- the row's place is nil
  have hG0:=hdv.at' mG
  replace hG0:W.heap[l.G]? = some (Obj.cells l.row 28):=hG0
  have s1:=(hdv.forget (oth':=(l.G,Obj.cells l.row 28) :: (Lb,Obj.cells (l.cs (.slice (some ⟨g,0,none⟩) l.lv.length cap)) 128) :: (g,Obj.cells cur 3) :: (l.objs ++ rest)) (by
    intro p hp
    simp only [List.mem_cons,List.mem_append] at hp ⊢
    rcases hp with hp | hp | hp | hp | hp <;> simp [hp])).off (W':=W.setCell ⟨l.G,i,none⟩ (.pointer none)) (o':=.cells (l.rm i).row 28) (by
    intro p hp
    simp only [List.mem_cons,List.mem_append] at hp
    rcases hp with rfl | rfl | hp | hp
    · exact nLG
    · exact nGg.symm
    · exact noG p hp
    · exact nrG p hp) ((Off.refl l.G W).set i (.pointer none)) (by rw [F.block_set hG0,l.rm_row i hil]) (F.apart_of (by decide))
  -- the live ones
  have hg1:=s1.at' (p:=(g,Obj.cells cur 3)) (by simp)
  replace hg1:(W.setCell ⟨l.G,i,none⟩ (.pointer none)).heap[g]? = some (Obj.cells cur 3):=hg1
  have s2:=(s1.forget (oth':=(g,Obj.cells cur 3) :: (l.G,Obj.cells (l.rm i).row 28) :: (Lb,Obj.cells (l.cs (.slice (some ⟨g,0,none⟩) l.lv.length cap)) 128) :: (l.objs ++ rest)) (by
    intro p hp
    simp only [List.mem_cons,List.mem_append] at hp ⊢
    rcases hp with hp | hp | hp | hp | hp <;> simp [hp])).off (o':=.cells (putCells (Value.int .i64) 0 d.toArray cur) 3) (by
    intro p hp
    simp only [List.mem_cons,List.mem_append] at hp
    rcases hp with rfl | rfl | hp | hp
    · exact nGg
    · exact nLg
    · exact nog p hp
    · exact nrg p hp) (Off.put g _ z d.toArray) (heap_put d.toArray hg1) (F.apart_of (by decide))
  -- the log's own
  have hL2:=s2.at' (p:=(Lb,Obj.cells (l.cs (.slice (some ⟨g,0,none⟩) l.lv.length cap)) 128)) (by simp)
  have s3:=(s2.forget (oth':=(Lb,Obj.cells (l.cs (.slice (some ⟨g,0,none⟩) l.lv.length cap)) 128) :: (l.G,Obj.cells (l.rm i).row 28) :: (g,Obj.cells (putCells (Value.int .i64) 0 d.toArray cur) 3) :: (l.objs ++ rest)) (by
    intro p hp
    simp only [List.mem_cons,List.mem_append] at hp ⊢
    rcases hp with hp | hp | hp | hp | hp <;> simp [hp])).off (o':=.cells ((l.rm i).cs (.slice (some ⟨g,0,none⟩) (l.lv.length - 1) cap)) 128) (by
    intro p hp
    simp only [List.mem_cons,List.mem_append] at hp
    rcases hp with rfl | rfl | hp | hp
    · exact nLG.symm
    · exact nLg.symm
    · exact noL p hp
    · exact nrL p hp) ((Off.refl Lb _).set 5 (.slice (some ⟨g,0,none⟩) (l.lv.length - 1) cap)) (by rw [F.block_set hL2]; rfl) (F.apart_of (by decide))
  have ho:∀ p ∈ (l.rm i).objs,p ∈ l.objs:=fun p hp=>Lg.rm_objs h.nd hp
  refine ⟨putCells (Value.int .i64) 0 d.toArray cur,⟨h.ok.p0,h.ok.p1,h.ok.n0,h.ok.n1,fun k hk=>h.ok.lt k (List.mem_of_mem_erase hk),?_,fun k hk=>h.ok.at1 k (List.mem_of_mem_erase hk),h.ok.c,h.ok.j⟩,?_,?_,h.md,?_,h.nd.erase i,?_,?_,h.h5⟩
  · show (l.lv.erase i).length ≤ l.ns
    have:=h.ok.ln
    omega
  · refine Or.inr ⟨g,cap,_,?_,rfl,?_,hcap,by simp [putCells,hcs],?_⟩
    · show _ = Value.slice _ (l.lv.erase i).length cap
      rw [hll]
    · show (l.lv.erase i).length ≤ cap
      omega
    · show List.take (l.lv.erase i).length _ = (l.lv.erase i).map nv
      have t:=take_put cur d (by omega)
      have t2:=congrArg (List.take (l.lv.erase i).length) t
      rw [List.take_take,Nat.min_eq_left (by omega)] at t2
      rw [t2,hd2,List.map_append,List.map_map,List.take_left' (by simp)]
      rfl
  · refine s3.forget ?_
    intro p hp
    simp only [List.mem_cons,List.mem_append] at hp ⊢
    rcases hp with hp | hp | hp | hp | hp
    · simp [hp]
    · right; left; exact hp
    · rcases hp with hp | hp
      · simp [hp]
      · cases hp
    · simp [ho p hp]
    · simp [hp]
  · intro k hk
    show k ∈ l.lv.erase i ↔ (if k = i then none else l.pt k) ≠ none
    rw [h.nd.mem_erase_iff]
    by_cases e:k = i
    · rw [if_pos e]; simp [e]
    · rw [if_neg e]
      exact ⟨fun x=>(h.pn k hk).1 x.2,fun x=>⟨e,(h.pn k hk).2 x⟩⟩
  · intro k hk k2 hk2 e
    have a1:=(h.nd.mem_erase_iff).1 hk
    have a2:=(h.nd.mem_erase_iff).1 hk2
    replace e:(if k = i then none else l.pt k) = (if k2 = i then none else l.pt k2):=e
    rw [if_neg a1.1,if_neg a2.1] at e
    exact h.inj k a1.2 k2 a2.2 e
  · intro p hp r hr
    simp only [List.mem_cons,List.mem_append] at hp
    rcases hp with rfl | rfl | hp | hp
    · exact fun e=>nrL r hr e.symm
    · exact fun e=>nrG r hr e.symm
    · rcases hp with rfl | hp
      · exact fun e=>nrg r hr e.symm
      · cases hp
    · exact h.ap p (by simp [ho p hp]) r hr
set_option maxHeartbeats 1000000 in
set_option maxRecDepth 100000 in
theorem reclaim_yes (h:LgI T w L q n Lb l v ol rest now su c W) (i j:Nat) (hj:j + 1 < l.lv.length) (hi:l.lv[j] = i) (h0:1 ≤ l.nu i) (hnu:l.nu i < 18446744073709551616) (hfit:1 + i * l.p < n) (hn1:n ≤ 1000) (hc:c ≤ 50000000) :
    Calls Tryz.prog 47 #[.pointer (some ⟨Lb,0,none⟩),.int .i64 (i:Nat)] W fun e w'=>e = .returned (.bool true) ∧ ∃ v' ol',LgI T w L q n Lb (l.rm i) v' ol' rest (F.lay now (1 + i * l.p) (Hd.mk l.c l.j (l.nu i) true).sec 1) (F.lay now (1 + i * l.p) (Hd.mk l.c l.j (l.nu i) true).sec 1) (c + 2) w':=by
  have him:i ∈ l.lv:=hi ▸ List.getElem_mem _
  have hil:=h.ok.lt i him
  have hn1000:=h.ok.n1
  have hll:=h.ok.ln
  have hlt:∀ k (hk:k < j),l.lv[k]'(by omega) ≠ i:=by
    intro k hk e
    have:=nd_inj h.nd (a:=k) (b:=j) (by omega) (by omega) (e.trans hi.symm)
    omega
  have hcur:l.lv[l.lv.length - 1] ≠ i:=by
    intro e
    have:=nd_inj h.nd (a:=l.lv.length - 1) (b:=j) (by omega) (by omega) (e.trans hi.symm)
    omega
  obtain ⟨g,cap,cur,hv,hol,hle,hcap,hcs,htk⟩:∃ g cap cur,v = .slice (some ⟨g,0,none⟩) l.lv.length cap ∧ ol = [(g,.cells cur 3)] ∧ l.lv.length ≤ cap ∧ cap ≤ maxLen ∧ cur.size = cap ∧ cur.toList.take l.lv.length = l.lv.map nv:=by
    rcases h.pl with ⟨_,e,_⟩ | x
    · rw [e] at hj; exact absurd hj (Nat.not_lt_zero _)
    · exact x
  obtain ⟨S,hS,hSc⟩:=h.lz.s i him
  have q5:W.cell? ⟨Lb,5,none⟩ = some (.slice (some ⟨g,0,none⟩) l.lv.length cap):=by rw [← hv]; exact F.cell_of h.lz.b 5
  have qrow:∀ k (hk:k < l.lv.length),W.cell? ⟨g,k,none⟩ = some (nv l.lv[k]):=by
    obtain ⟨ao,cp,g',e1,e2,e3⟩:=h.lz.v
    rw [hv] at e1
    injection e1 with e1 _ _
    have e2':=e2 (by omega)
    rw [e2'] at e1
    injection e1 with e1
    injection e1 with e1 _ _
    subst e1
    exact e3
  have hx:=index88 g cap j i l.lv (by omega) qrow (by omega) hi hlt
  have hcu:=current_any h.lz (by omega) (by omega)
  obtain ⟨cu,hcu2⟩:∃ cu,cu = l.lv[l.lv.length - 1]:=⟨_,rfl⟩
  rw [← hcu2] at hcu hcur
  have hcuI:¬ (i:Int) = (cu:Int):=by omega
  have hcuI2:¬ (cu:Int) = (i:Int):=by omega
  have H:Hid (LgI T w L q n Lb l v ol rest now su c W):=h
  have HH:Hid (i < l.ns ∧ l.pt i = some S ∧ 1 ≤ l.nu i ∧ l.nu i < 18446744073709551616 ∧ 1 + i * l.p < n ∧ n ≤ 1000 ∧ c ≤ 50000000 ∧ j < l.lv.length ∧ l.lv[j] = i):=⟨hil,hS,h0,hnu,hfit,hn1,hc,by omega,hi⟩
  have HV:Hid (v = .slice (some ⟨g,0,none⟩) l.lv.length cap ∧ ol = [(g,.cells cur 3)] ∧ l.lv.length ≤ cap ∧ cap ≤ maxLen ∧ cur.size = cap ∧ cur.toList.take l.lv.length = l.lv.map nv):=⟨hv,hol,hle,hcap,hcs,htk⟩
  have hilI:(i:Int) < (l.ns:Int):=by omega
  have hjI:¬ (j:Int) < 0:=by omega
  have hj1000:j < 1000:=by omega
  have hcb:((i:Int) == (cu:Int)) = false:=by simp; omega
  have hjb:decide ((j:Int) < 0) = false:=by simp
  clear h hi hlt hcu2 hv hol hle hcap hcs htk hS hSc qrow him h0 hnu hfit hn1 hc
  go_enter Tryz.func47,Tryz.ntmps47
  go_wp2_with fail
  go_call hx as e w1 ⟨rfl,rfl⟩
  clear hx
  go_wp2_with fail
  go_call hcu as e w2 ⟨rfl,hb2⟩
  clear hcu
  have h2:=H.out.below hb2
  have q4:w2.cell? ⟨Lb,4,none⟩ = some (.slice (some ⟨l.G,0,none⟩) l.ns l.ns):=F.cell_of h2.lz.b 4
  have qg:w2.cell? ⟨l.G,i,none⟩ = some (.pointer (some ⟨S,0,none⟩)):=by rw [F.cell_of h2.lz.g i,l.row_get i HH.out.1,HH.out.2.1]; rfl
  have qn:w2.cell? ⟨S,3,none⟩ = some (.int .u64 (l.nu i:Nat)):=by
    obtain ⟨S',e1,e2⟩:=h2.lz.s i (HH.out.2.2.2.2.2.2.2.2 ▸ List.getElem_mem _)
    rw [HH.out.2.1] at e1
    injection e1 with e1
    subst e1
    exact F.cell_of e2 3
  have hw:=write_any h2 i (l.nu i) true HH.out.1 ⟨h2.ok.c,h2.ok.j,HH.out.2.2.1,HH.out.2.2.2.1⟩ HH.out.2.2.2.2.1 HH.out.2.2.2.2.2.1 HH.out.2.2.2.2.2.2.1
  clear h2 hb2 q5
  go_wp2_with fail
  go_call hw as e w3 ⟨rfl,h3⟩
  clear hw q4 qg qn
  have q4:w3.cell? ⟨Lb,4,none⟩ = some (.slice (some ⟨l.G,0,none⟩) l.ns l.ns):=F.cell_of h3.lz.b 4
  have qg:w3.cell? ⟨l.G,i,none⟩ = some (.pointer (some ⟨S,0,none⟩)):=by rw [F.cell_of h3.lz.g i,l.row_get i HH.out.1,HH.out.2.1]; rfl
  have qz:w3.frozen? ⟨l.G,i,none⟩ = false:=F.frz_of h3.lz.g i
  have hG3:=h3.lz.g
  have HLG:Hid (Lb ≠ l.G):=h3.dv.ne (p:=(Lb,.cells (l.cs v) 128)) (r:=(l.G,.cells l.row 28)) (by simp) (by simp) (cells_ne (by decide))
  have HGg:Hid (g ≠ l.G):=h3.dv.ne (p:=(g,.cells cur 3)) (r:=(l.G,.cells l.row 28)) (by simp [HV.out.2.1]) (by simp) (cells_ne (by decide))
  have HLg:Hid (Lb ≠ g):=h3.dv.ne (p:=(Lb,.cells (l.cs v) 128)) (r:=(g,.cells cur 3)) (by simp) (by simp [HV.out.2.1]) (cells_ne (by decide))
  have HB3:Hid (w3.heap[Lb]? = some (.cells (l.cs v) 128)):=h3.lz.b
  have Hg3:Hid (w3.heap[g]? = some (.cells cur 3)):=h3.dv.at' (p:=(g,.cells cur 3)) (by simp [HV.out.2.1])
  have H3:Hid _:=h3
  clear h3
  have HB4:Hid ((w3.setCell ⟨l.G,i,none⟩ (.pointer none)).heap[Lb]? = some (.cells (l.cs v) 128)):=(((Off.refl l.G w3).set i (.pointer none)).block Lb HLG.out).trans HB3.out
  have Hg4:(w3.setCell ⟨l.G,i,none⟩ (.pointer none)).heap[g]? = some (.cells cur 3):=(((Off.refl l.G w3).set i (.pointer none)).block g HGg.out).trans Hg3.out
  have q5:(w3.setCell ⟨l.G,i,none⟩ (.pointer none)).cell? ⟨Lb,5,none⟩ = some (.slice (some ⟨g,0,none⟩) l.lv.length cap):=by rw [← HV.out.1]; exact F.cell_of HB4.out 5
  have hdel:=delete_any g cap j (l.lv.map (fun x:Nat=>(x:Int))) (w3.setCell ⟨l.G,i,none⟩ (.pointer none)) (holds_row Hg4 HV.out.2.2.2.2.2) (by rw [List.length_map]; exact HV.out.2.2.1) (by have:=HV.out.2.2.2.1; unfold maxLen at this; omega) (by rw [List.length_map]; omega)
  rw [List.length_map,show ((j + 1:Nat):Int) = (j:Int) + 1 by omega] at hdel
  clear hG3 Hg4
  go_wp2_with fail
  go_call hdel as e w4 ⟨rfl,z,hw4⟩
  clear hdel q5 q4 qg qz
  have hB5:w4.heap[Lb]? = some (.cells (l.cs v) 128):=by rw [hw4]; exact ((Off.put g _ z _).block Lb HLg.out).trans HB4.out
  have qz:=F.frz_of hB5 5
  have qx5:w4.cell? ⟨Lb,5,none⟩ = some v:=F.cell_of hB5 5
  obtain ⟨cur',h5⟩:=H3.out.rmv i j HH.out.2.2.2.2.2.2.2.1 HH.out.2.2.2.2.2.2.2.2 g cap cur HV.out.1 HV.out.2.1 HV.out.2.2.1 HV.out.2.2.2.1 HV.out.2.2.2.2.1 z
  rw [← hw4] at h5
  have H5:Hid _:=h5
  clear h5 hw4 hB5
  go_wp2
  go_returns
  exact ⟨rfl,_,_,H5.out⟩
end
end Go.Proofs.YtncfbocbigdhiaaGreat.U

/- Room, and Live, of a log, as calls. -/
namespace Go.Proofs.YtncfbocbigdhiaaGreat.U
open Go Go.RowKit Go.Sort
def V69 (Lb G S ns ln cu cp:Nat) (ao:Option Addr) (k:Int) (b:Bool):Nat → Value → Prop
  | 0,v=>v = .pointer (some ⟨Lb,0,none⟩)
  | 1,v=>v = .pointer (some ⟨Lb,0,none⟩)
  | 2,v=>v = .pointer (some ⟨Lb,5,none⟩)
  | 3,v=>v = .slice ao ln cp
  | 4,v=>v = .int .i64 (ln:Nat)
  | 5,v=>v = .bool true
  | 6,v=>v = .bool true
  | 7,v=>v = .pointer (some ⟨Lb,0,none⟩)
  | 8,v=>v = .pointer (some ⟨Lb,0,none⟩)
  | 9,v=>v = .pointer (some ⟨Lb,4,none⟩)
  | 10,v=>v = .slice (some ⟨G,0,none⟩) ns ns
  | 11,v=>v = .pointer (some ⟨Lb,0,none⟩)
  | 12,v=>v = .int .i64 (cu:Nat)
  | 13,v=>v = .pointer (some ⟨G,cu,none⟩)
  | 14,v=>v = .pointer (some ⟨S,0,none⟩)
  | 15,v=>v = .int .i64 k
  | 16,v=>v = .bool b
  | 17,v=>v = .bool b
  | 18,v=>v = .bool b
  | _,_=>True
section
variable {T:Nat} {w:World} {L:F.Loc} {q:Int} {n Lb:Nat} {l:Lg} {v:Value} {ol rest:List (Nat × Obj)} {now su:Nat → ByteArray} {c:Int} {W W':World}
set_option maxRecDepth 100000 in
theorem room_none {ao:Option Addr} {cp:Nat} (h:W.heap[Lb]? = some (.cells (l.cs (.slice ao 0 cp)) 128)) (k:Int) :
    Calls Tryz.prog 69 #[.pointer (some ⟨Lb,0,none⟩),.int .i64 k] W fun e w'=>e = .returned (.bool false) ∧ Below W.heap.size W w':=by
  have q5:∀ z,(W.drewN z).cell? ⟨Lb,5,none⟩ = some (.slice ao 0 cp):=fun z=>F.cell_of (w:=W.drewN z) h 5
  clear h
  go_enter Tryz.func69,Tryz.ntmps69
  go_wp2_with fail
  go_quiet (fail)
  go_wp2
  go_returns
  exact ⟨rfl,rfl,rfl,rfl,Nat.le_refl _,fun _ _=>rfl⟩
set_option maxHeartbeats 1000000 in
set_option maxRecDepth 100000 in
theorem room_some (h:LgI T w L q n Lb l v ol rest now su c W) (hl:0 < l.lv.length) (cu:Nat) (hcu:l.lv[l.lv.length - 1] = cu) (k:Int) (b:Bool) (hb:decide (0 < k ∧ k < (l.p:Nat) - (l.a cu:Nat)) = b) :
    Calls Tryz.prog 69 #[.pointer (some ⟨Lb,0,none⟩),.int .i64 k] W fun e w'=>e = .returned (.bool b) ∧ Below W.heap.size W w':=by
  have hcm:cu ∈ l.lv:=hcu ▸ List.getElem_mem _
  obtain ⟨S,hS,hSc⟩:=h.lz.s cu hcm
  have hlt:=h.ok.lt cu hcm
  have hn1000:=h.ok.n1
  have hln:=h.ok.ln
  obtain ⟨ao,cp,hv⟩:=h.pl.len
  have hls:=h.dv.lts
  have lL:Lb < W.heap.size:=F.getElem?_lt h.lz.b
  have lG:l.G < W.heap.size:=F.getElem?_lt h.lz.g
  have lS:S < W.heap.size:=F.getElem?_lt hSc
  have H5:Hid (∀ W9,Below W.heap.size W W9 → W9.cell? ⟨Lb,5,none⟩ = some (.slice ao l.lv.length cp)):=fun W9 hb=>by rw [← hv]; exact F.cell_of ((hb.block _ lL).trans h.lz.b) 5
  have H4:Hid (∀ W9,Below W.heap.size W W9 → W9.cell? ⟨Lb,4,none⟩ = some (.slice (some ⟨l.G,0,none⟩) l.ns l.ns)):=fun W9 hb=>F.cell_of ((hb.block _ lL).trans h.lz.b) 4
  have HGr:Hid (∀ W9,Below W.heap.size W W9 → W9.cell? ⟨l.G,cu,none⟩ = some (.pointer (some ⟨S,0,none⟩))):=fun W9 hb=>by rw [F.cell_of ((hb.block _ lG).trans h.lz.g) cu,l.row_get cu hlt,hS]; rfl
  have HCU:Hid (∀ W9,Below W.heap.size W W9 → Calls Tryz.prog 87 #[.pointer (some ⟨Lb,0,none⟩)] W9 fun e w'=>e = .returned (.int .i64 (cu:Nat)) ∧ Below W9.heap.size W9 w'):=fun W9 hb=>by
    have:=current_any (h.below hb).lz hl (by omega)
    rw [hcu] at this
    exact this
  have HRM:Hid (∀ W9,Below W.heap.size W W9 → Calls Tryz.prog 14 #[.pointer (some ⟨S,0,none⟩),.int .i64 k] W9 fun e w'=>e = .returned (.bool b) ∧ Below W9.heap.size W9 w'):=fun W9 hB=>by
    have:=room_any (l.sg cu) S k W9 ((hB.block _ lS).trans hSc) ⟨by have:=h.ok.p1; show l.p ≤ 1000; omega,by have:=h.ok.at1 cu hcm; have:=h.ok.p1; show l.a cu ≤ 1000; omega⟩
    rw [show decide (0 < k ∧ k < ((l.sg cu).p:Nat) - ((l.sg cu).a:Nat)) = b from hb] at this
    exact this
  have hld:decide ((0:Int) < (l.lv.length:Int)) = true:=by simp; omega
  have hcI:(cu:Int) < (l.ns:Int):=by omega
  clear h hcm hS hSc hv hls lL lG lS hb hcu
  generalize l.lv.length = ln at *
  generalize l.G = G at *
  generalize l.ns = ns at *
  go_enter Tryz.func69,Tryz.ntmps69
  go_wp2_with fail
  refine F.wp_region_pb (fun f=>⟨#[.pointer (some ⟨Lb,0,none⟩),.int .i64 k,undef,undef,f 18,f 0,f 1,f 2,f 3,f 4,f 5,f 6,f 7,f 8,f 9,f 10,f 11,f 12,f 13,f 14,f 15,f 16,f 17],[]⟩) (V69 Lb G S ns ln cu cp ao k b) (fun _ _ W9=>Below W.heap.size W W9) (fun i=>[undef,undef,undef,undef,undef,undef,undef,undef,undef,undef,undef,undef,undef,undef,undef,undef,undef,undef,.bool false].getD i undef) (by kernel_rfl) rfl rfl ?hIr ?hputr ?stepr ?finr
  case hIr=>exact (Below.refl _ _).drew
  case finr=>
    intro f W9 hP hV
    have v0:f 0 = .pointer (some ⟨Lb,0,none⟩):=hV 0 (by decide)
    have v1:f 1 = .pointer (some ⟨Lb,0,none⟩):=hV 1 (by decide)
    have v2:f 2 = .pointer (some ⟨Lb,5,none⟩):=hV 2 (by decide)
    have v3:f 3 = .slice ao ln cp:=hV 3 (by decide)
    have v4:f 4 = .int .i64 (ln:Nat):=hV 4 (by decide)
    have v5:f 5 = .bool true:=hV 5 (by decide)
    have v6:f 6 = .bool true:=hV 6 (by decide)
    have v7:f 7 = .pointer (some ⟨Lb,0,none⟩):=hV 7 (by decide)
    have v8:f 8 = .pointer (some ⟨Lb,0,none⟩):=hV 8 (by decide)
    have v9:f 9 = .pointer (some ⟨Lb,4,none⟩):=hV 9 (by decide)
    have v10:f 10 = .slice (some ⟨G,0,none⟩) ns ns:=hV 10 (by decide)
    have v11:f 11 = .pointer (some ⟨Lb,0,none⟩):=hV 11 (by decide)
    have v12:f 12 = .int .i64 (cu:Nat):=hV 12 (by decide)
    have v13:f 13 = .pointer (some ⟨G,cu,none⟩):=hV 13 (by decide)
    have v14:f 14 = .pointer (some ⟨S,0,none⟩):=hV 14 (by decide)
    have v15:f 15 = .int .i64 k:=hV 15 (by decide)
    have v16:f 16 = .bool b:=hV 16 (by decide)
    have v17:f 17 = .bool b:=hV 17 (by decide)
    have v18:f 18 = .bool b:=hV 18 (by decide)
    clear hV
    generalize f 0 = z0 at *
    subst v0
    generalize f 1 = z1 at *
    subst v1
    generalize f 2 = z2 at *
    subst v2
    generalize f 3 = z3 at *
    subst v3
    generalize f 4 = z4 at *
    subst v4
    generalize f 5 = z5 at *
    subst v5
    generalize f 6 = z6 at *
    subst v6
    generalize f 7 = z7 at *
    subst v7
    generalize f 8 = z8 at *
    subst v8
    generalize f 9 = z9 at *
    subst v9
    generalize f 10 = z10 at *
    subst v10
    generalize f 11 = z11 at *
    subst v11
    generalize f 12 = z12 at *
    subst v12
    generalize f 13 = z13 at *
    subst v13
    generalize f 14 = z14 at *
    subst v14
    generalize f 15 = z15 at *
    subst v15
    generalize f 16 = z16 at *
    subst v16
    generalize f 17 = z17 at *
    subst v17
    generalize f 18 = z18 at *
    subst v18
    go_wp2
    go_returns
    exact ⟨rfl,hP⟩
  case hputr=>
    repeat (refine ⟨fun f v=>rfl,?_⟩)
    trivial
  case stepr=>
    refine ⟨?_,?_⟩
    · intro done f W9 hP hdn hd K hK
      clear hd
      go_simp
      exact hK _ _ rfl hP
    refine ⟨?_,?_⟩
    · intro done f W9 hP hdn hd K hK
      have d0:=(hd.1 rfl).2
      have e0:done 0 = true:=(hd.1 rfl).1
      clear hd
      replace d0:f 0 = .pointer (some ⟨Lb,0,none⟩):=d0
      generalize f 0 = x0 at *
      subst d0
      clear e0
      go_simp
      exact hK _ _ rfl hP
    refine ⟨?_,?_⟩
    · intro done f W9 hP hdn hd K hK
      have d1:=(hd.1 rfl).2
      have e1:done 1 = true:=(hd.1 rfl).1
      clear hd
      replace d1:f 1 = .pointer (some ⟨Lb,0,none⟩):=d1
      generalize f 1 = x1 at *
      subst d1
      clear e1
      go_simp
      exact hK _ _ rfl hP
    refine ⟨?_,?_⟩
    · intro done f W9 hP hdn hd K hK
      have d2:=(hd.1 rfl).2
      have e2:done 2 = true:=(hd.1 rfl).1
      clear hd
      replace d2:f 2 = .pointer (some ⟨Lb,5,none⟩):=d2
      generalize f 2 = x2 at *
      subst d2
      clear e2
      have q:=H5.out W9 hP
      go_simp
      exact hK _ _ rfl hP
    refine ⟨?_,?_⟩
    · intro done f W9 hP hdn hd K hK
      have d3:=(hd.1 rfl).2
      have e3:done 3 = true:=(hd.1 rfl).1
      clear hd
      replace d3:f 3 = .slice ao ln cp:=d3
      generalize f 3 = x3 at *
      subst d3
      clear e3
      go_simp
      exact hK _ _ rfl hP
    refine ⟨?_,?_⟩
    · intro done f W9 hP hdn hd K hK
      have d4:=(hd.1 rfl).2
      have e4:done 4 = true:=(hd.1 rfl).1
      clear hd
      replace d4:f 4 = .int .i64 (ln:Nat):=d4
      generalize f 4 = x4 at *
      subst d4
      clear e4
      go_simp
      exact hK _ _ rfl hP
    refine ⟨?_,?_⟩
    · intro done f W9 hP hdn hd K hK
      have d5:=(hd.1 rfl).2
      have e5:done 5 = true:=(hd.1 rfl).1
      clear hd
      replace d5:f 5 = .bool true:=d5
      generalize f 5 = x5 at *
      subst d5
      clear e5
      go_simp
      exact hK _ _ rfl hP
    refine ⟨?_,?_⟩
    · intro done f W9 hP hdn hd K hK
      have d6:=(hd.1 rfl).2
      have e6:done 6 = true:=(hd.1 rfl).1
      clear hd
      replace d6:f 6 = .bool true:=d6
      generalize f 6 = x6 at *
      subst d6
      clear e6
      go_simp
      exact hK _ _ rfl hP
    refine ⟨?_,?_⟩
    · intro done f W9 hP hdn hd K hK
      have d7:=(hd.1 rfl).2
      have e7:done 7 = true:=(hd.1 rfl).1
      have d6:=(hd.2.1 rfl).2
      have e6:done 6 = true:=(hd.2.1 rfl).1
      clear hd
      replace d7:f 7 = .pointer (some ⟨Lb,0,none⟩):=d7
      replace d6:f 6 = .bool true:=d6
      generalize f 7 = x7 at *
      subst d7
      clear e7
      generalize f 6 = x6 at *
      subst d6
      clear e6
      go_simp
      exact hK _ _ rfl hP
    refine ⟨?_,?_⟩
    · intro done f W9 hP hdn hd K hK
      have d8:=(hd.1 rfl).2
      have e8:done 8 = true:=(hd.1 rfl).1
      have d6:=(hd.2.1 rfl).2
      have e6:done 6 = true:=(hd.2.1 rfl).1
      clear hd
      replace d8:f 8 = .pointer (some ⟨Lb,0,none⟩):=d8
      replace d6:f 6 = .bool true:=d6
      generalize f 8 = x8 at *
      subst d8
      clear e8
      generalize f 6 = x6 at *
      subst d6
      clear e6
      go_simp
      exact hK _ _ rfl hP
    refine ⟨?_,?_⟩
    · intro done f W9 hP hdn hd K hK
      have d9:=(hd.1 rfl).2
      have e9:done 9 = true:=(hd.1 rfl).1
      have d6:=(hd.2.1 rfl).2
      have e6:done 6 = true:=(hd.2.1 rfl).1
      clear hd
      replace d9:f 9 = .pointer (some ⟨Lb,4,none⟩):=d9
      replace d6:f 6 = .bool true:=d6
      generalize f 9 = x9 at *
      subst d9
      clear e9
      generalize f 6 = x6 at *
      subst d6
      clear e6
      have q:=H4.out W9 hP
      go_simp
      exact hK _ _ rfl hP
    refine ⟨?_,?_⟩
    · intro done f W9 hP hdn hd K hK
      have d6:=(hd.1 rfl).2
      have e6:done 6 = true:=(hd.1 rfl).1
      clear hd
      replace d6:f 6 = .bool true:=d6
      generalize f 6 = x6 at *
      subst d6
      clear e6
      go_simp
      exact hK _ _ rfl hP
    refine ⟨?_,?_⟩
    · intro done f W9 hP hdn hd K hK
      have d11:=(hd.1 rfl).2
      have e11:done 11 = true:=(hd.1 rfl).1
      have d6:=(hd.2.2.1 rfl).2
      have e6:done 6 = true:=(hd.2.2.1 rfl).1
      clear hd
      replace d11:f 11 = .pointer (some ⟨Lb,0,none⟩):=d11
      replace d6:f 6 = .bool true:=d6
      generalize f 11 = x11 at *
      subst d11
      clear e11
      generalize f 6 = x6 at *
      subst d6
      clear e6
      go_simp
      refine Calls.mono (HCU.out W9 hP) ?_
      rintro e W' ⟨rfl,hb⟩
      exact hK _ _ rfl (hP.trans (hb.mono hP.size))
    refine ⟨?_,?_⟩
    · intro done f W9 hP hdn hd K hK
      have d10:=(hd.1 rfl).2
      have e10:done 10 = true:=(hd.1 rfl).1
      have d12:=(hd.2.1 rfl).2
      have e12:done 12 = true:=(hd.2.1 rfl).1
      have d6:=(hd.2.2.1 rfl).2
      have e6:done 6 = true:=(hd.2.2.1 rfl).1
      clear hd
      replace d10:f 10 = .slice (some ⟨G,0,none⟩) ns ns:=d10
      replace d12:f 12 = .int .i64 (cu:Nat):=d12
      replace d6:f 6 = .bool true:=d6
      generalize f 10 = x10 at *
      subst d10
      clear e10
      generalize f 12 = x12 at *
      subst d12
      clear e12
      generalize f 6 = x6 at *
      subst d6
      clear e6
      go_simp
      exact hK _ _ rfl hP
    refine ⟨?_,?_⟩
    · intro done f W9 hP hdn hd K hK
      have d13:=(hd.1 rfl).2
      have e13:done 13 = true:=(hd.1 rfl).1
      have d6:=(hd.2.1 rfl).2
      have e6:done 6 = true:=(hd.2.1 rfl).1
      clear hd
      replace d13:f 13 = .pointer (some ⟨G,cu,none⟩):=d13
      replace d6:f 6 = .bool true:=d6
      generalize f 13 = x13 at *
      subst d13
      clear e13
      generalize f 6 = x6 at *
      subst d6
      clear e6
      have q:=HGr.out W9 hP
      go_simp
      exact hK _ _ rfl hP
    refine ⟨?_,?_⟩
    · intro done f W9 hP hdn hd K hK
      have d6:=(hd.1 rfl).2
      have e6:done 6 = true:=(hd.1 rfl).1
      clear hd
      replace d6:f 6 = .bool true:=d6
      generalize f 6 = x6 at *
      subst d6
      clear e6
      go_simp
      exact hK _ _ rfl hP
    refine ⟨?_,?_⟩
    · intro done f W9 hP hdn hd K hK
      have d14:=(hd.1 rfl).2
      have e14:done 14 = true:=(hd.1 rfl).1
      have d15:=(hd.2.1 rfl).2
      have e15:done 15 = true:=(hd.2.1 rfl).1
      have d6:=(hd.2.2.2.1 rfl).2
      have e6:done 6 = true:=(hd.2.2.2.1 rfl).1
      clear hd
      replace d14:f 14 = .pointer (some ⟨S,0,none⟩):=d14
      replace d15:f 15 = .int .i64 k:=d15
      replace d6:f 6 = .bool true:=d6
      generalize f 14 = x14 at *
      subst d14
      clear e14
      generalize f 15 = x15 at *
      subst d15
      clear e15
      generalize f 6 = x6 at *
      subst d6
      clear e6
      go_simp
      refine Calls.mono (HRM.out W9 hP) ?_
      rintro e W' ⟨rfl,hb⟩
      exact hK _ _ rfl (hP.trans (hb.mono hP.size))
    refine ⟨?_,?_⟩
    · intro done f W9 hP hdn hd K hK
      have d6:=(hd.1 rfl).2
      have e6:done 6 = true:=(hd.1 rfl).1
      have d16:=(hd.2.1 rfl).2
      have e16:done 16 = true:=(hd.2.1 rfl).1
      clear hd
      replace d6:f 6 = .bool true:=d6
      replace d16:f 16 = .bool b:=d16
      generalize f 6 = x6 at *
      subst d6
      clear e6
      generalize f 16 = x16 at *
      subst d16
      clear e16
      go_simp
      exact hK _ _ rfl hP
    refine ⟨?_,?_⟩
    · intro done f W9 hP hdn hd K hK
      have d17:=(hd.1 rfl).2
      have e17:done 17 = true:=(hd.1 rfl).1
      clear hd
      replace d17:f 17 = .bool b:=d17
      generalize f 17 = x17 at *
      subst d17
      clear e17
      go_simp
      exact hK _ _ rfl hP
    trivial
set_option maxRecDepth 100000 in
theorem live_any (h:LgI T w L q n Lb l v ol rest now su c W) :
    Calls Tryz.prog 48 #[.pointer (some ⟨Lb,0,none⟩)] W fun e w'=>∃ v',e = .returned v' ∧ w'.ownsRow W.heap.size 3 1 v' l.lv.length (l.lv.map nv) ∧ Below W.heap.size W w':=by
  have hn1000:=h.ok.n1
  have hln:=h.ok.ln
  have q5:W.cell? ⟨Lb,5,none⟩ = some v:=F.cell_of h.lz.b 5
  have hx:Calls Tryz.prog 90 #[v] W fun e w'=>∃ v',e = .returned v' ∧ w'.ownsRow W.heap.size 3 1 v' l.lv.length (l.lv.map nv) ∧ Below W.heap.size W w':=by
    have ho:∀ p ∈ ol,W.heap[p.1]? = some p.2:=fun p hp=>h.dv.at' (by simp [hp])
    rcases h.pl with ⟨rfl,e,_⟩ | ⟨g,cap,cur,rfl,rfl,h1,h2,h3,h4⟩
    · refine (Tryz.slices_Clone_int_nil 0 0 W).mono ?_
      rintro er w' ⟨rfl,rfl⟩
      rw [e]
      exact ⟨_,rfl,⟨rfl,Or.inl ⟨rfl,rfl⟩⟩,Below.refl _ _⟩
    · have hg:=ho (g,.cells cur 3) (List.mem_singleton.2 rfl)
      have hh:=holds_row hg h4
      refine (Tryz.slices_Clone_int g 0 l.lv.length cap (l.lv.map (fun x:Nat=>(x:Int))) W (by simp) (by omega) (fun j hj=>?_)).mono ?_
      · have:=(hh j (by simpa using hj)).1
        rw [this]
        have hj':j < l.lv.length:=by simpa using hj
        simp [hj']
      · rintro er w' ⟨v',rfl,h5,_,h6⟩
        refine ⟨v',rfl,?_,h6⟩
        rw [List.take_of_length_le (by simp),List.map_map] at h5
        exact h5
  clear h
  go_enter Tryz.func48,Tryz.ntmps48
  go_wp2_with fail
  go_call hx as e w1 ⟨v',rfl,h1,h2⟩
  clear hx
  have H:Hid (w1.ownsRow W.heap.size 3 1 v' l.lv.length (l.lv.map nv) ∧ Below W.heap.size W w1):=⟨h1,h2⟩
  clear h1 h2 q5
  go_wp2
  go_returns
  exact ⟨_,rfl,H.out⟩
end
end Go.Proofs.YtncfbocbigdhiaaGreat.U
