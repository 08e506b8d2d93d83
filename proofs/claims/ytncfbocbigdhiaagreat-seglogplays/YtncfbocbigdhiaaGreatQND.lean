/- Texts of this seat, one behind the other. -/
import Derived.Test.YtncfbocbigdhiaaGreatQNC
/- Start and Reclaim, the document's and the log's, by the same words. -/
namespace Go.Proofs.YtncfbocbigdhiaaGreat.U
open Go Go.RowKit Go.Sort
def StX (X:List (Nat × List ByteArray)) (ns:Nat) (X':List (Nat × List ByteArray)) (ok:Bool):Prop:=
  (X.length = ns ∧ X' = X ∧ ok = false) ∨ (X.length < ns ∧ ok = true ∧ ∃ k,k < ns ∧ k ∉ X.map Prod.fst ∧ (∀ j,j < k → j ∈ X.map Prod.fst) ∧ X' = X ++ [(k,[])])
def RcX (X:List (Nat × List ByteArray)) (i:Int) (X':List (Nat × List ByteArray)) (ok:Bool):Prop:=
  (ok = false ∧ X' = X ∧ ((∀ s ∈ X,(s.1:Int) ≠ i) ∨ ∃ Y s,X = Y ++ [s] ∧ (s.1:Int) = i)) ∨ (ok = true ∧ ∃ Y s Z,X = Y ++ s :: Z ∧ Z ≠ [] ∧ (s.1:Int) = i ∧ X' = Y ++ Z)
theorem StX.get (X:List (Nat × List ByteArray)) (ns:Nat) (h:X.length ≤ ns):∃ X' ok,StX X ns X' ok:=by
  rcases Nat.eq_or_lt_of_le h with h | h
  · exact ⟨X,false,Or.inl ⟨h,rfl,rfl⟩⟩
  · obtain ⟨k,k1,k2,k3⟩:=least_free (X.map Prod.fst) ns (by rw [List.length_map]; exact h)
    exact ⟨_,true,Or.inr ⟨h,rfl,k,k1,k2,k3,rfl⟩⟩
theorem first_at (X:List (Nat × List ByteArray)) (i:Int):∃ m,m ≤ X.length ∧ (∀ j (hj:j < m) (h:j < X.length),(X[j].1:Int) ≠ i) ∧ ∀ h:m < X.length,(X[m].1:Int) = i:=by
  induction X with
  | nil=>exact ⟨0,Nat.le_refl _,fun j hj=>absurd hj (Nat.not_lt_zero _),fun h=>absurd h (Nat.not_lt_zero _)⟩
  | cons a r ih=>
    by_cases e:(a.1:Int) = i
    · exact ⟨0,Nat.zero_le _,fun j hj=>absurd hj (Nat.not_lt_zero _),fun _=>e⟩
    · obtain ⟨m,h1,h2,h3⟩:=ih
      refine ⟨m + 1,by simp only [List.length_cons]; omega,fun j hj h=>?_,fun h=>?_⟩
      · rcases j with _ | j
        · exact e
        · exact h2 j (by omega) (by simpa using h)
      · exact h3 (by simpa using h)
theorem RcX.get (X:List (Nat × List ByteArray)) (i:Int):∃ X' ok,RcX X i X' ok ∧ ∃ m,m ≤ X.length ∧ (∀ j (hj:j < m) (h:j < X.length),(X[j].1:Int) ≠ i) ∧ (∀ h:m < X.length,(X[m].1:Int) = i) ∧ ((ok = false ∧ X' = X ∧ (m = X.length ∨ m + 1 = X.length)) ∨ (ok = true ∧ m + 1 < X.length ∧ X' = X.take m ++ X.drop (m + 1))):=by
  obtain ⟨m,h1,h2,h3⟩:=first_at X i
  rcases Nat.lt_trichotomy (m + 1) X.length with c | c | c
  · have hm:m < X.length:=by omega
    have hd:X = X.take m ++ X[m] :: X.drop (m + 1):=by
      rw [← List.drop_eq_getElem_cons hm,List.take_append_drop]
    refine ⟨X.take m ++ X.drop (m + 1),true,Or.inr ⟨rfl,X.take m,X[m],X.drop (m + 1),hd,?_,h3 hm,rfl⟩,m,h1,h2,h3,Or.inr ⟨rfl,c,rfl⟩⟩
    intro e
    have:=congrArg List.length e
    rw [List.length_drop] at this
    simp at this
    omega
  · have hm:m < X.length:=by omega
    refine ⟨X,false,Or.inl ⟨rfl,rfl,Or.inr ⟨X.take m,X[m],?_,h3 hm⟩⟩,m,h1,h2,h3,Or.inl ⟨rfl,rfl,Or.inr c⟩⟩
    have hd:X = X.take m ++ X[m] :: X.drop (m + 1):=by
      rw [← List.drop_eq_getElem_cons hm,List.take_append_drop]
    have he:X.drop (m + 1) = []:=List.eq_nil_of_length_eq_zero (by rw [List.length_drop]; omega)
    rw [he] at hd
    exact hd
  · have hm:m = X.length:=by omega
    refine ⟨X,false,Or.inl ⟨rfl,rfl,Or.inl fun s hs=>?_⟩,m,h1,h2,h3,Or.inl ⟨rfl,rfl,Or.inl hm⟩⟩
    obtain ⟨j,hj,rfl⟩:=List.getElem_of_mem hs
    exact h2 j (by omega) hj
section
variable {v:Value} {X X':List (Nat × List ByteArray)} {ol:List (Nat × Obj)} {W:World} {ok:Bool}
set_option maxHeartbeats 2000000 in
set_option maxRecDepth 100000 in
theorem rstart_none (h:Rl v X ol) (ns p:Nat) (hns:ns ≤ 100) (hX:X.length = ns) :
    Calls Tryz.prog 74 #[.agg #[.int .i64 (ns:Nat),.int .i64 (p:Nat),v]] W fun e w'=>e = .returned (.tuple #[.agg #[.int .i64 (ns:Nat),.int .i64 (p:Nat),v],.bool false]) ∧ Below W.heap.size W w':=by
  obtain ⟨ao,cp,g',zs,hv,hao,hle,hmax,hzs,hcell⟩:=h.src
  rw [hX] at hv
  subst hv
  obtain ⟨Wa,hWa⟩:∃ Wa,Wa = ((W.alloc (.cells #[.int .i64 (ns:Nat),.int .i64 (p:Nat),.slice ao ns cp] 67)).alloc (.cells #[.int .i64 0,.int .i64 0,.slice none 0 0] 67)):=⟨_,rfl⟩
  have ha1:Below W.heap.size W Wa:=by rw [hWa]; exact ((Below.refl _ _).alloc (Nat.le_refl _) _).alloc (by simp) _
  have ha2:Wa.heap[W.heap.size]? = some (.cells #[.int .i64 (ns:Nat),.int .i64 (p:Nat),.slice ao ns cp] 67):=by
    have h1:=F.heap_new W (.cells #[.int .i64 (ns:Nat),.int .i64 (p:Nat),.slice ao ns cp] 67)
    rw [hWa]
    exact (((Below.refl _ (W.alloc (.cells #[.int .i64 (ns:Nat),.int .i64 (p:Nat),.slice ao ns cp] 67))).alloc (Nat.le_refl _) _).block _ (F.getElem?_lt h1)).trans h1
  have ha3:Wa.heap[W.heap.size + 1]? = some (.cells #[.int .i64 0,.int .i64 0,.slice none 0 0] 67):=by
    have h1:=F.heap_new (W.alloc (.cells #[.int .i64 (ns:Nat),.int .i64 (p:Nat),.slice ao ns cp] 67)) (.cells #[.int .i64 0,.int .i64 0,.slice none 0 0] 67)
    have e:(W.alloc (.cells #[.int .i64 (ns:Nat),.int .i64 (p:Nat),.slice ao ns cp] 67)).heap.size = W.heap.size + 1:=by simp
    rw [e] at h1; rw [hWa]; exact h1
  have qc0:Wa.cell? ⟨W.heap.size,0,none⟩ = some (.int .i64 (ns:Nat)):=F.cell_of ha2 0
  have qc1:Wa.cell? ⟨W.heap.size,1,none⟩ = some (.int .i64 (p:Nat)):=F.cell_of ha2 1
  have qc2:Wa.cell? ⟨W.heap.size,2,none⟩ = some (.slice ao ns cp):=F.cell_of ha2 2
  have qr0:Wa.cell? ⟨W.heap.size + 1,0,none⟩ = some (.int .i64 0):=F.cell_of ha3 0
  have qr1:Wa.cell? ⟨W.heap.size + 1,1,none⟩ = some (.int .i64 0):=F.cell_of ha3 1
  have qr2:Wa.cell? ⟨W.heap.size + 1,2,none⟩ = some (.slice none 0 0):=F.cell_of ha3 2
  have zr0:Wa.frozen? ⟨W.heap.size + 1,0,none⟩ = false:=F.frz_of ha3 0
  have zr1:Wa.frozen? ⟨W.heap.size + 1,1,none⟩ = false:=F.frz_of ha3 1
  have zr2:Wa.frozen? ⟨W.heap.size + 1,2,none⟩ = false:=F.frz_of ha3 2
  have hX3:(((ns:Nat):Int) == ((ns:Nat):Int)) = true:=by simp
  obtain ⟨t3,hoff,hbel⟩:=res3 ha3 (.int .i64 (ns:Nat)) (.int .i64 (p:Nat)) (.slice ao ns cp)
  have HF:Hid (_ ∧ _):=⟨t3,hbel W W.heap.size (by omega) ha1⟩
  have hWa':=hWa.symm
  clear h hao hle hmax hzs hcell hWa ha1 ha2 ha3 t3 hoff hbel hX
  go_enter Tryz.func74,Tryz.ntmps74
  go_wp2_with fail
  refine bodyPost_ret (lret2 Tryz.results74 _ _ (W.heap.size + 1) _ (.bool false) rfl rfl HF.out.1 rfl) rfl ⟨rfl,HF.out.2⟩
theorem rstart (h:Rl v X ol) (ho:∀ p ∈ ol,W.heap[p.1]? = some p.2) (ns p:Nat) (hns:ns ≤ 100) (hs:StX X ns X' ok) :
    Calls Tryz.prog 74 #[.agg #[.int .i64 (ns:Nat),.int .i64 (p:Nat),v]] W fun e w'=>∃ ao n cp,e = .returned (.tuple #[.agg #[.int .i64 (ns:Nat),.int .i64 (p:Nat),.slice ao n cp],.bool ok]) ∧ Below W.heap.size W w' ∧ ∃ ol',Nw W w' ol' ∧ Rl (.slice ao n cp) X' (ol' ++ ol):=by
  rcases hs with ⟨h1,rfl,rfl⟩ | ⟨h1,rfl,k,k1,k2,k3,rfl⟩
  · refine (rstart_none h ns p hns h1).mono ?_
    rintro e w' ⟨rfl,hb⟩
    obtain ⟨ao,cp,g',zs,hv,_⟩:=h.src
    subst hv
    exact ⟨_,_,_,rfl,hb,[],(fun r hr=>by cases hr),h⟩
  · refine (rstart74 h ho ns p hns h1 k k1 k2 k3).mono ?_
    rintro e w' ⟨v',rfl,hb,ol',hn,hr⟩
    obtain ⟨ao,cp,g',zs,hv,_⟩:=hr.src
    subst hv
    exact ⟨_,_,_,rfl,hb,ol',hn,hr⟩
theorem rreclaim (h:Rl v X ol) (ho:∀ p ∈ ol,W.heap[p.1]? = some p.2) (ns p:Nat) (hX:X.length ≤ 100) (i:Int) (hs:∃ m,m ≤ X.length ∧ (∀ j (hj:j < m) (h:j < X.length),(X[j].1:Int) ≠ i) ∧ (∀ h:m < X.length,(X[m].1:Int) = i) ∧ ((ok = false ∧ X' = X ∧ (m = X.length ∨ m + 1 = X.length)) ∨ (ok = true ∧ m + 1 < X.length ∧ X' = X.take m ++ X.drop (m + 1)))) :
    Calls Tryz.prog 76 #[.agg #[.int .i64 (ns:Nat),.int .i64 (p:Nat),v],.int .i64 i] W fun e w'=>∃ ao n cp,e = .returned (.tuple #[.agg #[.int .i64 (ns:Nat),.int .i64 (p:Nat),.slice ao n cp],.bool ok]) ∧ Below W.heap.size W w' ∧ ∃ ol',Nw W w' ol' ∧ Rl (.slice ao n cp) X' (ol' ++ ol):=by
  obtain ⟨m,m1,m2,m3,hs⟩:=hs
  rcases hs with ⟨rfl,rfl,h1⟩ | ⟨rfl,h1,rfl⟩
  · refine (rreclaim76_no h ho ns p i hX m m1 (fun j hj=>m2 j hj (by omega)) m3 h1).mono ?_
    rintro e w' ⟨rfl,hb⟩
    obtain ⟨ao,cp,g',zs,hv,_⟩:=h.src
    subst hv
    exact ⟨_,_,_,rfl,hb,[],(fun r hr=>by cases hr),h⟩
  · refine (rreclaim76 h ho ns p i hX m h1 (fun j hj=>m2 j hj (by omega)) (m3 (by omega))).mono ?_
    rintro e w' ⟨v',rfl,hb,ol',hn,hr⟩
    obtain ⟨ao,cp,g',zs,hv,_⟩:=hr.src
    subst hv
    exact ⟨_,_,_,rfl,hb,ol',hn,hr⟩
end
section
variable {T:Nat} {w:World} {L:F.Loc} {q:Int} {N p ns M Lb:Nat} {base:List (Nat × Obj)} {b:Nat} {X X':List (Nat × List ByteArray)} {c:Int} {W:World} {ok:Bool}
theorem LgX.startX (h:LgX T w L q N p ns M Lb base b X c W) (hs:StX X ns X' ok) (hp:8 ≤ p ∧ p ≤ 64) (hN:1 + ns * p ≤ N) (hN1:N ≤ 1000) (hb:b + 1 < 18446744073709551616) (hc:c ≤ 50000000) :
    Calls Tryz.prog 43 #[.pointer (some ⟨Lb,0,none⟩)] W fun e w'=>e = .returned (.bool ok) ∧ LgX T w L q N p ns M Lb base (b + 1) X' (c + 200) w':=by
  rcases hs with ⟨h1,rfl,rfl⟩ | ⟨h1,rfl,k,k1,k2,k3,rfl⟩
  · refine (h.start_none h1).mono ?_
    rintro e w' ⟨rfl,rfl⟩
    exact ⟨rfl,(h.more (by omega)).moreB (by omega)⟩
  · refine (h.start hp hN hN1 k k1 k2 k3 hb hc).mono ?_
    rintro e w' ⟨rfl,h2⟩
    exact ⟨rfl,h2.more (by omega)⟩
theorem LgX.reclaimX (h:LgX T w L q N p ns M Lb base b X c W) {i:Int} (hs:RcX X i X' ok) (hp:8 ≤ p ∧ p ≤ 64) (hns:ns ≤ 100) (hN:1 + ns * p ≤ N) (hN1:N ≤ 1000) (hb:b < 18446744073709551616) (hc:c ≤ 50000000) :
    Calls Tryz.prog 47 #[.pointer (some ⟨Lb,0,none⟩),.int .i64 i] W fun e w'=>e = .returned (.bool ok) ∧ LgX T w L q N p ns M Lb base (b + 1) X' (c + 200) w':=by
  rcases hs with ⟨rfl,rfl,h1⟩ | ⟨rfl,Y,s,Z,rfl,hZ,rfl,rfl⟩
  · refine (h.reclaim_no hns i h1).mono ?_
    rintro e w' ⟨rfl,h2⟩
    exact ⟨rfl,(h2.more (by omega)).moreB (by omega)⟩
  · refine (LgX.reclaim (i:=s.1) (ts:=s.2) h hZ hp hN hN1 hb hc).mono ?_
    rintro e w' ⟨rfl,h2⟩
    exact ⟨rfl,(h2.more (by omega)).moreB (by omega)⟩
end
end Go.Proofs.YtncfbocbigdhiaaGreat.U

/- does, as a call: what it hands out. -/
namespace Go.Proofs.YtncfbocbigdhiaaGreat.U
open Go Go.RowKit Go.Sort
structure Job (T:Nat) (w:World) (L:F.Loc) (q:Int) (N p ns M Lb:Nat) (need:List (Nat × Obj)) (b:Nat) (X X':List (Nat × List ByteArray)) (c:Int) (k:Nat) (caps:Array Value):Prop where
  ent:∀ args W,(callFunc k args).run Tryz.prog W = .ok (.enter k args) W
  run:∀ base W,(∀ r ∈ need,r ∈ base) → LgX T w L q N p ns M Lb base b X c W → Calls Tryz.prog k caps W fun e w'=>e = .returned (.bool true) ∧ LgX T w L q N p ns M Lb base (b + 1) X' (c + 200) w'
def act (ak an:Int) (s:ByteArray) (af:Int) (d1 d2:Bool) (co:Option Addr) (cn cc:Nat):Value:=.agg #[.int .i64 ak,.int .i64 an,.string s,.int .i64 af,.bool d1,.bool d2,.slice co cn cc]
def actC (ak an:Int) (s:ByteArray) (af:Int) (d1 d2:Bool) (co:Option Addr) (cn cc:Nat):Obj:=.cells #[.int .i64 ak,.int .i64 an,.string s,.int .i64 af,.bool d1,.bool d2,.slice co cn cc] 69
theorem ent75 (args:Array Value) (W:World):(callFunc 75 args).run Tryz.prog W = .ok (.enter 75 args) W:=O.enter_of Tryz.func75 (by kernel_rfl) (by kernel_rfl) args W
theorem ent77 (args:Array Value) (W:World):(callFunc 77 args).run Tryz.prog W = .ok (.enter 77 args) W:=O.enter_of Tryz.func77 (by kernel_rfl) (by kernel_rfl) args W
theorem ent79 (args:Array Value) (W:World):(callFunc 79 args).run Tryz.prog W = .ok (.enter 79 args) W:=O.enter_of Tryz.func79 (by kernel_rfl) (by kernel_rfl) args W
theorem ent81 (args:Array Value) (W:World):(callFunc 81 args).run Tryz.prog W = .ok (.enter 81 args) W:=O.enter_of Tryz.func81 (by kernel_rfl) (by kernel_rfl) args W
theorem ent38 (args:Array Value) (W:World):(callFunc 38 args).run Tryz.prog W = .ok (.enter 38 args) W:=O.enter_of Tryz.func38 (by kernel_rfl) (by kernel_rfl) args W
structure DoesP (T:Nat) (w:World) (L:F.Loc) (q:Int) (N p ns M Lb:Nat) (base ol:List (Nat × Obj)) (B0 b:Nat) (X:List (Nat × List ByteArray)) (c:Int) (e:Ending) (w':World):Prop where
  ex:∃ ao n cp X' need k caps,e = .returned (.tuple #[.agg #[.int .i64 (ns:Nat),.int .i64 (p:Nat),.slice ao n cp],.func (.func k) #[] caps]) ∧ LgX T w L q N p ns M Lb (need ++ base) b X c w' ∧ Rl (.slice ao n cp) X' (need ++ ol) ∧ (∀ r ∈ need,B0 ≤ r.1) ∧ Job T w L q N p ns M Lb (need ++ base) b X X' c k caps
section
variable {T:Nat} {w:World} {L:F.Loc} {q:Int} {N p ns M Lb:Nat} {b:Nat} {X:List (Nat × List ByteArray)} {c:Int}
theorem does_fin {base0 bs:List (Nat × Obj)} {B3:Nat} {W3:World} (h:LgX T w L q N p ns M Lb base0 b X c W3) (hz:(B3,Obj.cells #[.int .i64 0,.int .i64 0,.slice none 0 0] 67) ∈ base0) (hM:(M,F.med L.P 1 q) ∈ bs) (hs:∀ r ∈ bs,r ∈ base0 ∧ r.1 ≠ B3) (a1 a2 a3:Value) :
    (((W3.setCell ⟨B3,0,none⟩ a1).setCell ⟨B3,1,none⟩ a2).setCell ⟨B3,2,none⟩ a3).heap[B3]? = some (.cells #[a1,a2,a3] 67) ∧ LgX T w L q N p ns M Lb bs b X c (((W3.setCell ⟨B3,0,none⟩ a1).setCell ⟨B3,1,none⟩ a2).setCell ⟨B3,2,none⟩ a3):=by
  obtain ⟨t3,hoff,_⟩:=res3 (h.at' hz) a1 a2 a3
  have h1:LgX T w L q N p ns M Lb ((B3,Obj.cells #[.int .i64 0,.int .i64 0,.slice none 0 0] 67) :: bs) b X c W3:=h.drop (List.mem_cons_of_mem _ hM) (fun r hr=>by
    rcases List.mem_cons.1 hr with rfl | hr
    · exact hz
    · exact (hs r hr).1)
  have h2:=h1.off (fun r hr=>(hs r hr).2) hM hoff t3 (F.apart_of (by decide)) (fun _ _=>cells_ne2 (by decide))
  exact ⟨t3,h2.drop hM (fun r hr=>List.mem_cons_of_mem _ hr)⟩
end
section
variable {T:Nat} {w:World} {L:F.Loc} {q:Int} {N p ns M Lb:Nat} {base:List (Nat × Obj)} {b:Nat} {X:List (Nat × List ByteArray)} {c:Int} {W0:World} {v:Value} {ol:List (Nat × Obj)}
set_option maxHeartbeats 8000000 in
set_option maxRecDepth 100000 in
theorem does37_1 (h:LgX T w L q N p ns M Lb base b X c W0) (hM:(M,F.med L.P 1 q) ∈ base) (hr:Rl v X ol) (ho:∀ r ∈ ol,r ∈ base) (hp:8 ≤ p ∧ p ≤ 64) (hns:ns ≤ 100) (hN:1 + ns * p ≤ N) (hN1:N ≤ 1000) (hb:b + 1 < 18446744073709551616) (hc:c ≤ 5000000) (an:Int) (s:ByteArray) (af:Int) (d1 d2:Bool) (co:Option Addr) (cn cc:Nat) :
    Calls Tryz.prog 37 #[.pointer (some ⟨Lb,0,none⟩),.agg #[.int .i64 (ns:Nat),.int .i64 (p:Nat),v],act 1 an s af d1 d2 co cn cc] W0 fun e w'=>DoesP T w L q N p ns M Lb base ol W0.heap.size b X c e w':=by
  obtain ⟨xo,xn,xc,hv⟩:∃ xo xn xc,v = .slice xo xn xc:=by
    obtain ⟨ao,cp,g',zs,hv,_⟩:=hr.src
    exact ⟨_,_,_,hv⟩
  subst hv
  obtain ⟨B,hB⟩:∃ B,B = W0.heap.size:=⟨_,rfl⟩
  obtain ⟨W1,hW1⟩:∃ W1,W1 = (((W0.alloc (.cells #[.pointer (some ⟨Lb,0,none⟩)] 62)).alloc (.cells #[.int .i64 (ns:Nat),.int .i64 (p:Nat),.slice xo xn xc] 67)).alloc (actC 1 an s af d1 d2 co cn cc)).alloc (.cells #[.int .i64 0,.int .i64 0,.slice none 0 0] 67):=⟨_,rfl⟩
  have h1:=(((h.hold (.cells #[.pointer (some ⟨Lb,0,none⟩)] 62) (F.apart_of (by decide)) (fun _ _=>cells_ne2 (by decide))).hold (.cells #[.int .i64 (ns:Nat),.int .i64 (p:Nat),.slice xo xn xc] 67) (F.apart_of (by decide)) (fun _ _=>cells_ne2 (by decide))).hold (actC 1 an s af d1 d2 co cn cc) (F.apart_of (by decide)) (fun _ _=>cells_ne2 (by decide))).hold (.cells #[.int .i64 0,.int .i64 0,.slice none 0 0] 67) (F.apart_of (by decide)) (fun _ _=>cells_ne2 (by decide))
  have s1:(W0.alloc (.cells #[.pointer (some ⟨Lb,0,none⟩)] 62)).heap.size = B + 1:=by simp [hB]
  have s2:((W0.alloc (.cells #[.pointer (some ⟨Lb,0,none⟩)] 62)).alloc (.cells #[.int .i64 (ns:Nat),.int .i64 (p:Nat),.slice xo xn xc] 67)).heap.size = B + 1 + 1:=by simp [hB]
  have s3:(((W0.alloc (.cells #[.pointer (some ⟨Lb,0,none⟩)] 62)).alloc (.cells #[.int .i64 (ns:Nat),.int .i64 (p:Nat),.slice xo xn xc] 67)).alloc (actC 1 an s af d1 d2 co cn cc)).heap.size = B + 1 + 1 + 1:=by simp [hB]
  rw [s1,s2,s3,← hB,← hW1] at h1
  have H1:Hid (LgX T w L q N p ns M Lb ((B + 1 + 1 + 1,Obj.cells #[.int .i64 0,.int .i64 0,.slice none 0 0] 67) :: (B + 1 + 1,actC 1 an s af d1 d2 co cn cc) :: (B + 1,Obj.cells #[.int .i64 (ns:Nat),.int .i64 (p:Nat),.slice xo xn xc] 67) :: (B,Obj.cells #[.pointer (some ⟨Lb,0,none⟩)] 62) :: base) b X c W1):=h1
  have HLB:Hid (∀ r ∈ base,r.1 < B):=by rw [hB]; exact h.lt
  have qk:W1.cell? ⟨B + 1 + 1,0,none⟩ = some (.int .i64 1):=F.cell_of (h1.at' (r:=(B + 1 + 1,actC 1 an s af d1 d2 co cn cc)) (by simp)) 0
  have qa:W1.cell? ⟨B + 1 + 1,1,none⟩ = some (.int .i64 an):=F.cell_of (h1.at' (r:=(B + 1 + 1,actC 1 an s af d1 d2 co cn cc)) (by simp)) 1
  have qs:W1.cell? ⟨B + 1 + 1,2,none⟩ = some (.string s):=F.cell_of (h1.at' (r:=(B + 1 + 1,actC 1 an s af d1 d2 co cn cc)) (by simp)) 2
  have qx0:W1.cell? ⟨B + 1,0,none⟩ = some (.int .i64 (ns:Nat)):=F.cell_of (h1.at' (r:=(B + 1,Obj.cells #[.int .i64 (ns:Nat),.int .i64 (p:Nat),.slice xo xn xc] 67)) (by simp)) 0
  have qx1:W1.cell? ⟨B + 1,1,none⟩ = some (.int .i64 (p:Nat)):=F.cell_of (h1.at' (r:=(B + 1,Obj.cells #[.int .i64 (ns:Nat),.int .i64 (p:Nat),.slice xo xn xc] 67)) (by simp)) 1
  have qx2:W1.cell? ⟨B + 1,2,none⟩ = some (.slice xo xn xc):=F.cell_of (h1.at' (r:=(B + 1,Obj.cells #[.int .i64 (ns:Nat),.int .i64 (p:Nat),.slice xo xn xc] 67)) (by simp)) 2
  have HRL:Hid (Rl (.slice xo xn xc) X ol ∧ ∀ r ∈ ol,r ∈ base):=⟨hr,ho⟩
  have HMB:Hid ((M,F.med L.P 1 q) ∈ base):=hM
  have HH:Hid ((8 ≤ p ∧ p ≤ 64) ∧ ns ≤ 100 ∧ 1 + ns * p ≤ N ∧ N ≤ 1000 ∧ b + 1 < 18446744073709551616 ∧ c ≤ 5000000):=⟨hp,hns,hN,hN1,hb,hc⟩
  have hwo:∀ r ∈ ol,W1.heap[r.1]? = some r.2:=fun r hr=>h1.at' (by simp [ho r hr])
  have hXl:=h.len
  obtain ⟨X',ok,hst⟩:=StX.get X ns hXl
  have hcall:=rstart HRL.out.1 hwo ns p hns hst
  have HST:Hid (StX X ns X' ok):=hst
  have hW1':=hW1.symm
  have hB':=hB.symm
  have HB0:Hid (W0.heap.size = B):=hB.symm
  unfold actC at hW1'
  unfold act
  clear h hM hr ho hp hns hN hN1 hb hc hB hW1 h1 s1 s2 s3 hwo hXl hst
  go_enter Tryz.func37,Tryz.ntmps37
  go_wp2_with fail
  go_call hcall as e w2 ⟨ao,n,cp,rfl,hb2,ol',hn2,hr2⟩
  clear hcall
  have H2:Hid (LgX T w L q N p ns M Lb (ol' ++ ((B + 1 + 1 + 1,Obj.cells #[.int .i64 0,.int .i64 0,.slice none 0 0] 67) :: (B + 1 + 1,actC 1 an s af d1 d2 co cn cc) :: (B + 1,Obj.cells #[.int .i64 (ns:Nat),.int .i64 (p:Nat),.slice xo xn xc] 67) :: (B,Obj.cells #[.pointer (some ⟨Lb,0,none⟩)] 62) :: base)) b X c w2):=H1.out.adoptN hb2 hn2
  have HR2:Hid (Rl (.slice ao n cp) X' (ol' ++ ol)):=hr2
  have HOL:Hid (∀ r ∈ ol',B + 4 ≤ r.1):=fun r hr=>Nat.le_trans (F.getElem?_lt (H1.out.at' (r:=(B + 1 + 1 + 1,Obj.cells #[.int .i64 0,.int .i64 0,.slice none 0 0] 67)) (by simp))) (hn2 r hr).2.1
  clear hb2 hn2 hr2 qk qa qs qx0 qx1 qx2
  obtain ⟨yB,hyB⟩:∃ yB,yB = w2.heap.size:=⟨_,rfl⟩
  have h3:=(H2.out.hold (.cells #[.int .i64 (ns:Nat),.int .i64 (p:Nat),.slice ao n cp] 67) (F.apart_of (by decide)) (fun _ _=>cells_ne2 (by decide))).hold (.cells #[.bool ok] 4) (F.apart_of (by decide)) (fun _ _=>cells_ne2 (by decide))
  obtain ⟨W3,hW3⟩:∃ W3,W3 = (w2.alloc (.cells #[.int .i64 (ns:Nat),.int .i64 (p:Nat),.slice ao n cp] 67)).alloc (.cells #[.bool ok] 4):=⟨_,rfl⟩
  have t1:(w2.alloc (.cells #[.int .i64 (ns:Nat),.int .i64 (p:Nat),.slice ao n cp] 67)).heap.size = yB + 1:=by simp [hyB]
  rw [t1,← hyB,← hW3] at h3
  have hyB4:B + 4 ≤ yB:=by rw [hyB]; exact F.getElem?_lt (H2.out.at' (r:=(B + 1 + 1 + 1,Obj.cells #[.int .i64 0,.int .i64 0,.slice none 0 0] 67)) (by simp))
  obtain ⟨need,hneed⟩:∃ need,need = (yB + 1,Obj.cells #[.bool ok] 4) :: (B,Obj.cells #[.pointer (some ⟨Lb,0,none⟩)] 62) :: ol':=⟨_,rfl⟩
  have hfin:=does_fin (bs:=need ++ base) (B3:=B + 1 + 1 + 1) h3 (by simp) (List.mem_append_right _ HMB.out) (fun r hr=>by
    rw [hneed] at hr
    simp only [List.cons_append,List.mem_cons,List.mem_append] at hr
    rcases hr with rfl | rfl | hr | hr
    · exact ⟨by simp,by show yB + 1 ≠ _; omega⟩
    · exact ⟨by simp,by show B ≠ _; omega⟩
    · exact ⟨by simp [hr],by have:=HOL.out r hr; omega⟩
    · exact ⟨by simp [hr],by have:=HLB.out r hr; omega⟩) (.int .i64 (ns:Nat)) (.int .i64 (p:Nat)) (.slice ao n cp)
  have HF:Hid (_ ∧ _):=hfin
  have hz:=h3.at' (r:=(B + 1 + 1 + 1,Obj.cells #[.int .i64 0,.int .i64 0,.slice none 0 0] 67)) (by simp)
  have qr0:W3.cell? ⟨B + 1 + 1 + 1,0,none⟩ = some (.int .i64 0):=F.cell_of hz 0
  have qr1:W3.cell? ⟨B + 1 + 1 + 1,1,none⟩ = some (.int .i64 0):=F.cell_of hz 1
  have qr2:W3.cell? ⟨B + 1 + 1 + 1,2,none⟩ = some (.slice none 0 0):=F.cell_of hz 2
  have zr0:W3.frozen? ⟨B + 1 + 1 + 1,0,none⟩ = false:=F.frz_of hz 0
  have zr1:W3.frozen? ⟨B + 1 + 1 + 1,1,none⟩ = false:=F.frz_of hz 1
  have zr2:W3.frozen? ⟨B + 1 + 1 + 1,2,none⟩ = false:=F.frz_of hz 2
  have hzy:=h3.at' (r:=(yB,Obj.cells #[.int .i64 (ns:Nat),.int .i64 (p:Nat),.slice ao n cp] 67)) (by simp)
  have qy0:W3.cell? ⟨yB,0,none⟩ = some (.int .i64 (ns:Nat)):=F.cell_of hzy 0
  have qy1:W3.cell? ⟨yB,1,none⟩ = some (.int .i64 (p:Nat)):=F.cell_of hzy 1
  have qy2:W3.cell? ⟨yB,2,none⟩ = some (.slice ao n cp):=F.cell_of hzy 2
  have HN:Hid (need = (yB + 1,Obj.cells #[.bool ok] 4) :: (B,Obj.cells #[.pointer (some ⟨Lb,0,none⟩)] 62) :: ol'):=hneed
  have hyB':=hyB.symm
  have hW3':=hW3.symm
  clear h3 hneed hfin hz hzy t1 hyB hW3
  go_wp2_with fail
  refine bodyPost_ret (lret2 Tryz.results37 _ _ (B + 1 + 1 + 1) _ _ rfl rfl HF.out.1 rfl) rfl ⟨ao,n,cp,X',need,75,_,rfl,HF.out.2,?_,fun r hr=>?_,ent75,fun base2 W2 hs2 h2=>?_⟩
  · refine HR2.out.mono (fun r hr=>?_)
    rw [HN.out]
    rcases List.mem_append.1 hr with hr | hr
    · simp [hr]
    · simp [hr]
  · rw [HN.out] at hr
    simp only [List.mem_cons] at hr
    rcases hr with rfl | rfl | hr
    · show W0.heap.size ≤ yB + 1; omega
    · show W0.heap.size ≤ B; omega
    · have:=HOL.out r hr; omega
  · obtain ⟨b1,b2,b3,b4,b5,b6⟩:=HH.out
    have m1:(yB + 1,Obj.cells #[.bool ok] 4) ∈ base2:=hs2 _ (by rw [HN.out]; simp)
    have m2:(B,Obj.cells #[.pointer (some ⟨Lb,0,none⟩)] 62) ∈ base2:=hs2 _ (by rw [HN.out]; simp)
    refine clos75 (P:=fun W=>LgX T w L q N p ns M Lb base2 b X c W) (Q:=fun W=>LgX T w L q N p ns M Lb base2 (b + 1) X' (c + 200) W) (Lb:=Lb) (ok:=ok) (fun W hW=>?_) (fun W hW=>hW.below (Below.refl _ _).drew) (fun W hW=>hW.startX HST.out b1 b3 b4 b5 (by omega)) W2 h2
    have hat:∀ r ∈ base2,W.heap[r.1]? = some r.2:=by
      rcases hW with hW | hW <;> exact fun r hr=>hW.at' hr
    exact ⟨F.cell_of (hat _ m2) 0,F.cell_of (hat _ m1) 0⟩
end
end Go.Proofs.YtncfbocbigdhiaaGreat.U
