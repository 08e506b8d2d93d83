/- does of Reclaim, as a call. -/
import Derived.Test.YtncfbocbigdhiaaGreatQND
namespace Go.Proofs.YtncfbocbigdhiaaGreat.U
open Go Go.RowKit Go.Sort
theorem World.alloc_size (W:World) (o:Obj):(W.alloc o).heap.size = W.heap.size + 1:=by simp
section
variable {T:Nat} {w:World} {L:F.Loc} {q:Int} {N p ns M Lb:Nat} {base:List (Nat × Obj)} {b:Nat} {X:List (Nat × List ByteArray)} {c:Int} {W0:World} {v:Value} {ol:List (Nat × Obj)}
set_option maxHeartbeats 8000000 in
set_option maxRecDepth 100000 in
theorem does37_2a (h:LgX T w L q N p ns M Lb base b X c W0) (hM:(M,F.med L.P 1 q) ∈ base) (hr:Rl v X ol) (ho:∀ r ∈ ol,r ∈ base) (hp:8 ≤ p ∧ p ≤ 64) (hns:ns ≤ 100) (hN:1 + ns * p ≤ N) (hN1:N ≤ 1000) (hb:b + 1 < 18446744073709551616) (hc:c ≤ 5000000) (an:Int) (hcase:an < 0) (s:ByteArray) (af:Int) (d1 d2:Bool) (co:Option Addr) (cn cc:Nat) :
    Calls Tryz.prog 37 #[.pointer (some ⟨Lb,0,none⟩),.agg #[.int .i64 (ns:Nat),.int .i64 (p:Nat),v],act 2 an s af d1 d2 co cn cc] W0 fun e w'=>DoesP T w L q N p ns M Lb base ol W0.heap.size b X c e w':=by
  obtain ⟨xo,xn,xc,hv⟩:∃ xo xn xc,v = .slice xo xn xc:=by
    obtain ⟨ao,cp,g',zs,hv,_⟩:=hr.src
    exact ⟨_,_,_,hv⟩
  subst hv
  obtain ⟨B,hB⟩:∃ B,B = W0.heap.size:=⟨_,rfl⟩
  obtain ⟨W1,hW1⟩:∃ W1,W1 = (((W0.alloc (.cells #[.pointer (some ⟨Lb,0,none⟩)] 62)).alloc (.cells #[.int .i64 (ns:Nat),.int .i64 (p:Nat),.slice xo xn xc] 67)).alloc (actC 2 an s af d1 d2 co cn cc)).alloc (.cells #[.int .i64 0,.int .i64 0,.slice none 0 0] 67):=⟨_,rfl⟩
  have h1:=(((h.hold (.cells #[.pointer (some ⟨Lb,0,none⟩)] 62) (F.apart_of (by decide)) (fun _ _=>cells_ne2 (by decide))).hold (.cells #[.int .i64 (ns:Nat),.int .i64 (p:Nat),.slice xo xn xc] 67) (F.apart_of (by decide)) (fun _ _=>cells_ne2 (by decide))).hold (actC 2 an s af d1 d2 co cn cc) (F.apart_of (by decide)) (fun _ _=>cells_ne2 (by decide))).hold (.cells #[.int .i64 0,.int .i64 0,.slice none 0 0] 67) (F.apart_of (by decide)) (fun _ _=>cells_ne2 (by decide))
  have s1:(W0.alloc (.cells #[.pointer (some ⟨Lb,0,none⟩)] 62)).heap.size = B + 1:=by simp [hB]
  have s2:((W0.alloc (.cells #[.pointer (some ⟨Lb,0,none⟩)] 62)).alloc (.cells #[.int .i64 (ns:Nat),.int .i64 (p:Nat),.slice xo xn xc] 67)).heap.size = B + 1 + 1:=by simp [hB]
  have s3:(((W0.alloc (.cells #[.pointer (some ⟨Lb,0,none⟩)] 62)).alloc (.cells #[.int .i64 (ns:Nat),.int .i64 (p:Nat),.slice xo xn xc] 67)).alloc (actC 2 an s af d1 d2 co cn cc)).heap.size = B + 1 + 1 + 1:=by simp [hB]
  rw [s1,s2,s3,← hB,← hW1] at h1
  have H1:Hid (LgX T w L q N p ns M Lb ((B + 1 + 1 + 1,Obj.cells #[.int .i64 0,.int .i64 0,.slice none 0 0] 67) :: (B + 1 + 1,actC 2 an s af d1 d2 co cn cc) :: (B + 1,Obj.cells #[.int .i64 (ns:Nat),.int .i64 (p:Nat),.slice xo xn xc] 67) :: (B,Obj.cells #[.pointer (some ⟨Lb,0,none⟩)] 62) :: base) b X c W1):=h1
  have HLB:Hid (∀ r ∈ base,r.1 < B):=by rw [hB]; exact h.lt
  have qk:W1.cell? ⟨B + 1 + 1,0,none⟩ = some (.int .i64 2):=F.cell_of (h1.at' (r:=(B + 1 + 1,actC 2 an s af d1 d2 co cn cc)) (by simp)) 0
  have qa:W1.cell? ⟨B + 1 + 1,1,none⟩ = some (.int .i64 an):=F.cell_of (h1.at' (r:=(B + 1 + 1,actC 2 an s af d1 d2 co cn cc)) (by simp)) 1
  have qs:W1.cell? ⟨B + 1 + 1,2,none⟩ = some (.string s):=F.cell_of (h1.at' (r:=(B + 1 + 1,actC 2 an s af d1 d2 co cn cc)) (by simp)) 2
  have qx0:W1.cell? ⟨B + 1,0,none⟩ = some (.int .i64 (ns:Nat)):=F.cell_of (h1.at' (r:=(B + 1,Obj.cells #[.int .i64 (ns:Nat),.int .i64 (p:Nat),.slice xo xn xc] 67)) (by simp)) 0
  have qx1:W1.cell? ⟨B + 1,1,none⟩ = some (.int .i64 (p:Nat)):=F.cell_of (h1.at' (r:=(B + 1,Obj.cells #[.int .i64 (ns:Nat),.int .i64 (p:Nat),.slice xo xn xc] 67)) (by simp)) 1
  have qx2:W1.cell? ⟨B + 1,2,none⟩ = some (.slice xo xn xc):=F.cell_of (h1.at' (r:=(B + 1,Obj.cells #[.int .i64 (ns:Nat),.int .i64 (p:Nat),.slice xo xn xc] 67)) (by simp)) 2
  have HRL:Hid (Rl (.slice xo xn xc) X ol ∧ ∀ r ∈ ol,r ∈ base):=⟨hr,ho⟩
  have HMB:Hid ((M,F.med L.P 1 q) ∈ base):=hM
  have HH:Hid ((8 ≤ p ∧ p ≤ 64) ∧ ns ≤ 100 ∧ 1 + ns * p ≤ N ∧ N ≤ 1000 ∧ b + 1 < 18446744073709551616 ∧ c ≤ 5000000):=⟨hp,hns,hN,hN1,hb,hc⟩
  have hwo:∀ r ∈ ol,W1.heap[r.1]? = some r.2:=fun r hr=>h1.at' (by simp [ho r hr])
  have hXl:=h.len
  obtain ⟨sg,hsg⟩:∃ sg,sg = an:=⟨_,rfl⟩
  have hcs:=hsg
  obtain ⟨X',ok,hrc,hrm⟩:=RcX.get X sg
  obtain ⟨W2,hW2⟩:∃ W2,W2 = W1.alloc (.cells #[.int .i64 sg] 3):=⟨_,rfl⟩
  have hb4:W1.heap.size = B + 1 + 1 + 1 + 1:=by rw [hW1,World.alloc_size,s3]
  have h2:=h1.hold (.cells #[.int .i64 sg] 3) (F.apart_of (by decide)) (fun _ _=>cells_ne2 (by decide))
  rw [hb4,← hW2] at h2
  have H2:Hid (LgX T w L q N p ns M Lb ((B + 1 + 1 + 1 + 1,Obj.cells #[.int .i64 sg] 3) :: (B + 1 + 1 + 1,Obj.cells #[.int .i64 0,.int .i64 0,.slice none 0 0] 67) :: (B + 1 + 1,actC 2 an s af d1 d2 co cn cc) :: (B + 1,Obj.cells #[.int .i64 (ns:Nat),.int .i64 (p:Nat),.slice xo xn xc] 67) :: (B,Obj.cells #[.pointer (some ⟨Lb,0,none⟩)] 62) :: base) b X c W2):=h2
  have hwo2:∀ r ∈ ol,W2.heap[r.1]? = some r.2:=fun r hr=>h2.at' (by simp [ho r hr])
  have hcall:=rreclaim HRL.out.1 hwo2 ns p (by omega) sg hrm
  have HST:Hid (RcX X sg X' ok):=hrc
  have hx2:=h2.at' (r:=(B + 1,Obj.cells #[.int .i64 (ns:Nat),.int .i64 (p:Nat),.slice xo xn xc] 67)) (by simp)
  have qy0:W2.cell? ⟨B + 1,0,none⟩ = some (.int .i64 (ns:Nat)):=F.cell_of hx2 0
  have qy1:W2.cell? ⟨B + 1,1,none⟩ = some (.int .i64 (p:Nat)):=F.cell_of hx2 1
  have qy2:W2.cell? ⟨B + 1,2,none⟩ = some (.slice xo xn xc):=F.cell_of hx2 2
  have qy3:W2.cell? ⟨B + 1 + 1 + 1 + 1,0,none⟩ = some (.int .i64 sg):=F.cell_of (h2.at' (r:=(B + 1 + 1 + 1 + 1,Obj.cells #[.int .i64 sg] 3)) (by simp)) 0
  have hact2:=h2.at' (r:=(B + 1 + 1,actC 2 an s af d1 d2 co cn cc)) (by simp)
  have qz0:W2.cell? ⟨B + 1 + 1,0,none⟩ = some (.int .i64 2):=F.cell_of hact2 0
  have qz1:W2.cell? ⟨B + 1 + 1,1,none⟩ = some (.int .i64 an):=F.cell_of hact2 1
  have hW2':=hW2.symm
  have hW1':=hW1.symm
  have hB':=hB.symm
  unfold actC at hW1'
  unfold act
  have hg1:¬ (0:Int) ≤ an:=by omega
  have hg2:an < 0:=hcase
  rw [hsg] at hW2'
  clear h hM hr ho hp hns hN hN1 hb hc hB hW1 h1 s1 s2 s3 hwo hwo2 hrc hrm h2 hx2 hact2 hW2 hcs hsg hXl
  go_enter Tryz.func37,Tryz.ntmps37
  go_wp2_with fail
  go_call hcall as e w3 ⟨ao,n,cp,rfl,hb2,ol',hn2,hr2⟩
  clear hcall
  have H3:Hid (LgX T w L q N p ns M Lb (ol' ++ ((B + 1 + 1 + 1 + 1,Obj.cells #[.int .i64 sg] 3) :: (B + 1 + 1 + 1,Obj.cells #[.int .i64 0,.int .i64 0,.slice none 0 0] 67) :: (B + 1 + 1,actC 2 an s af d1 d2 co cn cc) :: (B + 1,Obj.cells #[.int .i64 (ns:Nat),.int .i64 (p:Nat),.slice xo xn xc] 67) :: (B,Obj.cells #[.pointer (some ⟨Lb,0,none⟩)] 62) :: base)) b X c w3):=H2.out.adoptN hb2 hn2
  have HR2:Hid (Rl (.slice ao n cp) X' (ol' ++ ol)):=hr2
  have HOL:Hid (∀ r ∈ ol',B + 5 ≤ r.1):=fun r hr=>Nat.le_trans (F.getElem?_lt (H2.out.at' (r:=(B + 1 + 1 + 1 + 1,Obj.cells #[.int .i64 sg] 3)) (by simp))) (hn2 r hr).2.1
  clear hb2 hn2 hr2 qk qa qs qx0 qx1 qx2 qy0 qy1 qy2 qy3 qz0 qz1
  obtain ⟨yB,hyB⟩:∃ yB,yB = w3.heap.size:=⟨_,rfl⟩
  have h3:=(H3.out.hold (.cells #[.int .i64 (ns:Nat),.int .i64 (p:Nat),.slice ao n cp] 67) (F.apart_of (by decide)) (fun _ _=>cells_ne2 (by decide))).hold (.cells #[.bool ok] 4) (F.apart_of (by decide)) (fun _ _=>cells_ne2 (by decide))
  obtain ⟨W4,hW4⟩:∃ W4,W4 = (w3.alloc (.cells #[.int .i64 (ns:Nat),.int .i64 (p:Nat),.slice ao n cp] 67)).alloc (.cells #[.bool ok] 4):=⟨_,rfl⟩
  have t1:(w3.alloc (.cells #[.int .i64 (ns:Nat),.int .i64 (p:Nat),.slice ao n cp] 67)).heap.size = yB + 1:=by simp [hyB]
  rw [t1,← hyB,← hW4] at h3
  have hyB4:B + 5 ≤ yB:=by rw [hyB]; exact F.getElem?_lt (H3.out.at' (r:=(B + 1 + 1 + 1 + 1,Obj.cells #[.int .i64 sg] 3)) (by simp))
  obtain ⟨need,hneed⟩:∃ need,need = (yB + 1,Obj.cells #[.bool ok] 4) :: (B,Obj.cells #[.pointer (some ⟨Lb,0,none⟩)] 62) :: (B + 1 + 1 + 1 + 1,Obj.cells #[.int .i64 sg] 3) :: ol':=⟨_,rfl⟩
  have hfin:=does_fin (bs:=need ++ base) (B3:=B + 1 + 1 + 1) h3 (by simp) (List.mem_append_right _ HMB.out) (fun r hr=>by
    rw [hneed] at hr
    simp only [List.cons_append,List.mem_cons,List.mem_append] at hr
    rcases hr with rfl | rfl | rfl | hr | hr
    · exact ⟨by simp,by show yB + 1 ≠ _; omega⟩
    · exact ⟨by simp,by show B ≠ _; omega⟩
    · exact ⟨by simp,by show B + 1 + 1 + 1 + 1 ≠ _; omega⟩
    · exact ⟨by simp [hr],by have:=HOL.out r hr; omega⟩
    · exact ⟨by simp [hr],by have:=HLB.out r hr; omega⟩) (.int .i64 (ns:Nat)) (.int .i64 (p:Nat)) (.slice ao n cp)
  have HF:Hid (_ ∧ _):=hfin
  have hz:=h3.at' (r:=(B + 1 + 1 + 1,Obj.cells #[.int .i64 0,.int .i64 0,.slice none 0 0] 67)) (by simp)
  have qr0:W4.cell? ⟨B + 1 + 1 + 1,0,none⟩ = some (.int .i64 0):=F.cell_of hz 0
  have qr1:W4.cell? ⟨B + 1 + 1 + 1,1,none⟩ = some (.int .i64 0):=F.cell_of hz 1
  have qr2:W4.cell? ⟨B + 1 + 1 + 1,2,none⟩ = some (.slice none 0 0):=F.cell_of hz 2
  have zr0:W4.frozen? ⟨B + 1 + 1 + 1,0,none⟩ = false:=F.frz_of hz 0
  have zr1:W4.frozen? ⟨B + 1 + 1 + 1,1,none⟩ = false:=F.frz_of hz 1
  have zr2:W4.frozen? ⟨B + 1 + 1 + 1,2,none⟩ = false:=F.frz_of hz 2
  have hzy:=h3.at' (r:=(yB,Obj.cells #[.int .i64 (ns:Nat),.int .i64 (p:Nat),.slice ao n cp] 67)) (by simp)
  have qy0:W4.cell? ⟨yB,0,none⟩ = some (.int .i64 (ns:Nat)):=F.cell_of hzy 0
  have qy1:W4.cell? ⟨yB,1,none⟩ = some (.int .i64 (p:Nat)):=F.cell_of hzy 1
  have qy2:W4.cell? ⟨yB,2,none⟩ = some (.slice ao n cp):=F.cell_of hzy 2
  have HN:Hid (need = (yB + 1,Obj.cells #[.bool ok] 4) :: (B,Obj.cells #[.pointer (some ⟨Lb,0,none⟩)] 62) :: (B + 1 + 1 + 1 + 1,Obj.cells #[.int .i64 sg] 3) :: ol'):=hneed
  have hyB':=hyB.symm
  have hW4':=hW4.symm
  clear h3 hneed hfin hz hzy t1 hyB hW4
  go_wp2_with fail
  refine bodyPost_ret (lret2 Tryz.results37 _ _ (B + 1 + 1 + 1) _ _ rfl rfl HF.out.1 rfl) rfl ⟨ao,n,cp,X',need,77,_,rfl,HF.out.2,?_,fun r hr=>?_,ent77,fun base2 W9 hs2 h9=>?_⟩
  · refine HR2.out.mono (fun r hr=>?_)
    rw [HN.out]
    rcases List.mem_append.1 hr with hr | hr
    · simp [hr]
    · simp [hr]
  · rw [HN.out] at hr
    simp only [List.mem_cons] at hr
    rcases hr with rfl | rfl | rfl | hr
    · show W0.heap.size ≤ yB + 1; omega
    · show W0.heap.size ≤ B; omega
    · show W0.heap.size ≤ B + 1 + 1 + 1 + 1; omega
    · have:=HOL.out r hr; omega
  · obtain ⟨b1,b2,b3,b4,b5,b6⟩:=HH.out
    have m1:(yB + 1,Obj.cells #[.bool ok] 4) ∈ base2:=hs2 _ (by rw [HN.out]; simp)
    have m2:(B,Obj.cells #[.pointer (some ⟨Lb,0,none⟩)] 62) ∈ base2:=hs2 _ (by rw [HN.out]; simp)
    have m3:(B + 1 + 1 + 1 + 1,Obj.cells #[.int .i64 sg] 3) ∈ base2:=hs2 _ (by rw [HN.out]; simp)
    refine clos77 (P:=fun W=>LgX T w L q N p ns M Lb base2 b X c W) (Q:=fun W=>LgX T w L q N p ns M Lb base2 (b + 1) X' (c + 200) W) (Lb:=Lb) (ok:=ok) (i:=sg) (fun W hW=>?_) (fun W hW=>hW.below (Below.refl _ _).drew) (fun W hW=>hW.reclaimX HST.out b1 b2 b3 b4 (by omega) (by omega)) W9 h9
    have hat:∀ r ∈ base2,W.heap[r.1]? = some r.2:=by
      rcases hW with hW | hW <;> exact fun r hr=>hW.at' hr
    exact ⟨F.cell_of (hat _ m2) 0,F.cell_of (hat _ m3) 0,F.cell_of (hat _ m1) 0⟩
set_option maxHeartbeats 8000000 in
set_option maxRecDepth 100000 in
theorem does37_2b (h:LgX T w L q N p ns M Lb base b X c W0) (hM:(M,F.med L.P 1 q) ∈ base) (hr:Rl v X ol) (ho:∀ r ∈ ol,r ∈ base) (hp:8 ≤ p ∧ p ≤ 64) (hns:ns ≤ 100) (hN:1 + ns * p ≤ N) (hN1:N ≤ 1000) (hb:b + 1 < 18446744073709551616) (hc:c ≤ 5000000) (an:Int) (hcase:(X.length:Int) ≤ an) (s:ByteArray) (af:Int) (d1 d2:Bool) (co:Option Addr) (cn cc:Nat) :
    Calls Tryz.prog 37 #[.pointer (some ⟨Lb,0,none⟩),.agg #[.int .i64 (ns:Nat),.int .i64 (p:Nat),v],act 2 an s af d1 d2 co cn cc] W0 fun e w'=>DoesP T w L q N p ns M Lb base ol W0.heap.size b X c e w':=by
  obtain ⟨xo,xn,xc,hv⟩:∃ xo xn xc,v = .slice xo xn xc:=by
    obtain ⟨ao,cp,g',zs,hv,_⟩:=hr.src
    exact ⟨_,_,_,hv⟩
  subst hv
  obtain ⟨B,hB⟩:∃ B,B = W0.heap.size:=⟨_,rfl⟩
  obtain ⟨W1,hW1⟩:∃ W1,W1 = (((W0.alloc (.cells #[.pointer (some ⟨Lb,0,none⟩)] 62)).alloc (.cells #[.int .i64 (ns:Nat),.int .i64 (p:Nat),.slice xo xn xc] 67)).alloc (actC 2 an s af d1 d2 co cn cc)).alloc (.cells #[.int .i64 0,.int .i64 0,.slice none 0 0] 67):=⟨_,rfl⟩
  have h1:=(((h.hold (.cells #[.pointer (some ⟨Lb,0,none⟩)] 62) (F.apart_of (by decide)) (fun _ _=>cells_ne2 (by decide))).hold (.cells #[.int .i64 (ns:Nat),.int .i64 (p:Nat),.slice xo xn xc] 67) (F.apart_of (by decide)) (fun _ _=>cells_ne2 (by decide))).hold (actC 2 an s af d1 d2 co cn cc) (F.apart_of (by decide)) (fun _ _=>cells_ne2 (by decide))).hold (.cells #[.int .i64 0,.int .i64 0,.slice none 0 0] 67) (F.apart_of (by decide)) (fun _ _=>cells_ne2 (by decide))
  have s1:(W0.alloc (.cells #[.pointer (some ⟨Lb,0,none⟩)] 62)).heap.size = B + 1:=by simp [hB]
  have s2:((W0.alloc (.cells #[.pointer (some ⟨Lb,0,none⟩)] 62)).alloc (.cells #[.int .i64 (ns:Nat),.int .i64 (p:Nat),.slice xo xn xc] 67)).heap.size = B + 1 + 1:=by simp [hB]
  have s3:(((W0.alloc (.cells #[.pointer (some ⟨Lb,0,none⟩)] 62)).alloc (.cells #[.int .i64 (ns:Nat),.int .i64 (p:Nat),.slice xo xn xc] 67)).alloc (actC 2 an s af d1 d2 co cn cc)).heap.size = B + 1 + 1 + 1:=by simp [hB]
  rw [s1,s2,s3,← hB,← hW1] at h1
  have H1:Hid (LgX T w L q N p ns M Lb ((B + 1 + 1 + 1,Obj.cells #[.int .i64 0,.int .i64 0,.slice none 0 0] 67) :: (B + 1 + 1,actC 2 an s af d1 d2 co cn cc) :: (B + 1,Obj.cells #[.int .i64 (ns:Nat),.int .i64 (p:Nat),.slice xo xn xc] 67) :: (B,Obj.cells #[.pointer (some ⟨Lb,0,none⟩)] 62) :: base) b X c W1):=h1
  have HLB:Hid (∀ r ∈ base,r.1 < B):=by rw [hB]; exact h.lt
  have qk:W1.cell? ⟨B + 1 + 1,0,none⟩ = some (.int .i64 2):=F.cell_of (h1.at' (r:=(B + 1 + 1,actC 2 an s af d1 d2 co cn cc)) (by simp)) 0
  have qa:W1.cell? ⟨B + 1 + 1,1,none⟩ = some (.int .i64 an):=F.cell_of (h1.at' (r:=(B + 1 + 1,actC 2 an s af d1 d2 co cn cc)) (by simp)) 1
  have qs:W1.cell? ⟨B + 1 + 1,2,none⟩ = some (.string s):=F.cell_of (h1.at' (r:=(B + 1 + 1,actC 2 an s af d1 d2 co cn cc)) (by simp)) 2
  have qx0:W1.cell? ⟨B + 1,0,none⟩ = some (.int .i64 (ns:Nat)):=F.cell_of (h1.at' (r:=(B + 1,Obj.cells #[.int .i64 (ns:Nat),.int .i64 (p:Nat),.slice xo xn xc] 67)) (by simp)) 0
  have qx1:W1.cell? ⟨B + 1,1,none⟩ = some (.int .i64 (p:Nat)):=F.cell_of (h1.at' (r:=(B + 1,Obj.cells #[.int .i64 (ns:Nat),.int .i64 (p:Nat),.slice xo xn xc] 67)) (by simp)) 1
  have qx2:W1.cell? ⟨B + 1,2,none⟩ = some (.slice xo xn xc):=F.cell_of (h1.at' (r:=(B + 1,Obj.cells #[.int .i64 (ns:Nat),.int .i64 (p:Nat),.slice xo xn xc] 67)) (by simp)) 2
  have HRL:Hid (Rl (.slice xo xn xc) X ol ∧ ∀ r ∈ ol,r ∈ base):=⟨hr,ho⟩
  have HMB:Hid ((M,F.med L.P 1 q) ∈ base):=hM
  have HH:Hid ((8 ≤ p ∧ p ≤ 64) ∧ ns ≤ 100 ∧ 1 + ns * p ≤ N ∧ N ≤ 1000 ∧ b + 1 < 18446744073709551616 ∧ c ≤ 5000000):=⟨hp,hns,hN,hN1,hb,hc⟩
  have hwo:∀ r ∈ ol,W1.heap[r.1]? = some r.2:=fun r hr=>h1.at' (by simp [ho r hr])
  have hXl:=h.len
  obtain ⟨sg,hsg⟩:∃ sg,sg = an:=⟨_,rfl⟩
  have hcs:=hsg
  obtain ⟨X',ok,hrc,hrm⟩:=RcX.get X sg
  obtain ⟨W2,hW2⟩:∃ W2,W2 = W1.alloc (.cells #[.int .i64 sg] 3):=⟨_,rfl⟩
  have hb4:W1.heap.size = B + 1 + 1 + 1 + 1:=by rw [hW1,World.alloc_size,s3]
  have h2:=h1.hold (.cells #[.int .i64 sg] 3) (F.apart_of (by decide)) (fun _ _=>cells_ne2 (by decide))
  rw [hb4,← hW2] at h2
  have H2:Hid (LgX T w L q N p ns M Lb ((B + 1 + 1 + 1 + 1,Obj.cells #[.int .i64 sg] 3) :: (B + 1 + 1 + 1,Obj.cells #[.int .i64 0,.int .i64 0,.slice none 0 0] 67) :: (B + 1 + 1,actC 2 an s af d1 d2 co cn cc) :: (B + 1,Obj.cells #[.int .i64 (ns:Nat),.int .i64 (p:Nat),.slice xo xn xc] 67) :: (B,Obj.cells #[.pointer (some ⟨Lb,0,none⟩)] 62) :: base) b X c W2):=h2
  have hwo2:∀ r ∈ ol,W2.heap[r.1]? = some r.2:=fun r hr=>h2.at' (by simp [ho r hr])
  have hcall:=rreclaim HRL.out.1 hwo2 ns p (by omega) sg hrm
  have HST:Hid (RcX X sg X' ok):=hrc
  have hx2:=h2.at' (r:=(B + 1,Obj.cells #[.int .i64 (ns:Nat),.int .i64 (p:Nat),.slice xo xn xc] 67)) (by simp)
  have qy0:W2.cell? ⟨B + 1,0,none⟩ = some (.int .i64 (ns:Nat)):=F.cell_of hx2 0
  have qy1:W2.cell? ⟨B + 1,1,none⟩ = some (.int .i64 (p:Nat)):=F.cell_of hx2 1
  have qy2:W2.cell? ⟨B + 1,2,none⟩ = some (.slice xo xn xc):=F.cell_of hx2 2
  have qy3:W2.cell? ⟨B + 1 + 1 + 1 + 1,0,none⟩ = some (.int .i64 sg):=F.cell_of (h2.at' (r:=(B + 1 + 1 + 1 + 1,Obj.cells #[.int .i64 sg] 3)) (by simp)) 0
  have hact2:=h2.at' (r:=(B + 1 + 1,actC 2 an s af d1 d2 co cn cc)) (by simp)
  have qz0:W2.cell? ⟨B + 1 + 1,0,none⟩ = some (.int .i64 2):=F.cell_of hact2 0
  have qz1:W2.cell? ⟨B + 1 + 1,1,none⟩ = some (.int .i64 an):=F.cell_of hact2 1
  have hW2':=hW2.symm
  have hW1':=hW1.symm
  have hB':=hB.symm
  unfold actC at hW1'
  unfold act
  have hxn:xn = X.length:=by
    obtain ⟨ao,cp,g',zs,hv,_⟩:=hr.src
    injection hv
  have hg1:(0:Int) ≤ an:=by omega
  have hg2:¬ an < (xn:Int):=by omega
  rw [hsg] at hW2'
  clear hcase hxn
  clear h hM hr ho hp hns hN hN1 hb hc hB hW1 h1 s1 s2 s3 hwo hwo2 hrc hrm h2 hx2 hact2 hW2 hcs hsg hXl
  go_enter Tryz.func37,Tryz.ntmps37
  go_wp2_with fail
  go_call hcall as e w3 ⟨ao,n,cp,rfl,hb2,ol',hn2,hr2⟩
  clear hcall
  have H3:Hid (LgX T w L q N p ns M Lb (ol' ++ ((B + 1 + 1 + 1 + 1,Obj.cells #[.int .i64 sg] 3) :: (B + 1 + 1 + 1,Obj.cells #[.int .i64 0,.int .i64 0,.slice none 0 0] 67) :: (B + 1 + 1,actC 2 an s af d1 d2 co cn cc) :: (B + 1,Obj.cells #[.int .i64 (ns:Nat),.int .i64 (p:Nat),.slice xo xn xc] 67) :: (B,Obj.cells #[.pointer (some ⟨Lb,0,none⟩)] 62) :: base)) b X c w3):=H2.out.adoptN hb2 hn2
  have HR2:Hid (Rl (.slice ao n cp) X' (ol' ++ ol)):=hr2
  have HOL:Hid (∀ r ∈ ol',B + 5 ≤ r.1):=fun r hr=>Nat.le_trans (F.getElem?_lt (H2.out.at' (r:=(B + 1 + 1 + 1 + 1,Obj.cells #[.int .i64 sg] 3)) (by simp))) (hn2 r hr).2.1
  clear hb2 hn2 hr2 qk qa qs qx0 qx1 qx2 qy0 qy1 qy2 qy3 qz0 qz1
  obtain ⟨yB,hyB⟩:∃ yB,yB = w3.heap.size:=⟨_,rfl⟩
  have h3:=(H3.out.hold (.cells #[.int .i64 (ns:Nat),.int .i64 (p:Nat),.slice ao n cp] 67) (F.apart_of (by decide)) (fun _ _=>cells_ne2 (by decide))).hold (.cells #[.bool ok] 4) (F.apart_of (by decide)) (fun _ _=>cells_ne2 (by decide))
  obtain ⟨W4,hW4⟩:∃ W4,W4 = (w3.alloc (.cells #[.int .i64 (ns:Nat),.int .i64 (p:Nat),.slice ao n cp] 67)).alloc (.cells #[.bool ok] 4):=⟨_,rfl⟩
  have t1:(w3.alloc (.cells #[.int .i64 (ns:Nat),.int .i64 (p:Nat),.slice ao n cp] 67)).heap.size = yB + 1:=by simp [hyB]
  rw [t1,← hyB,← hW4] at h3
  have hyB4:B + 5 ≤ yB:=by rw [hyB]; exact F.getElem?_lt (H3.out.at' (r:=(B + 1 + 1 + 1 + 1,Obj.cells #[.int .i64 sg] 3)) (by simp))
  obtain ⟨need,hneed⟩:∃ need,need = (yB + 1,Obj.cells #[.bool ok] 4) :: (B,Obj.cells #[.pointer (some ⟨Lb,0,none⟩)] 62) :: (B + 1 + 1 + 1 + 1,Obj.cells #[.int .i64 sg] 3) :: ol':=⟨_,rfl⟩
  have hfin:=does_fin (bs:=need ++ base) (B3:=B + 1 + 1 + 1) h3 (by simp) (List.mem_append_right _ HMB.out) (fun r hr=>by
    rw [hneed] at hr
    simp only [List.cons_append,List.mem_cons,List.mem_append] at hr
    rcases hr with rfl | rfl | rfl | hr | hr
    · exact ⟨by simp,by show yB + 1 ≠ _; omega⟩
    · exact ⟨by simp,by show B ≠ _; omega⟩
    · exact ⟨by simp,by show B + 1 + 1 + 1 + 1 ≠ _; omega⟩
    · exact ⟨by simp [hr],by have:=HOL.out r hr; omega⟩
    · exact ⟨by simp [hr],by have:=HLB.out r hr; omega⟩) (.int .i64 (ns:Nat)) (.int .i64 (p:Nat)) (.slice ao n cp)
  have HF:Hid (_ ∧ _):=hfin
  have hz:=h3.at' (r:=(B + 1 + 1 + 1,Obj.cells #[.int .i64 0,.int .i64 0,.slice none 0 0] 67)) (by simp)
  have qr0:W4.cell? ⟨B + 1 + 1 + 1,0,none⟩ = some (.int .i64 0):=F.cell_of hz 0
  have qr1:W4.cell? ⟨B + 1 + 1 + 1,1,none⟩ = some (.int .i64 0):=F.cell_of hz 1
  have qr2:W4.cell? ⟨B + 1 + 1 + 1,2,none⟩ = some (.slice none 0 0):=F.cell_of hz 2
  have zr0:W4.frozen? ⟨B + 1 + 1 + 1,0,none⟩ = false:=F.frz_of hz 0
  have zr1:W4.frozen? ⟨B + 1 + 1 + 1,1,none⟩ = false:=F.frz_of hz 1
  have zr2:W4.frozen? ⟨B + 1 + 1 + 1,2,none⟩ = false:=F.frz_of hz 2
  have hzy:=h3.at' (r:=(yB,Obj.cells #[.int .i64 (ns:Nat),.int .i64 (p:Nat),.slice ao n cp] 67)) (by simp)
  have qy0:W4.cell? ⟨yB,0,none⟩ = some (.int .i64 (ns:Nat)):=F.cell_of hzy 0
  have qy1:W4.cell? ⟨yB,1,none⟩ = some (.int .i64 (p:Nat)):=F.cell_of hzy 1
  have qy2:W4.cell? ⟨yB,2,none⟩ = some (.slice ao n cp):=F.cell_of hzy 2
  have HN:Hid (need = (yB + 1,Obj.cells #[.bool ok] 4) :: (B,Obj.cells #[.pointer (some ⟨Lb,0,none⟩)] 62) :: (B + 1 + 1 + 1 + 1,Obj.cells #[.int .i64 sg] 3) :: ol'):=hneed
  have hyB':=hyB.symm
  have hW4':=hW4.symm
  clear h3 hneed hfin hz hzy t1 hyB hW4
  go_wp2_with fail
  refine bodyPost_ret (lret2 Tryz.results37 _ _ (B + 1 + 1 + 1) _ _ rfl rfl HF.out.1 rfl) rfl ⟨ao,n,cp,X',need,77,_,rfl,HF.out.2,?_,fun r hr=>?_,ent77,fun base2 W9 hs2 h9=>?_⟩
  · refine HR2.out.mono (fun r hr=>?_)
    rw [HN.out]
    rcases List.mem_append.1 hr with hr | hr
    · simp [hr]
    · simp [hr]
  · rw [HN.out] at hr
    simp only [List.mem_cons] at hr
    rcases hr with rfl | rfl | rfl | hr
    · show W0.heap.size ≤ yB + 1; omega
    · show W0.heap.size ≤ B; omega
    · show W0.heap.size ≤ B + 1 + 1 + 1 + 1; omega
    · have:=HOL.out r hr; omega
  · obtain ⟨b1,b2,b3,b4,b5,b6⟩:=HH.out
    have m1:(yB + 1,Obj.cells #[.bool ok] 4) ∈ base2:=hs2 _ (by rw [HN.out]; simp)
    have m2:(B,Obj.cells #[.pointer (some ⟨Lb,0,none⟩)] 62) ∈ base2:=hs2 _ (by rw [HN.out]; simp)
    have m3:(B + 1 + 1 + 1 + 1,Obj.cells #[.int .i64 sg] 3) ∈ base2:=hs2 _ (by rw [HN.out]; simp)
    refine clos77 (P:=fun W=>LgX T w L q N p ns M Lb base2 b X c W) (Q:=fun W=>LgX T w L q N p ns M Lb base2 (b + 1) X' (c + 200) W) (Lb:=Lb) (ok:=ok) (i:=sg) (fun W hW=>?_) (fun W hW=>hW.below (Below.refl _ _).drew) (fun W hW=>hW.reclaimX HST.out b1 b2 b3 b4 (by omega) (by omega)) W9 h9
    have hat:∀ r ∈ base2,W.heap[r.1]? = some r.2:=by
      rcases hW with hW | hW <;> exact fun r hr=>hW.at' hr
    exact ⟨F.cell_of (hat _ m2) 0,F.cell_of (hat _ m3) 0,F.cell_of (hat _ m1) 0⟩
set_option maxHeartbeats 8000000 in
set_option maxRecDepth 100000 in
theorem does37_2c (h:LgX T w L q N p ns M Lb base b X c W0) (hM:(M,F.med L.P 1 q) ∈ base) (hr:Rl v X ol) (ho:∀ r ∈ ol,r ∈ base) (hp:8 ≤ p ∧ p ≤ 64) (hns:ns ≤ 100) (hN:1 + ns * p ≤ N) (hN1:N ≤ 1000) (hb:b + 1 < 18446744073709551616) (hc:c ≤ 5000000) (j:Nat) (hcase:j < X.length) (s:ByteArray) (af:Int) (d1 d2:Bool) (co:Option Addr) (cn cc:Nat) :
    Calls Tryz.prog 37 #[.pointer (some ⟨Lb,0,none⟩),.agg #[.int .i64 (ns:Nat),.int .i64 (p:Nat),v],act 2 (j:Int) s af d1 d2 co cn cc] W0 fun e w'=>DoesP T w L q N p ns M Lb base ol W0.heap.size b X c e w':=by
  obtain ⟨xo,xn,xc,hv⟩:∃ xo xn xc,v = .slice xo xn xc:=by
    obtain ⟨ao,cp,g',zs,hv,_⟩:=hr.src
    exact ⟨_,_,_,hv⟩
  subst hv
  obtain ⟨B,hB⟩:∃ B,B = W0.heap.size:=⟨_,rfl⟩
  obtain ⟨W1,hW1⟩:∃ W1,W1 = (((W0.alloc (.cells #[.pointer (some ⟨Lb,0,none⟩)] 62)).alloc (.cells #[.int .i64 (ns:Nat),.int .i64 (p:Nat),.slice xo xn xc] 67)).alloc (actC 2 (j:Int) s af d1 d2 co cn cc)).alloc (.cells #[.int .i64 0,.int .i64 0,.slice none 0 0] 67):=⟨_,rfl⟩
  have h1:=(((h.hold (.cells #[.pointer (some ⟨Lb,0,none⟩)] 62) (F.apart_of (by decide)) (fun _ _=>cells_ne2 (by decide))).hold (.cells #[.int .i64 (ns:Nat),.int .i64 (p:Nat),.slice xo xn xc] 67) (F.apart_of (by decide)) (fun _ _=>cells_ne2 (by decide))).hold (actC 2 (j:Int) s af d1 d2 co cn cc) (F.apart_of (by decide)) (fun _ _=>cells_ne2 (by decide))).hold (.cells #[.int .i64 0,.int .i64 0,.slice none 0 0] 67) (F.apart_of (by decide)) (fun _ _=>cells_ne2 (by decide))
  have s1:(W0.alloc (.cells #[.pointer (some ⟨Lb,0,none⟩)] 62)).heap.size = B + 1:=by simp [hB]
  have s2:((W0.alloc (.cells #[.pointer (some ⟨Lb,0,none⟩)] 62)).alloc (.cells #[.int .i64 (ns:Nat),.int .i64 (p:Nat),.slice xo xn xc] 67)).heap.size = B + 1 + 1:=by simp [hB]
  have s3:(((W0.alloc (.cells #[.pointer (some ⟨Lb,0,none⟩)] 62)).alloc (.cells #[.int .i64 (ns:Nat),.int .i64 (p:Nat),.slice xo xn xc] 67)).alloc (actC 2 (j:Int) s af d1 d2 co cn cc)).heap.size = B + 1 + 1 + 1:=by simp [hB]
  rw [s1,s2,s3,← hB,← hW1] at h1
  have H1:Hid (LgX T w L q N p ns M Lb ((B + 1 + 1 + 1,Obj.cells #[.int .i64 0,.int .i64 0,.slice none 0 0] 67) :: (B + 1 + 1,actC 2 (j:Int) s af d1 d2 co cn cc) :: (B + 1,Obj.cells #[.int .i64 (ns:Nat),.int .i64 (p:Nat),.slice xo xn xc] 67) :: (B,Obj.cells #[.pointer (some ⟨Lb,0,none⟩)] 62) :: base) b X c W1):=h1
  have HLB:Hid (∀ r ∈ base,r.1 < B):=by rw [hB]; exact h.lt
  have qk:W1.cell? ⟨B + 1 + 1,0,none⟩ = some (.int .i64 2):=F.cell_of (h1.at' (r:=(B + 1 + 1,actC 2 (j:Int) s af d1 d2 co cn cc)) (by simp)) 0
  have qa:W1.cell? ⟨B + 1 + 1,1,none⟩ = some (.int .i64 (j:Int)):=F.cell_of (h1.at' (r:=(B + 1 + 1,actC 2 (j:Int) s af d1 d2 co cn cc)) (by simp)) 1
  have qs:W1.cell? ⟨B + 1 + 1,2,none⟩ = some (.string s):=F.cell_of (h1.at' (r:=(B + 1 + 1,actC 2 (j:Int) s af d1 d2 co cn cc)) (by simp)) 2
  have qx0:W1.cell? ⟨B + 1,0,none⟩ = some (.int .i64 (ns:Nat)):=F.cell_of (h1.at' (r:=(B + 1,Obj.cells #[.int .i64 (ns:Nat),.int .i64 (p:Nat),.slice xo xn xc] 67)) (by simp)) 0
  have qx1:W1.cell? ⟨B + 1,1,none⟩ = some (.int .i64 (p:Nat)):=F.cell_of (h1.at' (r:=(B + 1,Obj.cells #[.int .i64 (ns:Nat),.int .i64 (p:Nat),.slice xo xn xc] 67)) (by simp)) 1
  have qx2:W1.cell? ⟨B + 1,2,none⟩ = some (.slice xo xn xc):=F.cell_of (h1.at' (r:=(B + 1,Obj.cells #[.int .i64 (ns:Nat),.int .i64 (p:Nat),.slice xo xn xc] 67)) (by simp)) 2
  have HRL:Hid (Rl (.slice xo xn xc) X ol ∧ ∀ r ∈ ol,r ∈ base):=⟨hr,ho⟩
  have HMB:Hid ((M,F.med L.P 1 q) ∈ base):=hM
  have HH:Hid ((8 ≤ p ∧ p ≤ 64) ∧ ns ≤ 100 ∧ 1 + ns * p ≤ N ∧ N ≤ 1000 ∧ b + 1 < 18446744073709551616 ∧ c ≤ 5000000):=⟨hp,hns,hN,hN1,hb,hc⟩
  have hwo:∀ r ∈ ol,W1.heap[r.1]? = some r.2:=fun r hr=>h1.at' (by simp [ho r hr])
  have hXl:=h.len
  obtain ⟨sg,hsg⟩:∃ sg:Int,sg = (X[j].1:Nat):=⟨_,rfl⟩
  have hcs:=hsg
  obtain ⟨X',ok,hrc,hrm⟩:=RcX.get X sg
  obtain ⟨W2,hW2⟩:∃ W2,W2 = W1.alloc (.cells #[.int .i64 sg] 3):=⟨_,rfl⟩
  have hb4:W1.heap.size = B + 1 + 1 + 1 + 1:=by rw [hW1,World.alloc_size,s3]
  have h2:=h1.hold (.cells #[.int .i64 sg] 3) (F.apart_of (by decide)) (fun _ _=>cells_ne2 (by decide))
  rw [hb4,← hW2] at h2
  have H2:Hid (LgX T w L q N p ns M Lb ((B + 1 + 1 + 1 + 1,Obj.cells #[.int .i64 sg] 3) :: (B + 1 + 1 + 1,Obj.cells #[.int .i64 0,.int .i64 0,.slice none 0 0] 67) :: (B + 1 + 1,actC 2 (j:Int) s af d1 d2 co cn cc) :: (B + 1,Obj.cells #[.int .i64 (ns:Nat),.int .i64 (p:Nat),.slice xo xn xc] 67) :: (B,Obj.cells #[.pointer (some ⟨Lb,0,none⟩)] 62) :: base) b X c W2):=h2
  have hwo2:∀ r ∈ ol,W2.heap[r.1]? = some r.2:=fun r hr=>h2.at' (by simp [ho r hr])
  have hcall:=rreclaim HRL.out.1 hwo2 ns p (by omega) sg hrm
  have HST:Hid (RcX X sg X' ok):=hrc
  have hx2:=h2.at' (r:=(B + 1,Obj.cells #[.int .i64 (ns:Nat),.int .i64 (p:Nat),.slice xo xn xc] 67)) (by simp)
  have qy0:W2.cell? ⟨B + 1,0,none⟩ = some (.int .i64 (ns:Nat)):=F.cell_of hx2 0
  have qy1:W2.cell? ⟨B + 1,1,none⟩ = some (.int .i64 (p:Nat)):=F.cell_of hx2 1
  have qy2:W2.cell? ⟨B + 1,2,none⟩ = some (.slice xo xn xc):=F.cell_of hx2 2
  have qy3:W2.cell? ⟨B + 1 + 1 + 1 + 1,0,none⟩ = some (.int .i64 sg):=F.cell_of (h2.at' (r:=(B + 1 + 1 + 1 + 1,Obj.cells #[.int .i64 sg] 3)) (by simp)) 0
  have hact2:=h2.at' (r:=(B + 1 + 1,actC 2 (j:Int) s af d1 d2 co cn cc)) (by simp)
  have qz0:W2.cell? ⟨B + 1 + 1,0,none⟩ = some (.int .i64 2):=F.cell_of hact2 0
  have qz1:W2.cell? ⟨B + 1 + 1,1,none⟩ = some (.int .i64 (j:Int)):=F.cell_of hact2 1
  have hW2':=hW2.symm
  have hW1':=hW1.symm
  have hB':=hB.symm
  unfold actC at hW1'
  unfold act
  obtain ⟨xg,hxo,hxn,hxc⟩:∃ xg,xo = some ⟨xg,0,none⟩ ∧ xn = X.length ∧ ∀ W:World,(∀ r ∈ ol,W.heap[r.1]? = some r.2) → W.cell? ⟨xg,j * 2,none⟩ = some (.int .i64 sg):=by
    obtain ⟨ao,cp,g',zs,hv,hao,_,_,hzs,hcell⟩:=hr.src
    injection hv with e1 e2 e3
    subst e1
    subst e2
    obtain ⟨tv,tl,a1,a2,a3,a4⟩:=hzs.get j hcase
    refine ⟨g',hao (by omega),rfl,fun W hW=>?_⟩
    have:=hcell W hW _ _ a1
    rw [Nat.zero_add] at this
    rw [this,hsg]; rfl
  subst hxo
  have qxs:(W1.alloc (.cells #[.int .i64 (j:Int)] 3)).cell? ⟨xg,j * 2,none⟩ = some (.int .i64 sg):=by
    have hb0:Below W1.heap.size W1 (W1.alloc (.cells #[.int .i64 (j:Int)] 3)):=(Below.refl _ _).alloc (Nat.le_refl _) _
    exact hxc _ (fun r hr=>(hb0.block _ (F.getElem?_lt (hwo r hr))).trans (hwo r hr))
  have qxs1:W1.cell? ⟨xg,j * 2,none⟩ = some (.int .i64 sg):=hxc _ hwo
  have hg1:(0:Int) ≤ (j:Int):=by omega
  have hg2:(j:Int) < (xn:Int):=by omega
  have hg3:j < xn:=by omega
  clear hxn hxc
  clear h hM hr ho hp hns hN hN1 hb hc hB hW1 h1 s1 s2 s3 hwo hwo2 hrc hrm h2 hx2 hact2 hW2 hcs hsg hXl
  go_enter Tryz.func37,Tryz.ntmps37
  go_wp2_with fail
  go_call hcall as e w3 ⟨ao,n,cp,rfl,hb2,ol',hn2,hr2⟩
  clear hcall
  have H3:Hid (LgX T w L q N p ns M Lb (ol' ++ ((B + 1 + 1 + 1 + 1,Obj.cells #[.int .i64 sg] 3) :: (B + 1 + 1 + 1,Obj.cells #[.int .i64 0,.int .i64 0,.slice none 0 0] 67) :: (B + 1 + 1,actC 2 (j:Int) s af d1 d2 co cn cc) :: (B + 1,Obj.cells #[.int .i64 (ns:Nat),.int .i64 (p:Nat),.slice (some ⟨xg,0,none⟩) xn xc] 67) :: (B,Obj.cells #[.pointer (some ⟨Lb,0,none⟩)] 62) :: base)) b X c w3):=H2.out.adoptN hb2 hn2
  have HR2:Hid (Rl (.slice ao n cp) X' (ol' ++ ol)):=hr2
  have HOL:Hid (∀ r ∈ ol',B + 5 ≤ r.1):=fun r hr=>Nat.le_trans (F.getElem?_lt (H2.out.at' (r:=(B + 1 + 1 + 1 + 1,Obj.cells #[.int .i64 sg] 3)) (by simp))) (hn2 r hr).2.1
  clear hb2 hn2 hr2 qk qa qs qx0 qx1 qx2 qy0 qy1 qy2 qy3 qz0 qz1
  obtain ⟨yB,hyB⟩:∃ yB,yB = w3.heap.size:=⟨_,rfl⟩
  have h3:=(H3.out.hold (.cells #[.int .i64 (ns:Nat),.int .i64 (p:Nat),.slice ao n cp] 67) (F.apart_of (by decide)) (fun _ _=>cells_ne2 (by decide))).hold (.cells #[.bool ok] 4) (F.apart_of (by decide)) (fun _ _=>cells_ne2 (by decide))
  obtain ⟨W4,hW4⟩:∃ W4,W4 = (w3.alloc (.cells #[.int .i64 (ns:Nat),.int .i64 (p:Nat),.slice ao n cp] 67)).alloc (.cells #[.bool ok] 4):=⟨_,rfl⟩
  have t1:(w3.alloc (.cells #[.int .i64 (ns:Nat),.int .i64 (p:Nat),.slice ao n cp] 67)).heap.size = yB + 1:=by simp [hyB]
  rw [t1,← hyB,← hW4] at h3
  have hyB4:B + 5 ≤ yB:=by rw [hyB]; exact F.getElem?_lt (H3.out.at' (r:=(B + 1 + 1 + 1 + 1,Obj.cells #[.int .i64 sg] 3)) (by simp))
  obtain ⟨need,hneed⟩:∃ need,need = (yB + 1,Obj.cells #[.bool ok] 4) :: (B,Obj.cells #[.pointer (some ⟨Lb,0,none⟩)] 62) :: (B + 1 + 1 + 1 + 1,Obj.cells #[.int .i64 sg] 3) :: ol':=⟨_,rfl⟩
  have hfin:=does_fin (bs:=need ++ base) (B3:=B + 1 + 1 + 1) h3 (by simp) (List.mem_append_right _ HMB.out) (fun r hr=>by
    rw [hneed] at hr
    simp only [List.cons_append,List.mem_cons,List.mem_append] at hr
    rcases hr with rfl | rfl | rfl | hr | hr
    · exact ⟨by simp,by show yB + 1 ≠ _; omega⟩
    · exact ⟨by simp,by show B ≠ _; omega⟩
    · exact ⟨by simp,by show B + 1 + 1 + 1 + 1 ≠ _; omega⟩
    · exact ⟨by simp [hr],by have:=HOL.out r hr; omega⟩
    · exact ⟨by simp [hr],by have:=HLB.out r hr; omega⟩) (.int .i64 (ns:Nat)) (.int .i64 (p:Nat)) (.slice ao n cp)
  have HF:Hid (_ ∧ _):=hfin
  have hz:=h3.at' (r:=(B + 1 + 1 + 1,Obj.cells #[.int .i64 0,.int .i64 0,.slice none 0 0] 67)) (by simp)
  have qr0:W4.cell? ⟨B + 1 + 1 + 1,0,none⟩ = some (.int .i64 0):=F.cell_of hz 0
  have qr1:W4.cell? ⟨B + 1 + 1 + 1,1,none⟩ = some (.int .i64 0):=F.cell_of hz 1
  have qr2:W4.cell? ⟨B + 1 + 1 + 1,2,none⟩ = some (.slice none 0 0):=F.cell_of hz 2
  have zr0:W4.frozen? ⟨B + 1 + 1 + 1,0,none⟩ = false:=F.frz_of hz 0
  have zr1:W4.frozen? ⟨B + 1 + 1 + 1,1,none⟩ = false:=F.frz_of hz 1
  have zr2:W4.frozen? ⟨B + 1 + 1 + 1,2,none⟩ = false:=F.frz_of hz 2
  have hzy:=h3.at' (r:=(yB,Obj.cells #[.int .i64 (ns:Nat),.int .i64 (p:Nat),.slice ao n cp] 67)) (by simp)
  have qy0:W4.cell? ⟨yB,0,none⟩ = some (.int .i64 (ns:Nat)):=F.cell_of hzy 0
  have qy1:W4.cell? ⟨yB,1,none⟩ = some (.int .i64 (p:Nat)):=F.cell_of hzy 1
  have qy2:W4.cell? ⟨yB,2,none⟩ = some (.slice ao n cp):=F.cell_of hzy 2
  have HN:Hid (need = (yB + 1,Obj.cells #[.bool ok] 4) :: (B,Obj.cells #[.pointer (some ⟨Lb,0,none⟩)] 62) :: (B + 1 + 1 + 1 + 1,Obj.cells #[.int .i64 sg] 3) :: ol'):=hneed
  have hyB':=hyB.symm
  have hW4':=hW4.symm
  clear h3 hneed hfin hz hzy t1 hyB hW4
  go_wp2_with fail
  refine bodyPost_ret (lret2 Tryz.results37 _ _ (B + 1 + 1 + 1) _ _ rfl rfl HF.out.1 rfl) rfl ⟨ao,n,cp,X',need,77,_,rfl,HF.out.2,?_,fun r hr=>?_,ent77,fun base2 W9 hs2 h9=>?_⟩
  · refine HR2.out.mono (fun r hr=>?_)
    rw [HN.out]
    rcases List.mem_append.1 hr with hr | hr
    · simp [hr]
    · simp [hr]
  · rw [HN.out] at hr
    simp only [List.mem_cons] at hr
    rcases hr with rfl | rfl | rfl | hr
    · show W0.heap.size ≤ yB + 1; omega
    · show W0.heap.size ≤ B; omega
    · show W0.heap.size ≤ B + 1 + 1 + 1 + 1; omega
    · have:=HOL.out r hr; omega
  · obtain ⟨b1,b2,b3,b4,b5,b6⟩:=HH.out
    have m1:(yB + 1,Obj.cells #[.bool ok] 4) ∈ base2:=hs2 _ (by rw [HN.out]; simp)
    have m2:(B,Obj.cells #[.pointer (some ⟨Lb,0,none⟩)] 62) ∈ base2:=hs2 _ (by rw [HN.out]; simp)
    have m3:(B + 1 + 1 + 1 + 1,Obj.cells #[.int .i64 sg] 3) ∈ base2:=hs2 _ (by rw [HN.out]; simp)
    refine clos77 (P:=fun W=>LgX T w L q N p ns M Lb base2 b X c W) (Q:=fun W=>LgX T w L q N p ns M Lb base2 (b + 1) X' (c + 200) W) (Lb:=Lb) (ok:=ok) (i:=sg) (fun W hW=>?_) (fun W hW=>hW.below (Below.refl _ _).drew) (fun W hW=>hW.reclaimX HST.out b1 b2 b3 b4 (by omega) (by omega)) W9 h9
    have hat:∀ r ∈ base2,W.heap[r.1]? = some r.2:=by
      rcases hW with hW | hW <;> exact fun r hr=>hW.at' hr
    exact ⟨F.cell_of (hat _ m2) 0,F.cell_of (hat _ m3) 0,F.cell_of (hat _ m1) 0⟩
end
end Go.Proofs.YtncfbocbigdhiaaGreat.U
