/- Texts of this seat, one behind the other. -/
import Derived.Test.YtncfbocbigdhiaaGreatQNF
import Derived.Lib.MinMax
import Derived.WalkKit
import Derived.Deep.MidRow
import Derived.ProofKit
import Derived.OpenShut
import Derived.Carry
import Derived.ChangeSame
import Derived.Deep.Slices
import Derived.Lib.SmallJoins
/- Loose, of a log that lies flushed; a job done under Guard. -/
namespace Go.Proofs.YtncfbocbigdhiaaGreat.U
open Go Go.RowKit Go.Sort
set_option maxHeartbeats 1000000 in
theorem LgX.loose {T:Nat} {w:World} {L:F.Loc} {q:Int} {N p ns M Lb:Nat} {base:List (Nat × Obj)} {b:Nat} {X:List (Nat × List ByteArray)} {c:Int} {W:World} (h:LgX T w L q N p ns M Lb base b X c W) :
    Calls Tryz.prog 19 #[.pointer (some ⟨L.P,0,none⟩),.int .i64 1] W fun e w'=>e = .returned (.int .i64 0) ∧ w' = W:=by
  obtain ⟨nw,g,gs,e,l,v,ol,h1,h2,h3,h4,h5⟩:=h
  obtain ⟨st,lv,ats,ho,-,hsr,-,-,-,-,-,-,hl⟩:=h5.dv.ex
  have hl0:=hl rfl
  have hf:=ho.find
  rw [hsr] at hf
  have c4:=ho.dc.2.2.2.2.1
  obtain ⟨ao,cp,hv⟩:∃ ao cp,lv = .slice ao 0 cp:=by
    rcases ho.own.2 with h1 | ⟨g,cap,cur,e,h2,h3,h4⟩
    · exact ⟨none,0,h1.1⟩
    · rw [hl0] at e; exact ⟨_,_,e⟩
  rw [hv] at c4
  clear ho hl0 hsr hl h1 h2 h3 h4 h5
  go_enter Tryz.func19,Tryz.ntmps19
  go_wp2_with fail
  go_call hf as e w1 ⟨rfl,rfl⟩
  go_wp2
  go_returns
  exact ⟨rfl,rfl⟩
theorem ent39 (args:Array Value) (W:World):(callFunc 39 args).run Tryz.prog W = .ok (.enter 39 args) W:=O.enter_of Tryz.func39 (by kernel_rfl) (by kernel_rfl) args W
section
variable {T:Nat} {w:World} {L:F.Loc} {q:Int} {N p ns M Lb:Nat} {base need:List (Nat × Obj)} {b:Nat} {X X':List (Nat × List ByteArray)} {c:Int} {W:World} {Cb Gb k:Nat} {caps:Array Value}
theorem LgX.guarded (h:LgX T w L q N p ns M Lb base b X c W):LgX T w L q N p ns M Lb (F.gob W.heap.size base) b X c (F.G0 W):=h.lift (fun _ _ _ _ _ h=>h.guarded)
set_option maxHeartbeats 2000000 in
set_option maxRecDepth 100000 in
theorem op39 (h:LgX T w L q N p ns M Lb ((Gb,Obj.cells #[.bool false] 4) :: base) b X c W) (hM:(M,F.med L.P 1 q) ∈ base) (hne:∀ r ∈ base,r.1 ≠ Gb) (hC:(Cb,Obj.cells #[.func (.func k) #[] caps] 23) ∈ base) (hn:∀ r ∈ need,r ∈ base) (hj:Job T w L q N p ns M Lb need b X X' c k caps) :
    Calls Tryz.prog 39 #[.pointer (some ⟨Cb,0,none⟩),.pointer (some ⟨Gb,0,none⟩)] W fun e w'=>e = .returned (.tuple #[]) ∧ LgX T w L q N p ns M Lb ((Gb,Obj.cells #[.bool true] 4) :: base) (b + 1) X' (c + 200) w':=by
  have hent:=hj.ent
  have hrun:=hj.run ((Gb,Obj.cells #[.bool false] 4) :: base) W (fun r hr=>List.mem_cons_of_mem _ (hn r hr)) h
  have qc:W.cell? ⟨Cb,0,none⟩ = some (.func (.func k) #[] caps):=F.cell_of (h.at' (List.mem_cons_of_mem _ hC)) 0
  have HM:Hid ((M,F.med L.P 1 q) ∈ base ∧ ∀ r ∈ base,r.1 ≠ Gb):=⟨hM,hne⟩
  clear h hM hne hC hn hj
  go_enter Tryz.func39,Tryz.ntmps39
  go_wp2_with fail
  go_call hrun as e w1 ⟨rfl,h1⟩
  have hG:=h1.at' (r:=(Gb,Obj.cells #[.bool false] 4)) (List.mem_cons_self ..)
  have qg:w1.cell? ⟨Gb,0,none⟩ = some (.bool false):=F.cell_of hG 0
  have zg:w1.frozen? ⟨Gb,0,none⟩ = false:=F.frz_of hG 0
  have HF:Hid (LgX T w L q N p ns M Lb ((Gb,Obj.cells #[.bool true] 4) :: base) (b + 1) X' (c + 200) (w1.setCell ⟨Gb,0,none⟩ (.bool true))):=h1.off HM.out.2 HM.out.1 ((Off.refl Gb w1).set 0 (.bool true)) (F.block_set (i:=0) hG (.bool true)) (F.apart_of (by decide)) (fun _ _=>cells_ne2 (by decide))
  clear hrun qc h1 hG
  go_wp2
  go_returns
  exact ⟨rfl,HF.out⟩
theorem job_guard (h:LgX T w L q N p ns M Lb ((Gb,Obj.cells #[.bool false] 4) :: base) b X c W) (hM:(M,F.med L.P 1 q) ∈ base) (hne:∀ r ∈ base,r.1 ≠ Gb) (hC:(Cb,Obj.cells #[.func (.func k) #[] caps] 23) ∈ base) (hn:∀ r ∈ need,r ∈ base) (hj:Job T w L q N p ns M Lb need b X X' c k caps) :
    Calls Tryz.prog 15 #[.func (.func 39) #[] #[.pointer (some ⟨Cb,0,none⟩),.pointer (some ⟨Gb,0,none⟩)]] W fun e w'=>e = .returned (.tuple #[.agg #[.int .i64 0,.int .i64 0],.bool false]) ∧ LgX T w L q N p ns M Lb ((Gb,Obj.cells #[.bool true] 4) :: base) (b + 1) X' (c + 200) w':=by
  have hlt:=h.lt
  have hG:=hlt _ (List.mem_cons_self ..)
  have hg:LgX T w L q N p ns M Lb ((Gb,Obj.cells #[.bool false] 4) :: F.gob W.heap.size base) b X c (F.G0 W):=h.guarded.drop (by simp [F.gob,hM]) (fun r hr=>by
    simp only [F.gob,List.mem_cons] at hr ⊢
    rcases hr with hr | hr | hr | hr <;> simp [hr])
  have hop:=op39 (Cb:=Cb) (Gb:=Gb) (caps:=caps) (k:=k) hg (by simp [F.gob,hM]) (fun r hr=>by
    simp only [F.gob,List.mem_cons] at hr
    rcases hr with rfl | rfl | hr
    · show W.heap.size + 1 ≠ Gb; have:Gb < W.heap.size:=hG; omega
    · show W.heap.size ≠ Gb; have:Gb < W.heap.size:=hG; omega
    · exact hne r hr) (by simp [F.gob,hC]) (fun r hr=>by simp [F.gob,hn r hr]) hj
  refine any_guard 39 _ _ _ W ent39 hop (fun W' hR=>?_) (fun W2 W' hR hk=>?_)
  · exact ⟨hR.at' (r:=(W.heap.size,F.bob)) (by simp [F.gob]),hR.at' (r:=(W.heap.size + 1,F.iob)) (by simp [F.gob])⟩
  · refine hR.lift (fun l v ol nw hM2 h=>h.kt (B:=W.heap.size) (fun r hr=>?_) (by rw [hM2]; simp [hM]) (fun r hr=>?_) hk)
    · simp only [F.gob,List.mem_cons] at hr ⊢
      rcases hr with hr | hr | hr | hr <;> simp [hr]
    · rcases List.mem_cons.1 hr with rfl | hr
      · have:Gb < W.heap.size:=hG
        show Gb ≠ _ ∧ Gb ≠ _; omega
      · have:=hlt r (List.mem_cons_of_mem _ hr)
        omega
end
end Go.Proofs.YtncfbocbigdhiaaGreat.U

/- SeglogPlays as a call: of any acts it returns true, and nothing that was there has turned. -/
namespace Go.Proofs.YtncfbocbigdhiaaGreat.U
open Go Go.RowKit Go.Sort
structure Ac where
  ak:Int
  an:Int
  s:ByteArray
  af:Int
  d1:Bool
  d2:Bool
  co:Option Addr
  cn:Nat
  cc:Nat
theorem set3 {W5:World} {b:Nat} {o1 o2 o3:Value} (h:W5.heap[b]? = some (.cells #[o1,o2,o3] 67)) (a1 a2 a3:Value):(((W5.setCell ⟨b,0,none⟩ a1).setCell ⟨b,1,none⟩ a2).setCell ⟨b,2,none⟩ a3).heap[b]? = some (.cells #[a1,a2,a3] 67) ∧ Off b W5 (((W5.setCell ⟨b,0,none⟩ a1).setCell ⟨b,1,none⟩ a2).setCell ⟨b,2,none⟩ a3):=by
  have t1:(W5.setCell ⟨b,0,none⟩ a1).heap[b]? = some (.cells #[a1,o2,o3] 67):=F.block_set (i:=0) h _
  have t2:((W5.setCell ⟨b,0,none⟩ a1).setCell ⟨b,1,none⟩ a2).heap[b]? = some (.cells #[a1,a2,o3] 67):=F.block_set (i:=1) t1 _
  exact ⟨F.block_set (i:=2) t2 _,(((Off.refl b W5).set 0 a1).set 1 a2).set 2 a3⟩
theorem flat_le2:∀ (X:List (Nat × List ByteArray)) (m:Nat),(∀ s ∈ X,s.2.length ≤ m) → (X.flatMap Prod.snd).length ≤ X.length * m
  | [],_,_=>Nat.zero_le _
  | s :: X,m,h=>by
    have h1:=flat_le2 X m (fun s hs=>h s (List.mem_cons_of_mem _ hs))
    have h2:=h s (List.mem_cons_self ..)
    rw [List.flatMap_cons,List.length_append,List.length_cons,Nat.succ_mul]
    omega
theorem len_used (l:List ByteArray):l.length ≤ used l:=by
  induction l with
  | nil=>exact Nat.zero_le _
  | cons a r ih=>unfold used at ih ⊢; simp only [List.map_cons,List.sum_cons,List.length_cons]; omega
structure Pl (T:Nat) (w:World) (L:F.Loc) (N p ns Xb t Lb:Nat) (W:World):Prop where
  ex:∃ (q:Int) (M:Nat) (ol:List (Nat × Obj)) (xo:Option Addr) (xn xc:Nat) (X:List (Nat × List ByteArray)) (c:Int),LgX T w L q N p ns M Lb ((Xb,Obj.cells #[.int .i64 (ns:Nat),.int .i64 (p:Nat),.slice xo xn xc] 67) :: (M,F.med L.P 1 q) :: ol) t X c W ∧ Rl (.slice xo xn xc) X ol ∧ (∀ r ∈ ol,r.1 ≠ Xb) ∧ M ≠ Xb ∧ 1 ≤ q ∧ q ≤ 1 + (t:Int) ∧ c ≤ 9000 + (t:Int) * 9500
set_option maxHeartbeats 8000000 in
set_option maxRecDepth 100000 in
theorem plays_walk (p0 p1:Int) (ao:Option Addr) (n cap K o:Nat) (hao:0 < n → ao = some ⟨K,o,none⟩) (acs:Nat → Ac) (w:World) (hrow:∀ W,Below w.heap.size w W → ∀ j,j < n → W.cell? ⟨K,o + j * 7,none⟩ = some (.int .i64 (acs j).ak) ∧ W.cell? ⟨K,o + j * 7 + 1,none⟩ = some (.int .i64 (acs j).an) ∧ W.cell? ⟨K,o + j * 7 + 2,none⟩ = some (.string (acs j).s) ∧ W.cell? ⟨K,o + j * 7 + 3,none⟩ = some (.int .i64 (acs j).af) ∧ W.cell? ⟨K,o + j * 7 + 4,none⟩ = some (.bool (acs j).d1) ∧ W.cell? ⟨K,o + j * 7 + 5,none⟩ = some (.bool (acs j).d2) ∧ W.cell? ⟨K,o + j * 7 + 6,none⟩ = some (.slice (acs j).co (acs j).cn (acs j).cc)) :
    Calls Tryz.prog 8 #[.int .i64 p0,.int .i64 p1,.slice ao n cap] w fun e w'=>e = .returned (.bool true) ∧ Below w.heap.size w w':=by
  have haw:=awake33 w
  obtain ⟨ns,hns⟩:∃ m:Nat,max 2 (min p0 6) = (m:Int):=⟨(max 2 (min p0 6)).toNat,by omega⟩
  obtain ⟨p,hp⟩:∃ m:Nat,max 8 (min p1 20) = (m:Int):=⟨(max 8 (min p1 20)).toNat,by omega⟩
  have HNS:Hid (2 ≤ ns ∧ ns ≤ 6):=⟨by omega,by omega⟩
  have HP:Hid (8 ≤ p ∧ p ≤ 20):=⟨by omega,by omega⟩
  have HR:Hid _:=hrow
  have HAO:Hid _:=hao
  obtain ⟨T,hT⟩:∃ T,T = w.heap.size:=⟨_,rfl⟩
  have HT:Hid (T = w.heap.size):=hT
  rw [← hT] at haw HR ⊢
  clear hrow hao hT
  go_enter Tryz.func8,Tryz.ntmps8
  go_wp2_with fail
  go_call haw as e w1 ⟨rfl,hb1⟩
  clear haw
  have HB1:Hid (Below T w w1):=hb1
  clear hb1
  have hpb:1 + ns * p ≤ 121:=by
    have:=Nat.mul_le_mul HNS.out.2 HP.out.2
    omega
  have hmk:=F.made_any T w w1 [] HB1.out (by rw [HT.out]; exact HB1.out.size) (by intro r hr; cases hr) 1 (by decide) (by decide) (1 + ns * p) (by omega) (by omega)
  have e4:(1:Int) + (ns:Int) * (p:Int) = ((1 + ns * p:Nat):Int):=by rw [Int.natCast_add,Int.natCast_mul]; rfl
  obtain ⟨N,hN⟩:∃ N,N = 1 + ns * p:=⟨_,rfl⟩
  have HNN:Hid (N = 1 + ns * p ∧ N ≤ 121):=⟨hN,by omega⟩
  rw [← hN] at hmk e4
  have hpb2:0 ≤ (ns:Int) * (p:Int) ∧ (ns:Int) * (p:Int) ≤ 120:=by omega
  have hns6:=HNS.out
  have hp20:=HP.out
  clear hN hpb
  go_wp2_with fail
  go_call hmk as e w2 ⟨L,M0,rfl,o1⟩
  have hd1:=(Dev.ofV (V.dev0 o1)).forget (oth':=[]) (fun r hr=>by cases hr)
  have hdx:DvX T w L 1 N p ns [] 0 [] 0 w2:=⟨_,_,_,_,_,im_zero N p ns,fun _ _=>Nat.le_refl _,(fun s hs=>by cases hs),hd1⟩
  have hop:=hdx.open (fun r hr=>by cases hr) hp20 hns6 (by rw [HNN.out.1]; exact Nat.le_refl _) (by have:=HNN.out.2; omega) (by decide) (by decide)
  clear hmk o1 hd1 hdx e4 hpb2 hns hp
  go_wp2_with fail
  go_call hop as e w3 ⟨M,B,tv0,tl0,rfl,htx,hl,hap⟩
  have hl2:=(hl.drop (base':=[(M,F.med L.P 1 1)]) (by simp) (fun r hr=>List.mem_append_right _ hr)).hold (.cells #[.int .i64 (ns:Nat),.int .i64 (p:Nat),.slice none 0 0] 67) (F.apart_of (by decide)) (fun _ _=>cells_ne2 (by decide))
  obtain ⟨Xb,hXb⟩:∃ Xb,Xb = w3.heap.size:=⟨_,rfl⟩
  have hMX:M < Xb:=by rw [hXb]; exact hl.lt (M,F.med L.P 1 1) (by simp)
  rw [← hXb] at hl2
  have HPL:Hid (Pl T w L N p ns Xb 0 (B + 1) (w3.alloc (.cells #[.int .i64 (ns:Nat),.int .i64 (p:Nat),.slice none 0 0] 67))):=⟨1,M,[],none,0,0,[],9000,hl2.more (by omega),Or.inl ⟨rfl,rfl⟩,(fun r hr=>by cases hr),by omega,by omega,by omega,by omega⟩
  have hXb':=hXb.symm
  obtain ⟨t0ao,t0n,t0cp,htv0⟩:∃ ao m cp,tv0 = .slice ao m cp:=by
    obtain ⟨a,b⟩:=Txs.len htx
    exact ⟨a,_,b⟩
  subst htv0
  clear hop htx hl hl2 hap hXb hMX
  go_wp2_with fail
  go_loopw [9,12] (fun lv iv wr=>∃ (t Lb:Nat),iv = .int .i64 (t:Nat) ∧ lv = .pointer (some ⟨Lb,0,none⟩) ∧ t ≤ n ∧ t ≤ 60 ∧ Hid (Pl T w L N p ns Xb t Lb wr)) (fun _ iv _=>60 - (intOf iv).toNat)
  case atStart=>exact ⟨0,B + 1,rfl,rfl,Nat.zero_le _,Nat.zero_le _,HPL⟩
  case round=>
    obtain ⟨t,Lb,rfl,rfl,htn,ht60,H0⟩:=hrel
    clear HPL
    by_cases hgo:t < n ∧ t < 60
    · obtain ⟨hgo1,hgo2⟩:=hgo
      obtain rfl:=HAO.out (by omega)
      obtain ⟨q,M2,ol,xo,xn,xc,X,c,h0,hr0,hol0,hmx,hq1,hq2,hc0⟩:=H0.out
      have hbw:=h0.bel
      obtain ⟨⟨ak,an,s,af,d1,d2,co,cn,cc⟩,hat⟩:∃ a,a = acs t:=⟨_,rfl⟩
      obtain ⟨a0,a1,a2,a3,a4,a5,a6⟩:=HR.out wr hbw t hgo1
      rw [← hat] at a0 a1 a2 a3 a4 a5 a6
      have hg1:(t:Int) < (n:Int):=by omega
      have hg2:(t:Int) < 60:=by omega
      have h1:=h0.hold (actC ak an s af d1 d2 co cn cc) (F.apart_of (by decide)) (fun _ _=>cells_ne2 (by decide))
      have HX2:Hid (Xb < wr.heap.size):=h0.lt (Xb,_) (List.mem_cons_self ..)
      obtain ⟨aB,haB⟩:∃ aB,aB = wr.heap.size:=⟨_,rfl⟩
      obtain ⟨W1,hW1⟩:∃ W1,W1 = wr.alloc (actC ak an s af d1 d2 co cn cc):=⟨_,rfl⟩
      rw [← haB,← hW1] at h1
      have HS:Hid (W1.heap.size = aB + 1):=by show W1.heap.size = aB + 1; rw [hW1,haB,World.alloc_size]
      have H1:Hid (LgX T w L q N p ns M2 Lb ((aB,actC ak an s af d1 d2 co cn cc) :: (Xb,Obj.cells #[.int .i64 (ns:Nat),.int .i64 (p:Nat),.slice xo xn xc] 67) :: (M2,F.med L.P 1 q) :: ol) t X c W1):=h1
      have HRL:Hid (Rl (.slice xo xn xc) X ol ∧ (∀ r ∈ ol,r.1 ≠ Xb) ∧ M2 ≠ Xb ∧ 1 ≤ q ∧ q ≤ 1 + (t:Int) ∧ c ≤ 9000 + (t:Int) * 9500 ∧ t < 60 ∧ t < n ∧ Xb < aB):=⟨hr0,hol0,hmx,hq1,hq2,hc0,hgo2,hgo1,by rw [haB]; exact HX2.out⟩
      have haB':=haB.symm
      have hW1':=hW1.symm
      unfold actC at hW1'
      have hact:=h1.at' (r:=(aB,actC ak an s af d1 d2 co cn cc)) (by simp)
      have b0:W1.cell? ⟨aB,0,none⟩ = some (.int .i64 ak):=F.cell_of hact 0
      have b1:W1.cell? ⟨aB,1,none⟩ = some (.int .i64 an):=F.cell_of hact 1
      have b2:W1.cell? ⟨aB,2,none⟩ = some (.string s):=F.cell_of hact 2
      have b3:W1.cell? ⟨aB,3,none⟩ = some (.int .i64 af):=F.cell_of hact 3
      have b4:W1.cell? ⟨aB,4,none⟩ = some (.bool d1):=F.cell_of hact 4
      have b5:W1.cell? ⟨aB,5,none⟩ = some (.bool d2):=F.cell_of hact 5
      have b6:W1.cell? ⟨aB,6,none⟩ = some (.slice co cn cc):=F.cell_of hact 6
      have hxx:=h1.at' (r:=(Xb,Obj.cells #[.int .i64 (ns:Nat),.int .i64 (p:Nat),.slice xo xn xc] 67)) (by simp)
      have x0:W1.cell? ⟨Xb,0,none⟩ = some (.int .i64 (ns:Nat)):=F.cell_of hxx 0
      have x1:W1.cell? ⟨Xb,1,none⟩ = some (.int .i64 (p:Nat)):=F.cell_of hxx 1
      have x2:W1.cell? ⟨Xb,2,none⟩ = some (.slice xo xn xc):=F.cell_of hxx 2
      clear h0 hr0 hol0 hmx hq1 hq2 hc0 H0 hbw hat h1 haB hW1 hact hxx HX2
      by_cases hk3:ak = 3
      · subst hk3
        have hsub3:∀ r ∈ (aB,actC 3 an s af d1 d2 co cn cc) :: (Xb,Obj.cells #[.int .i64 (ns:Nat),.int .i64 (p:Nat),.slice xo xn xc] 67) :: ol,r ∈ (aB,actC 3 an s af d1 d2 co cn cc) :: (Xb,Obj.cells #[.int .i64 (ns:Nat),.int .i64 (p:Nat),.slice xo xn xc] 67) :: (M2,F.med L.P 1 q) :: ol:=fun r hr=>by
          simp only [List.mem_cons] at hr ⊢
          rcases hr with hr | hr | hr <;> simp [hr]
        have h5n:∀ r ∈ (aB,actC 3 an s af d1 d2 co cn cc) :: (Xb,Obj.cells #[.int .i64 (ns:Nat),.int .i64 (p:Nat),.slice xo xn xc] 67) :: ol,∀ c fz,r.2 ≠ .cells c 5 fz:=fun r hr=>by
          obtain ⟨nw,g,gs,e,l,v,ol2,h1,h2,h3,h4,h5⟩:=H1.out
          exact h5.h5 r (hsub3 r hr)
        have hfl:(X.flatMap Prod.snd).length ≤ 1000:=by
          have h1:=flat_le2 X 20 (fun s hs=>by have:=(H1.out.uses s hs).2.1; have:=len_used s.2; omega)
          have:=H1.out.len
          have:X.length * 20 ≤ 6 * 20:=Nat.mul_le_mul_right 20 (by omega)
          omega
        have hXl:=H1.out.len
        have hcr:=LgX.crash (base':=(aB,actC 3 an s af d1 d2 co cn cc) :: (Xb,Obj.cells #[.int .i64 (ns:Nat),.int .i64 (p:Nat),.slice xo xn xc] 67) :: ol) H1.out hsub3 (by rw [HNN.out.1]; exact Nat.le_refl _) (by omega) (by have:=HNN.out.2; omega) ⟨by have:=HRL.out; omega,by have:=HRL.out; omega⟩
        have hsf:∀ (W:World) (a:Addr) (f:Nat) (cap:Array Value) (m:Mode),(store a (.func (.func f) #[] cap) m).run Tryz.prog W = stored Tryz.prog W a (.func (.func f) #[] cap) m:=fun W a f cap m=>run_store Tryz.prog W a _ m rfl
        go_wp2_with fail
        go_call hcr as e w4 ⟨rfl,hdx⟩
        have hop:=hdx.open h5n hp20 hns6 (by rw [HNN.out.1]; exact Nat.le_refl _) (by have:=HNN.out.2; omega) (by have:=HRL.out.2.2.2.2.2.1; omega) (by omega)
        clear hcr hdx a0 a1 a2 a3 a4 a5 a6 b0 b1 b2 b3 b4 b5 b6 x0 x1 x2 h5n hsub3
        go_wp2_with fail
        go_call hop as e w5 ⟨M3,B3,tv,tl,rfl,htx,hl,hap⟩
        clear hop hap
        have HL5:Hid (LgX T w L (q + 1) N p ns M3 (B3 + 1) (tl ++ ((M3,F.med L.P 1 (q + 1)) :: (aB,actC 3 an s af d1 d2 co cn cc) :: (Xb,Obj.cells #[.int .i64 (ns:Nat),.int .i64 (p:Nat),.slice xo xn xc] 67) :: ol)) t X (c + 9000) w5):=hl
        have hxx:=hl.at' (r:=(Xb,Obj.cells #[.int .i64 (ns:Nat),.int .i64 (p:Nat),.slice xo xn xc] 67)) (by simp)
        have x0:w5.cell? ⟨Xb,0,none⟩ = some (.int .i64 (ns:Nat)):=F.cell_of hxx 0
        have x1:w5.cell? ⟨Xb,1,none⟩ = some (.int .i64 (p:Nat)):=F.cell_of hxx 1
        have x2:w5.cell? ⟨Xb,2,none⟩ = some (.slice xo xn xc):=F.cell_of hxx 2
        have hall:=rall36 (W:=w5) HRL.out.1 (fun r hr=>hl.at' (by simp [hr])) ns p (by omega) hfl
        have HTX:Hid (TxO tv (X.flatMap Prod.snd) tl ∧ (X.flatMap Prod.snd).length ≤ 1000):=⟨TxO.of htx,hfl⟩
        obtain ⟨tao,tn,tcp,htv⟩:∃ ao m cp,tv = .slice ao m cp:=by
          obtain ⟨a,b⟩:=Txs.len htx
          exact ⟨a,_,b⟩
        subst htv
        clear hl hxx htx hfl
        go_wp2_with fail
        go_call hall as e w6 ⟨av,rfl,hb6,ol6,hn6,htx6⟩
        clear hall x0 x1 x2
        have h6:=HL5.out.adoptN hb6 hn6
        have hsm:=same35O HTX.out.1 htx6 HTX.out.2 w6 (fun r hr=>h6.at' (by simp [hr])) (fun r hr=>h6.at' (by simp [hr]))
        obtain ⟨aao,an6,acp,hav⟩:∃ ao m cp,av = .slice ao m cp:=by
          obtain ⟨a,b,e⟩:=htx6.len
          exact ⟨a,_,b,e⟩
        subst hav
        have H6:Hid (LgX T w L (q + 1) N p ns M3 (B3 + 1) (ol6 ++ (tl ++ ((M3,F.med L.P 1 (q + 1)) :: (aB,actC 3 an s af d1 d2 co cn cc) :: (Xb,Obj.cells #[.int .i64 (ns:Nat),.int .i64 (p:Nat),.slice xo xn xc] 67) :: ol))) t X (c + 9000) w6):=h6
        clear hb6 hn6 htx6 h6
        go_wp2_with fail
        go_call hsm as e w7 ⟨rfl,hb7⟩
        clear hsm
        have h7:LgX T w L (q + 1) N p ns M3 (B3 + 1) ((M3,F.med L.P 1 (q + 1)) :: (aB,actC 3 an s af d1 d2 co cn cc) :: (Xb,Obj.cells #[.int .i64 (ns:Nat),.int .i64 (p:Nat),.slice xo xn xc] 67) :: ol) t X (c + 9000) w7:=(H6.out.below hb7).drop (List.mem_cons_self ..) (fun r hr=>List.mem_append_right _ (List.mem_append_right _ hr))
        have H7:Hid (LgX T w L (q + 1) N p ns M3 (B3 + 1) ((M3,F.med L.P 1 (q + 1)) :: (aB,actC 3 an s af d1 d2 co cn cc) :: (Xb,Obj.cells #[.int .i64 (ns:Nat),.int .i64 (p:Nat),.slice xo xn xc] 67) :: ol) t X (c + 9000) w7):=h7
        have HMX:Hid (M3 ≠ Xb):=h7.ne (r:=(M3,F.med L.P 1 (q + 1))) (s:=(Xb,Obj.cells #[.int .i64 (ns:Nat),.int .i64 (p:Nat),.slice xo xn xc] 67)) (by simp) (by simp) (cells_ne (by decide))
        have hact:=h7.at' (r:=(aB,actC 3 an s af d1 d2 co cn cc)) (by simp)
        have b0:w7.cell? ⟨aB,0,none⟩ = some (.int .i64 3):=F.cell_of hact 0
        have b1:w7.cell? ⟨aB,1,none⟩ = some (.int .i64 an):=F.cell_of hact 1
        have b2:w7.cell? ⟨aB,2,none⟩ = some (.string s):=F.cell_of hact 2
        have b3:w7.cell? ⟨aB,3,none⟩ = some (.int .i64 af):=F.cell_of hact 3
        have b4:w7.cell? ⟨aB,4,none⟩ = some (.bool d1):=F.cell_of hact 4
        have b5:w7.cell? ⟨aB,5,none⟩ = some (.bool d2):=F.cell_of hact 5
        have b6:w7.cell? ⟨aB,6,none⟩ = some (.slice co cn cc):=F.cell_of hact 6
        have hxx:=h7.at' (r:=(Xb,Obj.cells #[.int .i64 (ns:Nat),.int .i64 (p:Nat),.slice xo xn xc] 67)) (by simp)
        have x0:w7.cell? ⟨Xb,0,none⟩ = some (.int .i64 (ns:Nat)):=F.cell_of hxx 0
        have x1:w7.cell? ⟨Xb,1,none⟩ = some (.int .i64 (p:Nat)):=F.cell_of hxx 1
        have x2:w7.cell? ⟨Xb,2,none⟩ = some (.slice xo xn xc):=F.cell_of hxx 2
        have hdoes:=does37 h7 (by simp) HRL.out.1 (fun r hr=>by simp [hr]) ⟨hp20.1,by omega⟩ (by omega) (by rw [HNN.out.1]; exact Nat.le_refl _) (by have:=HNN.out.2; omega) (by omega) (by have:=HRL.out.2.2.2.2.2.1; omega) 3 an s af d1 d2 co cn cc
        unfold act at hdoes
        clear h7 hb7 hact hxx
        go_wp2_with fail
        go_call hdoes as e w8 ⟨yo,yn,yc,X',need,k,caps,rfl,h2,hr2,hfr,hj⟩
        clear hdoes b0 b1 b2 b3 b4 b5 b6 x0 x1 x2
        obtain ⟨yB,hyB⟩:∃ yB,yB = w8.heap.size:=⟨_,rfl⟩
        have h5:=(h2.hold (.cells #[.int .i64 (ns:Nat),.int .i64 (p:Nat),.slice yo yn yc] 67) (F.apart_of (by decide)) (fun _ _=>cells_ne2 (by decide))).hold (.cells #[.func (.func k) #[] caps] 23) (F.apart_of (by decide)) (fun _ _=>cells_ne2 (by decide))
        have e1:(w8.alloc (.cells #[.int .i64 (ns:Nat),.int .i64 (p:Nat),.slice yo yn yc] 67)).heap.size = yB + 1:=by rw [World.alloc_size,hyB]
        obtain ⟨W5,hW5⟩:∃ W5,W5 = (w8.alloc (.cells #[.int .i64 (ns:Nat),.int .i64 (p:Nat),.slice yo yn yc] 67)).alloc (.cells #[.func (.func k) #[] caps] 23):=⟨_,rfl⟩
        have HG4:Hid (W5.heap.size = yB + 1 + 1):=by show W5.heap.size = yB + 1 + 1; rw [hW5,World.alloc_size,e1]
        rw [e1,← hyB,← hW5] at h5
        have hxx:=h5.at' (r:=(Xb,Obj.cells #[.int .i64 (ns:Nat),.int .i64 (p:Nat),.slice xo xn xc] 67)) (by simp)
        have x0:W5.cell? ⟨Xb,0,none⟩ = some (.int .i64 (ns:Nat)):=F.cell_of hxx 0
        have x1:W5.cell? ⟨Xb,1,none⟩ = some (.int .i64 (p:Nat)):=F.cell_of hxx 1
        have x2:W5.cell? ⟨Xb,2,none⟩ = some (.slice xo xn xc):=F.cell_of hxx 2
        have hact:=h5.at' (r:=(aB,actC 3 an s af d1 d2 co cn cc)) (by simp)
        have b0:W5.cell? ⟨aB,0,none⟩ = some (.int .i64 3):=F.cell_of hact 0
        have hy5:=h5.at' (r:=(yB,Obj.cells #[.int .i64 (ns:Nat),.int .i64 (p:Nat),.slice yo yn yc] 67)) (by simp)
        have y0:W5.cell? ⟨yB,0,none⟩ = some (.int .i64 (ns:Nat)):=F.cell_of hy5 0
        have y1:W5.cell? ⟨yB,1,none⟩ = some (.int .i64 (p:Nat)):=F.cell_of hy5 1
        have y2:W5.cell? ⟨yB,2,none⟩ = some (.slice yo yn yc):=F.cell_of hy5 2
        have z0:W5.frozen? ⟨yB,0,none⟩ = false:=F.frz_of hy5 0
        have z1:W5.frozen? ⟨yB,1,none⟩ = false:=F.frz_of hy5 1
        have z2:W5.frozen? ⟨yB,2,none⟩ = false:=F.frz_of hy5 2
        have hf5:=h5.at' (r:=(yB + 1,Obj.cells #[.func (.func k) #[] caps] 23)) (by simp)
        have f0:W5.cell? ⟨yB + 1,0,none⟩ = some (.func (.func k) #[] caps):=F.cell_of hf5 0
        have f1:W5.frozen? ⟨yB + 1,0,none⟩ = false:=F.frz_of hf5 0
        obtain ⟨t3,hoff⟩:=set3 hy5 (.int .i64 (ns:Nat)) (.int .i64 (p:Nat)) (.slice xo xn xc)
        have hlt5:∀ r ∈ (M3,F.med L.P 1 (q + 1)) :: (aB,actC 3 an s af d1 d2 co cn cc) :: (Xb,Obj.cells #[.int .i64 (ns:Nat),.int .i64 (p:Nat),.slice xo xn xc] 67) :: ol,r.1 < yB:=fun r hr=>by rw [hyB]; exact h2.lt r (List.mem_append_right _ hr)
        have h5a:=(h5.drop (base':=(yB,Obj.cells #[.int .i64 (ns:Nat),.int .i64 (p:Nat),.slice yo yn yc] 67) :: (yB + 1,Obj.cells #[.func (.func k) #[] caps] 23) :: ((M3,F.med L.P 1 (q + 1)) :: (aB,actC 3 an s af d1 d2 co cn cc) :: (Xb,Obj.cells #[.int .i64 (ns:Nat),.int .i64 (p:Nat),.slice xo xn xc] 67) :: ol)) (by simp) (fun r hr=>by
          simp only [List.mem_cons,List.mem_append] at hr ⊢
          rcases hr with hr | hr | hr | hr | hr | hr <;> simp [hr])).off (o':=Obj.cells #[.int .i64 (ns:Nat),.int .i64 (p:Nat),.slice xo xn xc] 67) (fun r hr=>by
            rcases List.mem_cons.1 hr with rfl | hr
            · show yB + 1 ≠ yB; omega
            · have:=hlt5 r hr; omega) (by simp) hoff t3 (F.apart_of (by decide)) (fun _ _=>cells_ne2 (by decide))
        have hf6:=h5a.at' (r:=(yB + 1,Obj.cells #[.func (.func k) #[] caps] 23)) (by simp)
        have h5b:=(h5a.drop (base':=(yB + 1,Obj.cells #[.func (.func k) #[] caps] 23) :: (yB,Obj.cells #[.int .i64 (ns:Nat),.int .i64 (p:Nat),.slice xo xn xc] 67) :: ((M3,F.med L.P 1 (q + 1)) :: (aB,actC 3 an s af d1 d2 co cn cc) :: (Xb,Obj.cells #[.int .i64 (ns:Nat),.int .i64 (p:Nat),.slice xo xn xc] 67) :: ol)) (by simp) (fun r hr=>by
          simp only [List.mem_cons] at hr ⊢
          rcases hr with hr | hr | hr | hr | hr | hr <;> simp [hr])).off (o':=Obj.cells #[.func (.func 38) #[] #[]] 23) (fun r hr=>by
            rcases List.mem_cons.1 hr with rfl | hr
            · show yB ≠ yB + 1; omega
            · have:=hlt5 r hr; omega) (by simp) ((Off.refl (yB + 1) _).set 0 (.func (.func 38) #[] #[])) (F.block_set (i:=0) hf6 (.func (.func 38) #[] #[])) (F.apart_of (by decide)) (fun _ _=>cells_ne2 (by decide))
        obtain ⟨W6,hW6⟩:∃ W6,W6 = ((((W5.setCell ⟨yB,0,none⟩ (.int .i64 (ns:Nat))).setCell ⟨yB,1,none⟩ (.int .i64 (p:Nat))).setCell ⟨yB,2,none⟩ (.slice xo xn xc)).setCell ⟨yB + 1,0,none⟩ (.func (.func 38) #[] #[])):=⟨_,rfl⟩
        rw [← hW6] at h5b
        have H5:Hid (LgX T w L (q + 1) N p ns M3 (B3 + 1) ((yB + 1,Obj.cells #[.func (.func 38) #[] #[]] 23) :: (yB,Obj.cells #[.int .i64 (ns:Nat),.int .i64 (p:Nat),.slice xo xn xc] 67) :: ((M3,F.med L.P 1 (q + 1)) :: (aB,actC 3 an s af d1 d2 co cn cc) :: (Xb,Obj.cells #[.int .i64 (ns:Nat),.int .i64 (p:Nat),.slice xo xn xc] 67) :: ol)) t X (c + 9000) W6):=h5b
        have HG5:Hid (W6.heap.size = yB + 1 + 1):=by
          show W6.heap.size = yB + 1 + 1
          rw [hW6,← HG4.out]
          simp [World.setCell]
        have HNX:Hid (∀ r ∈ ([]:List (Nat × Obj)),r.1 ≠ Xb):=fun r hr=>by cases hr
        have hrl0:Rl (.slice xo xn xc) X (([]:List (Nat × Obj)) ++ ol):=HRL.out.1
        have hj38:Job T w L (q + 1) N p ns M3 (B3 + 1) [] t X X (c + 9000) 38 #[]:=⟨ent38,fun base W _ h=>(clos38 W).mono (by
          rintro e w' ⟨rfl,rfl⟩
          exact ⟨rfl,(h.more (by omega)).moreB (by omega)⟩)⟩
        have HJ:Hid (Job T w L (q + 1) N p ns M3 (B3 + 1) [] t X X (c + 9000) 38 #[]):=hj38
        have HR0:Hid (Rl (.slice xo xn xc) X (([]:List (Nat × Obj)) ++ ol)):=hrl0
        have hyB':=hyB.symm
        have hW5':=hW5.symm
        have hW6':=hW6.symm
        clear h5 e1 hyB hW5 hact hxx h2 hr2 hj hfr hy5 hf5 hf6 t3 hoff hlt5 h5a h5b hW6 hrl0 hj38
        have h6:=H5.out.hold (.cells #[.bool false] 4) (F.apart_of (by decide)) (fun _ _=>cells_ne2 (by decide))
        rw [HG5.out] at h6
        have hgd:=job_guard (Cb:=yB + 1) (Gb:=yB + 1 + 1) (need:=([]:List (Nat × Obj))) (k:=38) (caps:=#[]) h6 (by simp) (fun r hr=>by have:=H5.out.lt r hr; have:=HG5.out; omega) (by simp) (fun r hr=>by first | (cases hr; done) | (simp at hr; simp [hr])) HJ.out
        have hG5':=HG5.out
        have hmf:∀ (fn:Fn) (first cap:Array Value) (w:World),(Instr.makeFunc fn first cap).run Tryz.prog w = .ok (.func fn first cap) w:=fun _ _ _ _=>rfl
        clear h6
        go_wp2_with fail
        go_call hgd as e w7 ⟨rfl,h7⟩
        clear hgd hG5' hmf
        have h8:=h7.below ((Below.refl _ w7).alloc (Nat.le_refl _) (.cells #[.int .i64 0,.int .i64 0] 37))
        have hg8:=h8.at' (r:=(yB + 1 + 1,Obj.cells #[.bool true] 4)) (by simp)
        have hy8:=h8.at' (r:=(yB,Obj.cells #[.int .i64 (ns:Nat),.int .i64 (p:Nat),.slice xo xn xc] 67)) (by simp)
        have hx8:=h8.at' (r:=(Xb,Obj.cells #[.int .i64 (ns:Nat),.int .i64 (p:Nat),.slice xo xn xc] 67)) (by simp)
        have g0:(w7.alloc (.cells #[.int .i64 0,.int .i64 0] 37)).cell? ⟨yB + 1 + 1,0,none⟩ = some (.bool true):=F.cell_of hg8 0
        have y0:(w7.alloc (.cells #[.int .i64 0,.int .i64 0] 37)).cell? ⟨yB,0,none⟩ = some (.int .i64 (ns:Nat)):=F.cell_of hy8 0
        have y1:(w7.alloc (.cells #[.int .i64 0,.int .i64 0] 37)).cell? ⟨yB,1,none⟩ = some (.int .i64 (p:Nat)):=F.cell_of hy8 1
        have y2:(w7.alloc (.cells #[.int .i64 0,.int .i64 0] 37)).cell? ⟨yB,2,none⟩ = some (.slice xo xn xc):=F.cell_of hy8 2
        have x0:(w7.alloc (.cells #[.int .i64 0,.int .i64 0] 37)).cell? ⟨Xb,0,none⟩ = some (.int .i64 (ns:Nat)):=F.cell_of hx8 0
        have x1:(w7.alloc (.cells #[.int .i64 0,.int .i64 0] 37)).cell? ⟨Xb,1,none⟩ = some (.int .i64 (p:Nat)):=F.cell_of hx8 1
        have x2:(w7.alloc (.cells #[.int .i64 0,.int .i64 0] 37)).cell? ⟨Xb,2,none⟩ = some (.slice xo xn xc):=F.cell_of hx8 2
        have z0:(w7.alloc (.cells #[.int .i64 0,.int .i64 0] 37)).frozen? ⟨Xb,0,none⟩ = false:=F.frz_of hx8 0
        have z1:(w7.alloc (.cells #[.int .i64 0,.int .i64 0] 37)).frozen? ⟨Xb,1,none⟩ = false:=F.frz_of hx8 1
        have z2:(w7.alloc (.cells #[.int .i64 0,.int .i64 0] 37)).frozen? ⟨Xb,2,none⟩ = false:=F.frz_of hx8 2
        obtain ⟨t3,hoff⟩:=set3 hx8 (.int .i64 (ns:Nat)) (.int .i64 (p:Nat)) (.slice xo xn xc)
        have hrest:∀ r ∈ (M3,F.med L.P 1 (q + 1)) :: (([]:List (Nat × Obj)) ++ ol),r.1 ≠ Xb:=fun r hr=>by
          rcases List.mem_cons.1 hr with rfl | hr
          · exact HMX.out
          · rcases List.mem_append.1 hr with hr | hr
            · exact HNX.out r hr
            · exact HRL.out.2.1 r hr
        have h9:=((h8.drop (base':=(Xb,Obj.cells #[.int .i64 (ns:Nat),.int .i64 (p:Nat),.slice xo xn xc] 67) :: (M3,F.med L.P 1 (q + 1)) :: (([]:List (Nat × Obj)) ++ ol)) (by simp) (fun r hr=>by
          simp only [List.mem_cons,List.mem_append] at hr ⊢
          rcases hr with hr | hr | hr | hr <;> first | (cases hr; done) | simp [hr])).off (o':=Obj.cells #[.int .i64 (ns:Nat),.int .i64 (p:Nat),.slice xo xn xc] 67) hrest (List.mem_cons_self ..) hoff t3 (F.apart_of (by decide)) (fun _ _=>cells_ne2 (by decide)))
        obtain ⟨W9,hW9⟩:∃ W9,W9 = ((((w7.alloc (.cells #[.int .i64 0,.int .i64 0] 37)).setCell ⟨Xb,0,none⟩ (.int .i64 (ns:Nat))).setCell ⟨Xb,1,none⟩ (.int .i64 (p:Nat))).setCell ⟨Xb,2,none⟩ (.slice xo xn xc)):=⟨_,rfl⟩
        rw [← hW9] at h9
        have hx9:=h9.at' (r:=(Xb,Obj.cells #[.int .i64 (ns:Nat),.int .i64 (p:Nat),.slice xo xn xc] 67)) (by simp)
        have u0:W9.cell? ⟨Xb,0,none⟩ = some (.int .i64 (ns:Nat)):=F.cell_of hx9 0
        have u1:W9.cell? ⟨Xb,1,none⟩ = some (.int .i64 (p:Nat)):=F.cell_of hx9 1
        have u2:W9.cell? ⟨Xb,2,none⟩ = some (.slice xo xn xc):=F.cell_of hx9 2
        have his:=is40 h9 (by simp) HR0.out (fun r hr=>by simp at hr; simp [hr]) ⟨hp20.1,by omega⟩ (by omega)
        have hW9':=hW9.symm
        clear h7 h8 hg8 hy8 hx8 t3 hoff hrest h9 hx9 hW9
        go_wp2_with fail
        go_call his as e w10 ⟨rfl,h10⟩
        clear his g0 y0 y1 y2 x0 x1 x2 z0 z1 z2 u0 u1 u2 hW9'
        have hlo:=h10.loose
        have HPN:Hid (Pl T w L N p ns Xb (t + 1) (B3 + 1) w10):=⟨q + 1,M3,([]:List (Nat × Obj)) ++ ol,_,_,_,X,_,h10,HR0.out,fun r hr=>by
          rcases List.mem_append.1 hr with hr | hr
          · exact HNX.out r hr
          · exact HRL.out.2.1 r hr,HMX.out,by have:=HRL.out; omega,by have:=HRL.out; omega,by have:=HRL.out.2.2.2.2.2.1; omega⟩
        clear h10
        go_wp2_with fail
        go_call hlo as e w11 ⟨rfl,rfl⟩
        clear hlo
        have htb:t < 60:=HRL.out.2.2.2.2.2.2.1
        go_wp2_with fail
        go_roundw
        case rel=>exact ⟨t + 1,(B3 + 1),by congr 1,rfl,by have:=HRL.out; omega,by omega,HPN⟩
        case measure=>
          show 60 - ((t:Int) + 1).toNat < 60 - ((t:Nat):Int).toNat
          omega
      · have hk3b:(ak == 3) = false:=by simp; exact hk3
        have hdoes:=does37 H1.out (by simp) HRL.out.1 (fun r hr=>by simp [hr]) ⟨hp20.1,by omega⟩ (by omega) (by rw [HNN.out.1]; exact Nat.le_refl _) (by have:=HNN.out.2; omega) (by omega) (by have:=HRL.out.2.2.2.2.2.1; omega) ak an s af d1 d2 co cn cc
        unfold act at hdoes
        have hsf:∀ (W:World) (a:Addr) (f:Nat) (cap:Array Value) (m:Mode),(store a (.func (.func f) #[] cap) m).run Tryz.prog W = stored Tryz.prog W a (.func (.func f) #[] cap) m:=fun W a f cap m=>run_store Tryz.prog W a _ m rfl
        have HMX:Hid (M2 ≠ Xb):=HRL.out.2.2.1
        go_wp2_with fail
        go_call hdoes as e w4 ⟨yo,yn,yc,X',need,k,caps,rfl,h2,hr2,hfr,hj⟩
        clear hdoes a0 a1 a2 a3 a4 a5 a6 b0 b1 b2 b3 b4 b5 b6 x0 x1 x2
        have HNX:Hid (∀ r ∈ need,r.1 ≠ Xb):=fun r hr=>by have:=hfr r hr; have:=HS.out; have:=HRL.out; omega
        obtain ⟨yB,hyB⟩:∃ yB,yB = w4.heap.size:=⟨_,rfl⟩
        have h5:=(h2.hold (.cells #[.int .i64 (ns:Nat),.int .i64 (p:Nat),.slice yo yn yc] 67) (F.apart_of (by decide)) (fun _ _=>cells_ne2 (by decide))).hold (.cells #[.func (.func k) #[] caps] 23) (F.apart_of (by decide)) (fun _ _=>cells_ne2 (by decide))
        have e1:(w4.alloc (.cells #[.int .i64 (ns:Nat),.int .i64 (p:Nat),.slice yo yn yc] 67)).heap.size = yB + 1:=by rw [World.alloc_size,hyB]
        obtain ⟨W5,hW5⟩:∃ W5,W5 = (w4.alloc (.cells #[.int .i64 (ns:Nat),.int .i64 (p:Nat),.slice yo yn yc] 67)).alloc (.cells #[.func (.func k) #[] caps] 23):=⟨_,rfl⟩
        have HG5:Hid (W5.heap.size = yB + 1 + 1):=by show W5.heap.size = yB + 1 + 1; rw [hW5,World.alloc_size,e1]
        rw [e1,← hyB,← hW5] at h5
        have hact:=h5.at' (r:=(aB,actC ak an s af d1 d2 co cn cc)) (by simp)
        have b0:W5.cell? ⟨aB,0,none⟩ = some (.int .i64 ak):=F.cell_of hact 0
        have H5:Hid (LgX T w L q N p ns M2 Lb ((yB + 1,Obj.cells #[.func (.func k) #[] caps] 23) :: (yB,Obj.cells #[.int .i64 (ns:Nat),.int .i64 (p:Nat),.slice yo yn yc] 67) :: (need ++ ((aB,actC ak an s af d1 d2 co cn cc) :: (Xb,Obj.cells #[.int .i64 (ns:Nat),.int .i64 (p:Nat),.slice xo xn xc] 67) :: (M2,F.med L.P 1 q) :: ol))) t X c W5):=h5
        have hyB':=hyB.symm
        have hW5':=hW5.symm
        have HR2:Hid (Rl (.slice yo yn yc) X' (need ++ ol)):=hr2
        have HJ:Hid (Job T w L q N p ns M2 Lb (need ++ ((aB,actC ak an s af d1 d2 co cn cc) :: (Xb,Obj.cells #[.int .i64 (ns:Nat),.int .i64 (p:Nat),.slice xo xn xc] 67) :: (M2,F.med L.P 1 q) :: ol)) t X X' c k caps):=hj
        clear h5 e1 hyB hW5 hact h2 hr2 hj hfr
        have h6:=H5.out.hold (.cells #[.bool false] 4) (F.apart_of (by decide)) (fun _ _=>cells_ne2 (by decide))
        rw [HG5.out] at h6
        have hgd:=job_guard (Cb:=yB + 1) (Gb:=yB + 1 + 1) (need:=need ++ ((aB,actC ak an s af d1 d2 co cn cc) :: (Xb,Obj.cells #[.int .i64 (ns:Nat),.int .i64 (p:Nat),.slice xo xn xc] 67) :: (M2,F.med L.P 1 q) :: ol)) (k:=k) (caps:=caps) h6 (by simp) (fun r hr=>by have:=H5.out.lt r hr; have:=HG5.out; omega) (by simp) (fun r hr=>by first | (cases hr; done) | (simp at hr; simp [hr])) HJ.out
        have hG5':=HG5.out
        have hmf:∀ (fn:Fn) (first cap:Array Value) (w:World),(Instr.makeFunc fn first cap).run Tryz.prog w = .ok (.func fn first cap) w:=fun _ _ _ _=>rfl
        clear h6
        go_wp2_with fail
        go_call hgd as e w7 ⟨rfl,h7⟩
        clear hgd hG5' hmf
        have h8:=h7.below ((Below.refl _ w7).alloc (Nat.le_refl _) (.cells #[.int .i64 0,.int .i64 0] 37))
        have hg8:=h8.at' (r:=(yB + 1 + 1,Obj.cells #[.bool true] 4)) (by simp)
        have hy8:=h8.at' (r:=(yB,Obj.cells #[.int .i64 (ns:Nat),.int .i64 (p:Nat),.slice yo yn yc] 67)) (by simp)
        have hx8:=h8.at' (r:=(Xb,Obj.cells #[.int .i64 (ns:Nat),.int .i64 (p:Nat),.slice xo xn xc] 67)) (by simp)
        have g0:(w7.alloc (.cells #[.int .i64 0,.int .i64 0] 37)).cell? ⟨yB + 1 + 1,0,none⟩ = some (.bool true):=F.cell_of hg8 0
        have y0:(w7.alloc (.cells #[.int .i64 0,.int .i64 0] 37)).cell? ⟨yB,0,none⟩ = some (.int .i64 (ns:Nat)):=F.cell_of hy8 0
        have y1:(w7.alloc (.cells #[.int .i64 0,.int .i64 0] 37)).cell? ⟨yB,1,none⟩ = some (.int .i64 (p:Nat)):=F.cell_of hy8 1
        have y2:(w7.alloc (.cells #[.int .i64 0,.int .i64 0] 37)).cell? ⟨yB,2,none⟩ = some (.slice yo yn yc):=F.cell_of hy8 2
        have x0:(w7.alloc (.cells #[.int .i64 0,.int .i64 0] 37)).cell? ⟨Xb,0,none⟩ = some (.int .i64 (ns:Nat)):=F.cell_of hx8 0
        have x1:(w7.alloc (.cells #[.int .i64 0,.int .i64 0] 37)).cell? ⟨Xb,1,none⟩ = some (.int .i64 (p:Nat)):=F.cell_of hx8 1
        have x2:(w7.alloc (.cells #[.int .i64 0,.int .i64 0] 37)).cell? ⟨Xb,2,none⟩ = some (.slice xo xn xc):=F.cell_of hx8 2
        have z0:(w7.alloc (.cells #[.int .i64 0,.int .i64 0] 37)).frozen? ⟨Xb,0,none⟩ = false:=F.frz_of hx8 0
        have z1:(w7.alloc (.cells #[.int .i64 0,.int .i64 0] 37)).frozen? ⟨Xb,1,none⟩ = false:=F.frz_of hx8 1
        have z2:(w7.alloc (.cells #[.int .i64 0,.int .i64 0] 37)).frozen? ⟨Xb,2,none⟩ = false:=F.frz_of hx8 2
        obtain ⟨t3,hoff⟩:=set3 hx8 (.int .i64 (ns:Nat)) (.int .i64 (p:Nat)) (.slice yo yn yc)
        have hrest:∀ r ∈ (M2,F.med L.P 1 (q)) :: (need ++ ol),r.1 ≠ Xb:=fun r hr=>by
          rcases List.mem_cons.1 hr with rfl | hr
          · exact HMX.out
          · rcases List.mem_append.1 hr with hr | hr
            · exact HNX.out r hr
            · exact HRL.out.2.1 r hr
        have h9:=((h8.drop (base':=(Xb,Obj.cells #[.int .i64 (ns:Nat),.int .i64 (p:Nat),.slice xo xn xc] 67) :: (M2,F.med L.P 1 (q)) :: (need ++ ol)) (by simp) (fun r hr=>by
          simp only [List.mem_cons,List.mem_append] at hr ⊢
          rcases hr with hr | hr | hr | hr <;> first | (cases hr; done) | simp [hr])).off (o':=Obj.cells #[.int .i64 (ns:Nat),.int .i64 (p:Nat),.slice yo yn yc] 67) hrest (List.mem_cons_self ..) hoff t3 (F.apart_of (by decide)) (fun _ _=>cells_ne2 (by decide)))
        obtain ⟨W9,hW9⟩:∃ W9,W9 = ((((w7.alloc (.cells #[.int .i64 0,.int .i64 0] 37)).setCell ⟨Xb,0,none⟩ (.int .i64 (ns:Nat))).setCell ⟨Xb,1,none⟩ (.int .i64 (p:Nat))).setCell ⟨Xb,2,none⟩ (.slice yo yn yc)):=⟨_,rfl⟩
        rw [← hW9] at h9
        have hx9:=h9.at' (r:=(Xb,Obj.cells #[.int .i64 (ns:Nat),.int .i64 (p:Nat),.slice yo yn yc] 67)) (by simp)
        have u0:W9.cell? ⟨Xb,0,none⟩ = some (.int .i64 (ns:Nat)):=F.cell_of hx9 0
        have u1:W9.cell? ⟨Xb,1,none⟩ = some (.int .i64 (p:Nat)):=F.cell_of hx9 1
        have u2:W9.cell? ⟨Xb,2,none⟩ = some (.slice yo yn yc):=F.cell_of hx9 2
        have his:=is40 h9 (by simp) HR2.out (fun r hr=>by simp at hr; simp [hr]) ⟨hp20.1,by omega⟩ (by omega)
        have hW9':=hW9.symm
        clear h7 h8 hg8 hy8 hx8 t3 hoff hrest h9 hx9 hW9
        go_wp2_with fail
        go_call his as e w10 ⟨rfl,h10⟩
        clear his g0 y0 y1 y2 x0 x1 x2 z0 z1 z2 u0 u1 u2 hW9'
        have hlo:=h10.loose
        have HPN:Hid (Pl T w L N p ns Xb (t + 1) Lb w10):=⟨q,M2,need ++ ol,_,_,_,X',_,h10,HR2.out,fun r hr=>by
          rcases List.mem_append.1 hr with hr | hr
          · exact HNX.out r hr
          · exact HRL.out.2.1 r hr,HMX.out,by have:=HRL.out; omega,by have:=HRL.out; omega,by have:=HRL.out.2.2.2.2.2.1; omega⟩
        clear h10
        go_wp2_with fail
        go_call hlo as e w11 ⟨rfl,rfl⟩
        clear hlo
        have htb:t < 60:=HRL.out.2.2.2.2.2.2.1
        go_wp2_with fail
        go_roundw
        case rel=>exact ⟨t + 1,Lb,by congr 1,rfl,by have:=HRL.out; omega,by omega,HPN⟩
        case measure=>
          show 60 - ((t:Int) + 1).toNat < 60 - ((t:Nat):Int).toNat
          omega
    · have hfin:¬ ((t:Int) < (n:Int)) ∨ ((t:Int) < (n:Int) ∧ ¬ ((t:Int) < 60)):=by omega
      have HF:Hid (Below T w wr):=by
        obtain ⟨q,M2,ol,xo,xn,xc,X,c,h0,_⟩:=H0.out
        exact h0.bel
      clear H0 hgo
      rcases hfin with hf | ⟨hf1,hf2⟩
      · go_wp2
        go_returns
        exact ⟨rfl,HF.out⟩
      · go_wp2
        go_returns
        exact ⟨rfl,HF.out⟩
end Go.Proofs.YtncfbocbigdhiaaGreat.U

/- Rows of Acts, opened. -/
/- A row of Acts that came in, as the walks read it. -/
namespace Go.Proofs.YtncfbocbigdhiaaGreat.ActsP
open Go Go.ChangeShapes Go.WideShapes Go.ChangeAt Go.WideMaps Go.WideElems Go.RowKit
theorem own:ownKnob Tryz.prog.godebug = none:=by kernel_rfl
theorem addr_none {w:World} {a:Addr} {v:Value} (h:w.cell? a = some v):a.spot = none:=by
  unfold World.cell? at h
  split at h
  · split at h
    · cases h
    · rename_i hs
      simpa using hs
  · cases h
theorem open_one {H:Type} {enc:TypeId × Value → H} {w:World} {fuel:Nat} {a:Addr} {cs:List Value} {x:DataW H × List MemPlace} (hc:w.cells? 0 a 1 = some cs)
    (h:DataW.trod enc Tryz.prog w 0 (fun _=>true) true fuel 3 cs = some x):∃ p:Int,w.cell? (a.add 0) = some (.int .i64 p):=by
  obtain ⟨_,hl,hcell⟩:=World.cells?_some hc
  obtain ⟨a0,e0,-,w0⟩:=DataW.trod_int Tryz.underlying3 h
  subst e0
  exact ⟨a0,by rw [hcell 0 (by omega)]; rfl⟩
theorem key_i {H:Type} {enc:TypeId × Value → H} {W:World} {ao:Option Addr} {n cap:Nat} {x:DataW H × List MemPlace} {fl:Nat} (hf:DataW.trod enc Tryz.prog W 0 (fun _=>true) true fl 31 [.slice ao n cap] = some x) :
    ∃ (b o:Nat) (k0:Nat → Int),(0 < n → ao = some ⟨b,o,none⟩) ∧ n ≤ cap ∧ cap ≤ 9223372036854775807 ∧ (∀ j,j < n → W.cell? ⟨b,o + j,none⟩ = some (.int .i64 (k0 j))):=by
  rcases Deep.open_slice Tryz.underlying31 hf with ⟨hcs,-⟩ | ⟨a,len,cap',m,n',D,Pl,hcs,-,hl,hm,hmm,hx,hel⟩
  · simp at hcs
    obtain ⟨rfl,rfl,rfl⟩:=hcs
    exact ⟨0,0,fun _=>0,fun h=>absurd h (Nat.lt_irrefl _),Nat.le_refl _,by decide,fun j hj=>absurd hj (Nat.not_lt_zero _)⟩
  · simp at hcs
    obtain ⟨rfl,rfl,rfl⟩:=hcs
    have hc2:Tryz.prog.cellsOf 3 = 1:=by kernel_rfl
    rw [hc2] at hel
    have hnm:n ≤ m:=by rw [hmm]; simp [hl]
    have hcm:cap ≤ 9223372036854775807:=hm
    obtain ⟨F,hF⟩:=Deep.choose_lt (α:=Int) (n:=n) (p:=fun i p=>W.cell? ((a.add (i * 1)).add 0) = some (.int .i64 p)) (fun i hi=>by
      obtain ⟨cs',e1,e2⟩:=hel i (by omega)
      exact open_one e1 e2)
    rcases Nat.eq_zero_or_pos n with rfl | hpos
    · exact ⟨0,0,fun _=>0,fun h=>absurd h (Nat.lt_irrefl _),hl,hcm,fun j hj=>absurd hj (Nat.not_lt_zero _)⟩
    · have hsp:=addr_none (hF 0 hpos)
      obtain ⟨ab,aoff,asp⟩:=a
      obtain rfl:asp = none:=hsp
      refine ⟨ab,aoff,fun j=>F j,fun _=>rfl,hl,hcm,fun j hj=>?_⟩
      have:=hF j hj
      simpa [Addr.add_lit] using this
structure T7 where
  ak:Int
  an:Int
  tx:ByteArray
  af:Int
  dn:Bool
  dd:Bool
  ca:Option Addr
  cn:Nat
  cc:Nat
  CK:Nat
  cO:Nat
  ch:Nat → Int
instance:Inhabited T7:=⟨⟨0,0,⟨#[]⟩,0,false,false,none,0,0,0,0,fun _=>0⟩⟩
def T7.cs (p:T7):List Value:=[.int .i64 p.ak,.int .i64 p.an,.string p.tx,.int .i64 p.af,.bool p.dn,.bool p.dd,.slice p.ca p.cn p.cc]
structure T7.Ok (w:World) (p:T7):Prop where
  at0:0 < p.cn → p.ca = some ⟨p.CK,p.cO,none⟩
  le:p.cn ≤ p.cc
  mx:p.cc ≤ 9223372036854775807
  row:∀ j,j < p.cn → w.cell? ⟨p.CK,p.cO + j,none⟩ = some (.int .i64 (p.ch j))
theorem list7 {α:Type} {l:List α} (h:l.length = 7):∃ a b c d e f g,l = [a,b,c,d,e,f,g]:=by
  match l,h with
  | [a,b,c,d,e,f,g],_=>exact ⟨a,b,c,d,e,f,g,rfl⟩
theorem open_act {H:Type} {enc:TypeId × Value → H} {w:World} {fuel:Nat} {a:Addr} {cs:List Value} {x:DataW H × List MemPlace} (hc:w.cells? 0 a 7 = some cs)
    (h:DataW.trod enc Tryz.prog w 0 (fun _=>true) true fuel 69 cs = some x) :
    ∃ p:T7,(∀ k v,p.cs[k]? = some v → w.cell? (a.add k) = some v) ∧ T7.Ok w p:=by
  obtain ⟨_,hl,hcell⟩:=World.cells?_some hc
  obtain ⟨c0,c1,c2,c3,c4,c5,c6,rfl⟩:=list7 hl
  obtain ⟨xs,n,_,_,_,hlen,hf⟩:=DataW.trod_struct Tryz.underlying69 h
  have hxs:xs.length = 7:=by simpa using hlen
  obtain ⟨y0,y1,y2,y3,y4,y5,y6,rfl⟩:=list7 hxs
  have i0:Tryz.prog.cellsOf 3 = 1:=by kernel_rfl
  have i1:Tryz.prog.cellsOf 9 = 1:=by kernel_rfl
  have i2:Tryz.prog.cellsOf 4 = 1:=by kernel_rfl
  have i3:Tryz.prog.cellsOf 31 = 1:=by kernel_rfl
  have h0:=hf 0 _ rfl
  have h1:=hf 1 _ rfl
  have h2:=hf 2 _ rfl
  have h3:=hf 3 _ rfl
  have h4:=hf 4 _ rfl
  have h5:=hf 5 _ rfl
  have h6:=hf 6 _ rfl
  simp [i0,i1,i2,i3] at h0 h1 h2 h3 h4 h5 h6
  obtain ⟨a0,e0,-,w0⟩:=DataW.trod_int Tryz.underlying3 h0
  obtain ⟨a1,e1,-,w1⟩:=DataW.trod_int Tryz.underlying3 h1
  obtain ⟨s,e2,-⟩:=DataW.trod_string Tryz.underlying9 h2
  obtain ⟨a3,e3,-,w3⟩:=DataW.trod_int Tryz.underlying3 h3
  obtain ⟨b4,e4,-⟩:=DataW.trod_bool Tryz.underlying4 h4
  obtain ⟨b5,e5,-⟩:=DataW.trod_bool Tryz.underlying4 h5
  obtain ⟨ao,cn,cp,e6⟩:=Joins.slice_form Tryz.underlying31 h6
  simp at e0 e1 e2 e3 e4 e5 e6
  subst e0 e1 e2 e3 e4 e5 e6
  obtain ⟨K,o,ch,g1,g2,g3,g4⟩:=key_i h6
  refine ⟨⟨a0,a1,s,a3,b4,b5,ao,cn,cp,K,o,ch⟩,fun k v hk=>?_,⟨g1,g2,g3,g4⟩⟩
  have hk7:k < 7:=(List.getElem?_eq_some_iff.1 hk).1
  rw [hcell k (by omega)]
  exact hk
theorem acts_open {H:Type} {enc:TypeId × Value → H} {W:World} {ao:Option Addr} {n cap:Nat} {d:DataW H} {p:List MemPlace} (h0:DataW.Trod enc Tryz.prog W 0 (fun _=>true) true 61 (.slice ao n cap) d p):∃ (b o:Nat) (act:Nat → T7),(0 < n → ao = some ⟨b,o,none⟩) ∧ (∀ j,j < n → W.rangeAt b (o + j * 7) (act j).cs) ∧ (∀ j,j < n → T7.Ok W (act j)) ∧ n ≤ cap ∧ cap ≤ 9223372036854775807:=by
  obtain ⟨fuel,hf⟩:=h0
  rcases Deep.open_slice Tryz.underlying61 (by simpa [Value.cells] using hf) with ⟨hcs,-⟩ | ⟨a,len,cap',m,n',D,Pl,hcs,-,hl,hm,hmm,hx,hel⟩
  · simp at hcs
    obtain ⟨rfl,rfl,rfl⟩:=hcs
    exact ⟨0,0,fun _=>default,fun h=>absurd h (Nat.lt_irrefl _),fun j hj=>absurd hj (Nat.not_lt_zero _),fun j hj=>absurd hj (Nat.not_lt_zero _),Nat.le_refl _,by decide⟩
  · simp at hcs
    obtain ⟨rfl,rfl,rfl⟩:=hcs
    have hc7:Tryz.prog.cellsOf 69 = 7:=by kernel_rfl
    rw [hc7] at hel
    have hnm:n ≤ m:=by rw [hmm]; simp [hl]
    obtain ⟨F,hF⟩:=Deep.choose_lt (α:=T7) (n:=n) (p:=fun i p=>(∀ k v,p.cs[k]? = some v → W.cell? ((a.add (i * 7)).add k) = some v) ∧ T7.Ok W p) (fun i hi=>by
      obtain ⟨cs',e1,e2⟩:=hel i (by omega)
      exact open_act e1 e2)
    rcases Nat.eq_zero_or_pos n with rfl | hpos
    · exact ⟨0,0,fun _=>default,fun h=>absurd h (Nat.lt_irrefl _),fun j hj=>absurd hj (Nat.not_lt_zero _),fun j hj=>absurd hj (Nat.not_lt_zero _),hl,hm⟩
    · have hsp:=addr_none ((hF 0 hpos).1 0 _ rfl)
      obtain ⟨ab,aoff,asp⟩:=a
      obtain rfl:asp = none:=hsp
      refine ⟨ab,aoff,fun j=>F j,fun _=>rfl,fun j hj k v hk=>?_,fun j hj=>(hF j hj).2,hl,hm⟩
      have:=(hF j hj).1 k v hk
      rw [Addr.add_lit,Addr.add_lit] at this
      exact this
end Go.Proofs.YtncfbocbigdhiaaGreat.ActsP
