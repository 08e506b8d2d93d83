/- Texts of this seat, one behind the other. -/
import Derived.Test.YtncfbocbigdhiaaGreatQN
/- The document's Reclaim of a segment, as a call. -/
namespace Go.Proofs.YtncfbocbigdhiaaGreat.U
open Go Go.RowKit Go.Sort
def V76 (H m:Nat) (s0 v0 v1 v2 s1 s2:Value):Nat → Value → Prop
  | 0,v=>v = s0
  | 1,v=>v = .pointer (some ⟨H,2,none⟩)
  | 2,v=>v = v0
  | 3,v=>v = .int .i64 (m:Nat)
  | 4,v=>v = v1
  | 5,v=>v = s1
  | 6,v=>v = .pointer (some ⟨H,2,none⟩)
  | 7,v=>v = v0
  | 8,v=>v = .int .i64 (m:Nat)
  | 9,v=>v = .int .i64 ((m:Int) + 1)
  | 10,v=>v = v2
  | 11,v=>v = s2
  | 12,v=>v = .pointer (some ⟨H,2,none⟩)
  | _,_=>True
section
variable {v:Value} {X:List (Nat × List ByteArray)} {ol:List (Nat × Obj)} {W:World}
set_option maxHeartbeats 8000000 in
set_option maxRecDepth 100000 in
theorem rreclaim76 (h:Rl v X ol) (ho:∀ p ∈ ol,W.heap[p.1]? = some p.2) (ns p:Nat) (i:Int) (hX:X.length ≤ 100) (m:Nat) (hm:m + 1 < X.length) (hlt:∀ j (hj:j < m),(X[j].1:Int) ≠ i) (hat:(X[m].1:Int) = i) :
    Calls Tryz.prog 76 #[.agg #[.int .i64 (ns:Nat),.int .i64 (p:Nat),v],.int .i64 i] W fun e w'=>∃ v',e = .returned (.tuple #[.agg #[.int .i64 (ns:Nat),.int .i64 (p:Nat),v'],.bool true]) ∧ Below W.heap.size W w' ∧ ∃ ol',Nw W w' ol' ∧ Rl v' (X.take m ++ X.drop (m + 1)) (ol' ++ ol):=by
  obtain ⟨Wa,hWa⟩:∃ Wa,Wa = ((W.alloc (.cells #[.int .i64 (ns:Nat),.int .i64 (p:Nat),v] 67)).alloc (.cells #[.int .i64 0,.int .i64 0,.slice none 0 0] 67)):=⟨_,rfl⟩
  have ha1:Below W.heap.size W Wa:=by rw [hWa]; exact ((Below.refl _ _).alloc (Nat.le_refl _) _).alloc (by simp) _
  have ha2:Wa.heap[W.heap.size]? = some (.cells #[.int .i64 (ns:Nat),.int .i64 (p:Nat),v] 67):=by
    have h1:=F.heap_new W (.cells #[.int .i64 (ns:Nat),.int .i64 (p:Nat),v] 67)
    rw [hWa]
    exact (((Below.refl _ (W.alloc (.cells #[.int .i64 (ns:Nat),.int .i64 (p:Nat),v] 67))).alloc (Nat.le_refl _) _).block _ (F.getElem?_lt h1)).trans h1
  have ha3:Wa.heap[W.heap.size + 1]? = some (.cells #[.int .i64 0,.int .i64 0,.slice none 0 0] 67):=by
    have h1:=F.heap_new (W.alloc (.cells #[.int .i64 (ns:Nat),.int .i64 (p:Nat),v] 67)) (.cells #[.int .i64 0,.int .i64 0,.slice none 0 0] 67)
    have e:(W.alloc (.cells #[.int .i64 (ns:Nat),.int .i64 (p:Nat),v] 67)).heap.size = W.heap.size + 1:=by simp
    rw [e] at h1; rw [hWa]; exact h1
  have ha4:Wa.heap.size = W.heap.size + 2:=by rw [hWa]; simp
  have hpl:=place119 (W:=Wa) h (fun r hr=>(ha1.block _ (F.getElem?_lt (ho r hr))).trans (ho r hr)) (by omega) ns p i m (by omega) hlt (fun _=>hat)
  obtain ⟨ao,cp,g',zs,hv,hao,hle,hmax,hzs,hcell⟩:=h.src
  obtain ⟨n,hn⟩:∃ n,n = X.length:=⟨_,rfl⟩
  rw [← hn] at hpl hv hm hX hao hle
  rw [if_pos (by omega)] at hpl
  subst hv
  have hao:=hao (by omega)
  subst hao
  have qa2:Wa.cell? ⟨W.heap.size,2,none⟩ = some (.slice (some ⟨g',0,none⟩) n cp):=F.cell_of ha2 2
  have qa0:Wa.cell? ⟨W.heap.size,0,none⟩ = some (.int .i64 (ns:Nat)):=F.cell_of ha2 0
  have qa1:Wa.cell? ⟨W.heap.size,1,none⟩ = some (.int .i64 (p:Nat)):=F.cell_of ha2 1
  have HA:Hid (Below W.heap.size W Wa ∧ Wa.heap[W.heap.size]? = some (.cells #[.int .i64 (ns:Nat),.int .i64 (p:Nat),.slice (some ⟨g',0,none⟩) n cp] 67) ∧ Wa.heap[W.heap.size + 1]? = some (.cells #[.int .i64 0,.int .i64 0,.slice none 0 0] 67) ∧ Wa.heap.size = W.heap.size + 2):=⟨ha1,ha2,ha3,ha4⟩
  have HOW:Hid (∀ p ∈ ol,W.heap[p.1]? = some p.2):=ho
  have HZ:Hid (RlC ol X zs ∧ n = X.length ∧ n ≤ cp ∧ cp ≤ maxLen ∧ n ≤ 100):=⟨hzs,hn,hle,hmax,hX⟩
  have HC:Hid _:=hcell
  have hWa':=hWa.symm
  clear h ho hzs hcell hWa ha1 ha2 ha3 ha4 hlt hat hn hle hmax
  have hc1:¬ (m:Int) < 0:=by omega
  have hc2:((m:Int) == (n:Int) - 1) = false:=by simp; omega
  go_enter Tryz.func76,Tryz.ntmps76
  go_wp2_with fail
  go_call hpl as e1 w1 ⟨rfl,hb1⟩
  have hsz:=HA.out.2.2.2
  have hbx:w1.heap[W.heap.size]? = some (.cells #[.int .i64 (ns:Nat),.int .i64 (p:Nat),.slice (some ⟨g',0,none⟩) n cp] 67):=(hb1.block _ (by omega)).trans HA.out.2.1
  have hrs:w1.heap[W.heap.size + 1]? = some (.cells #[.int .i64 0,.int .i64 0,.slice none 0 0] 67):=(hb1.block _ (by omega)).trans HA.out.2.2.1
  have qc2:w1.cell? ⟨W.heap.size,2,none⟩ = some (.slice (some ⟨g',0,none⟩) n cp):=F.cell_of hbx 2
  have hlt1:W.heap.size + 1 < w1.heap.size:=F.getElem?_lt hrs
  have HB1:Hid (Below W.heap.size W w1):=HA.out.1.trans (hb1.mono (by omega))
  have HBX:Hid (w1.heap[W.heap.size]? = some (.cells #[.int .i64 (ns:Nat),.int .i64 (p:Nat),.slice (some ⟨g',0,none⟩) n cp] 67)):=hbx
  have HRS:Hid (w1.heap[W.heap.size + 1]? = some (.cells #[.int .i64 0,.int .i64 0,.slice none 0 0] 67)):=hrs
  clear hbx hrs hb1 hpl hsz qa0 qa1 qa2 hWa' HA
  go_wp2_with fail
  clear qc2
  -- what is done
  obtain ⟨W0,hW0⟩:∃ W0,W0 = w1.drew:=⟨_,rfl⟩
  have hsz0:W0.heap.size = w1.heap.size:=by rw [hW0]; rfl
  have hd0:Below w1.heap.size w1 W0:=by rw [hW0]; exact (Below.refl _ _).drew
  have how0:∀ r ∈ ol,W0.heap[r.1]? = some r.2:=fun r hr=>by
    have h1:=(HB1.out.block _ (F.getElem?_lt (HOW.out r hr))).trans (HOW.out r hr)
    exact (hd0.block _ (F.getElem?_lt h1)).trans h1
  have hbx0:=(hd0.block _ (by omega)).trans HBX.out
  have hrs0:=(hd0.block _ (by omega)).trans HRS.out
  have hlt0:W.heap.size + 1 < W0.heap.size:=by omega
  have hb9:Below W0.heap.size W0 (W0.alloc (.cells #[] 118)):=(Below.refl _ _).alloc (Nat.le_refl _) _
  have hown0:(W0.alloc (.cells #[] 118)).ownsRow W0.heap.size 118 2 (.slice (some ⟨W0.heap.size,0,none⟩) 0 0) 0 []:=⟨rfl,Or.inr ⟨W0.heap.size,0,#[],rfl,Nat.le_refl _,F.heap_new _ _,Nat.le_refl _,Nat.zero_le _,rfl,rfl⟩⟩
  obtain ⟨hzs,hnX,hle,hmax,hn100⟩:=HZ.out
  have hzl:zs.length = n * 2:=by rw [hzs.len,hnX]
  have hz0:=HC.out (W0.alloc (.cells #[] 118)) (fun r hr=>(hb9.block _ (F.getElem?_lt (how0 r hr))).trans (how0 r hr))
  obtain ⟨s1,w2,hr1,ho1,hg1⟩:=run_gapp 65 hown0 (some ⟨g',0,none⟩) m cp g' 0 (zs.take (m * 2)) (fun _=>rfl) (by rw [List.length_take]; omega) (fun j u hj=>by
    have hl:=(List.getElem?_eq_some_iff.1 hj).1
    rw [List.length_take] at hl
    rw [List.getElem?_take_of_lt (by omega)] at hj
    exact hz0 j u hj) (fun u hu=>hzs.one u (List.mem_of_mem_take hu)) (by omega) hb9.size
  rw [Nat.zero_add,List.nil_append] at ho1
  have hbw1:Below W0.heap.size W0 w2:=hb9.grown hg1 hb9.size (fun k hk=>by have h:W0.heap.size = k:=Option.some.inj hk; omega)
  have hz2:=HC.out w2 (fun r hr=>(hbw1.block _ (F.getElem?_lt (how0 r hr))).trans (how0 r hr))
  obtain ⟨s2,w3,hr2,ho2,hg2⟩:=run_gapp 65 ho1 (some ⟨g',(m + 1) * 2,none⟩) (n - (m + 1)) (cp - (m + 1)) g' ((m + 1) * 2) (zs.drop ((m + 1) * 2)) (fun _=>rfl) (by rw [List.length_drop]; omega) (fun j u hj=>by
    rw [List.getElem?_drop] at hj
    have:=hz2 _ u hj
    rw [Nat.zero_add] at this
    exact this) (fun u hu=>hzs.one u (List.mem_of_mem_drop hu)) (by omega) hbw1.size
  have hbw2:Below W0.heap.size W0 w3:=hbw1.grown hg2 hbw1.size (fun k hk=>by
    rcases ho1.2 with ⟨e,_⟩ | ⟨g,cap,cur,e,e2,_⟩
    · rw [e] at hk; cases hk
    · rw [e] at hk
      have h:g = k:=Option.some.inj hk
      omega)
  obtain ⟨s1o,s1c,hs1⟩:=own_len ho1
  obtain ⟨s2o,s2c,hs2⟩:=own_len ho2
  subst hs1
  subst hs2
  have HFIN:Hid (∃ ol',Nw W0 w3 ol' ∧ Rl (.slice s2o (m + (n - (m + 1))) s2c) (X.take m ++ X.drop (m + 1)) (ol' ++ ol)):=by
    have e:m + (n - (m + 1)) = (X.take m ++ X.drop (m + 1)).length:=by rw [List.length_append,List.length_take,List.length_drop,← hnX]; omega
    have hc1:RlC ol (X.take m) (zs.take (m * 2)):=by
      have h1:RlC ol (X.take m ++ X.drop m) zs:=by rw [List.take_append_drop]; exact hzs
      have h2:=h1.split.1
      rw [List.length_take,← hnX,Nat.min_eq_left (by omega)] at h2
      exact h2
    have hc2:RlC ol (X.drop (m + 1)) (zs.drop ((m + 1) * 2)):=by
      have h1:RlC ol (X.take (m + 1) ++ X.drop (m + 1)) zs:=by rw [List.take_append_drop]; exact hzs
      have h2:=h1.split.2
      rw [List.length_take,← hnX,Nat.min_eq_left (by omega)] at h2
      exact h2
    rw [e] at ho2 ⊢
    exact own_rl ho2 (hc1.app hc2) (by rw [← e]; omega) (Nat.le_refl _)
  have HR1:Hid _:=hr1
  have HR2:Hid _:=hr2
  have HBW:Hid (Below W0.heap.size W0 w3):=hbw2
  have hsz3:=hbw2.size
  have hq:∀ w9:World,Below W0.heap.size W0 w9 → w9.cell? ⟨W.heap.size,2,none⟩ = some (.slice (some ⟨g',0,none⟩) n cp):=fun w9 hb=>F.cell_of ((hb.block _ (by omega)).trans hbx0) 2
  have HQ:Hid (∀ w9:World,(w9 = W0 ∨ w9 = W0.alloc (.cells #[] 118) ∨ w9 = w2 ∨ w9 = w3) → w9.cell? ⟨W.heap.size,2,none⟩ = some (.slice (some ⟨g',0,none⟩) n cp)):=by
    intro w9 h
    rcases h with rfl | rfl | rfl | rfl
    · exact hq _ (Below.refl _ _)
    · exact hq _ hb9
    · exact hq _ hbw1
    · exact hq _ hbw2
  have hbx3:w3.heap[W.heap.size]? = some (.cells #[.int .i64 (ns:Nat),.int .i64 (p:Nat),.slice (some ⟨g',0,none⟩) n cp] 67):=(hbw2.block _ (by omega)).trans hbx0
  have hrs3:w3.heap[W.heap.size + 1]? = some (.cells #[.int .i64 0,.int .i64 0,.slice none 0 0] 67):=(hbw2.block _ (by omega)).trans hrs0
  have HBX3:Hid (w3.heap[W.heap.size]? = some (.cells #[.int .i64 (ns:Nat),.int .i64 (p:Nat),.slice (some ⟨g',0,none⟩) n cp] 67)):=hbx3
  have HRS3:Hid (w3.heap[W.heap.size + 1]? = some (.cells #[.int .i64 0,.int .i64 0,.slice none 0 0] 67)):=hrs3
  have HW0:Hid (w1.drew = W0):=hW0.symm
  have HS0:Hid (W.heap.size + 1 < W0.heap.size ∧ Below W.heap.size W W0):=⟨hlt0,HB1.out.trans (hd0.mono (by omega))⟩
  have HM:Hid (m + 1 < n ∧ n ≤ cp ∧ n ≤ 100):=⟨hm,hle,hn100⟩
  clear HB1 HBX HRS hlt1 HOW HC hW0 hsz0 hd0 how0 hbx0 hrs0 hlt0 hb9 hown0 hzs hnX hle hmax hn100 hzl hz0 hr1 ho1 hg1 hbw1 hz2 hr2 ho2 hg2 hbw2 hsz3 hq hbx3 hrs3 hm hc1 hc2 hX HZ
  obtain ⟨HB,hHB⟩:∃ HB,HB = W.heap.size:=⟨_,rfl⟩
  have HHB:Hid (HB = W.heap.size):=hHB
  rw [← hHB] at HQ HBX3 HRS3 ⊢
  clear hHB
  refine F.wp_region_pb (fun f=>⟨#[.agg #[.int .i64 (ns:Int),.int .i64 (p:Int),.slice (some ⟨g',0,none⟩) n cp],.int .i64 i,.pointer (some ⟨HB,0,none⟩),undef,.pointer (some ⟨HB + 1,0,none⟩),.bool false,.int .i64 (m:Int),.agg #[.int .i64 (ns:Int),.int .i64 (p:Int),.slice (some ⟨g',0,none⟩) n cp],.int .i64 i,.int .i64 (m:Int),.int .i64 (m:Int),.bool (decide ((m:Int) < 0)),.bool (decide ((m:Int) < 0)),.int .i64 (m:Int),.pointer (some ⟨HB,2,none⟩),.slice (some ⟨g',0,none⟩) n cp,.int .i64 (n:Int),.int .i64 ((n:Int) - 1),.bool false,.bool (decide ((m:Int) < 0)),undef,f 0,f 1,f 2,f 3,f 4,f 5,f 6,f 7,f 8,f 9,f 10,f 11,f 12,undef],[]⟩) (V76 HB m (.slice (some ⟨W0.heap.size,0,none⟩) 0 0) (.slice (some ⟨g',0,none⟩) n cp) (.slice (some ⟨g',0,none⟩) m cp) (.slice (some ⟨g',(m + 1) * 2,none⟩) (n - (m + 1)) (cp - (m + 1))) (.slice s1o m s1c) (.slice s2o (m + (n - (m + 1))) s2c)) (fun done _ W=>PhD 13 0 5 11 W0 (W0.alloc (.cells #[] 118)) w2 w3 (w3.setCell ⟨HB,2,none⟩ (.slice s2o (m + (n - (m + 1))) s2c)) done W) (fun i=>[undef,undef,undef,undef,undef,undef,undef,undef,undef,undef,undef,undef,undef,undef].getD i undef) (by kernel_rfl) rfl rfl ?hI ?hput ?step ?fin
  case hI=>rw [HW0.out]; exact PhD.start
  case fin=>
    intro f W9 hP hV
    have v0:f 0 = .slice (some ⟨W0.heap.size,0,none⟩) 0 0:=hV 0 (by decide)
    have v1:f 1 = .pointer (some ⟨HB,2,none⟩):=hV 1 (by decide)
    have v2:f 2 = .slice (some ⟨g',0,none⟩) n cp:=hV 2 (by decide)
    have v3:f 3 = .int .i64 (m:Nat):=hV 3 (by decide)
    have v4:f 4 = .slice (some ⟨g',0,none⟩) m cp:=hV 4 (by decide)
    have v5:f 5 = .slice s1o m s1c:=hV 5 (by decide)
    have v6:f 6 = .pointer (some ⟨HB,2,none⟩):=hV 6 (by decide)
    have v7:f 7 = .slice (some ⟨g',0,none⟩) n cp:=hV 7 (by decide)
    have v8:f 8 = .int .i64 (m:Nat):=hV 8 (by decide)
    have v9:f 9 = .int .i64 ((m:Int) + 1):=hV 9 (by decide)
    have v10:f 10 = .slice (some ⟨g',(m + 1) * 2,none⟩) (n - (m + 1)) (cp - (m + 1)):=hV 10 (by decide)
    have v11:f 11 = .slice s2o (m + (n - (m + 1))) s2c:=hV 11 (by decide)
    have v12:f 12 = .pointer (some ⟨HB,2,none⟩):=hV 12 (by decide)
    clear hV
    have hw:=hP.z rfl
    subst hw
    clear hP
    generalize f 0 = x0 at *
    subst v0
    generalize f 1 = x1 at *
    subst v1
    generalize f 2 = x2 at *
    subst v2
    generalize f 3 = x3 at *
    subst v3
    generalize f 4 = x4 at *
    subst v4
    generalize f 5 = x5 at *
    subst v5
    generalize f 6 = x6 at *
    subst v6
    generalize f 7 = x7 at *
    subst v7
    generalize f 8 = x8 at *
    subst v8
    generalize f 9 = x9 at *
    subst v9
    generalize f 10 = x10 at *
    subst v10
    generalize f 11 = x11 at *
    subst v11
    generalize f 12 = x12 at *
    subst v12
    generalize f 13 = x13 at *
    obtain ⟨zn,hzz⟩:∃ zn,zn = m + (n - (m + 1)):=⟨_,rfl⟩
    have HZZ:Hid (zn = m + (n - (m + 1))):=hzz
    rw [← hzz]
    have qbox2:=F.block_set (i:=2) HBX3.out (.slice s2o zn s2c)
    have qres2:(w3.setCell ⟨HB,2,none⟩ (.slice s2o zn s2c)).heap[HB + 1]? = some (.cells #[.int .i64 0,.int .i64 0,.slice none 0 0] 67):=(((Off.refl HB w3).set 2 (.slice s2o zn s2c)).block _ (by omega)).trans HRS3.out
    obtain ⟨W5,hW5⟩:∃ W5,W5 = w3.setCell ⟨HB,2,none⟩ (.slice s2o zn s2c):=⟨_,rfl⟩
    rw [← hW5] at qbox2 qres2 ⊢
    have HW5:Hid (W5 = w3.setCell ⟨HB,2,none⟩ (.slice s2o zn s2c)):=hW5
    have qc0:W5.cell? ⟨HB,0,none⟩ = some (.int .i64 (ns:Nat)):=F.cell_of qbox2 0
    have qc1:W5.cell? ⟨HB,1,none⟩ = some (.int .i64 (p:Nat)):=F.cell_of qbox2 1
    have qc2:W5.cell? ⟨HB,2,none⟩ = some (.slice s2o zn s2c):=F.cell_of qbox2 2
    have qr0:W5.cell? ⟨HB + 1,0,none⟩ = some (.int .i64 0):=F.cell_of qres2 0
    have qr1:W5.cell? ⟨HB + 1,1,none⟩ = some (.int .i64 0):=F.cell_of qres2 1
    have qr2:W5.cell? ⟨HB + 1,2,none⟩ = some (.slice none 0 0):=F.cell_of qres2 2
    have zr0:W5.frozen? ⟨HB + 1,0,none⟩ = false:=F.frz_of qres2 0
    have zr1:W5.frozen? ⟨HB + 1,1,none⟩ = false:=F.frz_of qres2 1
    have zr2:W5.frozen? ⟨HB + 1,2,none⟩ = false:=F.frz_of qres2 2
    have QR2:Hid (W5.heap[HB + 1]? = some (.cells #[.int .i64 0,.int .i64 0,.slice none 0 0] 67)):=qres2
    clear qbox2 qres2 hW5 hzz
    go_wp2_with fail
    obtain ⟨t3,hoff,hbel⟩:=res3 QR2.out (.int .i64 (ns:Nat)) (.int .i64 (p:Nat)) (.slice s2o zn s2c)
    have hoff0:=(Off.refl HB w3).set 2 (.slice s2o zn s2c)
    obtain ⟨ol',hn1,hn2⟩:=HFIN.out
    obtain ⟨hs1,hs2⟩:=HS0.out
    rw [← HHB.out] at hs1 hs2
    have hsz:=HBW.out.size
    refine bodyPost_ret (lret2 Tryz.results76 _ _ (HB + 1) _ (.bool true) rfl rfl t3 rfl) rfl ⟨_,rfl,?_,ol',fun r hr=>?_,by rw [HZZ.out]; exact hn2⟩
    · have hb5:Below HB W W5:=by rw [HW5.out]; exact (hs2.trans (HBW.out.mono (by omega))).setCell (Nat.le_refl _) _
      rw [← HHB.out]
      exact hbel W _ (by omega) hb5
    · obtain ⟨b1,b2,b3⟩:=hn1 r hr
      have h5:W5.heap[r.1]? = some r.2:=by rw [HW5.out]; exact (hoff0.block _ (by omega)).trans b1
      exact ⟨(hoff.block _ (by omega)).trans h5,by have:=HHB.out; omega,b3⟩
  case hput=>
    repeat (refine ⟨fun f v=>rfl,?_⟩)
    trivial
  case step=>
    refine ⟨?_,?_⟩
    · intro done f W hP hdn hd K hK
      clear hd
      obtain ⟨hw,hP2⟩:=hP.first hdn (by decide) (by decide) (by decide)
      subst hw
      go_simp
      exact hK _ _ rfl hP2
    refine ⟨?_,?_⟩
    · intro done f W hP hdn hd K hK
      clear hd
      go_simp
      exact hK _ _ rfl (hP.pure (by decide) hdn (by decide) (by decide) (by decide))
    refine ⟨?_,?_⟩
    · intro done f W hP hdn hd K hK
      have d1:=(hd.1 rfl).2
      have e1:done 1 = true:=(hd.1 rfl).1
      clear hd
      replace d1:f 1 = .pointer (some ⟨HB,2,none⟩):=d1
      generalize f 1 = x1 at *
      subst d1
      clear e1
      have q:=HQ.out W (hP.now (by decide) hdn)
      go_simp
      exact hK _ _ rfl (hP.pure (by decide) hdn (by decide) (by decide) (by decide))
    refine ⟨?_,?_⟩
    · intro done f W hP hdn hd K hK
      clear hd
      go_simp
      exact hK _ _ rfl (hP.pure (by decide) hdn (by decide) (by decide) (by decide))
    refine ⟨?_,?_⟩
    · intro done f W hP hdn hd K hK
      have d2:=(hd.1 rfl).2
      have e2:done 2 = true:=(hd.1 rfl).1
      have d3:=(hd.2.1 rfl).2
      have e3:done 3 = true:=(hd.2.1 rfl).1
      clear hd
      replace d2:f 2 = .slice (some ⟨g',0,none⟩) n cp:=d2
      replace d3:f 3 = .int .i64 (m:Nat):=d3
      generalize f 2 = x2 at *
      subst d2
      clear e2
      generalize f 3 = x3 at *
      subst d3
      clear e3
      rw [if_pos (by rfl)]
      refine oslice 65 _ _ _ _ rfl (v':=.slice (some ⟨g',0,none⟩) m cp) (W':=W) (vx:=.slice (some ⟨g',0,none⟩) n cp) (vl:=none) (vh:=some (.int .i64 (m:Nat))) (vm:=none) rfl rfl rfl rfl ?_ ?_
      · exact seg_uptoA (some ⟨g',0,none⟩) n cp m (by have:=HM.out; omega) W
      · exact hK _ _ rfl (hP.pure (by decide) hdn (by decide) (by decide) (by decide))
    refine ⟨?_,?_⟩
    · intro done f W hP hdn hd K hK
      have d0:=(hd.1 rfl).2
      have e0:done 0 = true:=(hd.1 rfl).1
      have d4:=(hd.2.1 rfl).2
      have e4:done 4 = true:=(hd.2.1 rfl).1
      clear hd
      replace d0:f 0 = .slice (some ⟨W0.heap.size,0,none⟩) 0 0:=d0
      replace d4:f 4 = .slice (some ⟨g',0,none⟩) m cp:=d4
      generalize f 0 = x0 at *
      subst d0
      generalize f 4 = x4 at *
      subst d4
      clear e4
      obtain ⟨hw,hP2⟩:=hP.second e0 hdn (by decide) (by decide) (by decide)
      subst hw
      rw [if_pos (by rfl)]
      refine oapp _ _ 65 rfl (v:=.slice (some ⟨W0.heap.size,0,none⟩) 0 0) (vx:=.slice (some ⟨g',0,none⟩) m cp) rfl rfl HR1.out ?_
      exact hK _ _ rfl hP2
    refine ⟨?_,?_⟩
    · intro done f W hP hdn hd K hK
      clear hd
      go_simp
      exact hK _ _ rfl (hP.pure (by decide) hdn (by decide) (by decide) (by decide))
    refine ⟨?_,?_⟩
    · intro done f W hP hdn hd K hK
      have d6:=(hd.1 rfl).2
      have e6:done 6 = true:=(hd.1 rfl).1
      clear hd
      replace d6:f 6 = .pointer (some ⟨HB,2,none⟩):=d6
      generalize f 6 = x6 at *
      subst d6
      clear e6
      have q:=HQ.out W (hP.now (by decide) hdn)
      go_simp
      exact hK _ _ rfl (hP.pure (by decide) hdn (by decide) (by decide) (by decide))
    refine ⟨?_,?_⟩
    · intro done f W hP hdn hd K hK
      clear hd
      go_simp
      exact hK _ _ rfl (hP.pure (by decide) hdn (by decide) (by decide) (by decide))
    refine ⟨?_,?_⟩
    · intro done f W hP hdn hd K hK
      have d8:=(hd.1 rfl).2
      have e8:done 8 = true:=(hd.1 rfl).1
      clear hd
      replace d8:f 8 = .int .i64 (m:Nat):=d8
      generalize f 8 = x8 at *
      subst d8
      clear e8
      have hwr:IntKind.i64.wrap ((m:Int) + 1) = (m:Int) + 1:=by
        have:=HM.out
        rw [IntKind.wrap_i64]; omega
      go_simp
      exact hK _ _ rfl (hP.pure (by decide) hdn (by decide) (by decide) (by decide))
    refine ⟨?_,?_⟩
    · intro done f W hP hdn hd K hK
      have d7:=(hd.1 rfl).2
      have e7:done 7 = true:=(hd.1 rfl).1
      have d9:=(hd.2.1 rfl).2
      have e9:done 9 = true:=(hd.2.1 rfl).1
      clear hd
      replace d7:f 7 = .slice (some ⟨g',0,none⟩) n cp:=d7
      replace d9:f 9 = .int .i64 ((m:Int) + 1):=d9
      generalize f 7 = x7 at *
      subst d7
      clear e7
      generalize f 9 = x9 at *
      subst d9
      clear e9
      rw [if_pos (by rfl)]
      refine oslice 65 _ _ _ _ rfl (v':=.slice (some ⟨g',(m + 1) * 2,none⟩) (n - (m + 1)) (cp - (m + 1))) (W':=W) (vx:=.slice (some ⟨g',0,none⟩) n cp) (vl:=some (.int .i64 ((m + 1:Nat):Int))) (vh:=none) (vm:=none) rfl rfl rfl rfl ?_ ?_
      · exact seg_fromA g' n cp (m + 1) HM.out.1 HM.out.2.1 W
      · exact hK _ _ rfl (hP.pure (by decide) hdn (by decide) (by decide) (by decide))
    refine ⟨?_,?_⟩
    · intro done f W hP hdn hd K hK
      have d5:=(hd.1 rfl).2
      have e5:done 5 = true:=(hd.1 rfl).1
      have d10:=(hd.2.1 rfl).2
      have e10:done 10 = true:=(hd.2.1 rfl).1
      clear hd
      replace d5:f 5 = .slice s1o m s1c:=d5
      replace d10:f 10 = .slice (some ⟨g',(m + 1) * 2,none⟩) (n - (m + 1)) (cp - (m + 1)):=d10
      generalize f 5 = x5 at *
      subst d5
      generalize f 10 = x10 at *
      subst d10
      clear e10
      obtain ⟨hw,hP2⟩:=hP.third e5 hdn (by decide) (by decide) (by decide)
      subst hw
      rw [if_pos (by rfl)]
      refine oapp _ _ 65 rfl (v:=.slice s1o m s1c) (vx:=.slice (some ⟨g',(m + 1) * 2,none⟩) (n - (m + 1)) (cp - (m + 1))) rfl rfl HR2.out ?_
      exact hK _ _ rfl hP2
    refine ⟨?_,?_⟩
    · intro done f W hP hdn hd K hK
      clear hd
      go_simp
      exact hK _ _ rfl (hP.pure (by decide) hdn (by decide) (by decide) (by decide))
    refine ⟨?_,?_⟩
    · intro done f W hP hdn hd K hK
      have d12:=(hd.1 rfl).2
      have e12:done 12 = true:=(hd.1 rfl).1
      have d11:=(hd.2.1 rfl).2
      have e11:done 11 = true:=(hd.2.1 rfl).1
      have e0:done 0 = true:=(hd.2.2.2.1 rfl).1
      have e1:done 1 = true:=(hd.2.2.2.2.1 rfl).1
      have e2:done 2 = true:=(hd.2.2.2.2.2.1 rfl).1
      have e3:done 3 = true:=(hd.2.2.2.2.2.2.1 rfl).1
      have e4:done 4 = true:=(hd.2.2.2.2.2.2.2.1 rfl).1
      have e5:done 5 = true:=(hd.2.2.2.2.2.2.2.2.1 rfl).1
      have e6:done 6 = true:=(hd.2.2.2.2.2.2.2.2.2.1 rfl).1
      have e7:done 7 = true:=(hd.2.2.2.2.2.2.2.2.2.2.1 rfl).1
      have e8:done 8 = true:=(hd.2.2.2.2.2.2.2.2.2.2.2.1 rfl).1
      have e9:done 9 = true:=(hd.2.2.2.2.2.2.2.2.2.2.2.2.1 rfl).1
      have e10:done 10 = true:=(hd.2.2.2.2.2.2.2.2.2.2.2.2.2.1 rfl).1
      clear hd
      replace d12:f 12 = .pointer (some ⟨HB,2,none⟩):=d12
      replace d11:f 11 = .slice s2o (m + (n - (m + 1))) s2c:=d11
      generalize f 12 = x12 at *
      subst d12
      generalize f 11 = x11 at *
      subst d11
      obtain ⟨hw,hP2⟩:=hP.last e11 hdn (fun j hj=>by
        match j,hj with
        | 0,_=>exact e0
        | 1,_=>exact e1
        | 2,_=>exact e2
        | 3,_=>exact e3
        | 4,_=>exact e4
        | 5,_=>exact e5
        | 6,_=>exact e6
        | 7,_=>exact e7
        | 8,_=>exact e8
        | 9,_=>exact e9
        | 10,_=>exact e10
        | 11,_=>exact e11
        | 12,_=>exact e12
        | j + 13,h=>exact absurd h (by omega)) (by decide) (by decide) (by decide)
      subst hw
      have q:=HQ.out W (Or.inr (Or.inr (Or.inr rfl)))
      have z:W.frozen? ⟨HB,2,none⟩ = false:=F.frz_of HBX3.out 2
      go_simp
      exact hK undef _ trivial hP2
    trivial
end
end Go.Proofs.YtncfbocbigdhiaaGreat.U

/- The document's Room, as a call. -/
namespace Go.Proofs.YtncfbocbigdhiaaGreat.U
open Go Go.RowKit Go.Sort
def V78 (HB g m k i u p:Nat) (v0 tv:Value):Nat → Value → Prop
  | 0,v=>v = .pointer (some ⟨HB,2,none⟩)
  | 1,v=>v = v0
  | 2,v=>v = .int .i64 ((m:Int) + 1)
  | 3,v=>v = .bool true
  | 4,v=>v = .bool true
  | 5,v=>v = .int .i64 (k:Nat)
  | 6,v=>v = .bool true
  | 7,v=>v = .bool true
  | 8,v=>v = .bool true
  | 9,v=>v = .pointer (some ⟨HB,2,none⟩)
  | 10,v=>v = v0
  | 11,v=>v = .pointer (some ⟨HB,2,none⟩)
  | 12,v=>v = v0
  | 13,v=>v = .int .i64 ((m:Int) + 1)
  | 14,v=>v = .int .i64 (m:Nat)
  | 15,v=>v = .pointer (some ⟨g,m * 2,none⟩)
  | 16,v=>v = .agg #[.int .i64 (i:Nat),tv]
  | 17,v=>v = .int .i64 (u:Nat)
  | 18,v=>v = .int .i64 (k:Nat)
  | 19,v=>v = .int .i64 ((u:Int) + (k:Int))
  | 20,v=>v = .pointer (some ⟨HB,1,none⟩)
  | 21,v=>v = .int .i64 (p:Nat)
  | 22,v=>v = .bool (decide ((u:Int) + (k:Int) < (p:Int)))
  | 23,v=>v = .bool (decide ((u:Int) + (k:Int) < (p:Int)))
  | 24,v=>v = .bool (decide ((u:Int) + (k:Int) < (p:Int)))
  | _,_=>True
theorem below_drewN {B:Nat} {a w:World} (h:Below B a w):∀ n,Below B a (w.drewN n)
  | 0=>h
  | n + 1=>(below_drewN h n).drew
section
variable {v:Value} {X:List (Nat × List ByteArray)} {ol:List (Nat × Obj)} {W:World}
set_option maxHeartbeats 4000000 in
set_option maxRecDepth 100000 in
theorem rroom78_no (h:Rl v X ol) (ns p k:Nat) (hno:X = [] ∨ k = 0) :
    Calls Tryz.prog 78 #[.agg #[.int .i64 (ns:Nat),.int .i64 (p:Nat),v],.int .i64 (k:Nat)] W fun e w'=>e = .returned (.bool false) ∧ Below W.heap.size W w':=by
  obtain ⟨ao,cp,g',zs,hv,hao,hle,hmax,hzs,hcell⟩:=h.src
  obtain ⟨n,hn⟩:∃ n,n = X.length:=⟨_,rfl⟩
  rw [← hn] at hv
  subst hv
  have hb1:Below W.heap.size W (W.alloc (.cells #[.int .i64 (ns:Nat),.int .i64 (p:Nat),.slice ao n cp] 67)):=(Below.refl _ _).alloc (Nat.le_refl _) _
  have HB1:Hid (Below W.heap.size W (W.alloc (.cells #[.int .i64 (ns:Nat),.int .i64 (p:Nat),.slice ao n cp] 67))):=hb1
  have hno2:n = 0 ∨ (0 < n ∧ k = 0):=by
    rcases hno with e | e
    · left; rw [hn,e]; rfl
    · rcases Nat.eq_zero_or_pos n with e2 | e2
      · exact Or.inl e2
      · exact Or.inr ⟨e2,e⟩
  clear h hao hle hmax hzs hcell hn hno hb1
  rcases hno2 with rfl | ⟨hn,rfl⟩
  · go_enter Tryz.func78,Tryz.ntmps78
    go_wp2_with fail
    go_quiet (fail)
    go_wp2
    go_returns
    exact ⟨rfl,below_drewN HB1.out _⟩
  · have hnI:(0:Int) < (n:Int):=by omega
    go_enter Tryz.func78,Tryz.ntmps78
    go_wp2_with fail
    go_quiet (fail)
    go_wp2
    go_returns
    exact ⟨rfl,below_drewN HB1.out _⟩
set_option maxHeartbeats 8000000 in
set_option maxRecDepth 100000 in
theorem rroom78 {i:Nat} {ts:List ByteArray} (h:Rl v (X ++ [(i,ts)]) ol) (ho:∀ p ∈ ol,W.heap[p.1]? = some p.2) (ns p k:Nat) (hX:X.length ≤ 100) (hk:0 < k) (hk2:k ≤ 1000) (hu:used ts ≤ 1000) :
    Calls Tryz.prog 78 #[.agg #[.int .i64 (ns:Nat),.int .i64 (p:Nat),v],.int .i64 (k:Nat)] W fun e w'=>e = .returned (.bool (decide (used ts + k < p))) ∧ Below W.heap.size W w':=by
  obtain ⟨ao,cp,g,hv,hao,hc⟩:=h.cells
  obtain ⟨m,hm⟩:∃ m,m = X.length:=⟨_,rfl⟩
  have hlen:(X ++ [(i,ts)]).length = m + 1:=by rw [List.length_append,hm]; rfl
  obtain ⟨tv,tl,hc1,hc2,hc3,hc4⟩:=hc W ho m (by omega)
  have hgt:(X ++ [(i,ts)])[m]'(by omega) = (i,ts):=by
    subst hm
    rw [List.getElem_append_right (Nat.le_refl _)]
    simp
  rw [hgt] at hc1 hc3
  rw [hlen] at hv hao
  subst hv
  have hao:=hao (by omega)
  subst hao
  obtain ⟨u,hu0⟩:∃ u,u = used ts:=⟨_,rfl⟩
  obtain ⟨tao,tcp,htv⟩:=hc3.len
  obtain ⟨tn,htn⟩:∃ tn,tn = ts.length:=⟨_,rfl⟩
  rw [← htn] at htv
  subst htv
  obtain ⟨Wa,hWa⟩:∃ Wa,Wa = (W.alloc (.cells #[.int .i64 (ns:Nat),.int .i64 (p:Nat),.slice (some ⟨g,0,none⟩) (m + 1) cp] 67)).drew:=⟨_,rfl⟩
  have ha1:Below W.heap.size W Wa:=by rw [hWa]; exact ((Below.refl _ _).alloc (Nat.le_refl _) _).drew
  have ha2:Wa.heap[W.heap.size]? = some (.cells #[.int .i64 (ns:Nat),.int .i64 (p:Nat),.slice (some ⟨g,0,none⟩) (m + 1) cp] 67):=by
    rw [hWa]; exact F.heap_new W _
  have HCL:Hid (∀ W2,Below Wa.heap.size Wa W2 → Calls Tryz.prog 82 #[.agg #[.int .i64 (i:Nat),.slice tao tn tcp]] W2 fun e w'=>e = .returned (.int .i64 (u:Nat)) ∧ Below W2.heap.size W2 w'):=by
    intro W2 hb
    have:=used82 (tv:=.slice tao tn tcp) hc3 (i:Int) W2 (fun r hr=>by
      have h1:=(ha1.block _ (F.getElem?_lt (ho r (hc4 r hr)))).trans (ho r (hc4 r hr))
      exact (hb.block _ (F.getElem?_lt h1)).trans h1) hu
    rw [hu0]
    exact this
  obtain ⟨HB,hHB⟩:∃ HB,HB = W.heap.size:=⟨_,rfl⟩
  have HQ:Hid (∀ W2,Below Wa.heap.size Wa W2 → W2.cell? ⟨HB,1,none⟩ = some (.int .i64 (p:Nat)) ∧ W2.cell? ⟨HB,2,none⟩ = some (.slice (some ⟨g,0,none⟩) (m + 1) cp) ∧ W2.cell? ⟨g,m * 2,none⟩ = some (.int .i64 (i:Nat)) ∧ W2.cell? ⟨g,m * 2 + 1,none⟩ = some (.slice tao tn tcp)):=by
    intro W2 hb
    have hbx:=(hb.block _ (F.getElem?_lt ha2)).trans ha2
    rw [hHB]
    have hc1':=(ha1.cell (World.block_lt_of_cell? W _ hc1)).trans hc1
    have hc2':=(ha1.cell (World.block_lt_of_cell? W _ hc2)).trans hc2
    exact ⟨F.cell_of hbx 1,F.cell_of hbx 2,(hb.cell (World.block_lt_of_cell? Wa _ hc1')).trans hc1',(hb.cell (World.block_lt_of_cell? Wa _ hc2')).trans hc2'⟩
  have HA:Hid (Below W.heap.size W Wa):=ha1
  have HB9:Hid (u ≤ 1000 ∧ 0 < k ∧ k ≤ 1000 ∧ m ≤ 100):=⟨by omega,hk,hk2,by omega⟩
  have HU:Hid (u = used ts):=hu0
  have HWA:Hid (Wa = (W.alloc (.cells #[.int .i64 (ns:Nat),.int .i64 (p:Nat),.slice (some ⟨g,0,none⟩) (m + 1) cp] 67)).drew):=hWa
  have HHB:Hid (HB = W.heap.size):=hHB
  clear h ho hc hlen hc1 hc2 hc3 hc4 hgt hu0 htn hWa ha1 ha2 hHB hX hk hk2 hu hm
  go_enter Tryz.func78,Tryz.ntmps78
  go_wp2_with fail
  rw [← HHB.out]
  refine F.wp_region_pb (fun f=>⟨#[.agg #[.int .i64 (ns:Int),.int .i64 (p:Int),.slice (some ⟨g,0,none⟩) (m + 1) cp],.int .i64 (k:Int),.pointer (some ⟨HB,0,none⟩),undef,f 24,f 0,f 1,f 2,f 3,f 4,f 5,f 6,f 7,f 8,f 9,f 10,f 11,f 12,f 13,f 14,f 15,f 16,f 17,f 18,f 19,f 20,f 21,f 22,f 23],[]⟩) (V78 HB g m k i u p (.slice (some ⟨g,0,none⟩) (m + 1) cp) (.slice tao tn tcp)) (fun _ _ W2=>Below Wa.heap.size Wa W2) (fun i=>[undef,undef,undef,undef,undef,undef,undef,undef,undef,undef,undef,undef,undef,undef,undef,undef,undef,undef,undef,undef,undef,undef,undef,undef,.bool false].getD i undef) (by kernel_rfl) rfl rfl ?hI ?hput ?step ?fin
  case hI=>rw [HWA.out]; exact Below.refl _ _
  case fin=>
    intro f W9 hP hV
    have v0:f 0 = .pointer (some ⟨HB,2,none⟩):=hV 0 (by decide)
    have v1:f 1 = .slice (some ⟨g,0,none⟩) (m + 1) cp:=hV 1 (by decide)
    have v2:f 2 = .int .i64 ((m:Int) + 1):=hV 2 (by decide)
    have v3:f 3 = .bool true:=hV 3 (by decide)
    have v4:f 4 = .bool true:=hV 4 (by decide)
    have v5:f 5 = .int .i64 (k:Nat):=hV 5 (by decide)
    have v6:f 6 = .bool true:=hV 6 (by decide)
    have v7:f 7 = .bool true:=hV 7 (by decide)
    have v8:f 8 = .bool true:=hV 8 (by decide)
    have v9:f 9 = .pointer (some ⟨HB,2,none⟩):=hV 9 (by decide)
    have v10:f 10 = .slice (some ⟨g,0,none⟩) (m + 1) cp:=hV 10 (by decide)
    have v11:f 11 = .pointer (some ⟨HB,2,none⟩):=hV 11 (by decide)
    have v12:f 12 = .slice (some ⟨g,0,none⟩) (m + 1) cp:=hV 12 (by decide)
    have v13:f 13 = .int .i64 ((m:Int) + 1):=hV 13 (by decide)
    have v14:f 14 = .int .i64 (m:Nat):=hV 14 (by decide)
    have v15:f 15 = .pointer (some ⟨g,m * 2,none⟩):=hV 15 (by decide)
    have v16:f 16 = .agg #[.int .i64 (i:Nat),.slice tao tn tcp]:=hV 16 (by decide)
    have v17:f 17 = .int .i64 (u:Nat):=hV 17 (by decide)
    have v18:f 18 = .int .i64 (k:Nat):=hV 18 (by decide)
    have v19:f 19 = .int .i64 ((u:Int) + (k:Int)):=hV 19 (by decide)
    have v20:f 20 = .pointer (some ⟨HB,1,none⟩):=hV 20 (by decide)
    have v21:f 21 = .int .i64 (p:Nat):=hV 21 (by decide)
    have v22:f 22 = .bool (decide ((u:Int) + (k:Int) < (p:Int))):=hV 22 (by decide)
    have v23:f 23 = .bool (decide ((u:Int) + (k:Int) < (p:Int))):=hV 23 (by decide)
    have v24:f 24 = .bool (decide ((u:Int) + (k:Int) < (p:Int))):=hV 24 (by decide)
    clear hV
    generalize f 0 = x0 at *
    subst v0
    generalize f 1 = x1 at *
    subst v1
    generalize f 2 = x2 at *
    subst v2
    generalize f 3 = x3 at *
    subst v3
    generalize f 4 = x4 at *
    subst v4
    generalize f 5 = x5 at *
    subst v5
    generalize f 6 = x6 at *
    subst v6
    generalize f 7 = x7 at *
    subst v7
    generalize f 8 = x8 at *
    subst v8
    generalize f 9 = x9 at *
    subst v9
    generalize f 10 = x10 at *
    subst v10
    generalize f 11 = x11 at *
    subst v11
    generalize f 12 = x12 at *
    subst v12
    generalize f 13 = x13 at *
    subst v13
    generalize f 14 = x14 at *
    subst v14
    generalize f 15 = x15 at *
    subst v15
    generalize f 16 = x16 at *
    subst v16
    generalize f 17 = x17 at *
    subst v17
    generalize f 18 = x18 at *
    subst v18
    generalize f 19 = x19 at *
    subst v19
    generalize f 20 = x20 at *
    subst v20
    generalize f 21 = x21 at *
    subst v21
    generalize f 22 = x22 at *
    subst v22
    generalize f 23 = x23 at *
    subst v23
    generalize f 24 = x24 at *
    subst v24
    have HP:Hid (Below Wa.heap.size Wa W9):=hP
    clear hP
    go_wp2
    go_returns
    have e:decide ((u:Int) + (k:Int) < (p:Int)) = decide (used ts + k < p):=by
      rw [← HU.out]
      by_cases c:u + k < p
      · rw [decide_eq_true c,decide_eq_true (by omega)]
      · rw [decide_eq_false c,decide_eq_false (by omega)]
    refine ⟨?_,HA.out.trans (HP.out.mono HA.out.size)⟩
    simp only [e]
    rfl
  case hput=>
    repeat (refine ⟨fun f v=>rfl,?_⟩)
    trivial
  case step=>
    refine ⟨?_,?_⟩
    · intro done f W hP hdn hd K hK
      clear hd
      go_simp
      exact hK _ _ rfl hP
    refine ⟨?_,?_⟩
    · intro done f W hP hdn hd K hK
      have d0:=(hd.1 rfl).2
      have e0:done 0 = true:=(hd.1 rfl).1
      clear hd
      replace d0:f 0 = .pointer (some ⟨HB,2,none⟩):=d0
      generalize f 0 = x0 at *
      subst d0
      clear e0
      have hb:=hP
      have q0:=HQ.out W hb
      obtain ⟨q1,q2,q3,q4⟩:=q0
      clear hb
      go_simp
      exact hK _ _ rfl hP
    refine ⟨?_,?_⟩
    · intro done f W hP hdn hd K hK
      have d1:=(hd.1 rfl).2
      have e1:done 1 = true:=(hd.1 rfl).1
      clear hd
      replace d1:f 1 = .slice (some ⟨g,0,none⟩) (m + 1) cp:=d1
      generalize f 1 = x1 at *
      subst d1
      clear e1
      go_simp
      exact hK _ _ rfl hP
    refine ⟨?_,?_⟩
    · intro done f W hP hdn hd K hK
      have d2:=(hd.1 rfl).2
      have e2:done 2 = true:=(hd.1 rfl).1
      clear hd
      replace d2:f 2 = .int .i64 ((m:Int) + 1):=d2
      generalize f 2 = x2 at *
      subst d2
      clear e2
      have hc:(0:Int) < (m:Int) + 1:=by omega
      go_simp
      exact hK _ _ rfl hP
    refine ⟨?_,?_⟩
    · intro done f W hP hdn hd K hK
      have d3:=(hd.1 rfl).2
      have e3:done 3 = true:=(hd.1 rfl).1
      clear hd
      replace d3:f 3 = .bool true:=d3
      generalize f 3 = x3 at *
      subst d3
      clear e3
      go_simp
      exact hK _ _ rfl hP
    refine ⟨?_,?_⟩
    · intro done f W hP hdn hd K hK
      have d4:=(hd.1 rfl).2
      have e4:done 4 = true:=(hd.1 rfl).1
      clear hd
      replace d4:f 4 = .bool true:=d4
      generalize f 4 = x4 at *
      subst d4
      clear e4
      go_simp
      exact hK _ _ rfl hP
    refine ⟨?_,?_⟩
    · intro done f W hP hdn hd K hK
      have d5:=(hd.1 rfl).2
      have e5:done 5 = true:=(hd.1 rfl).1
      have d4:=(hd.2.1 rfl).2
      have e4:done 4 = true:=(hd.2.1 rfl).1
      clear hd
      replace d5:f 5 = .int .i64 (k:Nat):=d5
      replace d4:f 4 = .bool true:=d4
      generalize f 5 = x5 at *
      subst d5
      clear e5
      generalize f 4 = x4 at *
      subst d4
      clear e4
      have hc:0 < k:=HB9.out.2.1
      go_simp
      exact hK _ _ rfl hP
    refine ⟨?_,?_⟩
    · intro done f W hP hdn hd K hK
      have d4:=(hd.1 rfl).2
      have e4:done 4 = true:=(hd.1 rfl).1
      have d6:=(hd.2.1 rfl).2
      have e6:done 6 = true:=(hd.2.1 rfl).1
      clear hd
      replace d4:f 4 = .bool true:=d4
      replace d6:f 6 = .bool true:=d6
      generalize f 4 = x4 at *
      subst d4
      clear e4
      generalize f 6 = x6 at *
      subst d6
      clear e6
      go_simp
      exact hK _ _ rfl hP
    refine ⟨?_,?_⟩
    · intro done f W hP hdn hd K hK
      have d7:=(hd.1 rfl).2
      have e7:done 7 = true:=(hd.1 rfl).1
      clear hd
      replace d7:f 7 = .bool true:=d7
      generalize f 7 = x7 at *
      subst d7
      clear e7
      go_simp
      exact hK _ _ rfl hP
    refine ⟨?_,?_⟩
    · intro done f W hP hdn hd K hK
      have d8:=(hd.1 rfl).2
      have e8:done 8 = true:=(hd.1 rfl).1
      clear hd
      replace d8:f 8 = .bool true:=d8
      generalize f 8 = x8 at *
      subst d8
      clear e8
      go_simp
      exact hK _ _ rfl hP
    refine ⟨?_,?_⟩
    · intro done f W hP hdn hd K hK
      have d9:=(hd.1 rfl).2
      have e9:done 9 = true:=(hd.1 rfl).1
      have d8:=(hd.2.1 rfl).2
      have e8:done 8 = true:=(hd.2.1 rfl).1
      clear hd
      replace d9:f 9 = .pointer (some ⟨HB,2,none⟩):=d9
      replace d8:f 8 = .bool true:=d8
      generalize f 9 = x9 at *
      subst d9
      clear e9
      generalize f 8 = x8 at *
      subst d8
      clear e8
      have hb:=hP
      have q0:=HQ.out W hb
      obtain ⟨q1,q2,q3,q4⟩:=q0
      clear hb
      go_simp
      exact hK _ _ rfl hP
    refine ⟨?_,?_⟩
    · intro done f W hP hdn hd K hK
      have d8:=(hd.1 rfl).2
      have e8:done 8 = true:=(hd.1 rfl).1
      clear hd
      replace d8:f 8 = .bool true:=d8
      generalize f 8 = x8 at *
      subst d8
      clear e8
      go_simp
      exact hK _ _ rfl hP
    refine ⟨?_,?_⟩
    · intro done f W hP hdn hd K hK
      have d11:=(hd.1 rfl).2
      have e11:done 11 = true:=(hd.1 rfl).1
      have d8:=(hd.2.1 rfl).2
      have e8:done 8 = true:=(hd.2.1 rfl).1
      clear hd
      replace d11:f 11 = .pointer (some ⟨HB,2,none⟩):=d11
      replace d8:f 8 = .bool true:=d8
      generalize f 11 = x11 at *
      subst d11
      clear e11
      generalize f 8 = x8 at *
      subst d8
      clear e8
      have hb:=hP
      have q0:=HQ.out W hb
      obtain ⟨q1,q2,q3,q4⟩:=q0
      clear hb
      go_simp
      exact hK _ _ rfl hP
    refine ⟨?_,?_⟩
    · intro done f W hP hdn hd K hK
      have d12:=(hd.1 rfl).2
      have e12:done 12 = true:=(hd.1 rfl).1
      have d8:=(hd.2.1 rfl).2
      have e8:done 8 = true:=(hd.2.1 rfl).1
      clear hd
      replace d12:f 12 = .slice (some ⟨g,0,none⟩) (m + 1) cp:=d12
      replace d8:f 8 = .bool true:=d8
      generalize f 12 = x12 at *
      subst d12
      clear e12
      generalize f 8 = x8 at *
      subst d8
      clear e8
      go_simp
      exact hK _ _ rfl hP
    refine ⟨?_,?_⟩
    · intro done f W hP hdn hd K hK
      have d13:=(hd.1 rfl).2
      have e13:done 13 = true:=(hd.1 rfl).1
      have d8:=(hd.2.1 rfl).2
      have e8:done 8 = true:=(hd.2.1 rfl).1
      clear hd
      replace d13:f 13 = .int .i64 ((m:Int) + 1):=d13
      replace d8:f 8 = .bool true:=d8
      generalize f 13 = x13 at *
      subst d13
      clear e13
      generalize f 8 = x8 at *
      subst d8
      clear e8
      have hwr:IntKind.i64.wrap ((m:Int) + 1 - 1) = (m:Int):=by
        have:=HB9.out
        rw [IntKind.wrap_i64]; omega
      have hwr2:IntKind.i64.wrap (m:Int) = (m:Int):=by
        have:=HB9.out
        rw [IntKind.wrap_i64]; omega
      go_simp
      exact hK _ _ rfl hP
    refine ⟨?_,?_⟩
    · intro done f W hP hdn hd K hK
      have d10:=(hd.1 rfl).2
      have e10:done 10 = true:=(hd.1 rfl).1
      have d14:=(hd.2.1 rfl).2
      have e14:done 14 = true:=(hd.2.1 rfl).1
      have d8:=(hd.2.2.1 rfl).2
      have e8:done 8 = true:=(hd.2.2.1 rfl).1
      clear hd
      replace d10:f 10 = .slice (some ⟨g,0,none⟩) (m + 1) cp:=d10
      replace d14:f 14 = .int .i64 (m:Nat):=d14
      replace d8:f 8 = .bool true:=d8
      generalize f 10 = x10 at *
      subst d10
      clear e10
      generalize f 14 = x14 at *
      subst d14
      clear e14
      generalize f 8 = x8 at *
      subst d8
      clear e8
      have hc:(0:Int) ≤ (m:Int):=by omega
      have hc2:(m:Int) < (m:Int) + 1:=by omega
      go_simp
      exact hK _ _ rfl hP
    refine ⟨?_,?_⟩
    · intro done f W hP hdn hd K hK
      have d15:=(hd.1 rfl).2
      have e15:done 15 = true:=(hd.1 rfl).1
      have d8:=(hd.2.1 rfl).2
      have e8:done 8 = true:=(hd.2.1 rfl).1
      clear hd
      replace d15:f 15 = .pointer (some ⟨g,m * 2,none⟩):=d15
      replace d8:f 8 = .bool true:=d8
      generalize f 15 = x15 at *
      subst d15
      clear e15
      generalize f 8 = x8 at *
      subst d8
      clear e8
      have hb:=hP
      have q0:=HQ.out W hb
      obtain ⟨q1,q2,q3,q4⟩:=q0
      clear hb
      go_simp
      exact hK _ _ rfl hP
    refine ⟨?_,?_⟩
    · intro done f W hP hdn hd K hK
      have d16:=(hd.1 rfl).2
      have e16:done 16 = true:=(hd.1 rfl).1
      have d8:=(hd.2.2.1 rfl).2
      have e8:done 8 = true:=(hd.2.2.1 rfl).1
      clear hd
      replace d16:f 16 = .agg #[.int .i64 (i:Nat),.slice tao tn tcp]:=d16
      replace d8:f 8 = .bool true:=d8
      generalize f 16 = x16 at *
      subst d16
      clear e16
      generalize f 8 = x8 at *
      subst d8
      clear e8
      have hcl:=HCL.out W hP
      go_simp
      refine Calls.mono hcl ?_
      rintro er W2 ⟨rfl,hb2⟩
      exact hK _ _ rfl (hP.trans (hb2.mono hP.size))
    refine ⟨?_,?_⟩
    · intro done f W hP hdn hd K hK
      have d8:=(hd.1 rfl).2
      have e8:done 8 = true:=(hd.1 rfl).1
      clear hd
      replace d8:f 8 = .bool true:=d8
      generalize f 8 = x8 at *
      subst d8
      clear e8
      go_simp
      exact hK _ _ rfl hP
    refine ⟨?_,?_⟩
    · intro done f W hP hdn hd K hK
      have d17:=(hd.1 rfl).2
      have e17:done 17 = true:=(hd.1 rfl).1
      have d18:=(hd.2.1 rfl).2
      have e18:done 18 = true:=(hd.2.1 rfl).1
      have d8:=(hd.2.2.1 rfl).2
      have e8:done 8 = true:=(hd.2.2.1 rfl).1
      clear hd
      replace d17:f 17 = .int .i64 (u:Nat):=d17
      replace d18:f 18 = .int .i64 (k:Nat):=d18
      replace d8:f 8 = .bool true:=d8
      generalize f 17 = x17 at *
      subst d17
      clear e17
      generalize f 18 = x18 at *
      subst d18
      clear e18
      generalize f 8 = x8 at *
      subst d8
      clear e8
      have hwr:IntKind.i64.wrap ((u:Int) + (k:Int)) = (u:Int) + (k:Int):=by
        have:=HB9.out
        rw [IntKind.wrap_i64]; omega
      go_simp
      exact hK _ _ rfl hP
    refine ⟨?_,?_⟩
    · intro done f W hP hdn hd K hK
      have d8:=(hd.1 rfl).2
      have e8:done 8 = true:=(hd.1 rfl).1
      clear hd
      replace d8:f 8 = .bool true:=d8
      generalize f 8 = x8 at *
      subst d8
      clear e8
      go_simp
      exact hK _ _ rfl hP
    refine ⟨?_,?_⟩
    · intro done f W hP hdn hd K hK
      have d20:=(hd.1 rfl).2
      have e20:done 20 = true:=(hd.1 rfl).1
      have d8:=(hd.2.1 rfl).2
      have e8:done 8 = true:=(hd.2.1 rfl).1
      clear hd
      replace d20:f 20 = .pointer (some ⟨HB,1,none⟩):=d20
      replace d8:f 8 = .bool true:=d8
      generalize f 20 = x20 at *
      subst d20
      clear e20
      generalize f 8 = x8 at *
      subst d8
      clear e8
      have hb:=hP
      have q0:=HQ.out W hb
      obtain ⟨q1,q2,q3,q4⟩:=q0
      clear hb
      go_simp
      exact hK _ _ rfl hP
    refine ⟨?_,?_⟩
    · intro done f W hP hdn hd K hK
      have d19:=(hd.1 rfl).2
      have e19:done 19 = true:=(hd.1 rfl).1
      have d21:=(hd.2.1 rfl).2
      have e21:done 21 = true:=(hd.2.1 rfl).1
      have d8:=(hd.2.2.1 rfl).2
      have e8:done 8 = true:=(hd.2.2.1 rfl).1
      clear hd
      replace d19:f 19 = .int .i64 ((u:Int) + (k:Int)):=d19
      replace d21:f 21 = .int .i64 (p:Nat):=d21
      replace d8:f 8 = .bool true:=d8
      generalize f 19 = x19 at *
      subst d19
      clear e19
      generalize f 21 = x21 at *
      subst d21
      clear e21
      generalize f 8 = x8 at *
      subst d8
      clear e8
      go_simp
      exact hK _ _ rfl hP
    refine ⟨?_,?_⟩
    · intro done f W hP hdn hd K hK
      have d8:=(hd.1 rfl).2
      have e8:done 8 = true:=(hd.1 rfl).1
      have d22:=(hd.2.1 rfl).2
      have e22:done 22 = true:=(hd.2.1 rfl).1
      clear hd
      replace d8:f 8 = .bool true:=d8
      replace d22:f 22 = .bool (decide ((u:Int) + (k:Int) < (p:Int))):=d22
      generalize f 8 = x8 at *
      subst d8
      clear e8
      generalize f 22 = x22 at *
      subst d22
      clear e22
      go_simp
      exact hK _ _ rfl hP
    refine ⟨?_,?_⟩
    · intro done f W hP hdn hd K hK
      have d23:=(hd.1 rfl).2
      have e23:done 23 = true:=(hd.1 rfl).1
      clear hd
      replace d23:f 23 = .bool (decide ((u:Int) + (k:Int) < (p:Int))):=d23
      generalize f 23 = x23 at *
      subst d23
      clear e23
      go_simp
      exact hK _ _ rfl hP
    trivial
end
end Go.Proofs.YtncfbocbigdhiaaGreat.U

/- The document's All, as a call. -/
namespace Go.Proofs.YtncfbocbigdhiaaGreat.U
open Go Go.RowKit Go.Sort
theorem own_tx0 {b n:Nat} {sv:Value} {xs:List ByteArray} {W W':World} (ho:W'.ownsRow b 9 1 sv n (xs.map .string)) (hn:n = xs.length) (hb:W.heap.size ≤ b):∃ ol',Nw W W' ol' ∧ TxO sv xs ol':=by
  subst hn
  rcases ho.2 with ⟨e,h0⟩ | ⟨g,cap,cur,h1,h2,h3,h4,h5,h6,h7⟩
  · exact ⟨[],(fun p hp=>by cases hp),Or.inl ⟨e,List.eq_nil_of_length_eq_zero h0,rfl⟩⟩
  · refine ⟨[(g,.cells cur 9)],fun p hp=>?_,Or.inr ⟨g,0,cap,cur,h1,rfl,h4,h5,by omega,?_⟩⟩
    · rw [List.mem_singleton.1 hp]
      exact ⟨h3,by show W.heap.size ≤ g; omega,Or.inr ⟨cur,rfl⟩⟩
    · rw [List.drop_zero,← h7,Nat.mul_one]
section
variable {v:Value} {X:List (Nat × List ByteArray)} {ol:List (Nat × Obj)} {W:World}
theorem flat_take (X:List (Nat × List ByteArray)) (t:Nat) (h:t < X.length):(X.take (t + 1)).flatMap Prod.snd = (X.take t).flatMap Prod.snd ++ X[t].2:=by
  rw [List.take_succ_eq_append_getElem h,List.flatMap_append,List.flatMap_singleton]
theorem flat_le (X:List (Nat × List ByteArray)) (t:Nat):((X.take t).flatMap Prod.snd).length ≤ (X.flatMap Prod.snd).length:=by
  conv=>rhs; rw [← List.take_append_drop t X,List.flatMap_append,List.length_append]
  omega
set_option maxHeartbeats 4000000 in
set_option maxRecDepth 100000 in
theorem rall36 (h:Rl v X ol) (ho:∀ p ∈ ol,W.heap[p.1]? = some p.2) (ns p:Nat) (hX:X.length ≤ 100) (ht:(X.flatMap Prod.snd).length ≤ 1000) :
    Calls Tryz.prog 36 #[.agg #[.int .i64 (ns:Nat),.int .i64 (p:Nat),v]] W fun e w'=>∃ v',e = .returned v' ∧ Below W.heap.size W w' ∧ ∃ ol',Nw W w' ol' ∧ TxO v' (X.flatMap Prod.snd) ol':=by
  obtain ⟨ao,cp,g,rfl,ha,hc⟩:=h.cells
  have HA:Hid _:=ha
  have HC:Hid (∀ m (h:m < X.length),∃ tv tl,W.cell? ⟨g,m * 2,none⟩ = some (nv X[m].1) ∧ W.cell? ⟨g,m * 2 + 1,none⟩ = some tv ∧ TxO tv X[m].2 tl ∧ ∀ p ∈ tl,p ∈ ol):=hc W ho
  have HO:Hid (∀ p ∈ ol,W.heap[p.1]? = some p.2):=ho
  have HT:Hid ((X.flatMap Prod.snd).length ≤ 1000):=ht
  obtain ⟨n,hn⟩:∃ n,n = X.length:=⟨_,rfl⟩
  have HN:Hid (n = X.length):=hn
  rw [← hn] at hX ⊢
  have hb1:Below W.heap.size W ((W.alloc (.cells #[.int .i64 (ns:Nat),.int .i64 (p:Nat),.slice ao n cp] 67)).alloc (.cells #[] 9)):=((Below.refl _ _).alloc (Nat.le_refl _) _).alloc (by simp) _
  have hown:((W.alloc (.cells #[.int .i64 (ns:Nat),.int .i64 (p:Nat),.slice ao n cp] 67)).alloc (.cells #[] 9)).ownsRow W.heap.size 9 1 (.slice (some ⟨W.heap.size + 1,0,none⟩) 0 0) 0 []:=by
    have h1:=F.heap_new (W.alloc (.cells #[.int .i64 (ns:Nat),.int .i64 (p:Nat),.slice ao n cp] 67)) (.cells #[] 9)
    have e:(W.alloc (.cells #[.int .i64 (ns:Nat),.int .i64 (p:Nat),.slice ao n cp] 67)).heap.size = W.heap.size + 1:=by simp
    rw [e] at h1
    exact ⟨rfl,Or.inr ⟨W.heap.size + 1,0,#[],rfl,by omega,h1,Nat.le_refl _,Nat.zero_le _,rfl,rfl⟩⟩
  have HI0:Hid (∃ ln sc so,.slice (some ⟨W.heap.size + 1,0,none⟩) 0 0 = Value.slice so ln sc ∧ ln = ((X.take 0).flatMap Prod.snd).length ∧ Below W.heap.size W ((W.alloc (.cells #[.int .i64 (ns:Nat),.int .i64 (p:Nat),.slice ao n cp] 67)).alloc (.cells #[] 9)) ∧ ((W.alloc (.cells #[.int .i64 (ns:Nat),.int .i64 (p:Nat),.slice ao n cp] 67)).alloc (.cells #[] 9)).ownsRow W.heap.size 9 1 (.slice (some ⟨W.heap.size + 1,0,none⟩) 0 0) ((X.take 0).flatMap Prod.snd).length (((X.take 0).flatMap Prod.snd).map .string)):=by
    rw [List.take_zero]
    exact ⟨_,_,_,rfl,rfl,hb1,hown⟩
  clear h ho ha hc hn ht hb1 hown
  go_enter Tryz.func36,Tryz.ntmps36
  go_wp2
  go_loopw [3,10] (fun ov iv wr=>∃ t:Nat,iv = .int .i64 (t:Nat) ∧ t ≤ n ∧ Hid (∃ ln sc so,ov = Value.slice so ln sc ∧ ln = ((X.take t).flatMap Prod.snd).length ∧ Below W.heap.size W wr ∧ wr.ownsRow W.heap.size 9 1 ov ((X.take t).flatMap Prod.snd).length (((X.take t).flatMap Prod.snd).map .string))) (fun _ iv _=>n - (intOf iv).toNat)
  case atStart=>exact ⟨0,rfl,Nat.zero_le _,HI0⟩
  case round=>
    obtain ⟨t,rfl,htn,HI⟩:=hrel
    clear HI0
    rcases Nat.lt_or_ge t n with hlt | hge
    · have hk:t < X.length:=by rw [← HN.out]; exact hlt
      obtain rfl:=HA.out (by omega)
      obtain ⟨tv,tl,a1,a2,a3,a4⟩:=HC.out t hk
      obtain ⟨x,hx⟩:∃ x,x = X[t].1:=⟨_,rfl⟩
      obtain ⟨ts,hts⟩:∃ ts,ts = X[t].2:=⟨_,rfl⟩
      rw [← hx] at a1
      rw [← hts] at a3
      unfold nv at a1
      obtain ⟨ln,sc,so,rfl,hln,hbw,how⟩:=HI.out
      obtain ⟨tao,tcp,tg,tof,rfl,htao,htc⟩:=a3.src
      have q1:wr.cell? ⟨g,t * 2,none⟩ = some (.int .i64 (x:Nat)):=(hbw.cell (World.block_lt_of_cell? W _ a1)).trans a1
      have q2:wr.cell? ⟨g,t * 2 + 1,none⟩ = some (.slice tao ts.length tcp):=(hbw.cell (World.block_lt_of_cell? W _ a2)).trans a2
      have hb2:Below W.heap.size W (wr.alloc (.cells #[.int .i64 (x:Nat),.slice tao ts.length tcp] 118)):=hbw.alloc hbw.size _
      have hft:=flat_take X t hk
      rw [← hts] at hft
      have hfl:=flat_le X (t + 1)
      have h1000:=HT.out
      have hlen2:((X.take (t + 1)).flatMap Prod.snd).length = ((X.take t).flatMap Prod.snd).length + ts.length:=by rw [hft,List.length_append]
      have how2:=how.alloc (.cells #[.int .i64 (x:Nat),.slice tao ts.length tcp] 118)
      rw [← hln] at how2 hlen2
      obtain ⟨s2,w2,hr2,ho2,hg2⟩:=run_tgapp 30 how2 tao ts.length tcp tg tof (ts.map .string) htao (by rw [List.length_map]) (htc _ (fun r hr=>(hb2.block _ (F.getElem?_lt (HO.out r (a4 r hr)))).trans (HO.out r (a4 r hr)))) (fun u hu=>by obtain ⟨y,_,rfl⟩:=List.mem_map.1 hu; rfl) (by omega) hb2.size
      have hb3:Below W.heap.size W w2:=hb2.grown hg2 hb2.size (fun k hk=>by
        rcases how2.2 with ⟨e,_⟩ | ⟨g,cap,cur,e,e2,_⟩
        · rw [e] at hk; cases hk
        · rw [e] at hk
          have h:g = k:=Option.some.inj hk
          omega)
      have HI2:Hid (∃ ln sc so,s2 = Value.slice so ln sc ∧ ln = ((X.take (t + 1)).flatMap Prod.snd).length ∧ Below W.heap.size W w2 ∧ w2.ownsRow W.heap.size 9 1 s2 ((X.take (t + 1)).flatMap Prod.snd).length (((X.take (t + 1)).flatMap Prod.snd).map .string)):=by
        rw [← List.map_append,← hft,← hlen2] at ho2
        obtain ⟨so2,sc2,e⟩:=own_len ho2
        exact ⟨_,sc2,so2,e,rfl,hb3,ho2⟩
      obtain ⟨so2,sc2,es2⟩:=own_len ho2
      subst es2
      have hkI:(t:Int) < (n:Int):=by omega
      obtain ⟨tn,htn2⟩:∃ tn,tn = ts.length:=⟨_,rfl⟩
      rw [← htn2] at q2 hr2 HI2
      clear a1 a2 a3 a4 hx hts hln hbw how HI htao htc hb2 hft hfl h1000 hlen2 how2 ho2 hg2 hb3 htn2
      go_wp2_with (first | refine gappS (v:=.slice so ln sc) (vx:=.slice tao tn tcp) rfl (.tmp 14) (.tmp 16) 30 rfl rfl rfl hr2 ?_ | fail)
      go_roundw
      case rel=>exact ⟨t + 1,by congr 1,by omega,HI2⟩
      case measure=>
        show n - ((t:Int) + 1).toNat < n - ((t:Nat):Int).toNat
        omega
    · have hkn:t = n:=by omega
      subst hkn
      have hkI:¬ (t:Int) < (t:Int):=by omega
      obtain ⟨ln,sc,so,rfl,hln,hbw,how⟩:=HI.out
      have HF:Hid (Below W.heap.size W wr ∧ ∃ ol',Nw W wr ol' ∧ TxO (.slice so ln sc) (X.flatMap Prod.snd) ol'):=by
        have e:X.take t = X:=by rw [HN.out,List.take_length]
        rw [e] at how
        exact ⟨hbw,own_tx0 how rfl (Nat.le_refl _)⟩
      clear hln hbw how HI
      go_wp2
      go_returns
      exact ⟨_,rfl,HF.out.1,HF.out.2⟩
end
end Go.Proofs.YtncfbocbigdhiaaGreat.U
