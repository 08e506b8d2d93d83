/- Texts of this seat, one behind the other. -/
import Derived.Test.YtncfbocbigdhiaaGreatQNE
import Derived.Lib.MinMax
/- does of Append, and of any act, as a call. -/
namespace Go.Proofs.YtncfbocbigdhiaaGreat.U
open Go Go.RowKit Go.Sort
section
variable {T:Nat} {w:World} {L:F.Loc} {q:Int} {N p ns M Lb:Nat} {base:List (Nat × Obj)} {b:Nat} {X:List (Nat × List ByteArray)} {c:Int} {W0:World} {v:Value} {ol:List (Nat × Obj)}
set_option maxHeartbeats 8000000 in
set_option maxRecDepth 100000 in
theorem does37_no (h:LgX T w L q N p ns M Lb base b X c W0) (hM:(M,F.med L.P 1 q) ∈ base) (hr:Rl v X ol) (ho:∀ r ∈ ol,r ∈ base) (hp:8 ≤ p ∧ p ≤ 64) (hns:ns ≤ 100) (hN:1 + ns * p ≤ N) (hN1:N ≤ 1000) (hb:b + 1 < 18446744073709551616) (hc:c ≤ 5000000) (ak:Int) (hak:ak ≠ 1 ∧ ak ≠ 2) (an:Int) (s:ByteArray) (af:Int) (d1 d2:Bool) (co:Option Addr) (cn cc:Nat) (k:Nat) (hk1:1 ≤ k) (hk9:k ≤ 9) (hmx:max (1:Int) (min an 9) = (k:Int)) (hroom:roomB X p k = false) :
    Calls Tryz.prog 37 #[.pointer (some ⟨Lb,0,none⟩),.agg #[.int .i64 (ns:Nat),.int .i64 (p:Nat),v],act ak an s af d1 d2 co cn cc] W0 fun e w'=>DoesP T w L q N p ns M Lb base ol W0.heap.size b X c e w':=by
  obtain ⟨xo,xn,xc,hv⟩:∃ xo xn xc,v = .slice xo xn xc:=by
    obtain ⟨ao,cp,g',zs,hv,_⟩:=hr.src
    exact ⟨_,_,_,hv⟩
  subst hv
  obtain ⟨B,hB⟩:∃ B,B = W0.heap.size:=⟨_,rfl⟩
  obtain ⟨W1,hW1⟩:∃ W1,W1 = (((W0.alloc (.cells #[.pointer (some ⟨Lb,0,none⟩)] 62)).alloc (.cells #[.int .i64 (ns:Nat),.int .i64 (p:Nat),.slice xo xn xc] 67)).alloc (actC ak an s af d1 d2 co cn cc)).alloc (.cells #[.int .i64 0,.int .i64 0,.slice none 0 0] 67):=⟨_,rfl⟩
  have h1:=(((h.hold (.cells #[.pointer (some ⟨Lb,0,none⟩)] 62) (F.apart_of (by decide)) (fun _ _=>cells_ne2 (by decide))).hold (.cells #[.int .i64 (ns:Nat),.int .i64 (p:Nat),.slice xo xn xc] 67) (F.apart_of (by decide)) (fun _ _=>cells_ne2 (by decide))).hold (actC ak an s af d1 d2 co cn cc) (F.apart_of (by decide)) (fun _ _=>cells_ne2 (by decide))).hold (.cells #[.int .i64 0,.int .i64 0,.slice none 0 0] 67) (F.apart_of (by decide)) (fun _ _=>cells_ne2 (by decide))
  have s1:(W0.alloc (.cells #[.pointer (some ⟨Lb,0,none⟩)] 62)).heap.size = B + 1:=by simp [hB]
  have s2:((W0.alloc (.cells #[.pointer (some ⟨Lb,0,none⟩)] 62)).alloc (.cells #[.int .i64 (ns:Nat),.int .i64 (p:Nat),.slice xo xn xc] 67)).heap.size = B + 1 + 1:=by simp [hB]
  have s3:(((W0.alloc (.cells #[.pointer (some ⟨Lb,0,none⟩)] 62)).alloc (.cells #[.int .i64 (ns:Nat),.int .i64 (p:Nat),.slice xo xn xc] 67)).alloc (actC ak an s af d1 d2 co cn cc)).heap.size = B + 1 + 1 + 1:=by simp [hB]
  rw [s1,s2,s3,← hB,← hW1] at h1
  have H1:Hid (LgX T w L q N p ns M Lb ((B + 1 + 1 + 1,Obj.cells #[.int .i64 0,.int .i64 0,.slice none 0 0] 67) :: (B + 1 + 1,actC ak an s af d1 d2 co cn cc) :: (B + 1,Obj.cells #[.int .i64 (ns:Nat),.int .i64 (p:Nat),.slice xo xn xc] 67) :: (B,Obj.cells #[.pointer (some ⟨Lb,0,none⟩)] 62) :: base) b X c W1):=h1
  have HLB:Hid (∀ r ∈ base,r.1 < B):=by rw [hB]; exact h.lt
  have qk:W1.cell? ⟨B + 1 + 1,0,none⟩ = some (.int .i64 ak):=F.cell_of (h1.at' (r:=(B + 1 + 1,actC ak an s af d1 d2 co cn cc)) (by simp)) 0
  have qa:W1.cell? ⟨B + 1 + 1,1,none⟩ = some (.int .i64 an):=F.cell_of (h1.at' (r:=(B + 1 + 1,actC ak an s af d1 d2 co cn cc)) (by simp)) 1
  have qs:W1.cell? ⟨B + 1 + 1,2,none⟩ = some (.string s):=F.cell_of (h1.at' (r:=(B + 1 + 1,actC ak an s af d1 d2 co cn cc)) (by simp)) 2
  have qx0:W1.cell? ⟨B + 1,0,none⟩ = some (.int .i64 (ns:Nat)):=F.cell_of (h1.at' (r:=(B + 1,Obj.cells #[.int .i64 (ns:Nat),.int .i64 (p:Nat),.slice xo xn xc] 67)) (by simp)) 0
  have qx1:W1.cell? ⟨B + 1,1,none⟩ = some (.int .i64 (p:Nat)):=F.cell_of (h1.at' (r:=(B + 1,Obj.cells #[.int .i64 (ns:Nat),.int .i64 (p:Nat),.slice xo xn xc] 67)) (by simp)) 1
  have qx2:W1.cell? ⟨B + 1,2,none⟩ = some (.slice xo xn xc):=F.cell_of (h1.at' (r:=(B + 1,Obj.cells #[.int .i64 (ns:Nat),.int .i64 (p:Nat),.slice xo xn xc] 67)) (by simp)) 2
  have HRL:Hid (Rl (.slice xo xn xc) X ol ∧ ∀ r ∈ ol,r ∈ base):=⟨hr,ho⟩
  have HMB:Hid ((M,F.med L.P 1 q) ∈ base):=hM
  have HH:Hid ((8 ≤ p ∧ p ≤ 64) ∧ ns ≤ 100 ∧ 1 + ns * p ≤ N ∧ N ≤ 1000 ∧ b + 1 < 18446744073709551616 ∧ c ≤ 5000000):=⟨hp,hns,hN,hN1,hb,hc⟩
  have hwo:∀ r ∈ ol,W1.heap[r.1]? = some r.2:=fun r hr=>h1.at' (by simp [ho r hr])
  have hXl:=h.len
  obtain ⟨W2,hW2⟩:∃ W2,W2 = W1.alloc (.cells #[.int .i64 (k:Nat)] 3):=⟨_,rfl⟩
  have hb4:W1.heap.size = B + 1 + 1 + 1 + 1:=by rw [hW1,World.alloc_size,s3]
  have h2:=h1.hold (.cells #[.int .i64 (k:Nat)] 3) (F.apart_of (by decide)) (fun _ _=>cells_ne2 (by decide))
  rw [hb4,← hW2] at h2
  have H2:Hid (LgX T w L q N p ns M Lb ((B + 1 + 1 + 1 + 1,Obj.cells #[.int .i64 (k:Nat)] 3) :: (B + 1 + 1 + 1,Obj.cells #[.int .i64 0,.int .i64 0,.slice none 0 0] 67) :: (B + 1 + 1,actC ak an s af d1 d2 co cn cc) :: (B + 1,Obj.cells #[.int .i64 (ns:Nat),.int .i64 (p:Nat),.slice xo xn xc] 67) :: (B,Obj.cells #[.pointer (some ⟨Lb,0,none⟩)] 62) :: base) b X c W2):=h2
  have hwo2:∀ r ∈ ol,W2.heap[r.1]? = some r.2:=fun r hr=>h2.at' (by simp [ho r hr])
  have huse:=h.uses
  have hcall:=rroom HRL.out.1 hwo2 ns p k (by omega) (by omega) (fun s hs=>by have:=(huse s hs).2.1; omega)
  rw [hroom] at hcall
  have q2x:=h2.at' (r:=(B + 1,Obj.cells #[.int .i64 (ns:Nat),.int .i64 (p:Nat),.slice xo xn xc] 67)) (by simp)
  have q2x0:W2.cell? ⟨B + 1,0,none⟩ = some (.int .i64 (ns:Nat)):=F.cell_of q2x 0
  have q2x1:W2.cell? ⟨B + 1,1,none⟩ = some (.int .i64 (p:Nat)):=F.cell_of q2x 1
  have q2x2:W2.cell? ⟨B + 1,2,none⟩ = some (.slice xo xn xc):=F.cell_of q2x 2
  have q2n0:W2.cell? ⟨B + 1 + 1 + 1 + 1,0,none⟩ = some (.int .i64 (k:Nat)):=F.cell_of (h2.at' (r:=(B + 1 + 1 + 1 + 1,Obj.cells #[.int .i64 (k:Nat)] 3)) (by simp)) 0
  have q2a:=h2.at' (r:=(B + 1 + 1,actC ak an s af d1 d2 co cn cc)) (by simp)
  have q2a0:W2.cell? ⟨B + 1 + 1,0,none⟩ = some (.int .i64 ak):=F.cell_of q2a 0
  have q2a1:W2.cell? ⟨B + 1 + 1,1,none⟩ = some (.int .i64 an):=F.cell_of q2a 1
  have q2a2:W2.cell? ⟨B + 1 + 1,2,none⟩ = some (.string s):=F.cell_of q2a 2
  have q2z:=h2.at' (r:=(B + 1 + 1 + 1,Obj.cells #[.int .i64 0,.int .i64 0,.slice none 0 0] 67)) (by simp)
  have q2r0:W2.cell? ⟨B + 1 + 1 + 1,0,none⟩ = some (.int .i64 0):=F.cell_of q2z 0
  have q2r1:W2.cell? ⟨B + 1 + 1 + 1,1,none⟩ = some (.int .i64 0):=F.cell_of q2z 1
  have q2r2:W2.cell? ⟨B + 1 + 1 + 1,2,none⟩ = some (.slice none 0 0):=F.cell_of q2z 2
  have q2y0:W2.frozen? ⟨B + 1 + 1 + 1,0,none⟩ = false:=F.frz_of q2z 0
  have q2y1:W2.frozen? ⟨B + 1 + 1 + 1,1,none⟩ = false:=F.frz_of q2z 1
  have q2y2:W2.frozen? ⟨B + 1 + 1 + 1,2,none⟩ = false:=F.frz_of q2z 2
  have hW2':=hW2.symm
  have hW1':=hW1.symm
  have hB':=hB.symm
  have ha1:¬ ak = 1:=hak.1
  have ha2:¬ ak = 2:=hak.2
  have ha1b:(ak == 1) = false:=by simp; exact ha1
  have ha2b:(ak == 2) = false:=by simp; exact ha2
  have HUS:Hid (∀ s ∈ X,1 ≤ used s.2 ∧ used s.2 ≤ p ∧ s.1 < ns):=huse
  have HXL:Hid (X.length ≤ 100):=by show X.length ≤ 100; omega
  have HK:Hid (1 ≤ k ∧ k ≤ 9):=⟨hk1,hk9⟩
  unfold actC at hW1'
  unfold act
  clear h hM hr ho hp hns hN hN1 hb hc hB hW1 h1 s1 s2 s3 hwo hwo2 h2 hW2 hXl huse hak q2x q2a q2z
  go_enter Tryz.func37,Tryz.ntmps37
  go_wp2_with fail
  go_call hcall as e w3 ⟨rfl,hb2⟩
  clear hcall q2x0 q2x1 q2x2 q2n0 q2a0 q2a1 q2a2 q2r0 q2r1 q2r2 q2y0 q2y1 q2y2 qk qa qs qx0 qx1 qx2 hb4
  have h3:=H2.out.below hb2
  have H3:Hid (LgX T w L q N p ns M Lb ((B + 1 + 1 + 1 + 1,Obj.cells #[.int .i64 (k:Nat)] 3) :: (B + 1 + 1 + 1,Obj.cells #[.int .i64 0,.int .i64 0,.slice none 0 0] 67) :: (B + 1 + 1,actC ak an s af d1 d2 co cn cc) :: (B + 1,Obj.cells #[.int .i64 (ns:Nat),.int .i64 (p:Nat),.slice xo xn xc] 67) :: (B,Obj.cells #[.pointer (some ⟨Lb,0,none⟩)] 62) :: base) b X c w3):=h3
  have q3x:=h3.at' (r:=(B + 1,Obj.cells #[.int .i64 (ns:Nat),.int .i64 (p:Nat),.slice xo xn xc] 67)) (by simp)
  have q3x0:w3.cell? ⟨B + 1,0,none⟩ = some (.int .i64 (ns:Nat)):=F.cell_of q3x 0
  have q3x1:w3.cell? ⟨B + 1,1,none⟩ = some (.int .i64 (p:Nat)):=F.cell_of q3x 1
  have q3x2:w3.cell? ⟨B + 1,2,none⟩ = some (.slice xo xn xc):=F.cell_of q3x 2
  have q3n0:w3.cell? ⟨B + 1 + 1 + 1 + 1,0,none⟩ = some (.int .i64 (k:Nat)):=F.cell_of (h3.at' (r:=(B + 1 + 1 + 1 + 1,Obj.cells #[.int .i64 (k:Nat)] 3)) (by simp)) 0
  have q3a:=h3.at' (r:=(B + 1 + 1,actC ak an s af d1 d2 co cn cc)) (by simp)
  have q3a0:w3.cell? ⟨B + 1 + 1,0,none⟩ = some (.int .i64 ak):=F.cell_of q3a 0
  have q3a1:w3.cell? ⟨B + 1 + 1,1,none⟩ = some (.int .i64 an):=F.cell_of q3a 1
  have q3a2:w3.cell? ⟨B + 1 + 1,2,none⟩ = some (.string s):=F.cell_of q3a 2
  have q3z:=h3.at' (r:=(B + 1 + 1 + 1,Obj.cells #[.int .i64 0,.int .i64 0,.slice none 0 0] 67)) (by simp)
  have q3r0:w3.cell? ⟨B + 1 + 1 + 1,0,none⟩ = some (.int .i64 0):=F.cell_of q3z 0
  have q3r1:w3.cell? ⟨B + 1 + 1 + 1,1,none⟩ = some (.int .i64 0):=F.cell_of q3z 1
  have q3r2:w3.cell? ⟨B + 1 + 1 + 1,2,none⟩ = some (.slice none 0 0):=F.cell_of q3z 2
  have q3y0:w3.frozen? ⟨B + 1 + 1 + 1,0,none⟩ = false:=F.frz_of q3z 0
  have q3y1:w3.frozen? ⟨B + 1 + 1 + 1,1,none⟩ = false:=F.frz_of q3z 1
  have q3y2:w3.frozen? ⟨B + 1 + 1 + 1,2,none⟩ = false:=F.frz_of q3z 2
  have hfin:=does_fin (bs:=([]:List (Nat × Obj)) ++ base) (B3:=B + 1 + 1 + 1) h3 (by simp) (List.mem_append_right _ HMB.out) (fun r hr=>⟨by simp at hr; simp [hr],by simp at hr; have:=HLB.out r hr; omega⟩) (.int .i64 (ns:Nat)) (.int .i64 (p:Nat)) (.slice xo xn xc)
  have HF:Hid (_ ∧ _):=hfin
  clear h3 hb2 hfin q3x q3a q3z
  go_wp2_with fail
  refine bodyPost_ret (lret2 Tryz.results37 _ _ (B + 1 + 1 + 1) _ _ rfl rfl HF.out.1 rfl) rfl ⟨xo,xn,xc,X,[],79,_,rfl,HF.out.2,HRL.out.1.mono (fun r hr=>by simp [hr]),(fun r hr=>by cases hr),ent79,fun base2 W9 hs2 h9=>?_⟩
  refine (clos79 W9).mono ?_
  rintro e w' ⟨rfl,rfl⟩
  exact ⟨rfl,(h9.more (by omega)).moreB (by omega)⟩
set_option maxHeartbeats 8000000 in
set_option maxRecDepth 100000 in
theorem does37_yes (h:LgX T w L q N p ns M Lb base b X c W0) (hM:(M,F.med L.P 1 q) ∈ base) (hr:Rl v X ol) (ho:∀ r ∈ ol,r ∈ base) (hp:8 ≤ p ∧ p ≤ 64) (hns:ns ≤ 100) (hN:1 + ns * p ≤ N) (hN1:N ≤ 1000) (hb:b + 1 < 18446744073709551616) (hc:c ≤ 5000000) (ak:Int) (hak:ak ≠ 1 ∧ ak ≠ 2) (an:Int) (s:ByteArray) (af:Int) (d1 d2:Bool) (co:Option Addr) (cn cc:Nat) (k:Nat) (hk1:1 ≤ k) (hk9:k ≤ 9) (hmx:max (1:Int) (min an 9) = (k:Int)) (hroom:roomB X p k = true) :
    Calls Tryz.prog 37 #[.pointer (some ⟨Lb,0,none⟩),.agg #[.int .i64 (ns:Nat),.int .i64 (p:Nat),v],act ak an s af d1 d2 co cn cc] W0 fun e w'=>DoesP T w L q N p ns M Lb base ol W0.heap.size b X c e w':=by
  obtain ⟨xo,xn,xc,hv⟩:∃ xo xn xc,v = .slice xo xn xc:=by
    obtain ⟨ao,cp,g',zs,hv,_⟩:=hr.src
    exact ⟨_,_,_,hv⟩
  subst hv
  obtain ⟨B,hB⟩:∃ B,B = W0.heap.size:=⟨_,rfl⟩
  obtain ⟨W1,hW1⟩:∃ W1,W1 = (((W0.alloc (.cells #[.pointer (some ⟨Lb,0,none⟩)] 62)).alloc (.cells #[.int .i64 (ns:Nat),.int .i64 (p:Nat),.slice xo xn xc] 67)).alloc (actC ak an s af d1 d2 co cn cc)).alloc (.cells #[.int .i64 0,.int .i64 0,.slice none 0 0] 67):=⟨_,rfl⟩
  have h1:=(((h.hold (.cells #[.pointer (some ⟨Lb,0,none⟩)] 62) (F.apart_of (by decide)) (fun _ _=>cells_ne2 (by decide))).hold (.cells #[.int .i64 (ns:Nat),.int .i64 (p:Nat),.slice xo xn xc] 67) (F.apart_of (by decide)) (fun _ _=>cells_ne2 (by decide))).hold (actC ak an s af d1 d2 co cn cc) (F.apart_of (by decide)) (fun _ _=>cells_ne2 (by decide))).hold (.cells #[.int .i64 0,.int .i64 0,.slice none 0 0] 67) (F.apart_of (by decide)) (fun _ _=>cells_ne2 (by decide))
  have s1:(W0.alloc (.cells #[.pointer (some ⟨Lb,0,none⟩)] 62)).heap.size = B + 1:=by simp [hB]
  have s2:((W0.alloc (.cells #[.pointer (some ⟨Lb,0,none⟩)] 62)).alloc (.cells #[.int .i64 (ns:Nat),.int .i64 (p:Nat),.slice xo xn xc] 67)).heap.size = B + 1 + 1:=by simp [hB]
  have s3:(((W0.alloc (.cells #[.pointer (some ⟨Lb,0,none⟩)] 62)).alloc (.cells #[.int .i64 (ns:Nat),.int .i64 (p:Nat),.slice xo xn xc] 67)).alloc (actC ak an s af d1 d2 co cn cc)).heap.size = B + 1 + 1 + 1:=by simp [hB]
  rw [s1,s2,s3,← hB,← hW1] at h1
  have H1:Hid (LgX T w L q N p ns M Lb ((B + 1 + 1 + 1,Obj.cells #[.int .i64 0,.int .i64 0,.slice none 0 0] 67) :: (B + 1 + 1,actC ak an s af d1 d2 co cn cc) :: (B + 1,Obj.cells #[.int .i64 (ns:Nat),.int .i64 (p:Nat),.slice xo xn xc] 67) :: (B,Obj.cells #[.pointer (some ⟨Lb,0,none⟩)] 62) :: base) b X c W1):=h1
  have HLB:Hid (∀ r ∈ base,r.1 < B):=by rw [hB]; exact h.lt
  have qk:W1.cell? ⟨B + 1 + 1,0,none⟩ = some (.int .i64 ak):=F.cell_of (h1.at' (r:=(B + 1 + 1,actC ak an s af d1 d2 co cn cc)) (by simp)) 0
  have qa:W1.cell? ⟨B + 1 + 1,1,none⟩ = some (.int .i64 an):=F.cell_of (h1.at' (r:=(B + 1 + 1,actC ak an s af d1 d2 co cn cc)) (by simp)) 1
  have qs:W1.cell? ⟨B + 1 + 1,2,none⟩ = some (.string s):=F.cell_of (h1.at' (r:=(B + 1 + 1,actC ak an s af d1 d2 co cn cc)) (by simp)) 2
  have qx0:W1.cell? ⟨B + 1,0,none⟩ = some (.int .i64 (ns:Nat)):=F.cell_of (h1.at' (r:=(B + 1,Obj.cells #[.int .i64 (ns:Nat),.int .i64 (p:Nat),.slice xo xn xc] 67)) (by simp)) 0
  have qx1:W1.cell? ⟨B + 1,1,none⟩ = some (.int .i64 (p:Nat)):=F.cell_of (h1.at' (r:=(B + 1,Obj.cells #[.int .i64 (ns:Nat),.int .i64 (p:Nat),.slice xo xn xc] 67)) (by simp)) 1
  have qx2:W1.cell? ⟨B + 1,2,none⟩ = some (.slice xo xn xc):=F.cell_of (h1.at' (r:=(B + 1,Obj.cells #[.int .i64 (ns:Nat),.int .i64 (p:Nat),.slice xo xn xc] 67)) (by simp)) 2
  have HRL:Hid (Rl (.slice xo xn xc) X ol ∧ ∀ r ∈ ol,r ∈ base):=⟨hr,ho⟩
  have HMB:Hid ((M,F.med L.P 1 q) ∈ base):=hM
  have HH:Hid ((8 ≤ p ∧ p ≤ 64) ∧ ns ≤ 100 ∧ 1 + ns * p ≤ N ∧ N ≤ 1000 ∧ b + 1 < 18446744073709551616 ∧ c ≤ 5000000):=⟨hp,hns,hN,hN1,hb,hc⟩
  have hwo:∀ r ∈ ol,W1.heap[r.1]? = some r.2:=fun r hr=>h1.at' (by simp [ho r hr])
  have hXl:=h.len
  obtain ⟨Y,i,ts,hXY⟩:∃ Y i ts,X = Y ++ [(i,ts)]:=by
    rcases snoc_cases X with e | e
    · rw [e] at hroom; cases hroom
    · exact e
  have hrt:used ts + k < p:=by
    rw [hXY,roomB_snoc] at hroom
    exact (of_decide_eq_true hroom).2
  have HXY:Hid (X = Y ++ [(i,ts)] ∧ used ts + k < p):=⟨hXY,hrt⟩
  clear hXY hrt
  obtain ⟨W2,hW2⟩:∃ W2,W2 = W1.alloc (.cells #[.int .i64 (k:Nat)] 3):=⟨_,rfl⟩
  have hb4:W1.heap.size = B + 1 + 1 + 1 + 1:=by rw [hW1,World.alloc_size,s3]
  have h2:=h1.hold (.cells #[.int .i64 (k:Nat)] 3) (F.apart_of (by decide)) (fun _ _=>cells_ne2 (by decide))
  rw [hb4,← hW2] at h2
  have H2:Hid (LgX T w L q N p ns M Lb ((B + 1 + 1 + 1 + 1,Obj.cells #[.int .i64 (k:Nat)] 3) :: (B + 1 + 1 + 1,Obj.cells #[.int .i64 0,.int .i64 0,.slice none 0 0] 67) :: (B + 1 + 1,actC ak an s af d1 d2 co cn cc) :: (B + 1,Obj.cells #[.int .i64 (ns:Nat),.int .i64 (p:Nat),.slice xo xn xc] 67) :: (B,Obj.cells #[.pointer (some ⟨Lb,0,none⟩)] 62) :: base) b X c W2):=h2
  have hwo2:∀ r ∈ ol,W2.heap[r.1]? = some r.2:=fun r hr=>h2.at' (by simp [ho r hr])
  have huse:=h.uses
  have hcall:=rroom HRL.out.1 hwo2 ns p k (by omega) (by omega) (fun s hs=>by have:=(huse s hs).2.1; omega)
  rw [hroom] at hcall
  have q2x:=h2.at' (r:=(B + 1,Obj.cells #[.int .i64 (ns:Nat),.int .i64 (p:Nat),.slice xo xn xc] 67)) (by simp)
  have q2x0:W2.cell? ⟨B + 1,0,none⟩ = some (.int .i64 (ns:Nat)):=F.cell_of q2x 0
  have q2x1:W2.cell? ⟨B + 1,1,none⟩ = some (.int .i64 (p:Nat)):=F.cell_of q2x 1
  have q2x2:W2.cell? ⟨B + 1,2,none⟩ = some (.slice xo xn xc):=F.cell_of q2x 2
  have q2n0:W2.cell? ⟨B + 1 + 1 + 1 + 1,0,none⟩ = some (.int .i64 (k:Nat)):=F.cell_of (h2.at' (r:=(B + 1 + 1 + 1 + 1,Obj.cells #[.int .i64 (k:Nat)] 3)) (by simp)) 0
  have q2a:=h2.at' (r:=(B + 1 + 1,actC ak an s af d1 d2 co cn cc)) (by simp)
  have q2a0:W2.cell? ⟨B + 1 + 1,0,none⟩ = some (.int .i64 ak):=F.cell_of q2a 0
  have q2a1:W2.cell? ⟨B + 1 + 1,1,none⟩ = some (.int .i64 an):=F.cell_of q2a 1
  have q2a2:W2.cell? ⟨B + 1 + 1,2,none⟩ = some (.string s):=F.cell_of q2a 2
  have q2z:=h2.at' (r:=(B + 1 + 1 + 1,Obj.cells #[.int .i64 0,.int .i64 0,.slice none 0 0] 67)) (by simp)
  have q2r0:W2.cell? ⟨B + 1 + 1 + 1,0,none⟩ = some (.int .i64 0):=F.cell_of q2z 0
  have q2r1:W2.cell? ⟨B + 1 + 1 + 1,1,none⟩ = some (.int .i64 0):=F.cell_of q2z 1
  have q2r2:W2.cell? ⟨B + 1 + 1 + 1,2,none⟩ = some (.slice none 0 0):=F.cell_of q2z 2
  have q2y0:W2.frozen? ⟨B + 1 + 1 + 1,0,none⟩ = false:=F.frz_of q2z 0
  have q2y1:W2.frozen? ⟨B + 1 + 1 + 1,1,none⟩ = false:=F.frz_of q2z 1
  have q2y2:W2.frozen? ⟨B + 1 + 1 + 1,2,none⟩ = false:=F.frz_of q2z 2
  have hW2':=hW2.symm
  have hW1':=hW1.symm
  have hB':=hB.symm
  have ha1:¬ ak = 1:=hak.1
  have ha2:¬ ak = 2:=hak.2
  have ha1b:(ak == 1) = false:=by simp; exact ha1
  have ha2b:(ak == 2) = false:=by simp; exact ha2
  have HUS:Hid (∀ s ∈ X,1 ≤ used s.2 ∧ used s.2 ≤ p ∧ s.1 < ns):=huse
  have HXL:Hid (X.length ≤ 100):=by show X.length ≤ 100; omega
  have HK:Hid (1 ≤ k ∧ k ≤ 9):=⟨hk1,hk9⟩
  unfold actC at hW1'
  unfold act
  clear h hM hr ho hp hns hN hN1 hb hc hB hW1 h1 s1 s2 s3 hwo hwo2 h2 hW2 hXl huse hak q2x q2a q2z
  go_enter Tryz.func37,Tryz.ntmps37
  go_wp2_with fail
  go_call hcall as e w3 ⟨rfl,hb2⟩
  clear hcall q2x0 q2x1 q2x2 q2n0 q2a0 q2a1 q2a2 q2r0 q2r1 q2r2 q2y0 q2y1 q2y2 qk qa qs qx0 qx1 qx2 hb4
  have h3:=H2.out.below hb2
  have H3:Hid (LgX T w L q N p ns M Lb ((B + 1 + 1 + 1 + 1,Obj.cells #[.int .i64 (k:Nat)] 3) :: (B + 1 + 1 + 1,Obj.cells #[.int .i64 0,.int .i64 0,.slice none 0 0] 67) :: (B + 1 + 1,actC ak an s af d1 d2 co cn cc) :: (B + 1,Obj.cells #[.int .i64 (ns:Nat),.int .i64 (p:Nat),.slice xo xn xc] 67) :: (B,Obj.cells #[.pointer (some ⟨Lb,0,none⟩)] 62) :: base) b X c w3):=h3
  have q3x:=h3.at' (r:=(B + 1,Obj.cells #[.int .i64 (ns:Nat),.int .i64 (p:Nat),.slice xo xn xc] 67)) (by simp)
  have q3x0:w3.cell? ⟨B + 1,0,none⟩ = some (.int .i64 (ns:Nat)):=F.cell_of q3x 0
  have q3x1:w3.cell? ⟨B + 1,1,none⟩ = some (.int .i64 (p:Nat)):=F.cell_of q3x 1
  have q3x2:w3.cell? ⟨B + 1,2,none⟩ = some (.slice xo xn xc):=F.cell_of q3x 2
  have q3n0:w3.cell? ⟨B + 1 + 1 + 1 + 1,0,none⟩ = some (.int .i64 (k:Nat)):=F.cell_of (h3.at' (r:=(B + 1 + 1 + 1 + 1,Obj.cells #[.int .i64 (k:Nat)] 3)) (by simp)) 0
  have q3a:=h3.at' (r:=(B + 1 + 1,actC ak an s af d1 d2 co cn cc)) (by simp)
  have q3a0:w3.cell? ⟨B + 1 + 1,0,none⟩ = some (.int .i64 ak):=F.cell_of q3a 0
  have q3a1:w3.cell? ⟨B + 1 + 1,1,none⟩ = some (.int .i64 an):=F.cell_of q3a 1
  have q3a2:w3.cell? ⟨B + 1 + 1,2,none⟩ = some (.string s):=F.cell_of q3a 2
  have q3z:=h3.at' (r:=(B + 1 + 1 + 1,Obj.cells #[.int .i64 0,.int .i64 0,.slice none 0 0] 67)) (by simp)
  have q3r0:w3.cell? ⟨B + 1 + 1 + 1,0,none⟩ = some (.int .i64 0):=F.cell_of q3z 0
  have q3r1:w3.cell? ⟨B + 1 + 1 + 1,1,none⟩ = some (.int .i64 0):=F.cell_of q3z 1
  have q3r2:w3.cell? ⟨B + 1 + 1 + 1,2,none⟩ = some (.slice none 0 0):=F.cell_of q3z 2
  have q3y0:w3.frozen? ⟨B + 1 + 1 + 1,0,none⟩ = false:=F.frz_of q3z 0
  have q3y1:w3.frozen? ⟨B + 1 + 1 + 1,1,none⟩ = false:=F.frz_of q3z 1
  have q3y2:w3.frozen? ⟨B + 1 + 1 + 1,2,none⟩ = false:=F.frz_of q3z 2
  have hpay:=pay44 s k HK.out.1 (by have:=HK.out.2; omega) w3
  obtain ⟨x,hx⟩:∃ x,x = payN s k:=⟨_,rfl⟩
  have HX:Hid (x.size = 63 * k):=by rw [hx]; exact payN_size s k
  rw [← hx] at hpay
  clear h3 hb2 q3x q3a q3z hx
  go_wp2_with fail
  go_call hpay as e w4 ⟨rfl,hb4⟩
  clear hpay q3x0 q3x1 q3x2 q3n0 q3a0 q3a1 q3a2 q3r0 q3r1 q3r2 q3y0 q3y1 q3y2
  obtain ⟨tB,htB⟩:∃ tB,tB = w4.heap.size:=⟨_,rfl⟩
  obtain ⟨W5,hW5⟩:∃ W5,W5 = w4.alloc (.cells #[.string x] 9):=⟨_,rfl⟩
  have h5:=(H3.out.below hb4).hold (.cells #[.string x] 9) (F.apart_of (by decide)) (fun _ _=>cells_ne2 (by decide))
  rw [← htB,← hW5] at h5
  have htB5:B + 5 ≤ tB:=by rw [htB]; exact F.getElem?_lt ((H3.out.below hb4).at' (r:=(B + 1 + 1 + 1 + 1,Obj.cells #[.int .i64 (k:Nat)] 3)) (by simp))
  have H5:Hid (LgX T w L q N p ns M Lb ((tB,Obj.cells #[.string x] 9) :: (B + 1 + 1 + 1 + 1,Obj.cells #[.int .i64 (k:Nat)] 3) :: (B + 1 + 1 + 1,Obj.cells #[.int .i64 0,.int .i64 0,.slice none 0 0] 67) :: (B + 1 + 1,actC ak an s af d1 d2 co cn cc) :: (B + 1,Obj.cells #[.int .i64 (ns:Nat),.int .i64 (p:Nat),.slice xo xn xc] 67) :: (B,Obj.cells #[.pointer (some ⟨Lb,0,none⟩)] 62) :: base) b X c W5):=h5
  have q5x:=h5.at' (r:=(B + 1,Obj.cells #[.int .i64 (ns:Nat),.int .i64 (p:Nat),.slice xo xn xc] 67)) (by simp)
  have q5x0:W5.cell? ⟨B + 1,0,none⟩ = some (.int .i64 (ns:Nat)):=F.cell_of q5x 0
  have q5x1:W5.cell? ⟨B + 1,1,none⟩ = some (.int .i64 (p:Nat)):=F.cell_of q5x 1
  have q5x2:W5.cell? ⟨B + 1,2,none⟩ = some (.slice xo xn xc):=F.cell_of q5x 2
  have q5n0:W5.cell? ⟨B + 1 + 1 + 1 + 1,0,none⟩ = some (.int .i64 (k:Nat)):=F.cell_of (h5.at' (r:=(B + 1 + 1 + 1 + 1,Obj.cells #[.int .i64 (k:Nat)] 3)) (by simp)) 0
  have q5a:=h5.at' (r:=(B + 1 + 1,actC ak an s af d1 d2 co cn cc)) (by simp)
  have q5a0:W5.cell? ⟨B + 1 + 1,0,none⟩ = some (.int .i64 ak):=F.cell_of q5a 0
  have q5a1:W5.cell? ⟨B + 1 + 1,1,none⟩ = some (.int .i64 an):=F.cell_of q5a 1
  have q5a2:W5.cell? ⟨B + 1 + 1,2,none⟩ = some (.string s):=F.cell_of q5a 2
  have q5z:=h5.at' (r:=(B + 1 + 1 + 1,Obj.cells #[.int .i64 0,.int .i64 0,.slice none 0 0] 67)) (by simp)
  have q5r0:W5.cell? ⟨B + 1 + 1 + 1,0,none⟩ = some (.int .i64 0):=F.cell_of q5z 0
  have q5r1:W5.cell? ⟨B + 1 + 1 + 1,1,none⟩ = some (.int .i64 0):=F.cell_of q5z 1
  have q5r2:W5.cell? ⟨B + 1 + 1 + 1,2,none⟩ = some (.slice none 0 0):=F.cell_of q5z 2
  have q5y0:W5.frozen? ⟨B + 1 + 1 + 1,0,none⟩ = false:=F.frz_of q5z 0
  have q5y1:W5.frozen? ⟨B + 1 + 1 + 1,1,none⟩ = false:=F.frz_of q5z 1
  have q5y2:W5.frozen? ⟨B + 1 + 1 + 1,2,none⟩ = false:=F.frz_of q5z 2
  have q5t:W5.cell? ⟨tB,0,none⟩ = some (.string x):=F.cell_of (h5.at' (r:=(tB,Obj.cells #[.string x] 9)) (by simp)) 0
  have hcall:Calls Tryz.prog 80 #[.agg #[.int .i64 (ns:Nat),.int .i64 (p:Nat),.slice xo xn xc],.string x] W5 fun e w'=>∃ v',e = .returned (.agg #[.int .i64 (ns:Nat),.int .i64 (p:Nat),v']) ∧ Below W5.heap.size W5 w' ∧ ∃ ol',Nw W5 w' ol' ∧ Rl v' (Y ++ [(i,ts ++ [x])]) (ol' ++ ol):=by
    have hr:=HRL.out.1
    rw [HXY.out.1] at hr
    have hxl:=HXL.out
    rw [HXY.out.1,List.length_append] at hxl
    refine rappend80 hr (fun r hr=>h5.at' (by simp [HRL.out.2 r hr])) ns p x (by omega) ?_
    have hle:∀ l:List ByteArray,l.length ≤ used l:=by
      intro l
      induction l with
      | nil=>exact Nat.zero_le _
      | cons a r ih=>unfold used at ih ⊢; simp only [List.map_cons,List.sum_cons,List.length_cons]; omega
    have:=hle ts
    have:=HXY.out.2
    have:=HH.out.1.2
    omega
  have htB':=htB.symm
  have hW5':=hW5.symm
  clear h5 hb4 q5x q5a q5z htB hW5
  go_wp2_with fail
  go_call hcall as e w6 ⟨v',rfl,hb6,ol',hn6,hr6⟩
  obtain ⟨ao,n,cp,hv6⟩:∃ ao n cp,v' = .slice ao n cp:=by
    obtain ⟨ao,cp,g',zs,hv,_⟩:=hr6.src
    exact ⟨_,_,_,hv⟩
  subst hv6
  have H6:Hid (LgX T w L q N p ns M Lb (ol' ++ ((tB,Obj.cells #[.string x] 9) :: (B + 1 + 1 + 1 + 1,Obj.cells #[.int .i64 (k:Nat)] 3) :: (B + 1 + 1 + 1,Obj.cells #[.int .i64 0,.int .i64 0,.slice none 0 0] 67) :: (B + 1 + 1,actC ak an s af d1 d2 co cn cc) :: (B + 1,Obj.cells #[.int .i64 (ns:Nat),.int .i64 (p:Nat),.slice xo xn xc] 67) :: (B,Obj.cells #[.pointer (some ⟨Lb,0,none⟩)] 62) :: base)) b X c w6):=H5.out.adoptN hb6 hn6
  have HR6:Hid (Rl (.slice ao n cp) (Y ++ [(i,ts ++ [x])]) (ol' ++ ol)):=hr6
  have HOL:Hid (∀ r ∈ ol',B + 4 ≤ r.1):=fun r hr=>Nat.le_trans (F.getElem?_lt (H5.out.at' (r:=(B + 1 + 1 + 1,Obj.cells #[.int .i64 0,.int .i64 0,.slice none 0 0] 67)) (by simp))) (hn6 r hr).2.1
  clear hcall hb6 hn6 hr6 q5x0 q5x1 q5x2 q5n0 q5a0 q5a1 q5a2 q5r0 q5r1 q5r2 q5y0 q5y1 q5y2 q5t
  obtain ⟨yB,hyB⟩:∃ yB,yB = w6.heap.size:=⟨_,rfl⟩
  obtain ⟨W7,hW7⟩:∃ W7,W7 = w6.alloc (.cells #[.int .i64 (ns:Nat),.int .i64 (p:Nat),.slice ao n cp] 67):=⟨_,rfl⟩
  have h7:=H6.out.hold (.cells #[.int .i64 (ns:Nat),.int .i64 (p:Nat),.slice ao n cp] 67) (F.apart_of (by decide)) (fun _ _=>cells_ne2 (by decide))
  rw [← hyB,← hW7] at h7
  obtain ⟨need,hneed⟩:∃ need,need = (tB,Obj.cells #[.string x] 9) :: (B,Obj.cells #[.pointer (some ⟨Lb,0,none⟩)] 62) :: (B + 1,Obj.cells #[.int .i64 (ns:Nat),.int .i64 (p:Nat),.slice xo xn xc] 67) :: (B + 1 + 1 + 1 + 1,Obj.cells #[.int .i64 (k:Nat)] 3) :: ol':=⟨_,rfl⟩
  have hfin:=does_fin (bs:=need ++ base) (B3:=B + 1 + 1 + 1) h7 (by simp) (List.mem_append_right _ HMB.out) (fun r hr=>by
    rw [hneed] at hr
    simp only [List.cons_append,List.mem_cons,List.mem_append] at hr
    rcases hr with rfl | rfl | rfl | rfl | hr | hr
    · exact ⟨by simp,by show tB ≠ _; omega⟩
    · exact ⟨by simp,by show B ≠ _; omega⟩
    · exact ⟨by simp,by show B + 1 ≠ _; omega⟩
    · exact ⟨by simp,by show B + 1 + 1 + 1 + 1 ≠ _; omega⟩
    · exact ⟨by simp [hr],by have:=HOL.out r hr; omega⟩
    · exact ⟨by simp [hr],by have:=HLB.out r hr; omega⟩) (.int .i64 (ns:Nat)) (.int .i64 (p:Nat)) (.slice ao n cp)
  have HF:Hid (_ ∧ _):=hfin
  have q7z:=h7.at' (r:=(B + 1 + 1 + 1,Obj.cells #[.int .i64 0,.int .i64 0,.slice none 0 0] 67)) (by simp)
  have q7y:=h7.at' (r:=(yB,Obj.cells #[.int .i64 (ns:Nat),.int .i64 (p:Nat),.slice ao n cp] 67)) (by simp)
  have qy0:W7.cell? ⟨yB,0,none⟩ = some (.int .i64 (ns:Nat)):=F.cell_of q7y 0
  have qy1:W7.cell? ⟨yB,1,none⟩ = some (.int .i64 (p:Nat)):=F.cell_of q7y 1
  have qy2:W7.cell? ⟨yB,2,none⟩ = some (.slice ao n cp):=F.cell_of q7y 2
  have qr0:W7.cell? ⟨B + 1 + 1 + 1,0,none⟩ = some (.int .i64 0):=F.cell_of q7z 0
  have qr1:W7.cell? ⟨B + 1 + 1 + 1,1,none⟩ = some (.int .i64 0):=F.cell_of q7z 1
  have qr2:W7.cell? ⟨B + 1 + 1 + 1,2,none⟩ = some (.slice none 0 0):=F.cell_of q7z 2
  have zr0:W7.frozen? ⟨B + 1 + 1 + 1,0,none⟩ = false:=F.frz_of q7z 0
  have zr1:W7.frozen? ⟨B + 1 + 1 + 1,1,none⟩ = false:=F.frz_of q7z 1
  have zr2:W7.frozen? ⟨B + 1 + 1 + 1,2,none⟩ = false:=F.frz_of q7z 2
  have HN:Hid (need = (tB,Obj.cells #[.string x] 9) :: (B,Obj.cells #[.pointer (some ⟨Lb,0,none⟩)] 62) :: (B + 1,Obj.cells #[.int .i64 (ns:Nat),.int .i64 (p:Nat),.slice xo xn xc] 67) :: (B + 1 + 1 + 1 + 1,Obj.cells #[.int .i64 (k:Nat)] 3) :: ol'):=hneed
  have hyB':=hyB.symm
  have hW7':=hW7.symm
  clear h7 hneed hfin q7z q7y hyB hW7
  go_wp2_with fail
  refine bodyPost_ret (lret2 Tryz.results37 _ _ (B + 1 + 1 + 1) _ _ rfl rfl HF.out.1 rfl) rfl ⟨ao,n,cp,Y ++ [(i,ts ++ [x])],need,81,_,rfl,HF.out.2,?_,fun r hr=>?_,ent81,fun base2 W9 hs2 h9=>?_⟩
  · refine HR6.out.mono (fun r hr=>?_)
    rw [HN.out]
    rcases List.mem_append.1 hr with hr | hr
    · simp [hr]
    · simp [hr]
  · rw [HN.out] at hr
    simp only [List.mem_cons] at hr
    rcases hr with rfl | rfl | rfl | rfl | hr
    · show W0.heap.size ≤ tB; omega
    · show W0.heap.size ≤ B; omega
    · show W0.heap.size ≤ B + 1; omega
    · show W0.heap.size ≤ B + 1 + 1 + 1 + 1; omega
    · have:=HOL.out r hr; omega
  · obtain ⟨b1,b2,b3,b4,b5,b6⟩:=HH.out
    have hsub:∀ r ∈ need ++ base,r ∈ base2:=hs2
    rw [HN.out] at hsub
    have hrr:=HRL.out.1
    rw [HXY.out.1] at hrr h9
    refine (clos81 h9 (hsub _ (by simp [HMB.out])) hrr (fun r hr=>hsub _ (by simp [HRL.out.2 r hr])) (hsub _ (by simp)) (hsub _ (by simp)) (hsub _ (by simp)) (hsub _ (by simp)) b1 b2 b3 b4 ⟨HK.out.1,by have:=HK.out.2; omega⟩ HX.out HXY.out.2 (by omega) b6).mono ?_
    rintro e w' ⟨rfl,h10⟩
    exact ⟨rfl,h10.moreB (by omega)⟩
theorem does37 (h:LgX T w L q N p ns M Lb base b X c W0) (hM:(M,F.med L.P 1 q) ∈ base) (hr:Rl v X ol) (ho:∀ r ∈ ol,r ∈ base) (hp:8 ≤ p ∧ p ≤ 64) (hns:ns ≤ 100) (hN:1 + ns * p ≤ N) (hN1:N ≤ 1000) (hb:b + 1 < 18446744073709551616) (hc:c ≤ 5000000) (ak an:Int) (s:ByteArray) (af:Int) (d1 d2:Bool) (co:Option Addr) (cn cc:Nat) :
    Calls Tryz.prog 37 #[.pointer (some ⟨Lb,0,none⟩),.agg #[.int .i64 (ns:Nat),.int .i64 (p:Nat),v],act ak an s af d1 d2 co cn cc] W0 fun e w'=>DoesP T w L q N p ns M Lb base ol W0.heap.size b X c e w':=by
  by_cases e1:ak = 1
  · subst e1
    exact does37_1 h hM hr ho hp hns hN hN1 hb hc an s af d1 d2 co cn cc
  · by_cases e2:ak = 2
    · subst e2
      by_cases c1:an < 0
      · exact does37_2a h hM hr ho hp hns hN hN1 hb hc an c1 s af d1 d2 co cn cc
      · by_cases c2:(X.length:Int) ≤ an
        · exact does37_2b h hM hr ho hp hns hN hN1 hb hc an c2 s af d1 d2 co cn cc
        · obtain ⟨j,rfl⟩:∃ j:Nat,an = (j:Int):=⟨an.toNat,by omega⟩
          exact does37_2c h hM hr ho hp hns hN hN1 hb hc j (by omega) s af d1 d2 co cn cc
    · obtain ⟨k,hk1,hk9,hmx⟩:∃ k:Nat,1 ≤ k ∧ k ≤ 9 ∧ max (1:Int) (min an 9) = (k:Int):=⟨(max (1:Int) (min an 9)).toNat,by omega,by omega,by omega⟩
      cases hroom:roomB X p k with
      | false=>exact does37_no h hM hr ho hp hns hN hN1 hb hc ak ⟨e1,e2⟩ an s af d1 d2 co cn cc k hk1 hk9 hmx hroom
      | true=>exact does37_yes h hM hr ho hp hns hN hN1 hb hc ak ⟨e1,e2⟩ an s af d1 d2 co cn cc k hk1 hk9 hmx hroom
end
end Go.Proofs.YtncfbocbigdhiaaGreat.U

/- is, as a call: the log is the document's. -/
namespace Go.Proofs.YtncfbocbigdhiaaGreat.U
open Go Go.RowKit Go.Sort
def V40a (B Lb ns n:Nat) (lo xo:Option Addr) (lc xc:Nat):Nat → Value → Prop
  | 0,v=>v = .slice lo n lc
  | 1,v=>v = .int .i64 (n:Nat)
  | 2,v=>v = .pointer (some ⟨B,2,none⟩)
  | 3,v=>v = .slice xo n xc
  | 4,v=>v = .int .i64 (n:Nat)
  | 5,v=>v = .bool false
  | 6,v=>v = .bool false
  | 7,v=>v = .pointer (some ⟨Lb,0,none⟩)
  | 8,v=>v = .int .i64 ((ns:Int) - (n:Int))
  | 9,v=>v = .pointer (some ⟨B,0,none⟩)
  | 10,v=>v = .int .i64 (ns:Nat)
  | 11,v=>v = .pointer (some ⟨B,2,none⟩)
  | 12,v=>v = .slice xo n xc
  | 13,v=>v = .int .i64 (n:Nat)
  | 14,v=>v = .int .i64 ((ns:Int) - (n:Int))
  | 15,v=>v = .bool false
  | 16,v=>v = .bool false
  | _,_=>True
def V40b (Lb ns p n t2:Nat) (r:Bool) (xo:Option Addr) (xc:Nat):Nat → Value → Prop
  | 0,v=>v = .pointer (some ⟨Lb,0,none⟩)
  | 1,v=>v = .int .i64 (t2:Nat)
  | 2,v=>v = .bool r
  | 3,v=>v = .agg #[.int .i64 (ns:Nat),.int .i64 (p:Nat),.slice xo n xc]
  | 4,v=>v = .int .i64 (t2:Nat)
  | 5,v=>v = .bool r
  | 6,v=>v = .bool false
  | _,_=>True
section
variable {T:Nat} {w:World} {L:F.Loc} {q:Int} {N p ns M Lb:Nat} {base:List (Nat × Obj)} {b:Nat} {X:List (Nat × List ByteArray)} {c:Int} {W:World} {v:Value} {ol:List (Nat × Obj)}
theorem LgX.live2 (h:LgX T w L q N p ns M Lb base b X c W) (n:Nat) (hn:n = X.length):Calls Tryz.prog 48 #[.pointer (some ⟨Lb,0,none⟩)] W fun e w'=>∃ lo lc lg ol',e = .returned (.slice lo n lc) ∧ (0 < n → lo = some ⟨lg,0,none⟩) ∧ LgX T w L q N p ns M Lb (ol' ++ base) b X c w' ∧ ∀ W2:World,(∀ r ∈ ol',W2.heap[r.1]? = some r.2) → ∀ j (hj:j < X.length),W2.cell? ⟨lg,j,none⟩ = some (.int .i64 (X[j].1:Nat)):=by
  have h0:=h
  obtain ⟨nw,g,gs,e,l,v,ol,h1,h2,h3,h4,h5⟩:=h
  have hl:=live_any h5
  rw [h2.elv,List.length_map] at hl
  refine hl.mono ?_
  rintro er w' ⟨v',rfl,ho,hb⟩
  rcases ho.2 with ⟨rfl,e0⟩ | ⟨lg,cap,cur,rfl,k2,k3,k4,k5,k6,k7⟩
  · obtain rfl:X = []:=List.eq_nil_of_length_eq_zero e0
    subst hn
    refine ⟨none,0,0,[],rfl,fun x=>absurd x (Nat.lt_irrefl _),h0.below hb,fun W2 _ j hj=>absurd hj (Nat.not_lt_zero _)⟩
  · subst hn
    refine ⟨_,cap,lg,[(lg,.cells cur 3)],rfl,fun _=>rfl,h0.adopt hb (fun r hr=>?_) (fun r hr=>?_) (fun r hr=>?_),fun W2 hW j hj=>?_⟩
    · rw [List.mem_singleton.1 hr]; exact ⟨k3,k2⟩
    · rw [List.mem_singleton.1 hr]; exact F.apart_of (by decide)
    · rw [List.mem_singleton.1 hr]; exact fun _ _=>cells_ne2 (by decide)
    · rw [F.cell_of (hW _ (List.mem_singleton.2 rfl)),← Array.getElem?_toList]
      have:=congrArg (fun l=>l[j]?) k7
      simp only [Nat.mul_one,List.getElem?_take_of_lt hj,List.map_map] at this
      rw [this,List.getElem?_map,List.getElem?_eq_getElem hj]
      rfl
set_option maxHeartbeats 8000000 in
set_option maxRecDepth 100000 in
theorem is40 (h:LgX T w L q N p ns M Lb base b X c W) (hM:(M,F.med L.P 1 q) ∈ base) (hr:Rl v X ol) (ho:∀ r ∈ ol,r ∈ base) (hp:8 ≤ p ∧ p ≤ 64) (hns:ns ≤ 100) :
    Calls Tryz.prog 40 #[.pointer (some ⟨Lb,0,none⟩),.agg #[.int .i64 (ns:Nat),.int .i64 (p:Nat),v]] W fun e w'=>e = .returned (.bool true) ∧ LgX T w L q N p ns M Lb base b X c w':=by
  have hXl:=h.len
  have huse:=h.uses
  obtain ⟨xo,xc,xg,zs,hv,hxo,_,_,hzs,hcell⟩:=hr.src
  obtain ⟨n,hn⟩:∃ n,n = X.length:=⟨_,rfl⟩
  rw [← hn] at hv hxo hXl
  subst hv
  have HXC:Hid (∀ W:World,(∀ r ∈ ol,W.heap[r.1]? = some r.2) → ∀ j (hj:j < X.length),∃ ao m cp,W.cell? ⟨xg,j * 2,none⟩ = some (.int .i64 (X[j].1:Nat)) ∧ W.cell? ⟨xg,j * 2 + 1,none⟩ = some (.slice ao m cp)):=by
    intro W2 hW j hj
    obtain ⟨tv,tl,a1,a2,a3,a4⟩:=hzs.get j hj
    obtain ⟨ao,cp,e⟩:=a3.len
    have b1:=hcell W2 hW _ _ a1
    have b2:=hcell W2 hW _ _ a2
    rw [Nat.zero_add] at b1 b2
    rw [e] at b2
    exact ⟨ao,_,cp,b1,b2⟩
  obtain ⟨B,hB⟩:∃ B,B = W.heap.size:=⟨_,rfl⟩
  obtain ⟨W1,hW1⟩:∃ W1,W1 = W.alloc (.cells #[.int .i64 (ns:Nat),.int .i64 (p:Nat),.slice xo n xc] 67):=⟨_,rfl⟩
  have h1:=h.hold (.cells #[.int .i64 (ns:Nat),.int .i64 (p:Nat),.slice xo n xc] 67) (F.apart_of (by decide)) (fun _ _=>cells_ne2 (by decide))
  rw [← hB,← hW1] at h1
  have hlive:=h1.live2 n hn
  have HN:Hid (n = X.length):=hn
  have HXO:Hid (0 < n → xo = some ⟨xg,0,none⟩):=hxo
  have HB:Hid (n ≤ ns ∧ ns ≤ 100 ∧ (8 ≤ p ∧ p ≤ 64)):=⟨hXl,hns,hp⟩
  have HRL:Hid (Rl (.slice xo n xc) X ol ∧ (∀ r ∈ ol,r ∈ base) ∧ ∀ s ∈ X,used s.2 ≤ 1000):=⟨hr,ho,fun s hs=>by have:=(huse s hs).2.1; omega⟩
  have HMB:Hid ((M,F.med L.P 1 q) ∈ base):=hM
  have hB':=hB.symm
  have hW1':=hW1.symm
  clear h hM hr ho hp hns huse hzs hcell hxo hB hW1 h1 hn hXl
  go_enter Tryz.func40,Tryz.ntmps40
  go_wp2_with fail
  go_call hlive as e w2 ⟨lo,lc,lg,ol2,rfl,hlo,h2,hlc⟩
  clear hlive
  obtain ⟨bs,hbs⟩:∃ bs,bs = ol2 ++ (B,Obj.cells #[.int .i64 (ns:Nat),.int .i64 (p:Nat),.slice xo n xc] 67) :: base:=⟨_,rfl⟩
  rw [← hbs] at h2
  have H2:Hid (LgX T w L q N p ns M Lb bs b X c w2):=h2
  have HLO:Hid (0 < n → lo = some ⟨lg,0,none⟩):=hlo
  have HLC:Hid (∀ W2:World,(∀ r ∈ bs,W2.heap[r.1]? = some r.2) → ∀ j (hj:j < X.length),W2.cell? ⟨lg,j,none⟩ = some (.int .i64 (X[j].1:Nat))):=fun W2 hW=>hlc W2 (fun r hr=>hW r (by rw [hbs]; simp [hr]))
  have HOL:Hid (∀ r ∈ ol,r ∈ bs):=fun r hr=>by rw [hbs]; simp [HRL.out.2.1 r hr]
  have HBS:Hid (∀ r ∈ base,r ∈ bs):=fun r hr=>by rw [hbs]; simp [hr]
  have HQ:Hid (∀ W2,LgX T w L q N p ns M Lb bs b X c W2 → W2.cell? ⟨B,0,none⟩ = some (.int .i64 (ns:Nat)) ∧ W2.cell? ⟨B,1,none⟩ = some (.int .i64 (p:Nat)) ∧ W2.cell? ⟨B,2,none⟩ = some (.slice xo n xc)):=by
    intro W2 hW
    have hx:=hW.at' (r:=(B,Obj.cells #[.int .i64 (ns:Nat),.int .i64 (p:Nat),.slice xo n xc] 67)) (by rw [hbs]; simp)
    exact ⟨F.cell_of hx 0,F.cell_of hx 1,F.cell_of hx 2⟩
  have HFR:Hid (∀ W2,LgX T w L q N p ns M Lb bs b X c W2 → Calls Tryz.prog 46 #[.pointer (some ⟨Lb,0,none⟩)] W2 fun e w'=>e = .returned (.int .i64 ((ns:Int) - (n:Int))) ∧ LgX T w L q N p ns M Lb bs b X c w'):=by
    intro W2 hW
    have:=hW.free HB.out.2.1
    have e:((ns - X.length:Nat):Int) = (ns:Int) - (n:Int):=by have:=HB.out.1; have:=HN.out; omega
    rw [e] at this
    exact this
  clear h2 hbs hlc hlo hB' hW1'
  go_wp2_with fail
  refine F.wp_region_pb (fun f=>⟨#[.pointer (some ⟨Lb,0,none⟩),.agg #[.int .i64 (ns:Int),.int .i64 (p:Int),.slice xo n xc],undef,.pointer (some ⟨B,0,none⟩),.bool false,.slice lo n lc,undef,undef,undef,.pointer (some ⟨Lb,0,none⟩),.slice lo n lc,f 0,f 1,f 2,f 3,f 4,f 5,f 6,f 7,f 8,f 9,f 10,f 11,f 12,f 13,f 14,f 15,f 16,undef,undef,undef,undef,undef,undef,undef,undef,undef,undef,undef,undef,undef,undef,undef,undef,undef,undef,undef,undef,undef,undef,undef,undef,undef,undef,undef,undef,undef,undef],[]⟩) (V40a B Lb ns n lo xo lc xc) (fun _ _ W=>LgX T w L q N p ns M Lb bs b X c W) (fun i=>[undef,undef,undef,undef,undef,undef,undef,undef,undef,undef,undef,undef,undef,undef,undef,undef,undef].getD i undef) (by kernel_rfl) rfl rfl ?hIa ?hputa ?stepa ?fina
  case hIa=>exact H2.out.below (Below.refl _ _).drew
  case fina=>
    intro f W3 hP hV
    have y0:f 0 = .slice lo n lc:=hV 0 (by decide)
    have y1:f 1 = .int .i64 (n:Nat):=hV 1 (by decide)
    have y2:f 2 = .pointer (some ⟨B,2,none⟩):=hV 2 (by decide)
    have y3:f 3 = .slice xo n xc:=hV 3 (by decide)
    have y4:f 4 = .int .i64 (n:Nat):=hV 4 (by decide)
    have y5:f 5 = .bool false:=hV 5 (by decide)
    have y6:f 6 = .bool false:=hV 6 (by decide)
    have y7:f 7 = .pointer (some ⟨Lb,0,none⟩):=hV 7 (by decide)
    have y8:f 8 = .int .i64 ((ns:Int) - (n:Int)):=hV 8 (by decide)
    have y9:f 9 = .pointer (some ⟨B,0,none⟩):=hV 9 (by decide)
    have y10:f 10 = .int .i64 (ns:Nat):=hV 10 (by decide)
    have y11:f 11 = .pointer (some ⟨B,2,none⟩):=hV 11 (by decide)
    have y12:f 12 = .slice xo n xc:=hV 12 (by decide)
    have y13:f 13 = .int .i64 (n:Nat):=hV 13 (by decide)
    have y14:f 14 = .int .i64 ((ns:Int) - (n:Int)):=hV 14 (by decide)
    have y15:f 15 = .bool false:=hV 15 (by decide)
    have y16:f 16 = .bool false:=hV 16 (by decide)
    clear hV
    have H3:Hid (LgX T w L q N p ns M Lb bs b X c W3):=hP
    clear hP
    generalize f 0 = z0 at *
    subst y0
    generalize f 1 = z1 at *
    subst y1
    generalize f 2 = z2 at *
    subst y2
    generalize f 3 = z3 at *
    subst y3
    generalize f 4 = z4 at *
    subst y4
    generalize f 5 = z5 at *
    subst y5
    generalize f 6 = z6 at *
    subst y6
    generalize f 7 = z7 at *
    subst y7
    generalize f 8 = z8 at *
    subst y8
    generalize f 9 = z9 at *
    subst y9
    generalize f 10 = z10 at *
    subst y10
    generalize f 11 = z11 at *
    subst y11
    generalize f 12 = z12 at *
    subst y12
    generalize f 13 = z13 at *
    subst y13
    generalize f 14 = z14 at *
    subst y14
    generalize f 15 = z15 at *
    subst y15
    generalize f 16 = z16 at *
    subst y16
    clear H2 HFR
    have q0:=(HQ.out W3 H3.out).1
    have q1:=(HQ.out W3 H3.out).2.1
    have q2:=(HQ.out W3 H3.out).2.2
    go_wp2_with fail
    go_loopw [31] (fun iv wr=>∃ t:Nat,iv = .int .i64 (t:Nat) ∧ t ≤ n ∧ Hid (LgX T w L q N p ns M Lb bs b X c wr)) (fun iv _=>n - (intOf iv).toNat)
    case atStart=>exact ⟨0,rfl,Nat.zero_le _,H3⟩
    case round=>
      obtain ⟨t,rfl,htn,H4⟩:=hrel
      clear H3 q0 q1 q2
      rcases Nat.lt_or_ge t n with ht | ht
      · have hat:∀ r ∈ bs,wr.heap[r.1]? = some r.2:=fun r hr=>H4.out.at' hr
        obtain ⟨sao,sm,scp,qs1,qs2⟩:=HXC.out wr (fun r hr=>hat r (HOL.out r hr)) t (by rw [← HN.out]; exact ht)
        obtain ⟨sb,hsb⟩:∃ sb,sb = X[t]'(by rw [← HN.out]; exact ht):=⟨_,rfl⟩
        rw [← hsb] at qs1
        obtain rfl:=HXO.out (by omega)
        obtain rfl:=HLO.out (by omega)
        obtain ⟨si,hsi⟩:∃ si,si = sb.1:=⟨_,rfl⟩
        rw [← hsi] at qs1
        have h5:=H4.out.below ((Below.refl _ wr).alloc (Nat.le_refl _) (.cells #[.int .i64 (si:Nat),.slice sao sm scp] 118))
        have ql:(wr.alloc (.cells #[.int .i64 (si:Nat),.slice sao sm scp] 118)).cell? ⟨lg,t,none⟩ = some (.int .i64 (si:Nat)):=by
          have hh:=HLC.out _ (fun r hr=>h5.at' hr) t (by rw [← HN.out]; exact ht)
          rw [← hsb,← hsi] at hh
          exact hh
        have H5:Hid (∀ z,LgX T w L q N p ns M Lb bs b X c ((wr.alloc (.cells #[.int .i64 (si:Nat),.slice sao sm scp] 118)).drewN z)):=fun z=>h5.below (below_drewN (Below.refl _ _) z)
        have htI:(t:Int) < (n:Int):=by omega
        have hn100:n ≤ 100:=by have:=HB.out; omega
        have hbb:(((si:Nat):Int) != ((si:Nat):Int)) = false:=by simp
        clear h5 hsb hsi hat
        go_wp2_with fail
        go_quiet (fail)
        go_wp2
        go_roundw
        case rel=>exact ⟨t + 1,by congr 1,by omega,H5.out _⟩
        case measure=>
          show n - ((t:Int) + 1).toNat < n - ((t:Nat):Int).toNat
          omega
      · have htI:¬ (t:Int) < (n:Int):=by omega
        have q0:=(HQ.out wr H4.out).1
        have q1:=(HQ.out wr H4.out).2.1
        have q2:=(HQ.out wr H4.out).2.2
        have hwp:IntKind.i64.wrap ((p:Int) + 1) = (p:Int) + 1:=by
          have:=HB.out
          rw [IntKind.wrap_i64]; omega
        have hpb:p ≤ 64:=HB.out.2.2.2
        go_wp2_with fail
        go_loopw [47] (fun iv wr=>∃ t2:Nat,iv = .int .i64 (t2:Nat) ∧ t2 ≤ p + 1 ∧ Hid (LgX T w L q N p ns M Lb bs b X c wr)) (fun iv _=>p + 1 - (intOf iv).toNat)
        case atStart=>exact ⟨0,rfl,Nat.zero_le _,H4⟩
        case round=>
          rename_i wr0 wr
          obtain ⟨t2,rfl,htp,H6⟩:=hrel
          clear H4 q0 q1 q2
          rcases Nat.lt_or_ge t2 (p + 1) with ht2 | ht2
          · have htI2:(t2:Int) < (p:Int) + 1:=by omega
            obtain ⟨r,hr⟩:∃ r,r = roomB X p t2:=⟨_,rfl⟩
            have HRM:Hid (∀ W2,LgX T w L q N p ns M Lb bs b X c W2 → Calls Tryz.prog 69 #[.pointer (some ⟨Lb,0,none⟩),.int .i64 (t2:Nat)] W2 fun e w'=>e = .returned (.bool r) ∧ LgX T w L q N p ns M Lb bs b X c w'):=by
              intro W2 hW
              rw [hr]
              exact hW.room hpb t2
            have HRR:Hid (∀ W2,LgX T w L q N p ns M Lb bs b X c W2 → Calls Tryz.prog 78 #[.agg #[.int .i64 (ns:Nat),.int .i64 (p:Nat),.slice xo n xc],.int .i64 (t2:Nat)] W2 fun e w'=>e = .returned (.bool r) ∧ Below W2.heap.size W2 w'):=by
              intro W2 hW
              rw [hr]
              exact rroom HRL.out.1 (fun r hr=>hW.at' (HOL.out r hr)) ns p t2 (by have:=HN.out; have:=HB.out; omega) (by omega) HRL.out.2.2
            clear hr
            go_wp2_with fail
            refine F.wp_region_pb (fun f=>⟨#[.pointer (some ⟨Lb,0,none⟩),.agg #[.int .i64 (ns:Int),.int .i64 (p:Int),.slice xo n xc],undef,.pointer (some ⟨B,0,none⟩),u4,.slice lo n lc,u6,u7,.int .i64 (t2:Int),.pointer (some ⟨Lb,0,none⟩),.slice lo n lc,.slice lo n lc,.int .i64 (n:Int),.pointer (some ⟨B,2,none⟩),.slice xo n xc,.int .i64 (n:Int),.bool false,.bool false,.pointer (some ⟨Lb,0,none⟩),.int .i64 ((ns:Int) - (n:Int)),.pointer (some ⟨B,0,none⟩),.int .i64 (ns:Int),.pointer (some ⟨B,2,none⟩),.slice xo n xc,.int .i64 (n:Int),.int .i64 ((ns:Int) - (n:Int)),.bool false,.bool false,.pointer (some ⟨B,2,none⟩),.slice xo n xc,.int .i64 (n:Int),.int .i64 (t:Int),.bool false,u33,u34,u35,u36,u37,u38,u39,u40,u41,u42,u43,.pointer (some ⟨B,1,none⟩),.int .i64 (p:Int),.int .i64 ((p:Int) + 1),.int .i64 (t2:Int),.bool true,.int .i64 (t2:Int),f 0,f 1,f 2,f 3,f 4,f 5,f 6,u57],[]⟩) (V40b Lb ns p n t2 r xo xc) (fun _ _ W=>LgX T w L q N p ns M Lb bs b X c W) (fun i=>[u50,u51,u52,u53,u54,u55,u56].getD i undef) (by kernel_rfl) rfl rfl ?hIb ?hputb ?stepb ?finb
            case hIb=>exact H6.out.below (Below.refl _ _).drew
            case finb=>
              intro f W7 hP hV
              have y0:f 0 = .pointer (some ⟨Lb,0,none⟩):=hV 0 (by decide)
              have y1:f 1 = .int .i64 (t2:Nat):=hV 1 (by decide)
              have y2:f 2 = .bool r:=hV 2 (by decide)
              have y3:f 3 = .agg #[.int .i64 (ns:Nat),.int .i64 (p:Nat),.slice xo n xc]:=hV 3 (by decide)
              have y4:f 4 = .int .i64 (t2:Nat):=hV 4 (by decide)
              have y5:f 5 = .bool r:=hV 5 (by decide)
              have y6:f 6 = .bool false:=hV 6 (by decide)
              clear hV
              have H7:Hid (LgX T w L q N p ns M Lb bs b X c W7):=hP
              clear hP
              generalize f 0 = z0 at *
              subst y0
              generalize f 1 = z1 at *
              subst y1
              generalize f 2 = z2 at *
              subst y2
              generalize f 3 = z3 at *
              subst y3
              generalize f 4 = z4 at *
              subst y4
              generalize f 5 = z5 at *
              subst y5
              generalize f 6 = z6 at *
              subst y6
              go_wp2
              go_roundw
              case rel=>exact ⟨t2 + 1,by congr 1,by omega,H7⟩
              case measure=>
                show p + 1 - ((t2:Int) + 1).toNat < p + 1 - ((t2:Nat):Int).toNat
                omega
            case hputb=>
              repeat (refine ⟨fun f v=>rfl,?_⟩)
              trivial
            case stepb=>
              refine ⟨?_,?_⟩
              · intro done f W hP hdn hd K hK
                clear hd
                go_simp
                exact hK _ _ rfl hP
              refine ⟨?_,?_⟩
              · intro done f W hP hdn hd K hK
                clear hd
                go_simp
                exact hK _ _ rfl hP
              refine ⟨?_,?_⟩
              · intro done f W hP hdn hd K hK
                have d0:=(hd.1 rfl).2
                have e0:done 0 = true:=(hd.1 rfl).1
                have d1:=(hd.2.1 rfl).2
                have e1:done 1 = true:=(hd.2.1 rfl).1
                clear hd
                replace d0:f 0 = .pointer (some ⟨Lb,0,none⟩):=d0
                replace d1:f 1 = .int .i64 (t2:Nat):=d1
                generalize f 0 = x0 at *
                subst d0
                clear e0
                generalize f 1 = x1 at *
                subst d1
                clear e1
                have hcl:=HRM.out W hP
                go_simp
                refine Calls.mono hcl ?_
                rintro er W' ⟨rfl,hb⟩
                exact hK _ _ rfl hb
              refine ⟨?_,?_⟩
              · intro done f W hP hdn hd K hK
                clear hd
                obtain ⟨q0,q1,q2⟩:=HQ.out W hP
                go_simp
                exact hK _ _ rfl hP
              refine ⟨?_,?_⟩
              · intro done f W hP hdn hd K hK
                clear hd
                go_simp
                exact hK _ _ rfl hP
              refine ⟨?_,?_⟩
              · intro done f W hP hdn hd K hK
                have d3:=(hd.1 rfl).2
                have e3:done 3 = true:=(hd.1 rfl).1
                have d4:=(hd.2.1 rfl).2
                have e4:done 4 = true:=(hd.2.1 rfl).1
                clear hd
                replace d3:f 3 = .agg #[.int .i64 (ns:Nat),.int .i64 (p:Nat),.slice xo n xc]:=d3
                replace d4:f 4 = .int .i64 (t2:Nat):=d4
                generalize f 3 = x3 at *
                subst d3
                clear e3
                generalize f 4 = x4 at *
                subst d4
                clear e4
                have hcl:=HRR.out W hP
                go_simp
                refine Calls.mono hcl ?_
                rintro er W' ⟨rfl,hb⟩
                exact hK _ _ rfl (hP.below hb)
              refine ⟨?_,?_⟩
              · intro done f W hP hdn hd K hK
                have d2:=(hd.1 rfl).2
                have e2:done 2 = true:=(hd.1 rfl).1
                have d5:=(hd.2.1 rfl).2
                have e5:done 5 = true:=(hd.2.1 rfl).1
                clear hd
                replace d2:f 2 = .bool r:=d2
                replace d5:f 5 = .bool r:=d5
                generalize f 2 = x2 at *
                subst d2
                clear e2
                generalize f 5 = x5 at *
                subst d5
                clear e5
                have hbb:(r != r) = false:=by cases r <;> rfl
                go_simp
                exact hK _ _ rfl hP
              trivial
          · have htI2:¬ (t2:Int) < (p:Int) + 1:=by omega
            have HF:Hid (LgX T w L q N p ns M Lb base b X c wr):=H6.out.drop HMB.out HBS.out
            go_wp2
            go_returns
            exact ⟨rfl,HF.out⟩
  case hputa=>
    repeat (refine ⟨fun f v=>rfl,?_⟩)
    trivial
  case stepa=>
    refine ⟨?_,?_⟩
    · intro done f W hP hdn hd K hK
      clear hd
      go_simp
      exact hK _ _ rfl hP
    refine ⟨?_,?_⟩
    · intro done f W hP hdn hd K hK
      have d0:=(hd.1 rfl).2
      have e0:done 0 = true:=(hd.1 rfl).1
      clear hd
      replace d0:f 0 = .slice lo n lc:=d0
      generalize f 0 = x0 at *
      subst d0
      clear e0
      go_simp
      exact hK _ _ rfl hP
    refine ⟨?_,?_⟩
    · intro done f W hP hdn hd K hK
      clear hd
      go_simp
      exact hK _ _ rfl hP
    refine ⟨?_,?_⟩
    · intro done f W hP hdn hd K hK
      have d2:=(hd.1 rfl).2
      have e2:done 2 = true:=(hd.1 rfl).1
      clear hd
      replace d2:f 2 = .pointer (some ⟨B,2,none⟩):=d2
      generalize f 2 = x2 at *
      subst d2
      clear e2
      obtain ⟨q0,q1,q2⟩:=HQ.out W hP
      go_simp
      exact hK _ _ rfl hP
    refine ⟨?_,?_⟩
    · intro done f W hP hdn hd K hK
      have d3:=(hd.1 rfl).2
      have e3:done 3 = true:=(hd.1 rfl).1
      clear hd
      replace d3:f 3 = .slice xo n xc:=d3
      generalize f 3 = x3 at *
      subst d3
      clear e3
      go_simp
      exact hK _ _ rfl hP
    refine ⟨?_,?_⟩
    · intro done f W hP hdn hd K hK
      have d1:=(hd.1 rfl).2
      have e1:done 1 = true:=(hd.1 rfl).1
      have d4:=(hd.2.1 rfl).2
      have e4:done 4 = true:=(hd.2.1 rfl).1
      clear hd
      replace d1:f 1 = .int .i64 (n:Nat):=d1
      replace d4:f 4 = .int .i64 (n:Nat):=d4
      generalize f 1 = x1 at *
      subst d1
      clear e1
      generalize f 4 = x4 at *
      subst d4
      clear e4
      have hbb:(((n:Nat):Int) != ((n:Nat):Int)) = false:=by simp
      go_simp
      exact hK _ _ rfl hP
    refine ⟨?_,?_⟩
    · intro done f W hP hdn hd K hK
      have d5:=(hd.1 rfl).2
      have e5:done 5 = true:=(hd.1 rfl).1
      clear hd
      replace d5:f 5 = .bool false:=d5
      generalize f 5 = x5 at *
      subst d5
      clear e5
      go_simp
      exact hK _ _ rfl hP
    refine ⟨?_,?_⟩
    · intro done f W hP hdn hd K hK
      have d6:=(hd.1 rfl).2
      have e6:done 6 = true:=(hd.1 rfl).1
      clear hd
      replace d6:f 6 = .bool false:=d6
      generalize f 6 = x6 at *
      subst d6
      clear e6
      go_simp
      exact hK _ _ rfl hP
    refine ⟨?_,?_⟩
    · intro done f W hP hdn hd K hK
      have d7:=(hd.1 rfl).2
      have e7:done 7 = true:=(hd.1 rfl).1
      have d6:=(hd.2.2.1 rfl).2
      have e6:done 6 = true:=(hd.2.2.1 rfl).1
      clear hd
      replace d7:f 7 = .pointer (some ⟨Lb,0,none⟩):=d7
      replace d6:f 6 = .bool false:=d6
      generalize f 7 = x7 at *
      subst d7
      clear e7
      generalize f 6 = x6 at *
      subst d6
      clear e6
      have hcl:=HFR.out W hP
      go_simp
      refine Calls.mono hcl ?_
      rintro er W' ⟨rfl,hb⟩
      exact hK _ _ rfl hb
    refine ⟨?_,?_⟩
    · intro done f W hP hdn hd K hK
      have d6:=(hd.1 rfl).2
      have e6:done 6 = true:=(hd.1 rfl).1
      clear hd
      replace d6:f 6 = .bool false:=d6
      generalize f 6 = x6 at *
      subst d6
      clear e6
      go_simp
      exact hK _ _ rfl hP
    refine ⟨?_,?_⟩
    · intro done f W hP hdn hd K hK
      have d9:=(hd.1 rfl).2
      have e9:done 9 = true:=(hd.1 rfl).1
      have d6:=(hd.2.1 rfl).2
      have e6:done 6 = true:=(hd.2.1 rfl).1
      clear hd
      replace d9:f 9 = .pointer (some ⟨B,0,none⟩):=d9
      replace d6:f 6 = .bool false:=d6
      generalize f 9 = x9 at *
      subst d9
      clear e9
      generalize f 6 = x6 at *
      subst d6
      clear e6
      obtain ⟨q0,q1,q2⟩:=HQ.out W hP
      go_simp
      exact hK _ _ rfl hP
    refine ⟨?_,?_⟩
    · intro done f W hP hdn hd K hK
      have d6:=(hd.1 rfl).2
      have e6:done 6 = true:=(hd.1 rfl).1
      clear hd
      replace d6:f 6 = .bool false:=d6
      generalize f 6 = x6 at *
      subst d6
      clear e6
      go_simp
      exact hK _ _ rfl hP
    refine ⟨?_,?_⟩
    · intro done f W hP hdn hd K hK
      have d11:=(hd.1 rfl).2
      have e11:done 11 = true:=(hd.1 rfl).1
      have d6:=(hd.2.1 rfl).2
      have e6:done 6 = true:=(hd.2.1 rfl).1
      clear hd
      replace d11:f 11 = .pointer (some ⟨B,2,none⟩):=d11
      replace d6:f 6 = .bool false:=d6
      generalize f 11 = x11 at *
      subst d11
      clear e11
      generalize f 6 = x6 at *
      subst d6
      clear e6
      obtain ⟨q0,q1,q2⟩:=HQ.out W hP
      go_simp
      exact hK _ _ rfl hP
    refine ⟨?_,?_⟩
    · intro done f W hP hdn hd K hK
      have d12:=(hd.1 rfl).2
      have e12:done 12 = true:=(hd.1 rfl).1
      have d6:=(hd.2.1 rfl).2
      have e6:done 6 = true:=(hd.2.1 rfl).1
      clear hd
      replace d12:f 12 = .slice xo n xc:=d12
      replace d6:f 6 = .bool false:=d6
      generalize f 12 = x12 at *
      subst d12
      clear e12
      generalize f 6 = x6 at *
      subst d6
      clear e6
      go_simp
      exact hK _ _ rfl hP
    refine ⟨?_,?_⟩
    · intro done f W hP hdn hd K hK
      have d10:=(hd.1 rfl).2
      have e10:done 10 = true:=(hd.1 rfl).1
      have d13:=(hd.2.1 rfl).2
      have e13:done 13 = true:=(hd.2.1 rfl).1
      have d6:=(hd.2.2.1 rfl).2
      have e6:done 6 = true:=(hd.2.2.1 rfl).1
      clear hd
      replace d10:f 10 = .int .i64 (ns:Nat):=d10
      replace d13:f 13 = .int .i64 (n:Nat):=d13
      replace d6:f 6 = .bool false:=d6
      generalize f 10 = x10 at *
      subst d10
      clear e10
      generalize f 13 = x13 at *
      subst d13
      clear e13
      generalize f 6 = x6 at *
      subst d6
      clear e6
      have hwr:IntKind.i64.wrap ((ns:Int) - (n:Int)) = (ns:Int) - (n:Int):=by
        have:=HB.out
        rw [IntKind.wrap_i64]; omega
      go_simp
      exact hK _ _ rfl hP
    refine ⟨?_,?_⟩
    · intro done f W hP hdn hd K hK
      have d8:=(hd.1 rfl).2
      have e8:done 8 = true:=(hd.1 rfl).1
      have d14:=(hd.2.1 rfl).2
      have e14:done 14 = true:=(hd.2.1 rfl).1
      have d6:=(hd.2.2.1 rfl).2
      have e6:done 6 = true:=(hd.2.2.1 rfl).1
      clear hd
      replace d8:f 8 = .int .i64 ((ns:Int) - (n:Int)):=d8
      replace d14:f 14 = .int .i64 ((ns:Int) - (n:Int)):=d14
      replace d6:f 6 = .bool false:=d6
      generalize f 8 = x8 at *
      subst d8
      clear e8
      generalize f 14 = x14 at *
      subst d14
      clear e14
      generalize f 6 = x6 at *
      subst d6
      clear e6
      have hbb:(((ns:Int) - (n:Int)) != ((ns:Int) - (n:Int))) = false:=by simp
      go_simp
      exact hK _ _ rfl hP
    refine ⟨?_,?_⟩
    · intro done f W hP hdn hd K hK
      have d6:=(hd.1 rfl).2
      have e6:done 6 = true:=(hd.1 rfl).1
      have d15:=(hd.2.1 rfl).2
      have e15:done 15 = true:=(hd.2.1 rfl).1
      clear hd
      replace d6:f 6 = .bool false:=d6
      replace d15:f 15 = .bool false:=d15
      generalize f 6 = x6 at *
      subst d6
      clear e6
      generalize f 15 = x15 at *
      subst d15
      clear e15
      go_simp
      exact hK _ _ rfl hP
    trivial
end
end Go.Proofs.YtncfbocbigdhiaaGreat.U
