/- Texts of this seat, one behind the other. -/
import Derived.Test.YtncfbocbigdhiaaGreatQGP
/- A Head's sector, as a call. -/
namespace Go.Proofs.YtncfbocbigdhiaaGreat
open Go.RowKit
structure Hd where
  c:Nat
  j:Nat
  n:Nat
  fr:Bool
def Hd.cs (p:Hd):Array Value:=#[.int .u64 (p.c:Nat),.int .u64 (p.j:Nat),.int .u64 (p.n:Nat),.bool p.fr]
structure Hd.Ok (p:Hd):Prop where
  c:p.c < 18446744073709551616
  j:p.j < 18446744073709551616
  n0:1 ≤ p.n
  n:p.n < 18446744073709551616
def bitN (b:Bool):Nat:=if b then 1 else 0
theorem bitN_le (b:Bool):bitN b ≤ 1:=by cases b <;> decide
def Hd.fl (p:Hd):List UInt8:=((O.numB p.c 8 ++ O.numB p.j 8) ++ O.numB p.n 8) ++ O.numB (bitN p.fr) 1
theorem Hd.fl_length (p:Hd):p.fl.length = 25:=by
  unfold Hd.fl; simp [O.numB_length]
def Hd.sec (p:Hd):ByteArray:=O.tx (secL 72 p.fl)
theorem Hd.sec_size (p:Hd):p.sec.size = 64:=by
  rw [O.size_list]; show (secL 72 p.fl).toArray.toList.length = _; rw [List.toList_toArray]; exact secL_length _ _ (by rw [Hd.fl_length]; decide)
theorem ent145 (args:Array Value) (W:World):(callFunc 145 args).run Tryz.prog W = .ok (.enter 145 args) W:=O.enter_of Tryz.func145 (by kernel_rfl) (by kernel_rfl) args W
namespace H
structure WPh (a b c X B:Nat) (bx:Array Value) (v0:Value) (l N1 N2 N3:List UInt8) (w0:World) (done:Nat → Bool) (W:World):Prop where
  x:W.heap[X]? = some (.cells bx 166)
  wr:∃ v,O.Wr B v0 l (wsB a b c N1 N2 N3 done) w0 v W
  ob:done b = true → done a = true
  oc:done c = true → done b = true
section
variable {a b c X B:Nat} {bx:Array Value} {v0:Value} {l N1 N2 N3:List UInt8} {w0:World} {done:Nat → Bool} {W W':World}
theorem WPh.pure (h:WPh a b c X B bx v0 l N1 N2 N3 w0 done W) (k:Nat) (hk:k ≠ a ∧ k ≠ b ∧ k ≠ c):WPh a b c X B bx v0 l N1 N2 N3 w0 (O.updB done k) W:=by
  have ea:O.updB done k a = done a:=if_neg (Ne.symm hk.1)
  have eb:O.updB done k b = done b:=if_neg (Ne.symm hk.2.1)
  have ec:O.updB done k c = done c:=if_neg (Ne.symm hk.2.2)
  refine ⟨h.x,?_,by rw [ea,eb]; exact h.ob,by rw [eb,ec]; exact h.oc⟩
  unfold wsB; rw [ea,eb,ec]; exact h.wr
theorem WPh.s1 (h:WPh a b c X B bx v0 l N1 N2 N3 w0 done W) (hX:X < B) (hab:a ≠ b) (hac:a ≠ c) (hd:done a = false):∃ v,O.OutIs W B v l ∧ ∀ v' W',O.Wr B v l N1 W v' W' → WPh a b c X B bx v0 l N1 N2 N3 w0 (O.updB done a) W':=by
  obtain ⟨v,hw⟩:=h.wr
  have hb:done b = false:=by
    cases hq:done b with
    | false=>rfl
    | true=>rw [h.ob hq] at hd; cases hd
  have hc:done c = false:=by
    cases hq:done c with
    | false=>rfl
    | true=>rw [h.oc hq] at hb; cases hb
  have e0:wsB a b c N1 N2 N3 done = []:=by unfold wsB; rw [hd,hb,hc]; rfl
  rw [e0] at hw
  have ho:=hw.out
  rw [List.append_nil] at ho
  refine ⟨v,ho,fun v' W' hw'=>?_⟩
  have ea:O.updB done a a = true:=if_pos rfl
  have eb:O.updB done a b = done b:=if_neg (Ne.symm hab)
  have ec:O.updB done a c = done c:=if_neg (Ne.symm hac)
  refine ⟨((hw'.below ho).block X hX).trans h.x,⟨v',?_⟩,fun _=>ea,fun e=>by rw [ec,hc] at e; cases e⟩
  have e1:wsB a b c N1 N2 N3 (O.updB done a) = [] ++ N1:=by unfold wsB; rw [ea,eb,ec,hb,hc]; simp
  rw [e1]
  exact hw.trans (by rw [List.append_nil]; exact hw')
theorem WPh.s2 (h:WPh a b c X B bx v0 l N1 N2 N3 w0 done W) (hX:X < B) (hab:a ≠ b) (hbc:b ≠ c) (ha:done a = true) (hd:done b = false):∃ v,O.OutIs W B v (l ++ N1) ∧ ∀ v' W',O.Wr B v (l ++ N1) N2 W v' W' → WPh a b c X B bx v0 l N1 N2 N3 w0 (O.updB done b) W':=by
  obtain ⟨v,hw⟩:=h.wr
  have hc:done c = false:=by
    cases hq:done c with
    | false=>rfl
    | true=>rw [h.oc hq] at hd; cases hd
  have e0:wsB a b c N1 N2 N3 done = N1:=by unfold wsB; rw [ha,hd,hc]; simp
  rw [e0] at hw
  have ho:=hw.out
  refine ⟨v,ho,fun v' W' hw'=>?_⟩
  have ea:O.updB done b a = done a:=if_neg hab
  have eb:O.updB done b b = true:=if_pos rfl
  have ec:O.updB done b c = done c:=if_neg (Ne.symm hbc)
  refine ⟨((hw'.below ho).block X hX).trans h.x,⟨v',?_⟩,fun _=>by rw [ea]; exact ha,fun _=>eb⟩
  have e1:wsB a b c N1 N2 N3 (O.updB done b) = N1 ++ N2:=by unfold wsB; rw [ea,eb,ec,ha,hc]; simp
  rw [e1]
  exact hw.trans hw'
theorem WPh.s3 (h:WPh a b c X B bx v0 l N1 N2 N3 w0 done W) (hX:X < B) (hac:a ≠ c) (hbc:b ≠ c) (hb:done b = true) (hd:done c = false):∃ v,O.OutIs W B v (l ++ (N1 ++ N2)) ∧ ∀ v' W',O.Wr B v (l ++ (N1 ++ N2)) N3 W v' W' → WPh a b c X B bx v0 l N1 N2 N3 w0 (O.updB done c) W':=by
  obtain ⟨v,hw⟩:=h.wr
  have ha:=h.ob hb
  have e0:wsB a b c N1 N2 N3 done = N1 ++ N2:=by unfold wsB; rw [ha,hb,hd]; simp
  rw [e0] at hw
  have ho:=hw.out
  refine ⟨v,ho,fun v' W' hw'=>?_⟩
  have ea:O.updB done c a = done a:=if_neg hac
  have eb:O.updB done c b = done b:=if_neg hbc
  have ec:O.updB done c c = true:=if_pos rfl
  refine ⟨((hw'.below ho).block X hX).trans h.x,⟨v',?_⟩,fun _=>by rw [ea]; exact ha,fun _=>by rw [eb]; exact hb⟩
  have e1:wsB a b c N1 N2 N3 (O.updB done c) = (N1 ++ N2) ++ N3:=by unfold wsB; rw [ea,eb,ec,ha,hb]; simp
  rw [e1]
  exact hw.trans hw'
end
end H
def HdV0 (X B c j n:Nat):Nat → Value → Prop
  | 0,v=>v = .pointer (some ⟨B,0,none⟩)
  | 1,v=>v = .pointer (some ⟨X,0,none⟩)
  | 2,v=>v = .int .u64 (c:Nat)
  | 3,v=>v = .pointer (some ⟨B,0,none⟩)
  | 4,v=>v = .pointer (some ⟨X,1,none⟩)
  | 5,v=>v = .int .u64 (j:Nat)
  | 6,v=>v = .pointer (some ⟨B,0,none⟩)
  | 7,v=>v = .pointer (some ⟨X,2,none⟩)
  | 8,v=>v = .int .u64 (n:Nat)
  | 9,v=>v = .pointer (some ⟨B,0,none⟩)
  | _,_=>True
set_option maxHeartbeats 2000000 in
set_option maxRecDepth 100000 in
theorem hdw_any (p:Hd) (hp:p.Ok) (X B:Nat) (v:Value) (l:List UInt8) (w:World) (hx:w.heap[X]? = some (.cells p.cs 166)) (hX:X < B) (ho:O.OutIs w B v l) (hl:l.length ≤ 1000) :
    Calls Tryz.prog 145 #[.pointer (some ⟨B,0,none⟩),.pointer (some ⟨X,0,none⟩)] w fun e w'=>e = .returned (.tuple #[]) ∧ ∃ v',O.Wr B v l p.fl w v' w':=by
  obtain ⟨c,j,n,fr⟩:=p
  have HO:Hid _:=ho
  have HX:Hid (w.heap[X]? = some (.cells #[.int .u64 (c:Nat),.int .u64 (j:Nat),.int .u64 (n:Nat),.bool fr] 166)):=hx
  have hc1:c < 18446744073709551616:=hp.c
  have hj1:j < 18446744073709551616:=hp.j
  have hn1:n < 18446744073709551616:=hp.n
  have HFL:Hid ((Hd.mk c j n fr).fl = ((O.numB c 8 ++ O.numB j 8) ++ O.numB n 8) ++ O.numB (bitN fr) 1):=rfl
  clear ho hx hp
  go_enter Tryz.func145,Tryz.ntmps145
  go_wp2
  refine O.wp_region_ph (fun f=>⟨#[.pointer (some ⟨B,0,none⟩),.pointer (some ⟨X,0,none⟩),undef,undef,f 0,f 1,f 2,f 3,f 4,f 5,f 6,f 7,f 8,f 9,undef,undef,undef,undef,undef],[]⟩) (HdV0 X B c j n) (fun done _ W=>H.WPh 3 6 9 X B #[.int .u64 (c:Nat),.int .u64 (j:Nat),.int .u64 (n:Nat),.bool fr] v l (O.numB c 8) (O.numB j 8) (O.numB n 8) w done W) (fun i=>[undef,undef,undef,undef,undef,undef,undef,undef,undef,undef].getD i undef) (by kernel_rfl) rfl rfl ?hIa ?hputa ?stepa ?fina
  case hIa=>exact ⟨HX.out,⟨v,by show O.OutIs _ _ _ (l ++ []); rw [List.append_nil]; exact HO.out.below (Below.refl _ _).drew,⟨rfl,rfl,rfl,Nat.le_refl _,fun _ _ _ _=>rfl⟩,Or.inl rfl⟩,(fun e=>by cases e),(fun e=>by cases e)⟩
  case fina=>
    intro f w1 hP hV
    replace hP:H.WPh 3 6 9 X B #[.int .u64 (c:Nat),.int .u64 (j:Nat),.int .u64 (n:Nat),.bool fr] v l (O.numB c 8) (O.numB j 8) (O.numB n 8) w (fun i=>decide (i < 10)) w1:=hP
    have u0:f 0 = .pointer (some ⟨B,0,none⟩):=hV 0 (by decide)
    have u1:f 1 = .pointer (some ⟨X,0,none⟩):=hV 1 (by decide)
    have u2:f 2 = .int .u64 (c:Nat):=hV 2 (by decide)
    have u3:f 3 = .pointer (some ⟨B,0,none⟩):=hV 3 (by decide)
    have u4:f 4 = .pointer (some ⟨X,1,none⟩):=hV 4 (by decide)
    have u5:f 5 = .int .u64 (j:Nat):=hV 5 (by decide)
    have u6:f 6 = .pointer (some ⟨B,0,none⟩):=hV 6 (by decide)
    have u7:f 7 = .pointer (some ⟨X,2,none⟩):=hV 7 (by decide)
    have u8:f 8 = .int .u64 (n:Nat):=hV 8 (by decide)
    have u9:f 9 = .pointer (some ⟨B,0,none⟩):=hV 9 (by decide)
    clear hV
    generalize f 0 = x0 at *
    subst u0
    generalize f 1 = x1 at *
    subst u1
    generalize f 2 = x2 at *
    subst u2
    generalize f 3 = x3 at *
    subst u3
    generalize f 4 = x4 at *
    subst u4
    generalize f 5 = x5 at *
    subst u5
    generalize f 6 = x6 at *
    subst u6
    generalize f 7 = x7 at *
    subst u7
    generalize f 8 = x8 at *
    subst u8
    generalize f 9 = x9 at *
    subst u9
    obtain ⟨v1,hw1⟩:=hP.wr
    have HX1:Hid _:=hP.x
    have HW1:Hid (O.Wr B v l ((O.numB c 8 ++ O.numB j 8) ++ O.numB n 8) w v1 w1):=hw1
    have ho1:=HW1.out.out
    obtain ⟨ll,hll⟩:∃ ll,ll = l ++ ((O.numB c 8 ++ O.numB j 8) ++ O.numB n 8):=⟨_,rfl⟩
    have hlen:ll.length ≤ 1024:=by rw [hll]; simp [O.numB_length]; omega
    rw [← hll] at ho1
    have HO1:Hid _:=ho1
    have HLL:Hid _:=hll
    clear hP hw1 ho1 hll f
    have q3:w1.cell? ⟨X,3,none⟩ = some (.bool fr):=F.cell_of HX1.out 3
    have hl25:=bitN_le fr
    have hnum:=O.num_any B v1 ll (bitN fr) 1 w1 HO1.out (by omega) (by omega)
    have HE:Hid (∀ e W',(∃ v',e = Ending.returned (.pointer (some ⟨B,0,none⟩)) ∧ O.Wr B v1 ll (O.numB (bitN fr) 1) w1 v' W') → ∃ v2,O.Wr B v l (Hd.mk c j n fr).fl w v2 W'):=by
      rintro e W' ⟨v',-,hw⟩
      rw [HLL.out] at hw
      refine ⟨v',?_⟩
      rw [HFL.out]
      exact HW1.out.trans hw
    have hnum2:Calls Tryz.prog 68 #[.pointer (some ⟨B,0,none⟩),.int .u64 (bitN fr:Nat),.int .i64 1] w1 fun e w'=>e = .returned (.pointer (some ⟨B,0,none⟩)) ∧ ∃ v2,O.Wr B v l (Hd.mk c j n fr).fl w v2 w':=by
      refine hnum.mono ?_
      rintro e W' ⟨rfl,v',hw⟩
      exact ⟨rfl,HE.out _ _ ⟨v',rfl,by rw [show O.wd 1 = 1 by decide] at hw; exact hw⟩⟩
    clear hnum hl25
    cases fr with
    | true=>
      replace hnum2:Calls Tryz.prog 68 #[.pointer (some ⟨B,0,none⟩),.int .u64 1,.int .i64 1] w1 fun e w'=>e = .returned (.pointer (some ⟨B,0,none⟩)) ∧ ∃ v2,O.Wr B v l (Hd.mk c j n true).fl w v2 w':=hnum2
      clear HE HFL
      go_wp2_with fail
      go_call hnum2 as e w2 ⟨rfl,v2,hv2⟩
      have HV:Hid (O.Wr B v l (Hd.mk c j n true).fl w v2 w2):=hv2
      clear hnum2 hv2
      go_wp2
      go_returns
      exact ⟨rfl,v2,HV.out⟩
    | false=>
      replace hnum2:Calls Tryz.prog 68 #[.pointer (some ⟨B,0,none⟩),.int .u64 0,.int .i64 1] w1 fun e w'=>e = .returned (.pointer (some ⟨B,0,none⟩)) ∧ ∃ v2,O.Wr B v l (Hd.mk c j n false).fl w v2 w':=hnum2
      clear HE HFL
      go_wp2_with fail
      go_call hnum2 as e w2 ⟨rfl,v2,hv2⟩
      have HV:Hid (O.Wr B v l (Hd.mk c j n false).fl w v2 w2):=hv2
      clear hnum2 hv2
      go_wp2
      go_returns
      exact ⟨rfl,v2,HV.out⟩
  case hputa=>
    repeat (refine ⟨fun f v=>rfl,?_⟩)
    trivial
  case stepa=>
    refine ⟨?_,?_⟩
    · intro done f W hP hdn hd K hK
      clear hd
      replace hP:H.WPh 3 6 9 X B #[.int .u64 (c:Nat),.int .u64 (j:Nat),.int .u64 (n:Nat),.bool fr] v l (O.numB c 8) (O.numB j 8) (O.numB n 8) w done W:=hP
      go_simp
      exact hK _ _ rfl (hP.pure _ (by decide))
    refine ⟨?_,?_⟩
    · intro done f W hP hdn hd K hK
      clear hd
      replace hP:H.WPh 3 6 9 X B #[.int .u64 (c:Nat),.int .u64 (j:Nat),.int .u64 (n:Nat),.bool fr] v l (O.numB c 8) (O.numB j 8) (O.numB n 8) w done W:=hP
      go_simp
      exact hK _ _ rfl (hP.pure _ (by decide))
    refine ⟨?_,?_⟩
    · intro done f W hP hdn hd K hK
      have d1:=(hd.1 rfl).2
      have e1:done 1 = true:=(hd.1 rfl).1
      clear hd
      replace d1:f 1 = .pointer (some ⟨X,0,none⟩):=d1
      replace hP:H.WPh 3 6 9 X B #[.int .u64 (c:Nat),.int .u64 (j:Nat),.int .u64 (n:Nat),.bool fr] v l (O.numB c 8) (O.numB j 8) (O.numB n 8) w done W:=hP
      generalize f 1 = x1 at *
      subst d1
      clear e1
      have qc:=F.cell_of hP.x 0
      simp at qc
      go_simp
      exact hK _ _ rfl (hP.pure _ (by decide))
    refine ⟨?_,?_⟩
    · intro done f W hP hdn hd K hK
      have d0:=(hd.1 rfl).2
      have e0:done 0 = true:=(hd.1 rfl).1
      have d2:=(hd.2.1 rfl).2
      have e2:done 2 = true:=(hd.2.1 rfl).1
      clear hd
      replace d0:f 0 = .pointer (some ⟨B,0,none⟩):=d0
      replace d2:f 2 = .int .u64 (c:Nat):=d2
      replace hP:H.WPh 3 6 9 X B #[.int .u64 (c:Nat),.int .u64 (j:Nat),.int .u64 (n:Nat),.bool fr] v l (O.numB c 8) (O.numB j 8) (O.numB n 8) w done W:=hP
      generalize f 0 = x0 at *
      subst d0
      clear e0
      generalize f 2 = x2 at *
      subst d2
      clear e2
      have hdn3:done 3 = false:=hdn
      obtain ⟨v,hout,hnx⟩:=hP.s1 hX (by decide) (by decide) hdn3
      go_simp
      refine (O.num_any B v l c 8 W hout (by omega) (by omega)).mono ?_
      rintro e W' ⟨rfl,v',hw⟩
      exact hK _ _ rfl (hnx v' W' (by rw [show O.wd 8 = 8 by decide] at hw; exact hw))
    refine ⟨?_,?_⟩
    · intro done f W hP hdn hd K hK
      clear hd
      replace hP:H.WPh 3 6 9 X B #[.int .u64 (c:Nat),.int .u64 (j:Nat),.int .u64 (n:Nat),.bool fr] v l (O.numB c 8) (O.numB j 8) (O.numB n 8) w done W:=hP
      go_simp
      exact hK _ _ rfl (hP.pure _ (by decide))
    refine ⟨?_,?_⟩
    · intro done f W hP hdn hd K hK
      have d4:=(hd.1 rfl).2
      have e4:done 4 = true:=(hd.1 rfl).1
      clear hd
      replace d4:f 4 = .pointer (some ⟨X,1,none⟩):=d4
      replace hP:H.WPh 3 6 9 X B #[.int .u64 (c:Nat),.int .u64 (j:Nat),.int .u64 (n:Nat),.bool fr] v l (O.numB c 8) (O.numB j 8) (O.numB n 8) w done W:=hP
      generalize f 4 = x4 at *
      subst d4
      clear e4
      have qc:=F.cell_of hP.x 1
      simp at qc
      go_simp
      exact hK _ _ rfl (hP.pure _ (by decide))
    refine ⟨?_,?_⟩
    · intro done f W hP hdn hd K hK
      have d3:=(hd.1 rfl).2
      have e3:done 3 = true:=(hd.1 rfl).1
      have d5:=(hd.2.1 rfl).2
      have e5:done 5 = true:=(hd.2.1 rfl).1
      clear hd
      replace d3:f 3 = .pointer (some ⟨B,0,none⟩):=d3
      replace d5:f 5 = .int .u64 (j:Nat):=d5
      replace hP:H.WPh 3 6 9 X B #[.int .u64 (c:Nat),.int .u64 (j:Nat),.int .u64 (n:Nat),.bool fr] v l (O.numB c 8) (O.numB j 8) (O.numB n 8) w done W:=hP
      generalize f 3 = x3 at *
      subst d3
      generalize f 5 = x5 at *
      subst d5
      have hdn6:done 6 = false:=hdn
      obtain ⟨v,hout,hnx⟩:=hP.s2 hX (by decide) (by decide) e3 hdn6
      go_simp
      refine (O.num_any B v _ j 8 W hout (by omega) (by rw [List.length_append,O.numB_length]; omega)).mono ?_
      rintro e W' ⟨rfl,v',hw⟩
      exact hK _ _ rfl (hnx v' W' (by rw [show O.wd 8 = 8 by decide] at hw; exact hw))
    refine ⟨?_,?_⟩
    · intro done f W hP hdn hd K hK
      clear hd
      replace hP:H.WPh 3 6 9 X B #[.int .u64 (c:Nat),.int .u64 (j:Nat),.int .u64 (n:Nat),.bool fr] v l (O.numB c 8) (O.numB j 8) (O.numB n 8) w done W:=hP
      go_simp
      exact hK _ _ rfl (hP.pure _ (by decide))
    refine ⟨?_,?_⟩
    · intro done f W hP hdn hd K hK
      have d7:=(hd.1 rfl).2
      have e7:done 7 = true:=(hd.1 rfl).1
      clear hd
      replace d7:f 7 = .pointer (some ⟨X,2,none⟩):=d7
      replace hP:H.WPh 3 6 9 X B #[.int .u64 (c:Nat),.int .u64 (j:Nat),.int .u64 (n:Nat),.bool fr] v l (O.numB c 8) (O.numB j 8) (O.numB n 8) w done W:=hP
      generalize f 7 = x7 at *
      subst d7
      clear e7
      have qc:=F.cell_of hP.x 2
      simp at qc
      go_simp
      exact hK _ _ rfl (hP.pure _ (by decide))
    refine ⟨?_,?_⟩
    · intro done f W hP hdn hd K hK
      have d6:=(hd.1 rfl).2
      have e6:done 6 = true:=(hd.1 rfl).1
      have d8:=(hd.2.1 rfl).2
      have e8:done 8 = true:=(hd.2.1 rfl).1
      clear hd
      replace d6:f 6 = .pointer (some ⟨B,0,none⟩):=d6
      replace d8:f 8 = .int .u64 (n:Nat):=d8
      replace hP:H.WPh 3 6 9 X B #[.int .u64 (c:Nat),.int .u64 (j:Nat),.int .u64 (n:Nat),.bool fr] v l (O.numB c 8) (O.numB j 8) (O.numB n 8) w done W:=hP
      generalize f 6 = x6 at *
      subst d6
      generalize f 8 = x8 at *
      subst d8
      have hdn9:done 9 = false:=hdn
      obtain ⟨v,hout,hnx⟩:=hP.s3 hX (by decide) (by decide) e6 hdn9
      go_simp
      refine (O.num_any B v _ n 8 W hout (by omega) (by simp [O.numB_length]; omega)).mono ?_
      rintro e W' ⟨rfl,v',hw⟩
      exact hK _ _ rfl (hnx v' W' (by rw [show O.wd 8 = 8 by decide] at hw; exact hw))
    trivial
set_option maxHeartbeats 1000000 in
set_option maxRecDepth 100000 in
theorem hpack_any (p:Hd) (hp:p.Ok) (w:World):Calls Tryz.prog 121 #[.agg p.cs] w fun e w'=>e = .returned (.string p.sec) ∧ Below w.heap.size w w':=by
  have hs:=sector_any 145 #[.pointer (some ⟨w.heap.size,0,none⟩)] 72 p.fl (w.alloc (.cells p.cs 166)) (by decide) (by rw [Hd.fl_length]; decide) ent145 (fun v W ho hb=>by
    have e:(w.alloc (.cells p.cs 166)).heap.size = w.heap.size + 1:=by simp
    exact hdw_any p hp w.heap.size _ v _ W ((hb.block _ (by simp)).trans (F.heap_new _ _)) (by simp) ho (by rw [O.numB_length]; decide))
  have HB:Hid (Below w.heap.size w (w.alloc (.cells p.cs 166))):=Below.alloc (Below.refl _ _) (Nat.le_refl _) _
  replace hs:Calls Tryz.prog 66 #[.int .u64 72,.func (.func 145) #[] #[.pointer (some ⟨w.heap.size,0,none⟩)]] (w.alloc (.cells p.cs 166)) fun e w'=>e = .returned (.string p.sec) ∧ Below (w.alloc (.cells p.cs 166)).heap.size (w.alloc (.cells p.cs 166)) w':=hs
  generalize hy:p.sec = y at *
  have HY:Hid _:=hy
  clear hy
  unfold Hd.cs at *
  go_enter Tryz.func121,Tryz.ntmps121
  go_wp2_with fail
  go_call hs as e w2 ⟨rfl,hb2⟩
  have HB2:Hid (Below w.heap.size w w2):=HB.out.trans (hb2.mono (by simp))
  clear hs hb2 HB
  go_wp2
  go_returns
  exact ⟨rfl,HB2.out⟩
end Go.Proofs.YtncfbocbigdhiaaGreat

/- What a Head's fields are taken of, as a call. -/
namespace Go.Proofs.YtncfbocbigdhiaaGreat.H
set_option maxRecDepth 100000
open Go.RowKit
theorem size166:(Tryz.prog.info? 166).map (·.size) = some 4:=by kernel_rfl
theorem store4 {W:World} {B:Nat} {x0 x1 x2 x3:Value} {t:TypeId} (h:W.heap[B]? = some (.cells #[x0,x1,x2,x3] t)) (a b c d:Value) :
    ((((W.setCell ⟨B,0,none⟩ a).setCell ⟨B,1,none⟩ b).setCell ⟨B,2,none⟩ c).setCell ⟨B,3,none⟩ d).heap[B]? = some (.cells #[a,b,c,d] t):=by
  rw [F.block_set (F.block_set (F.block_set (F.block_set h a) b) c) d]; rfl
theorem four_of {c:Array Value} (h:c.size = 4):∃ x0 x1 x2 x3,c = #[x0,x1,x2,x3]:=by
  obtain ⟨l⟩:=c
  match l,h with
  | [a,b,c,d],_=>exact ⟨a,b,c,d,rfl⟩
section
variable {ops:Array Oper} {rest:List Oper} {op:Oper} {act:Act} {W:World} {Q:Exit → Act → World → Prop} {K:Act → World → Prop}
theorem cst6p (x y:Operand) (ho:op.op = .store 166 x y) (B:Nat) (c:Array Value) (hc:c.size = 4) (hx:act.eval x = .pointer (some ⟨B,0,none⟩)) (hy:act.eval y = .agg c) {c0:Array Value} (hc0:c0.size = 4) (h:W.heap[B]? = some (.cells c0 166)) (h1:c.all (·.oneCell') = true)
    (k:∀ W',Off B W W' → W'.heap[B]? = some (.cells c 166) → K (act.put op.dst undef) W'):op.wp Tryz.prog act W K Q:=by
  obtain ⟨a,b,c',d,rfl⟩:=four_of hc
  obtain ⟨x0,x1,x2,x3,rfl⟩:=four_of hc0
  refine wp_store_mid 166 x y ho B 0 #[a,b,c',d] hx hy ?_ size166 h1 (k _ (off_setCells _ _ _ _) ?_)
  · intro j hj
    have hj5:j < 4:=hj
    rw [Nat.zero_add,F.cell_of h,F.frz_of h]
    refine ⟨?_,rfl⟩
    rw [Array.getElem?_eq_getElem (by exact hj5)]; rfl
  · exact store4 h a b c' d
theorem cst6 (hgd:op.guard = none) (x y:Operand) (ho:op.op = .store 166 x y) (B:Nat) (c:Array Value) (hc:c.size = 4) (hx:act.eval x = .pointer (some ⟨B,0,none⟩)) (hy:act.eval y = .agg c) {c0:Array Value} (hc0:c0.size = 4) (h:W.heap[B]? = some (.cells c0 166)) (h1:c.all (·.oneCell') = true)
    (k:∀ W',Off B W W' → W'.heap[B]? = some (.cells c 166) → wpList Tryz.prog ops Q rest (act.put op.dst undef) W'):wpList Tryz.prog ops Q (op :: rest) act W:=
  wpList_plain hgd fun _ hK=>cst6p x y ho B c hc hx hy hc0 h h1 (fun W' a b=>hK _ _ (k W' a b))
theorem pldp (x:Operand) (ho:op.op = .load 166 x) (B:Nat) (c:Array Value) (hc:c.size = 4) (hx:act.eval x = .pointer (some ⟨B,0,none⟩)) (h:W.heap[B]? = some (.cells c 166)) (k:K (act.put op.dst (.agg c)) W):op.wp Tryz.prog act W K Q:=
  wp_load_row 166 x ho B hx 166 c (0,0) _ h Tryz.underlying166 rfl (by rw [size166,hc]) k
theorem pld (hgd:op.guard = none) (x:Operand) (ho:op.op = .load 166 x) (B:Nat) (c:Array Value) (hc:c.size = 4) (hx:act.eval x = .pointer (some ⟨B,0,none⟩)) (h:W.heap[B]? = some (.cells c 166)) (k:wpList Tryz.prog ops Q rest (act.put op.dst (.agg c)) W):wpList Tryz.prog ops Q (op :: rest) act W:=
  wpList_load_row hgd 166 x ho B hx 166 c (0,0) _ h Tryz.underlying166 rfl (by rw [size166,hc]) k
end
theorem pret1 {fn:Func} {p:Tmp} (h:fn.results = #[.cell p 166]) (tmps:Array Value) (w:World) (B:Nat) (cs:Array Value) (hs:cs.size = 4) (hp:tmps.getD p undef = .pointer (some ⟨B,0,none⟩)) (hg:w.heap[B]? = some (.cells cs 166)) :
    (results fn tmps).run Tryz.prog w = .ok (.agg cs) w:=results_cell_row h tmps w B 166 cs (0,0) _ hp hg Tryz.underlying166 rfl (by rw [size166,hs])
theorem pret2 {fn:Func} {p u:Tmp} (h:fn.results = #[.cell p 166,.tmp u]) (tmps:Array Value) (w:World) (B:Nat) (cs:Array Value) (v:Value) (hs:cs.size = 4) (hp:tmps.getD p undef = .pointer (some ⟨B,0,none⟩)) (hg:w.heap[B]? = some (.cells cs 166)) (hu:tmps.getD u undef = v) :
    (results fn tmps).run Tryz.prog w = .ok (.tuple #[.agg cs,v]) w:=by
  rw [results_cell_tmp h,hp,hu]
  simp [asAddr,run_loadVar_row w B 166 166 cs (0,0) _ hg Tryz.underlying166 rfl (by rw [size166,hs]),Result.andThen]
theorem _root_.Go.Proofs.YtncfbocbigdhiaaGreat.Hd.cs_size (p:Hd):p.cs.size = 4:=rfl
theorem _root_.Go.Proofs.YtncfbocbigdhiaaGreat.Hd.cs_one (p:Hd):p.cs.all (·.oneCell') = true:=by simp [Hd.cs,Value.oneCell']
structure Bx (I B:Nat) (w0:World) (c:Array Value) (s:ByteArray) (W:World):Prop where
  b:W.heap[B]? = some (.cells c 166)
  i:O.InIs W I s 0
  k:O.KI I w0 W
theorem Bx.call {I B:Nat} {w0:World} {c:Array Value} {s t:ByteArray} {W W':World} (h:Bx I B w0 c s W) (hne:B ≠ I) (hi:O.InIs W' I t 0) (hk:O.KI I W W'):Bx I B w0 c t W':=
  ⟨(hk.block B (Array.getElem?_eq_some_iff.1 h.b).1 hne).trans h.b,hi,h.k.trans hk⟩
theorem Bx.set {I B:Nat} {w0:World} {c:Array Value} {s:ByteArray} {W:World} (h:Bx I B w0 c s W) (hne:I ≠ B) (hB:w0.heap.size ≤ B) (o:Nat) (v:Value):Bx I B w0 (c.setIfInBounds o v) s (W.setCell ⟨B,o,none⟩ v):=
  ⟨F.block_set h.b v,InIs.off h.i ((Off.refl B W).set o v) hne,KI.off h.k ((Off.refl B W).set o v) hB⟩
set_option maxHeartbeats 2000000 in
set_option maxRecDepth 100000 in
theorem tocm_ok (p:Hd) (hp:p.Ok) (I:Nat) (r:List UInt8) (w:World) (hl:r.length ≤ 900) (h:O.InIs w I (O.tx (p.fl ++ r)) 0) :
    Calls Tryz.prog 164 #[.pointer (some ⟨I,0,none⟩)] w fun e w'=>e = .returned (.agg p.cs) ∧ O.InIs w' I (O.tx r) 0 ∧ O.KI I w w':=by
  obtain ⟨c,j,n,fr⟩:=p
  have hc1:c < 18446744073709551616:=hp.c
  have hj1:j < 18446744073709551616:=hp.j
  have hn1:n < 18446744073709551616:=hp.n
  have hn0:n ≠ 0:=by have:1 ≤ n:=hp.n0; omega
  have hbl:=bitN_le fr
  have hfl:(Hd.mk c j n fr).fl ++ r = O.numB c 8 ++ (O.numB j 8 ++ (O.numB n 8 ++ (O.numB (bitN fr) 1 ++ r))):=by
    show ((O.numB c 8 ++ O.numB j 8) ++ O.numB n 8) ++ O.numB (bitN fr) 1 ++ r = _
    simp only [List.append_assoc]
  rw [hfl] at h
  have hIl:=h.lt
  have L3:Hid ((O.numB (bitN fr) 1 ++ r).length ≤ 901):=by show _ ≤ _; rw [List.length_append,O.numB_length]; omega
  have L2:Hid ((O.numB n 8 ++ (O.numB (bitN fr) 1 ++ r)).length ≤ 909):=by show _ ≤ _; rw [List.length_append,O.numB_length]; have:=L3.out; omega
  have L1:Hid ((O.numB j 8 ++ (O.numB n 8 ++ (O.numB (bitN fr) 1 ++ r))).length ≤ 917):=by show _ ≤ _; rw [List.length_append,O.numB_length]; have:=L2.out; omega
  have hb0:Below w.heap.size w (w.alloc (.cells #[.int .u64 0,.int .u64 0,.int .u64 0,.bool false] 166)):=Below.alloc (Below.refl _ _) (Nat.le_refl _) _
  have X0:Hid (Bx I w.heap.size w #[.int .u64 0,.int .u64 0,.int .u64 0,.bool false] _ (w.alloc (.cells #[.int .u64 0,.int .u64 0,.int .u64 0,.bool false] 166))):=⟨F.heap_new _ _,h.below hb0,O.KI.ofBelow hb0⟩
  have hne:w.heap.size ≠ I:=by omega
  have HNE:Hid _:=hne
  have HB2:Hid (((if bitN fr = 1 then true else false):Bool) = fr):=by show _ = _; cases fr <;> rfl
  clear h hfl hb0 hp hIl hne
  go_enter Tryz.func164,Tryz.ntmps164
  go_wp2_with fail
  go_call (num_step I c 8 _ _ (by decide) hc1 (by have:=L1.out; omega) X0.out.i) as e w2 ⟨rfl,i2,k2⟩
  have X2:Hid _:=(X0.out.call HNE.out i2 k2).set (Ne.symm HNE.out) (Nat.le_refl _) 0 (.int .u64 (c:Nat))
  have b2:=F.cell_of (X0.out.call HNE.out i2 k2).b 0
  have f2:=F.frz_of (X0.out.call HNE.out i2 k2).b 0
  simp at b2
  clear i2 k2 X0 L1
  go_wp2_with fail
  generalize w2.setCell ⟨w.heap.size,0,none⟩ (.int .u64 (c:Nat)) = w3 at *
  clear b2 f2
  go_call (num_step I j 8 _ _ (by decide) hj1 (by have:=L2.out; omega) X2.out.i) as e w4 ⟨rfl,i4,k4⟩
  have X4:Hid _:=(X2.out.call HNE.out i4 k4).set (Ne.symm HNE.out) (Nat.le_refl _) 1 (.int .u64 (j:Nat))
  have b4:=F.cell_of (X2.out.call HNE.out i4 k4).b 1
  have f4:=F.frz_of (X2.out.call HNE.out i4 k4).b 1
  simp at b4
  clear i4 k4 X2 L2
  go_wp2_with fail
  generalize w4.setCell ⟨w.heap.size,1,none⟩ (.int .u64 (j:Nat)) = w5 at *
  clear b4 f4
  go_call (fromone_ok I n _ _ hn1 hn0 (by have:=L3.out; omega) X4.out.i) as e w6 ⟨rfl,i6,k6⟩
  have X6:Hid _:=(X4.out.call HNE.out i6 k6).set (Ne.symm HNE.out) (Nat.le_refl _) 2 (.int .u64 (n:Nat))
  have b6:=F.cell_of (X4.out.call HNE.out i6 k6).b 2
  have f6:=F.frz_of (X4.out.call HNE.out i6 k6).b 2
  simp at b6
  clear i6 k6 X4 L3
  go_wp2_with fail
  generalize w6.setCell ⟨w.heap.size,2,none⟩ (.int .u64 (n:Nat)) = w7 at *
  clear b6 f6
  go_call (among_ok I (bitN fr) 0 1 r _ (by omega) (by omega) (by omega) (by omega) X6.out.i) as e w8 ⟨rfl,i8,k8⟩
  have X8:Hid _:=(X6.out.call HNE.out i8 k8).set (Ne.symm HNE.out) (Nat.le_refl _) 3 (.bool fr)
  have b8:=F.cell_of (X6.out.call HNE.out i8 k8).b 3
  have f8:=F.frz_of (X6.out.call HNE.out i8 k8).b 3
  simp at b8
  clear i8 k8 X6
  have Y9:Hid (Bx I w.heap.size w (Hd.mk c j n fr).cs (O.tx r) (w8.setCell ⟨w.heap.size,3,none⟩ (.bool fr))):=X8.out
  clear X8 hbl
  have hq:decide (((bitN fr:Nat):Int) = 1) = fr:=by cases fr <;> rfl
  have hq2:(((bitN fr:Nat):Int) == 1) = fr:=by cases fr <;> rfl
  generalize ((bitN fr:Nat):Int) = bi at *
  go_wp2_with (first | (refine pld rfl _ rfl _ _ (Hd.cs_size _) rfl Y9.out.b ?_) | (refine pldp _ rfl _ _ (Hd.cs_size _) rfl Y9.out.b ?_) | (refine cst6 rfl _ _ rfl _ _ (Hd.cs_size _) rfl rfl (Hd.cs_size _) Y9.out.b (Hd.cs_one _) ?c9) | (refine cst6p _ _ rfl _ _ (Hd.cs_size _) rfl rfl (Hd.cs_size _) Y9.out.b (Hd.cs_one _) ?c9))
  intro wz hoz hkz
  have IZ:Hid _:=InIs.off Y9.out.i hoz (Ne.symm HNE.out)
  have KZ:Hid _:=KI.off Y9.out.k hoz (Nat.le_refl _)
  have BZ:Hid _:=hkz
  clear hoz hkz
  go_wp2
  refine bodyPost_ret (pret1 Tryz.results164 _ _ w.heap.size _ (Hd.cs_size _) rfl BZ.out) rfl ⟨rfl,IZ.out,KZ.out⟩
end Go.Proofs.YtncfbocbigdhiaaGreat.H

/- What is taken of a Head's sector, within Take, as a call. -/
namespace Go.Proofs.YtncfbocbigdhiaaGreat.H
set_option maxRecDepth 100000
open Go.RowKit
theorem ent164 (args:Array Value) (W:World):(callFunc 164 args).run Tryz.prog W = .ok (.enter 164 args) W:=O.enter_of Tryz.func164 (by kernel_rfl) (by kernel_rfl) args W
theorem ent176 (args:Array Value) (W:World):(callFunc 176 args).run Tryz.prog W = .ok (.enter 176 args) W:=O.enter_of Tryz.func176 (by kernel_rfl) (by kernel_rfl) args W
structure RdPh (I:Nat) (w:World) (r:List UInt8) (done:Nat → Bool) (W:World):Prop where
  k:O.KI I w W
  a:done 1 = false → O.InIs W I (O.tx (O.numB 72 1 ++ r)) 0
  b:done 1 = true → O.InIs W I (O.tx r) 0
theorem RdPh.pure {I:Nat} {w:World} {r:List UInt8} {done:Nat → Bool} {W:World} (h:RdPh I w r done W) (k:Nat) (hk:k ≠ 1):RdPh I w r (O.updB done k) W:=by
  have e:O.updB done k 1 = done 1:=if_neg (Ne.symm hk)
  exact ⟨h.k,by rw [e]; exact h.a,by rw [e]; exact h.b⟩
def RdV (I:Nat):Nat → Value → Prop
  | 0,v=>v = .pointer (some ⟨I,0,none⟩)
  | 1,v=>v = .int .u64 72
  | 2,v=>v = .int .u64 72
  | 3,v=>v = .bool false
  | _,_=>True
set_option maxHeartbeats 2000000 in
set_option maxRecDepth 100000 in
theorem rdin_ok (p:Hd) (hp:p.Ok) (I M F1 X:Nat) (z:Nat) (cx:Array Value) (hcx:cx.size = 4) (w:World) (hz:z ≤ 900) (h:O.InIs w I (O.tx (O.numB 72 1 ++ (p.fl ++ List.replicate z 0))) 0)
    (hM:w.heap[M]? = some (.cells #[.int .u64 72] 42)) (hF:w.heap[F1]? = some (.cells #[.func (.func 164) #[] #[]] 206)) (hX:w.heap[X]? = some (.cells cx 166)) (nM:M ≠ I) (nF:F1 ≠ I) (nX:X ≠ I) :
    Calls Tryz.prog 176 #[.pointer (some ⟨I,0,none⟩),.pointer (some ⟨M,0,none⟩),.pointer (some ⟨F1,0,none⟩),.pointer (some ⟨X,0,none⟩)] w fun e w'=>e = .returned (.tuple #[]) ∧ O.InIs w' I ⟨#[]⟩ 0 ∧ w'.heap[X]? = some (.cells p.cs 166) ∧ KX I X w w':=by
  have hpl:p.fl.length ≤ 51:=by rw [Hd.fl_length]; decide
  have HI:Hid _:=h
  have HM:Hid _:=hM
  have HF:Hid _:=hF
  have HX:Hid _:=hX
  have HP:Hid _:=hp
  have HCX:Hid _:=hcx
  have HLN:Hid ((p.fl ++ List.replicate z 0).length ≤ 951):=by show _ ≤ _; simp; omega
  have HNX:Hid _:=nX
  have HNM:Hid _:=nM
  have HNF:Hid _:=nF
  have lX:X < w.heap.size:=(Array.getElem?_eq_some_iff.1 hX).1
  have HLX:Hid _:=lX
  have lM:M < w.heap.size:=(Array.getElem?_eq_some_iff.1 hM).1
  have HLM:Hid _:=lM
  have lF:F1 < w.heap.size:=(Array.getElem?_eq_some_iff.1 hF).1
  have HLF:Hid _:=lF
  clear h hM hF hX hp hcx hpl nX nM nF lX lM lF
  go_enter Tryz.func176,Tryz.ntmps176
  go_wp2
  refine O.wp_region_ph (fun f=>⟨#[.pointer (some ⟨I,0,none⟩),.pointer (some ⟨M,0,none⟩),.pointer (some ⟨F1,0,none⟩),.pointer (some ⟨X,0,none⟩),undef,undef,f 0,f 1,f 2,f 3,undef,undef,undef,undef,undef,undef,undef,undef],[]⟩) (RdV I) (fun done _ W=>RdPh I w (p.fl ++ List.replicate z 0) done W) (fun i=>[undef,undef,undef,undef].getD i undef) (by kernel_rfl) rfl rfl ?hIa ?hputa ?stepa ?fina
  case hIa=>exact ⟨O.KI.ofBelow (Below.refl _ _).drew,fun _=>HI.out.below (Below.refl _ _).drew,(fun e=>by cases e)⟩
  case fina=>
    intro f w1 hP hV
    replace hP:RdPh I w (p.fl ++ List.replicate z 0) (fun i=>decide (i < 4)) w1:=hP
    have u0:f 0 = .pointer (some ⟨I,0,none⟩):=hV 0 (by decide)
    have u1:f 1 = .int .u64 72:=hV 1 (by decide)
    have u2:f 2 = .int .u64 72:=hV 2 (by decide)
    have u3:f 3 = .bool false:=hV 3 (by decide)
    clear hV
    generalize f 0 = x0 at *
    subst u0
    generalize f 1 = x1 at *
    subst u1
    generalize f 2 = x2 at *
    subst u2
    generalize f 3 = x3 at *
    subst u3
    have I1:Hid _:=hP.b rfl
    have K1:Hid _:=hP.k
    have qf:=F.cell_of ((hP.k.block F1 HLF.out HNF.out).trans HF.out) 0
    simp at qf
    clear hP f
    have hq:=ent164
    go_wp2_with fail
    go_call (tocm_ok p HP.out I (List.replicate z 0) w1 (by simp; omega) I1.out) as e w2 ⟨rfl,i2,k2⟩
    have hb3:Below w2.heap.size w2 (w2.alloc (.cells #[.int .u64 0,.int .u64 0,.int .u64 0,.bool false] 166)):=Below.alloc (Below.refl _ _) (Nat.le_refl _) _
    have hIl:I < w2.heap.size:=i2.lt
    have HIL:Hid _:=hIl
    have I3:Hid _:=i2.below hb3
    have K3:Hid _:=(K1.out.trans k2).trans (O.KI.ofBelow hb3)
    have B3:Hid ((w2.alloc (.cells #[.int .u64 0,.int .u64 0,.int .u64 0,.bool false] 166)).heap[w2.heap.size]? = _):=F.heap_new _ _
    have HS2:Hid (w.heap.size ≤ w2.heap.size):=Nat.le_trans K1.out.size k2.size
    clear i2 k2 hb3 hIl I1 K1 qf hq
    go_wp2_with (first | (refine cst6 rfl _ _ rfl _ _ (Hd.cs_size _) rfl rfl (by decide) B3.out (Hd.cs_one _) ?c3) | (refine cst6p _ _ rfl _ _ (Hd.cs_size _) rfl rfl (by decide) B3.out (Hd.cs_one _) ?c3))
    intro w4 ho4 hk4
    have I4:Hid _:=InIs.off I3.out ho4 (by have:=HIL.out; omega)
    have K4:Hid _:=KI.off K3.out ho4 HS2.out
    have B4:Hid _:=hk4
    have hz:=O.zero_any I (O.tx (List.replicate z 0)) (by rw [tx_size]; simp; omega) w4 I4.out
    clear ho4 hk4 I3 K3 B3
    go_wp2_with fail
    go_call hz as e w5 ⟨hyes,hno,hk5⟩
    obtain ⟨rfl,i5⟩:=hyes (O.zeros_rep z)
    have I5:Hid _:=i5
    have K5:Hid _:=K4.out.trans hk5
    have B5:Hid _:=(hk5.block _ (Array.getElem?_eq_some_iff.1 B4.out).1 (by have:=HIL.out; omega)).trans B4.out
    have X5:Hid _:=(K5.out.block X HLX.out HNX.out).trans HX.out
    clear hyes hno hk5 i5 hz I4 K4 B4
    go_wp2_with (first | (refine pld rfl _ rfl _ _ (Hd.cs_size _) rfl B5.out ?_) | (refine pldp _ rfl _ _ (Hd.cs_size _) rfl B5.out ?_) | (refine cst6 rfl _ _ rfl _ _ (Hd.cs_size _) rfl rfl HCX.out X5.out (Hd.cs_one _) ?c6) | (refine cst6p _ _ rfl _ _ (Hd.cs_size _) rfl rfl HCX.out X5.out (Hd.cs_one _) ?c6))
    intro w6 ho6 hk6
    have I6:Hid _:=InIs.off I5.out ho6 (Ne.symm HNX.out)
    have K6:Hid _:=(KX.ofKI K5.out).off ho6
    have X6:Hid _:=hk6
    clear ho6 hk6
    go_wp2
    go_returns
    exact ⟨rfl,I6.out,X6.out,K6.out⟩
  case hputa=>
    repeat (refine ⟨fun f v=>rfl,?_⟩)
    trivial
  case stepa=>
    refine ⟨?_,?_⟩
    · intro done f W hP hdn hd K hK
      clear hd
      replace hP:RdPh I w (p.fl ++ List.replicate z 0) done W:=hP
      go_simp
      exact hK _ _ rfl (hP.pure _ (by decide))
    refine ⟨?_,?_⟩
    · intro done f W hP hdn hd K hK
      have d0:=(hd.1 rfl).2
      have e0:done 0 = true:=(hd.1 rfl).1
      clear hd
      replace d0:f 0 = .pointer (some ⟨I,0,none⟩):=d0
      replace hP:RdPh I w (p.fl ++ List.replicate z 0) done W:=hP
      generalize f 0 = x0 at *
      subst d0
      clear e0
      have hdn1:done 1 = false:=hdn
      go_simp
      refine (num_step I 72 1 _ W (by decide) (by decide) (by have:=HLN.out; omega) (hP.a hdn1)).mono ?_
      rintro e W' ⟨rfl,h1,h2⟩
      exact hK _ _ rfl ⟨hP.k.trans h2,(fun e=>by cases e),fun _=>h1⟩
    refine ⟨?_,?_⟩
    · intro done f W hP hdn hd K hK
      clear hd
      replace hP:RdPh I w (p.fl ++ List.replicate z 0) done W:=hP
      have kb:=(hP.k.block M HLM.out HNM.out).trans HM.out
      have qc:=F.cell_of kb 0
      simp at qc
      go_simp
      exact hK _ _ rfl (hP.pure _ (by decide))
    refine ⟨?_,?_⟩
    · intro done f W hP hdn hd K hK
      have d1:=(hd.1 rfl).2
      have e1:done 1 = true:=(hd.1 rfl).1
      have d2:=(hd.2.1 rfl).2
      have e2:done 2 = true:=(hd.2.1 rfl).1
      clear hd
      replace d1:f 1 = .int .u64 72:=d1
      replace d2:f 2 = .int .u64 72:=d2
      replace hP:RdPh I w (p.fl ++ List.replicate z 0) done W:=hP
      generalize f 1 = x1 at *
      subst d1
      clear e1
      generalize f 2 = x2 at *
      subst d2
      clear e2
      go_simp
      exact hK _ _ rfl (hP.pure _ (by decide))
    trivial
end Go.Proofs.YtncfbocbigdhiaaGreat.H

/- A Head of its sector, and of any other, as calls. -/
namespace Go.Proofs.YtncfbocbigdhiaaGreat.H
set_option maxRecDepth 100000
open Go.RowKit
def cmz:Array Value:=#[.int .u64 0,.int .u64 0,.int .u64 0,.bool false]
structure Rd (w:World) (R:Array Value) (X:Array Value) (W:World):Prop where
  bel:Below w.heap.size w W
  m:W.heap[w.heap.size]? = some (.cells #[.int .u64 72] 42)
  f:W.heap[w.heap.size + 1]? = some (.cells #[.func (.func 164) #[] #[]] 206)
  r:W.heap[w.heap.size + 2]? = some (.cells R 166)
  x:W.heap[w.heap.size + 3]? = some (.cells X 166)
theorem Rd.lt {w:World} {R X:Array Value} {W:World} (h:Rd w R X W):w.heap.size + 4 ≤ W.heap.size:=by
  have:=(Array.getElem?_eq_some_iff.1 h.x).1; omega
theorem Rd.below {w:World} {R X:Array Value} {W W':World} (h:Rd w R X W) (hb:Below W.heap.size W W'):Rd w R X W':=by
  have hl:=h.lt
  exact ⟨h.bel.trans (hb.mono (by omega)),(hb.block _ (by omega)).trans h.m,(hb.block _ (by omega)).trans h.f,(hb.block _ (by omega)).trans h.r,(hb.block _ (by omega)).trans h.x⟩
theorem rd_start (w:World):Rd w cmz cmz ((((w.alloc (.cells #[.int .u64 72] 42)).alloc (.cells #[.func (.func 164) #[] #[]] 206)).alloc (.cells cmz 166)).alloc (.cells cmz 166)):=by
  have e1:(w.alloc (.cells #[.int .u64 72] 42)).heap.size = w.heap.size + 1:=by simp
  have e2:((w.alloc (.cells #[.int .u64 72] 42)).alloc (.cells #[.func (.func 164) #[] #[]] 206)).heap.size = w.heap.size + 2:=by simp
  have e3:(((w.alloc (.cells #[.int .u64 72] 42)).alloc (.cells #[.func (.func 164) #[] #[]] 206)).alloc (.cells cmz 166)).heap.size = w.heap.size + 3:=by simp
  refine ⟨(((Below.alloc (Below.refl _ _) (Nat.le_refl _) _).alloc (by omega) _).alloc (by omega) _).alloc (by omega) _,?_,?_,?_,?_⟩
  · rw [Below.heap_alloc _ _ _ (by omega),Below.heap_alloc _ _ _ (by omega),Below.heap_alloc _ _ _ (by omega)]; exact F.heap_new _ _
  · rw [Below.heap_alloc _ _ _ (by omega),Below.heap_alloc _ _ _ (by omega),← e1]; exact F.heap_new _ _
  · rw [Below.heap_alloc _ _ _ (by omega),← e2]; exact F.heap_new _ _
  · rw [← e3]; exact F.heap_new _ _
def RgV (s tl bd:ByteArray):Nat → Value → Prop
  | 0,v=>v = .string s
  | 1,v=>v = .string tl
  | 2,v=>v = .string bd
  | 3,v=>v = .string tl
  | 4,v=>v = .bool false
  | _,_=>True
def RhV (s tl bd ty:ByteArray):Nat → Value → Prop
  | 0,v=>v = .string s
  | 1,v=>v = .string tl
  | 2,v=>v = .string bd
  | 3,v=>v = .string ty
  | 4,v=>v = .bool true
  | _,_=>True
set_option maxHeartbeats 2000000 in
set_option maxRecDepth 100000 in
theorem read_back (s bd tl:ByteArray) (p:Hd) (hp:p.Ok) (w:World) (hs:s.size = 64) (h1:s.extract 0 60 = bd) (h2:s.extract 60 64 = tl) (hbd:bd.size = 60) (hb:bd = O.tx (bodyL 72 p.fl)) (ht:tl = O.tx (tailL bd)) :
    Calls Tryz.prog 163 #[.string s,.int .u64 72,.func (.func 164) #[] #[]] w fun e w'=>e = .returned (.tuple #[.agg p.cs,.int .i64 0]) ∧ Below w.heap.size w w':=by
  have HTA:Hid _:=fun W=>tail_any bd (by omega) W
  obtain ⟨U,hU⟩:∃ U:World,U = (((w.alloc (.cells #[.int .u64 72] 42)).alloc (.cells #[.func (.func 164) #[] #[]] 206)).alloc (.cells cmz 166)).alloc (.cells cmz 166):=⟨_,rfl⟩
  have HU:Hid (_ = (((w.alloc (.cells #[.int .u64 72] 42)).alloc (.cells #[.func (.func 164) #[] #[]] 206)).alloc (.cells #[.int .u64 0,.int .u64 0,.int .u64 0,.bool false] 166)).alloc (.cells #[.int .u64 0,.int .u64 0,.int .u64 0,.bool false] 166)):=hU
  have HR0:Hid (Rd w cmz cmz U):=by rw [hU]; exact rd_start w
  have HS:Hid _:=hs
  have H1:Hid _:=h1
  have H2:Hid _:=h2
  have HBD:Hid _:=hbd
  have HP:Hid _:=hp
  have HBB:Hid _:=hb
  rw [← ht] at HTA
  clear hp hb ht
  clear hU
  go_enter Tryz.func163,Tryz.ntmps163
  go_wp2
  rw [← HU.out]
  refine O.wp_region_ph (fun f=>⟨#[.string s,.int .u64 72,.func (.func 164) #[] #[],undef,.pointer (some ⟨w.heap.size,0,none⟩),.pointer (some ⟨w.heap.size + 1,0,none⟩),.pointer (some ⟨w.heap.size + 1 + 1,0,none⟩),.int .i64 0,.pointer (some ⟨w.heap.size + 1 + 1 + 1,0,none⟩),.string bd,undef,undef,.string s,.int .i64 64,.bool false,undef,.string s,.string bd,f 0,f 1,f 2,f 3,f 4,undef,undef,undef,undef,undef,undef,undef,undef,undef],[]⟩) (RgV s tl bd) (fun _ _ W=>Rd w cmz cmz W) (fun i=>[undef,undef,undef,undef,undef].getD i undef) (by kernel_rfl) rfl rfl ?hIa ?hputa ?stepa ?fina
  case hIa=>exact HR0.out.below (Below.refl _ _).drew
  case fina=>
    intro f w1 hP hV
    have u0:f 0 = .string s:=hV 0 (by decide)
    have u1:f 1 = .string tl:=hV 1 (by decide)
    have u2:f 2 = .string bd:=hV 2 (by decide)
    have u3:f 3 = .string tl:=hV 3 (by decide)
    have u4:f 4 = .bool false:=hV 4 (by decide)
    clear hV
    generalize f 0 = x0 at *
    subst u0
    generalize f 1 = x1 at *
    subst u1
    generalize f 2 = x2 at *
    subst u2
    generalize f 3 = x3 at *
    subst u3
    generalize f 4 = x4 at *
    subst u4
    replace hP:Rd w cmz cmz w1:=hP
    have R1:Hid _:=hP
    clear hP f
    have hl1:=R1.out.lt
    have hz:bodyL 72 p.fl = O.numB 72 1 ++ (p.fl ++ List.replicate (60 - (1 + p.fl.length)) 0):=by unfold bodyL; rw [List.append_assoc]
    have hW:=O.W0_below w1 bd
    have hsz:=O.W0_size w1 bd
    have hin:=O.W0_in w1 bd
    have htk0:=O.W0_tk w1 bd
    have hRW:=R1.out.below hW
    have htk:=O.take_ok 176 #[.pointer (some ⟨w.heap.size,0,none⟩),.pointer (some ⟨w.heap.size + 1,0,none⟩),.pointer (some ⟨w.heap.size + 3,0,none⟩)] bd ⟨#[]⟩ (fun W=>W.heap[w.heap.size + 3]? = some (.cells p.cs 166) ∧ W.heap[w.heap.size + 2]? = some (.cells cmz 166) ∧ Below w.heap.size w W) w1 ent176 (by
      have hin2:=hin
      conv at hin2=>arg 3; rw [HBB.out,hz]
      refine (rdin_ok p HP.out (w1.heap.size + 2) w.heap.size (w.heap.size + 1) (w.heap.size + 3) _ cmz rfl (O.W0 w1 bd) (by omega) hin2 hRW.m hRW.f hRW.x (by omega) (by omega) (by omega)).mono ?_
      rintro e W ⟨rfl,hi,hx,hkx⟩
      exact ⟨rfl,hi,htk0.keep (fun k hk=>hkx.block k (by omega) (by omega) (by omega)),hx,(hkx.block (w.heap.size + 2) (by omega) (by omega) (by omega)).trans hRW.r,hRW.bel.trans ⟨hkx.os,hkx.tape,hkx.output,hkx.size,fun k hk=>hkx.block k (by omega) (by omega) (by omega)⟩⟩)
    clear hW hsz hin htk0 hRW hz
    go_wp2_with fail
    go_call htk as e w2 ⟨rfl,W,⟨hx,hr,hbl⟩,hkt⟩
    have hWs:w.heap.size + 4 ≤ W.heap.size:=by have:=(Array.getElem?_eq_some_iff.1 hx).1; omega
    have X2:Hid _:=(hkt.block (w.heap.size + 3) (by omega) (by omega) (by omega)).trans hx
    have R2:Hid _:=(hkt.block (w.heap.size + 2) (by omega) (by omega) (by omega)).trans hr
    have B2:Hid (Below w.heap.size w w2):=hbl.trans ⟨hkt.os,hkt.tape,hkt.output,hkt.size,fun k hk=>hkt.block k (by omega) (by omega) (by omega)⟩
    clear htk hx hr hbl hkt hWs R1 hl1
    go_wp2_with (first | (refine pld rfl _ rfl _ _ (Hd.cs_size _) rfl X2.out ?_) | (refine pldp _ rfl _ _ (Hd.cs_size _) rfl X2.out ?_) | (refine cst6 rfl _ _ rfl _ _ (Hd.cs_size _) rfl rfl (by rfl) R2.out (Hd.cs_one _) ?c6) | (refine cst6p _ _ rfl _ _ (Hd.cs_size _) rfl rfl (by rfl) R2.out (Hd.cs_one _) ?c6))
    intro w6 ho6 hk6
    have B6:Hid _:=ho6.below B2.out (by omega)
    have R6:Hid _:=hk6
    clear ho6 hk6
    go_wp2
    refine bodyPost_ret (pret2 Tryz.results163 _ _ (w.heap.size + 2) _ _ (Hd.cs_size _) rfl R6.out rfl) rfl ⟨rfl,B6.out⟩
  case hputa=>
    repeat (refine ⟨fun f v=>rfl,?_⟩)
    trivial
  case stepa=>
    refine ⟨?_,?_⟩
    · intro done f W hP hdn hd K hK
      clear hd
      replace hP:Rd w cmz cmz W:=hP
      go_simp
      exact hK _ _ rfl hP
    refine ⟨?_,?_⟩
    · intro done f W hP hdn hd K hK
      have d0:=(hd.1 rfl).2
      have e0:done 0 = true:=(hd.1 rfl).1
      clear hd
      replace d0:f 0 = .string s:=d0
      replace hP:Rd w cmz cmz W:=hP
      generalize f 0 = x0 at *
      subst d0
      clear e0
      go_simp
      exact hK _ _ (by first | rfl | (show Value.string _ = _; rw [H2.out]) | (show Value.string _ = _; rw [HS.out,H2.out])) hP
    refine ⟨?_,?_⟩
    · intro done f W hP hdn hd K hK
      clear hd
      replace hP:Rd w cmz cmz W:=hP
      go_simp
      exact hK _ _ rfl hP
    refine ⟨?_,?_⟩
    · intro done f W hP hdn hd K hK
      have d2:=(hd.1 rfl).2
      have e2:done 2 = true:=(hd.1 rfl).1
      clear hd
      replace d2:f 2 = .string bd:=d2
      replace hP:Rd w cmz cmz W:=hP
      generalize f 2 = x2 at *
      subst d2
      clear e2
      go_simp
      refine (HTA.out W).mono ?_
      rintro e W' ⟨rfl,hb⟩
      exact hK _ _ rfl (hP.below hb)
    refine ⟨?_,?_⟩
    · intro done f W hP hdn hd K hK
      have d1:=(hd.1 rfl).2
      have e1:done 1 = true:=(hd.1 rfl).1
      have d3:=(hd.2.1 rfl).2
      have e3:done 3 = true:=(hd.2.1 rfl).1
      clear hd
      replace d1:f 1 = .string tl:=d1
      replace d3:f 3 = .string tl:=d3
      replace hP:Rd w cmz cmz W:=hP
      generalize f 1 = x1 at *
      subst d1
      clear e1
      generalize f 3 = x3 at *
      subst d3
      clear e3
      go_simp
      exact hK _ _ (by first | rfl | (show Value.bool _ = _; simp)) hP
    trivial
set_option maxHeartbeats 2000000 in
set_option maxRecDepth 100000 in
theorem read_no (s bd tl:ByteArray) (w:World) (hs:s.size = 64) (h1:s.extract 0 60 = bd) (h2:s.extract 60 64 = tl) (hbd:bd.size = 60) (hne:¬ tl = O.tx (tailL bd)) :
    Calls Tryz.prog 163 #[.string s,.int .u64 72,.func (.func 164) #[] #[]] w fun e w'=>e = .returned (.tuple #[.agg cmz,.int .i64 5]) ∧ Below w.heap.size w w':=by
  have HTA:Hid _:=fun W=>tail_any bd (by omega) W
  obtain ⟨U,hU⟩:∃ U:World,U = (((w.alloc (.cells #[.int .u64 72] 42)).alloc (.cells #[.func (.func 164) #[] #[]] 206)).alloc (.cells cmz 166)).alloc (.cells cmz 166):=⟨_,rfl⟩
  have HU:Hid (_ = (((w.alloc (.cells #[.int .u64 72] 42)).alloc (.cells #[.func (.func 164) #[] #[]] 206)).alloc (.cells #[.int .u64 0,.int .u64 0,.int .u64 0,.bool false] 166)).alloc (.cells #[.int .u64 0,.int .u64 0,.int .u64 0,.bool false] 166)):=hU
  have HR0:Hid (Rd w cmz cmz U):=by rw [hU]; exact rd_start w
  have HS:Hid _:=hs
  have H1:Hid _:=h1
  have H2:Hid _:=h2
  have HBD:Hid _:=hbd
  generalize O.tx (tailL bd) = ty at *
  clear hU
  go_enter Tryz.func163,Tryz.ntmps163
  go_wp2
  rw [← HU.out]
  refine O.wp_region_ph (fun f=>⟨#[.string s,.int .u64 72,.func (.func 164) #[] #[],undef,.pointer (some ⟨w.heap.size,0,none⟩),.pointer (some ⟨w.heap.size + 1,0,none⟩),.pointer (some ⟨w.heap.size + 1 + 1,0,none⟩),.int .i64 0,.pointer (some ⟨w.heap.size + 1 + 1 + 1,0,none⟩),.string bd,undef,undef,.string s,.int .i64 64,.bool false,undef,.string s,.string bd,f 0,f 1,f 2,f 3,f 4,undef,undef,undef,undef,undef,undef,undef,undef,undef],[]⟩) (RhV s tl bd ty) (fun _ _ W=>Rd w cmz cmz W) (fun i=>[undef,undef,undef,undef,undef].getD i undef) (by kernel_rfl) rfl rfl ?hIb ?hputb ?stepb ?finb
  case hIb=>exact HR0.out.below (Below.refl _ _).drew
  case finb=>
    intro f w1 hP hV
    have u0:f 0 = .string s:=hV 0 (by decide)
    have u1:f 1 = .string tl:=hV 1 (by decide)
    have u2:f 2 = .string bd:=hV 2 (by decide)
    have u3:f 3 = .string ty:=hV 3 (by decide)
    have u4:f 4 = .bool true:=hV 4 (by decide)
    clear hV
    generalize f 0 = x0 at *
    subst u0
    generalize f 1 = x1 at *
    subst u1
    generalize f 2 = x2 at *
    subst u2
    generalize f 3 = x3 at *
    subst u3
    generalize f 4 = x4 at *
    subst u4
    replace hP:Rd w cmz cmz w1:=hP
    have R1:Hid _:=hP
    clear hP f
    go_wp2_with (first | (refine pld rfl _ rfl _ _ (by rfl) rfl R1.out.x ?_) | (refine pldp _ rfl _ _ (by rfl) rfl R1.out.x ?_) | (refine cst6 rfl _ _ rfl _ _ (by rfl) rfl rfl (by rfl) R1.out.r (by simp [cmz,Value.oneCell']) ?d6) | (refine cst6p _ _ rfl _ _ (by rfl) rfl rfl (by rfl) R1.out.r (by simp [cmz,Value.oneCell']) ?d6))
    intro w6 ho6 hk6
    have B6:Hid _:=ho6.below R1.out.bel (by omega)
    have R6:Hid _:=hk6
    clear ho6 hk6
    go_wp2
    refine bodyPost_ret (pret2 Tryz.results163 _ _ (w.heap.size + 2) _ _ (by rfl) rfl R6.out rfl) rfl ⟨rfl,B6.out⟩
  case hputb=>
    repeat (refine ⟨fun f v=>rfl,?_⟩)
    trivial
  case stepb=>
    refine ⟨?_,?_⟩
    · intro done f W hP hdn hd K hK
      clear hd
      replace hP:Rd w cmz cmz W:=hP
      go_simp
      exact hK _ _ rfl hP
    refine ⟨?_,?_⟩
    · intro done f W hP hdn hd K hK
      have d0:=(hd.1 rfl).2
      have e0:done 0 = true:=(hd.1 rfl).1
      clear hd
      replace d0:f 0 = .string s:=d0
      replace hP:Rd w cmz cmz W:=hP
      generalize f 0 = x0 at *
      subst d0
      clear e0
      go_simp
      exact hK _ _ (by first | rfl | (show Value.string _ = _; rw [H2.out]) | (show Value.string _ = _; rw [HS.out,H2.out])) hP
    refine ⟨?_,?_⟩
    · intro done f W hP hdn hd K hK
      clear hd
      replace hP:Rd w cmz cmz W:=hP
      go_simp
      exact hK _ _ rfl hP
    refine ⟨?_,?_⟩
    · intro done f W hP hdn hd K hK
      have d2:=(hd.1 rfl).2
      have e2:done 2 = true:=(hd.1 rfl).1
      clear hd
      replace d2:f 2 = .string bd:=d2
      replace hP:Rd w cmz cmz W:=hP
      generalize f 2 = x2 at *
      subst d2
      clear e2
      go_simp
      refine (HTA.out W).mono ?_
      rintro e W' ⟨rfl,hb⟩
      exact hK _ _ rfl (hP.below hb)
    refine ⟨?_,?_⟩
    · intro done f W hP hdn hd K hK
      have d1:=(hd.1 rfl).2
      have e1:done 1 = true:=(hd.1 rfl).1
      have d3:=(hd.2.1 rfl).2
      have e3:done 3 = true:=(hd.2.1 rfl).1
      clear hd
      replace d1:f 1 = .string tl:=d1
      replace d3:f 3 = .string ty:=d3
      replace hP:Rd w cmz cmz W:=hP
      generalize f 1 = x1 at *
      subst d1
      clear e1
      generalize f 3 = x3 at *
      subst d3
      clear e3
      have hnl:¬ tl.toList = ty.toList:=fun e=>hne (by rw [ByteArray.toList_eq,ByteArray.toList_eq] at e; exact ByteArray.ext (Array.toList_inj.mp e))
      go_simp
      exact hK _ _ (by first | rfl | (show Value.bool _ = _; simp [hnl])) hP
    trivial
set_option maxHeartbeats 1000000 in
set_option maxRecDepth 100000 in
theorem tohead_of (s:ByteArray) (c:Array Value) (hc:c.size = 4) (h1:c.all (·.oneCell') = true) (er:Int) (w:World) (hr:∀ W,Calls Tryz.prog 163 #[.string s,.int .u64 72,.func (.func 164) #[] #[]] W fun e w'=>e = .returned (.tuple #[.agg c,.int .i64 er]) ∧ Below W.heap.size W w') :
    Calls Tryz.prog 142 #[.string s] w fun e w'=>e = .returned (.tuple #[.agg c,.int .i64 er]) ∧ Below w.heap.size w w':=by
  have HR:Hid _:=hr
  have HB:Hid (Below w.heap.size w (w.alloc (.cells #[.int .u64 0,.int .u64 0,.int .u64 0,.bool false] 166))):=Below.alloc (Below.refl _ _) (Nat.le_refl _) _
  have HN:Hid ((w.alloc (.cells #[.int .u64 0,.int .u64 0,.int .u64 0,.bool false] 166)).heap[w.heap.size]? = _):=F.heap_new _ _
  clear hr
  go_enter Tryz.func142,Tryz.ntmps142
  go_wp2_with fail
  go_call (HR.out _) as e w2 ⟨rfl,hb2⟩
  have N2:Hid _:=(hb2.block w.heap.size (by simp)).trans HN.out
  have B2:Hid (Below w.heap.size w w2):=HB.out.trans (hb2.mono (by simp))
  clear hb2 HB HN HR
  go_wp2_with (first | (refine cst6 rfl _ _ rfl _ _ hc rfl rfl (by rfl) N2.out h1 ?c6) | (refine cst6p _ _ rfl _ _ hc rfl rfl (by rfl) N2.out h1 ?c6))
  intro w6 ho6 hk6
  have B6:Hid _:=ho6.below B2.out (Nat.le_refl _)
  have R6:Hid _:=hk6
  clear ho6 hk6
  go_wp2
  refine bodyPost_ret (pret2 Tryz.results142 _ _ w.heap.size _ _ hc rfl R6.out rfl) rfl ⟨rfl,B6.out⟩
theorem tohead_back (p:Hd) (hp:p.Ok) (w:World):Calls Tryz.prog 142 #[.string p.sec] w fun e w'=>e = .returned (.tuple #[.agg p.cs,.int .i64 0]) ∧ Below w.heap.size w w':=by
  have hl:=bodyL_length 72 p.fl (by rw [Hd.fl_length]; decide)
  have e1:=tx_front (bodyL 72 p.fl) (tailL (O.tx (bodyL 72 p.fl)))
  have e2:=tx_back (bodyL 72 p.fl) (tailL (O.tx (bodyL 72 p.fl)))
  rw [hl] at e1 e2
  have hs:=p.sec_size
  have e2':p.sec.extract 60 64 = O.tx (tailL (O.tx (bodyL 72 p.fl))):=by rw [← hs]; exact e2
  exact tohead_of p.sec p.cs (Hd.cs_size _) (Hd.cs_one _) 0 w (fun W=>read_back p.sec _ _ p hp W hs e1 e2' (by rw [tx_size,hl]) rfl rfl)
structure RdN (I m:Nat) (w:World) (r:List UInt8) (done:Nat → Bool) (W:World):Prop where
  k:O.KI I w W
  a:done 1 = false → O.InIs W I (O.tx (O.numB m 1 ++ r)) 0
  b:done 1 = true → O.InIs W I (O.tx r) 0
theorem RdN.pure {I m:Nat} {w:World} {r:List UInt8} {done:Nat → Bool} {W:World} (h:RdN I m w r done W) (k:Nat) (hk:k ≠ 1):RdN I m w r (O.updB done k) W:=by
  have e:O.updB done k 1 = done 1:=if_neg (Ne.symm hk)
  exact ⟨h.k,by rw [e]; exact h.a,by rw [e]; exact h.b⟩
def RnV (I m:Nat):Nat → Value → Prop
  | 0,v=>v = .pointer (some ⟨I,0,none⟩)
  | 1,v=>v = .int .u64 (m:Nat)
  | 2,v=>v = .int .u64 72
  | 3,v=>v = .bool true
  | _,_=>True
set_option maxHeartbeats 2000000 in
set_option maxRecDepth 100000 in
theorem rdin_no (m:Nat) (hm:m ≠ 72) (hm2:m < 256) (r:List UInt8) (hr:r.length ≤ 900) (I M F1 X:Nat) (w:World) (h:O.InIs w I (O.tx (O.numB m 1 ++ r)) 0)
    (hM:w.heap[M]? = some (.cells #[.int .u64 72] 42)) (nM:M ≠ I) :
    Calls Tryz.prog 176 #[.pointer (some ⟨I,0,none⟩),.pointer (some ⟨M,0,none⟩),.pointer (some ⟨F1,0,none⟩),.pointer (some ⟨X,0,none⟩)] w fun e w'=>e = .panicked [O.brk I] ∧ O.InIs w' I (O.tx r) 4 ∧ O.KI I w w':=by
  have HI:Hid _:=h
  have HM:Hid _:=hM
  have HMB:Hid _:=hm2
  have HMI:Hid (¬ (m:Int) = 72):=by show ¬ _; omega
  have HLN:Hid _:=hr
  have HNM:Hid _:=nM
  have lM:M < w.heap.size:=(Array.getElem?_eq_some_iff.1 hM).1
  have HLM:Hid _:=lM
  clear h hM nM lM hm hm2 hr
  go_enter Tryz.func176,Tryz.ntmps176
  go_wp2
  refine O.wp_region_ph (fun f=>⟨#[.pointer (some ⟨I,0,none⟩),.pointer (some ⟨M,0,none⟩),.pointer (some ⟨F1,0,none⟩),.pointer (some ⟨X,0,none⟩),undef,undef,f 0,f 1,f 2,f 3,undef,undef,undef,undef,undef,undef,undef,undef],[]⟩) (RnV I m) (fun done _ W=>RdN I m w r done W) (fun i=>[undef,undef,undef,undef].getD i undef) (by kernel_rfl) rfl rfl ?hIa ?hputa ?stepa ?fina
  case hIa=>exact ⟨O.KI.ofBelow (Below.refl _ _).drew,fun _=>HI.out.below (Below.refl _ _).drew,(fun e=>by cases e)⟩
  case fina=>
    intro f w1 hP hV
    replace hP:RdN I m w r (fun i=>decide (i < 4)) w1:=hP
    have u0:f 0 = .pointer (some ⟨I,0,none⟩):=hV 0 (by decide)
    have u1:f 1 = .int .u64 (m:Nat):=hV 1 (by decide)
    have u2:f 2 = .int .u64 72:=hV 2 (by decide)
    have u3:f 3 = .bool true:=hV 3 (by decide)
    clear hV
    generalize f 0 = x0 at *
    subst u0
    generalize f 1 = x1 at *
    subst u1
    generalize f 2 = x2 at *
    subst u2
    generalize f 3 = x3 at *
    subst u3
    have I1:Hid _:=hP.b rfl
    have K1:Hid _:=hP.k
    have hfl:=O.fail_any I (O.tx r) 4 (by decide) w1 I1.out
    clear hP
    go_wp2_with fail
    go_call hfl as e w2 ⟨rfl,q1,q2⟩
    exact ⟨rfl,rfl,q1,K1.out.trans q2⟩
  case hputa=>
    repeat (refine ⟨fun f v=>rfl,?_⟩)
    trivial
  case stepa=>
    refine ⟨?_,?_⟩
    · intro done f W hP hdn hd K hK
      clear hd
      replace hP:RdN I m w r done W:=hP
      go_simp
      exact hK _ _ rfl (hP.pure _ (by decide))
    refine ⟨?_,?_⟩
    · intro done f W hP hdn hd K hK
      have d0:=(hd.1 rfl).2
      have e0:done 0 = true:=(hd.1 rfl).1
      clear hd
      replace d0:f 0 = .pointer (some ⟨I,0,none⟩):=d0
      replace hP:RdN I m w r done W:=hP
      generalize f 0 = x0 at *
      subst d0
      clear e0
      have hdn1:done 1 = false:=hdn
      go_simp
      refine (num_step I m 1 r W (by decide) (by have:=HMB.out; omega) (by have:=HLN.out; omega) (hP.a hdn1)).mono ?_
      rintro e W' ⟨rfl,h1,h2⟩
      exact hK _ _ rfl ⟨hP.k.trans h2,(fun e=>by cases e),fun _=>h1⟩
    refine ⟨?_,?_⟩
    · intro done f W hP hdn hd K hK
      clear hd
      replace hP:RdN I m w r done W:=hP
      have kb:=(hP.k.block M HLM.out HNM.out).trans HM.out
      have qc:=F.cell_of kb 0
      simp at qc
      go_simp
      exact hK _ _ rfl (hP.pure _ (by decide))
    refine ⟨?_,?_⟩
    · intro done f W hP hdn hd K hK
      have d1:=(hd.1 rfl).2
      have e1:done 1 = true:=(hd.1 rfl).1
      have d2:=(hd.2.1 rfl).2
      have e2:done 2 = true:=(hd.2.1 rfl).1
      clear hd
      replace d1:f 1 = .int .u64 (m:Nat):=d1
      replace d2:f 2 = .int .u64 72:=d2
      replace hP:RdN I m w r done W:=hP
      generalize f 1 = x1 at *
      subst d1
      clear e1
      generalize f 2 = x2 at *
      subst d2
      clear e2
      have hmi:((m:Int) != 72) = true:=bne_iff_ne.2 HMI.out
      go_simp
      exact hK _ _ (by first | rfl | (show Value.bool _ = Value.bool _; rw [hmi])) (hP.pure _ (by decide))
    trivial
set_option maxHeartbeats 2000000 in
set_option maxRecDepth 100000 in
theorem read_mark (s bd tl:ByteArray) (m:Nat) (hm:m ≠ 72) (hm2:m < 256) (r:List UInt8) (w:World) (hs:s.size = 64) (h1:s.extract 0 60 = bd) (h2:s.extract 60 64 = tl) (hbd:bd.size = 60) (hb:bd = O.tx (O.numB m 1 ++ r)) (ht:tl = O.tx (tailL bd)) :
    Calls Tryz.prog 163 #[.string s,.int .u64 72,.func (.func 164) #[] #[]] w fun e w'=>e = .returned (.tuple #[.agg cmz,.int .i64 4]) ∧ Below w.heap.size w w':=by
  have HRL:Hid (r.length ≤ 900):=by
    show _ ≤ _
    have:=hbd
    rw [hb,tx_size,List.length_append] at this
    omega
  have HTA:Hid _:=fun W=>tail_any bd (by omega) W
  obtain ⟨U,hU⟩:∃ U:World,U = (((w.alloc (.cells #[.int .u64 72] 42)).alloc (.cells #[.func (.func 164) #[] #[]] 206)).alloc (.cells cmz 166)).alloc (.cells cmz 166):=⟨_,rfl⟩
  have HU:Hid (_ = (((w.alloc (.cells #[.int .u64 72] 42)).alloc (.cells #[.func (.func 164) #[] #[]] 206)).alloc (.cells #[.int .u64 0,.int .u64 0,.int .u64 0,.bool false] 166)).alloc (.cells #[.int .u64 0,.int .u64 0,.int .u64 0,.bool false] 166)):=hU
  have HR0:Hid (Rd w cmz cmz U):=by rw [hU]; exact rd_start w
  have HS:Hid _:=hs
  have H1:Hid _:=h1
  have H2:Hid _:=h2
  have HBD:Hid _:=hbd
  have HM72:Hid _:=hm
  have HM256:Hid _:=hm2
  have HBB:Hid _:=hb
  rw [← ht] at HTA
  clear hm hm2 hb ht
  clear hU
  go_enter Tryz.func163,Tryz.ntmps163
  go_wp2
  rw [← HU.out]
  refine O.wp_region_ph (fun f=>⟨#[.string s,.int .u64 72,.func (.func 164) #[] #[],undef,.pointer (some ⟨w.heap.size,0,none⟩),.pointer (some ⟨w.heap.size + 1,0,none⟩),.pointer (some ⟨w.heap.size + 1 + 1,0,none⟩),.int .i64 0,.pointer (some ⟨w.heap.size + 1 + 1 + 1,0,none⟩),.string bd,undef,undef,.string s,.int .i64 64,.bool false,undef,.string s,.string bd,f 0,f 1,f 2,f 3,f 4,undef,undef,undef,undef,undef,undef,undef,undef,undef],[]⟩) (RgV s tl bd) (fun _ _ W=>Rd w cmz cmz W) (fun i=>[undef,undef,undef,undef,undef].getD i undef) (by kernel_rfl) rfl rfl ?hIa ?hputa ?stepa ?fina
  case hIa=>exact HR0.out.below (Below.refl _ _).drew
  case fina=>
    intro f w1 hP hV
    have u0:f 0 = .string s:=hV 0 (by decide)
    have u1:f 1 = .string tl:=hV 1 (by decide)
    have u2:f 2 = .string bd:=hV 2 (by decide)
    have u3:f 3 = .string tl:=hV 3 (by decide)
    have u4:f 4 = .bool false:=hV 4 (by decide)
    clear hV
    generalize f 0 = x0 at *
    subst u0
    generalize f 1 = x1 at *
    subst u1
    generalize f 2 = x2 at *
    subst u2
    generalize f 3 = x3 at *
    subst u3
    generalize f 4 = x4 at *
    subst u4
    replace hP:Rd w cmz cmz w1:=hP
    have R1:Hid _:=hP
    clear hP f
    have hl1:=R1.out.lt
    have hW:=O.W0_below w1 bd
    have hsz:=O.W0_size w1 bd
    have hin:=O.W0_in w1 bd
    have htk0:=O.W0_tk w1 bd
    have hRW:=R1.out.below hW
    have htk:=O.take_no 176 #[.pointer (some ⟨w.heap.size,0,none⟩),.pointer (some ⟨w.heap.size + 1,0,none⟩),.pointer (some ⟨w.heap.size + 3,0,none⟩)] bd (O.tx r) 4 (fun W=>W.heap[w.heap.size + 3]? = some (.cells cmz 166) ∧ W.heap[w.heap.size + 2]? = some (.cells cmz 166) ∧ Below w.heap.size w W) w1 ent176 (by
      have hin2:=hin
      conv at hin2=>arg 3; rw [HBB.out]
      refine (rdin_no m HM72.out HM256.out r HRL.out (w1.heap.size + 2) w.heap.size (w.heap.size + 1) (w.heap.size + 3) (O.W0 w1 bd) hin2 hRW.m (by omega)).mono ?_
      rintro e W ⟨rfl,hi,hkx⟩
      exact ⟨rfl,hi,htk0.keep (fun k hk=>hkx.block k (by omega) (by omega)),(hkx.block (w.heap.size + 3) (by omega) (by omega)).trans hRW.x,(hkx.block (w.heap.size + 2) (by omega) (by omega)).trans hRW.r,hRW.bel.trans ⟨hkx.os,hkx.tape,hkx.output,hkx.size,fun k hk=>hkx.block k (by omega) (by omega)⟩⟩)
    clear hW hsz hin htk0 hRW
    go_wp2_with fail
    go_call htk as e w2 ⟨rfl,W,⟨hx,hr,hbl⟩,hkt⟩
    have hWs:w.heap.size + 4 ≤ W.heap.size:=by have:=(Array.getElem?_eq_some_iff.1 hx).1; omega
    have X2:Hid _:=(hkt.block (w.heap.size + 3) (by omega) (by omega) (by omega)).trans hx
    have R2:Hid _:=(hkt.block (w.heap.size + 2) (by omega) (by omega) (by omega)).trans hr
    have B2:Hid (Below w.heap.size w w2):=hbl.trans ⟨hkt.os,hkt.tape,hkt.output,hkt.size,fun k hk=>hkt.block k (by omega) (by omega) (by omega)⟩
    clear htk hx hr hbl hkt hWs R1 hl1
    go_wp2_with (first | (refine pld rfl _ rfl _ _ (by rfl) rfl X2.out ?_) | (refine pldp _ rfl _ _ (by rfl) rfl X2.out ?_) | (refine cst6 rfl _ _ rfl _ _ (by rfl) rfl rfl (by rfl) R2.out (by simp [cmz,Value.oneCell']) ?c6) | (refine cst6p _ _ rfl _ _ (by rfl) rfl rfl (by rfl) R2.out (by simp [cmz,Value.oneCell']) ?c6))
    intro w6 ho6 hk6
    have B6:Hid _:=ho6.below B2.out (by omega)
    have R6:Hid _:=hk6
    clear ho6 hk6
    go_wp2
    refine bodyPost_ret (pret2 Tryz.results163 _ _ (w.heap.size + 2) _ _ (by rfl) rfl R6.out rfl) rfl ⟨rfl,B6.out⟩
  case hputa=>
    repeat (refine ⟨fun f v=>rfl,?_⟩)
    trivial
  case stepa=>
    refine ⟨?_,?_⟩
    · intro done f W hP hdn hd K hK
      clear hd
      replace hP:Rd w cmz cmz W:=hP
      go_simp
      exact hK _ _ rfl hP
    refine ⟨?_,?_⟩
    · intro done f W hP hdn hd K hK
      have d0:=(hd.1 rfl).2
      have e0:done 0 = true:=(hd.1 rfl).1
      clear hd
      replace d0:f 0 = .string s:=d0
      replace hP:Rd w cmz cmz W:=hP
      generalize f 0 = x0 at *
      subst d0
      clear e0
      go_simp
      exact hK _ _ (by first | rfl | (show Value.string _ = _; rw [H2.out]) | (show Value.string _ = _; rw [HS.out,H2.out])) hP
    refine ⟨?_,?_⟩
    · intro done f W hP hdn hd K hK
      clear hd
      replace hP:Rd w cmz cmz W:=hP
      go_simp
      exact hK _ _ rfl hP
    refine ⟨?_,?_⟩
    · intro done f W hP hdn hd K hK
      have d2:=(hd.1 rfl).2
      have e2:done 2 = true:=(hd.1 rfl).1
      clear hd
      replace d2:f 2 = .string bd:=d2
      replace hP:Rd w cmz cmz W:=hP
      generalize f 2 = x2 at *
      subst d2
      clear e2
      go_simp
      refine (HTA.out W).mono ?_
      rintro e W' ⟨rfl,hb⟩
      exact hK _ _ rfl (hP.below hb)
    refine ⟨?_,?_⟩
    · intro done f W hP hdn hd K hK
      have d1:=(hd.1 rfl).2
      have e1:done 1 = true:=(hd.1 rfl).1
      have d3:=(hd.2.1 rfl).2
      have e3:done 3 = true:=(hd.2.1 rfl).1
      clear hd
      replace d1:f 1 = .string tl:=d1
      replace d3:f 3 = .string tl:=d3
      replace hP:Rd w cmz cmz W:=hP
      generalize f 1 = x1 at *
      subst d1
      clear e1
      generalize f 3 = x3 at *
      subst d3
      clear e3
      go_simp
      exact hK _ _ (by first | rfl | (show Value.bool _ = _; simp)) hP
    trivial
theorem tohead_other (s:ByteArray) (hs:s.size = 64) (h0:s[0]? ≠ some 72):∃ er:Int,∀ w,Calls Tryz.prog 142 #[.string s] w fun e w'=>e = .returned (.tuple #[.agg cmz,.int .i64 er]) ∧ Below w.heap.size w w':=by
  have hbd:(s.extract 0 60).size = 60:=by rw [ByteArray.size_extract]; omega
  by_cases ht:s.extract 60 64 = O.tx (tailL (s.extract 0 60))
  · refine ⟨4,fun w=>tohead_of s cmz rfl (by simp [cmz,Value.oneCell']) 4 w (fun W=>?_)⟩
    obtain ⟨b,l,hl⟩:∃ b l,(s.extract 0 60).data.toList = b :: l:=by
      cases e:(s.extract 0 60).data.toList with
      | nil=>
        have:=O.size_list (s.extract 0 60)
        rw [e,hbd] at this
        exact absurd this (by decide)
      | cons b l=>exact ⟨b,l,rfl⟩
    have hb:s[0]? = some b:=by
      have e:=congrArg (fun l=>l[0]?) hl
      simp only [ByteArray.data_extract,Array.toList_extract,List.extract_eq_take_drop,List.drop_zero,List.getElem?_cons_zero] at e
      rw [List.getElem?_take_of_lt (by decide),Array.getElem?_toList] at e
      exact e
    have hn:O.numB b.toNat 1 = [b]:=by
      show [UInt8.ofNat (b.toNat / 256 ^ 0)] = [b]
      simp
    refine read_mark s _ _ b.toNat (fun e=>h0 ?_) b.toNat_lt l W hs rfl rfl hbd ?_ ht
    · rw [hb]
      congr 1
      exact UInt8.toNat_inj.1 e
    · rw [hn]
      apply ByteArray.ext
      apply Array.toList_inj.1
      rw [hl]; rfl
  · exact ⟨5,fun w=>tohead_of s cmz rfl (by simp [cmz,Value.oneCell']) 5 w (fun W=>read_no s _ _ W hs rfl rfl hbd ht)⟩
end Go.Proofs.YtncfbocbigdhiaaGreat.H
