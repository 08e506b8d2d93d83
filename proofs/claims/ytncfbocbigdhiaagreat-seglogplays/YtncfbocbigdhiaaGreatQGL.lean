/- Texts of this seat, one behind the other. -/
import Derived.Test.YtncfbocbigdhiaaGreatQGK
import Derived.Test.YtncfbocbigdhiaaGreatQKF
/- Append of a segment, over any medium that does it, or breaks it off, as a call. -/
namespace Go.Proofs.YtncfbocbigdhiaaGreat
open Go.RowKit
theorem F.Two.below {i:Nat} {X0 X1:World → Prop} {done:Nat → Bool} {f:Nat → Value} {W W':World} (h:F.Two i X0 X1 done f W) {k:Nat} (hk:k ≠ i) (h0:X0 W → X0 W') (h1:X1 W → X1 W') (v:Value):F.Two i X0 X1 (F.updB done k) (F.upd f k v) W':=by
  have e:F.updB done k i = done i:=if_neg (Ne.symm hk)
  exact ⟨by rw [e]; exact fun q=>h0 (h.a q),by rw [e]; exact fun q=>h1 (h.b q)⟩
structure KS6 (B:Nat) (w w':World):Prop where
  os:w'.os = w.os
  tape:w'.tape = w.tape
  output:w'.output = w.output
  size:w.heap.size ≤ w'.heap.size
  block:∀ k,k < w.heap.size → k ≠ B → w'.heap[k]? = w.heap[k]?
theorem KS6.set (B:Nat) (w:World) (o:Nat) (v:Value):KS6 B w (w.setCell ⟨B,o,none⟩ v):=
  ⟨rfl,rfl,rfl,by simp [World.setCell],fun k _ h=>Below.heap_setCell _ _ _ _ (by exact h)⟩
def V17a (Sb M b a:Nat) (x y:ByteArray):Nat → Value → Prop
  | 0,v=>v = .pointer (some ⟨Sb,0,none⟩)
  | 1,v=>v = .pointer (some ⟨Sb,0,none⟩)
  | 2,v=>v = .pointer (some ⟨Sb,0,none⟩)
  | 3,v=>v = .pointer (some ⟨M,0,none⟩)
  | 4,v=>v = .pointer (some ⟨Sb,0,none⟩)
  | 5,v=>v = .pointer (some ⟨Sb,0,none⟩)
  | 6,v=>v = .pointer (some ⟨Sb,4,none⟩)
  | 7,v=>v = .int .i64 (b:Nat)
  | 8,v=>v = .int .i64 (a:Nat)
  | 9,v=>v = .int .i64 ((b + a:Nat):Int)
  | 10,v=>v = .int .i64 ((b + a + 1:Nat):Int)
  | 11,v=>v = .string x
  | 12,v=>v = .string y
  | _,_=>True
def V17b (Sb M b a:Nat) (x z:ByteArray) (cs:Array Value):Nat → Value → Prop
  | 0,v=>v = .pointer (some ⟨Sb,0,none⟩)
  | 1,v=>v = .pointer (some ⟨Sb,0,none⟩)
  | 2,v=>v = .pointer (some ⟨Sb,0,none⟩)
  | 3,v=>v = .pointer (some ⟨M,0,none⟩)
  | 4,v=>v = .pointer (some ⟨Sb,0,none⟩)
  | 5,v=>v = .pointer (some ⟨Sb,0,none⟩)
  | 6,v=>v = .pointer (some ⟨Sb,4,none⟩)
  | 7,v=>v = .int .i64 (b:Nat)
  | 8,v=>v = .int .i64 (a:Nat)
  | 9,v=>v = .int .i64 ((b + a:Nat):Int)
  | 10,v=>v = .pointer (some ⟨Sb,0,none⟩)
  | 11,v=>v = .int .i64 (a:Nat)
  | 12,v=>v = .string x
  | 13,v=>v = .agg cs
  | 14,v=>v = .string z
  | _,_=>True
set_option maxHeartbeats 4000000 in
set_option maxRecDepth 100000 in
theorem append_brk (sr:Int) (Bk:World → Prop) (s:Sg) (hs:s.Ok) (Sb:Nat) (x:ByteArray) (k:Nat) (hk:1 ≤ k) (hroom:s.a + k < s.p) (hx:x.size = 63 * k) (R:Nat → World → Prop) (w:World)
    (hR:∀ i W W',R i W → Below W.heap.size W W' → R i W') (hS:∀ i W,R i W → W.heap[Sb]? = some (.cells s.cs 44)) (h0:R 0 w)
    (hw1:∀ W,R 0 W → Calls Tryz.prog 28 #[.pointer (some ⟨s.M,0,none⟩),.int .i64 ((s.b + s.a + 1:Nat):Int),.string (O.tx (secP x k))] W fun e W'=>(e = .returned (.tuple #[]) ∧ R 1 W') ∨ (∃ E,e = .panicked [F.fl sr E] ∧ Bk W'))
    (hf1:∀ W,R 1 W → Calls Tryz.prog 55 #[.pointer (some ⟨s.M,0,none⟩)] W fun e W'=>(e = .returned (.tuple #[]) ∧ R 2 W') ∨ (∃ E,e = .panicked [F.fl sr E] ∧ Bk W'))
    (hw2:∀ W,R 2 W → Calls Tryz.prog 28 #[.pointer (some ⟨s.M,0,none⟩),.int .i64 ((s.b + s.a:Nat):Int),.string (s.cm s.a x).sec] W fun e W'=>(e = .returned (.tuple #[]) ∧ R 3 W') ∨ (∃ E,e = .panicked [F.fl sr E] ∧ Bk W'))
    (hf2:∀ W,R 3 W → Calls Tryz.prog 55 #[.pointer (some ⟨s.M,0,none⟩)] W fun e W'=>(e = .returned (.tuple #[]) ∧ R 4 W') ∨ (∃ E,e = .panicked [F.fl sr E] ∧ Bk W')) :
    Calls Tryz.prog 17 #[.pointer (some ⟨Sb,0,none⟩),.string x] w fun e w'=>(e = .returned (.int .i64 (s.a:Nat)) ∧ ∃ w2,R 4 w2 ∧ KS6 Sb w2 w' ∧ w'.heap[Sb]? = some (.cells (Sg.cs { s with a:=s.a + 1 + k }) 44)) ∨ (∃ E,e = .panicked [F.fl sr E] ∧ Bk w'):=by
  obtain ⟨M,c,j,n,b,p,a⟩:=s
  have hb1:b ≤ 10000:=hs.b
  have hp1:p ≤ 64:=hs.p1
  have ha0:1 ≤ a:=hs.a0
  have hroom1:a + k < p:=hroom
  have hcmok:((Sg.mk M c j n b p a).cm a x).Ok:=⟨hs.c,hs.j,hs.n,ha0,by show 1 ≤ x.size / 63; omega,by show a + x.size / 63 ≤ 63; omega,sm_lt x⟩
  have HCM:Hid (∀ W,W.heap[Sb]? = some (.cells (Sg.mk M c j n b p a).cs 44) → Calls Tryz.prog 56 #[.pointer (some ⟨Sb,0,none⟩),.int .i64 (a:Nat),.string x] W fun e w'=>e = .returned (.agg ((Sg.mk M c j n b p a).cm a x).cs) ∧ Below W.heap.size W w'):=fun W h=>commit_any _ Sb a x (by omega) W h
  have HPK:Hid (∀ W,Calls Tryz.prog 29 #[.agg ((Sg.mk M c j n b p a).cm a x).cs] W fun e w'=>e = .returned (.string ((Sg.mk M c j n b p a).cm a x).sec) ∧ Below W.heap.size W w'):=fun W=>cpack_any _ hcmok W
  have HSE:Hid (∀ W,Calls Tryz.prog 54 #[.string x] W fun e w'=>e = .returned (.string (O.tx (secP x k))) ∧ Below W.heap.size W w'):=fun W=>sectors_any x k hx (by omega) W
  have HRM:Hid (∀ W,W.heap[Sb]? = some (.cells (Sg.mk M c j n b p a).cs 44) → Calls Tryz.prog 14 #[.pointer (some ⟨Sb,0,none⟩),.int .i64 (k:Nat)] W fun e w'=>e = .returned (.bool true) ∧ Below W.heap.size W w'):=fun W h=>by
    have q:=room_any (Sg.mk M c j n b p a) Sb (k:Nat) W h ⟨by show p ≤ 1000; omega,by show a ≤ 1000; omega⟩
    rw [decide_eq_true (by show (0:Int) < (k:Nat) ∧ ((k:Nat):Int) < (p:Nat) - (a:Nat); omega)] at q
    exact q
  have HW1:Hid (∀ W,R 0 W → Calls Tryz.prog 28 #[.pointer (some ⟨M,0,none⟩),.int .i64 ((b + a + 1:Nat):Int),.string (O.tx (secP x k))] W fun e W'=>(e = .returned (.tuple #[]) ∧ R 1 W') ∨ (∃ E,e = .panicked [F.fl sr E] ∧ Bk W')):=hw1
  have HF1:Hid (∀ W,R 1 W → Calls Tryz.prog 55 #[.pointer (some ⟨M,0,none⟩)] W fun e W'=>(e = .returned (.tuple #[]) ∧ R 2 W') ∨ (∃ E,e = .panicked [F.fl sr E] ∧ Bk W')):=hf1
  have HW2:Hid (∀ W,R 2 W → Calls Tryz.prog 28 #[.pointer (some ⟨M,0,none⟩),.int .i64 ((b + a:Nat):Int),.string ((Sg.mk M c j n b p a).cm a x).sec] W fun e W'=>(e = .returned (.tuple #[]) ∧ R 3 W') ∨ (∃ E,e = .panicked [F.fl sr E] ∧ Bk W')):=hw2
  have HF2:Hid (∀ W,R 3 W → Calls Tryz.prog 55 #[.pointer (some ⟨M,0,none⟩)] W fun e W'=>(e = .returned (.tuple #[]) ∧ R 4 W') ∨ (∃ E,e = .panicked [F.fl sr E] ∧ Bk W')):=hf2
  have HR:Hid _:=hR
  have HS:Hid (∀ i W,R i W → W.heap[Sb]? = some (.cells (Sg.mk M c j n b p a).cs 44)):=hS
  have hbx:=hS 0 w h0
  have g6:w.cell? ⟨Sb,6,none⟩ = some (.int .i64 (a:Nat)):=F.cell_of hbx 6
  have R00:Hid _:=h0
  have hrm:=HRM.out w hbx
  clear hR hS h0 hw1 hf1 hw2 hf2 hs hroom hcmok hbx
  show Calls Tryz.prog 17 #[.pointer (some ⟨Sb,0,none⟩),.string x] w fun e w'=>(e = .returned (.int .i64 (a:Nat)) ∧ ∃ w2,R 4 w2 ∧ KS6 Sb w2 w' ∧ w'.heap[Sb]? = some (.cells (Sg.mk M c j n b p (a + 1 + k)).cs 44)) ∨ (∃ E,e = .panicked [F.fl sr E] ∧ Bk w')
  have HKX:Hid (x.size = 63 * k):=hx
  generalize ((Sg.mk M c j n b p a).cm a x).sec = z at *
  generalize ((Sg.mk M c j n b p a).cm a x).cs = cs at *
  generalize O.tx (secP x k) = y at *
  have hd1:((x.size:Nat):Int).tdiv 63 = (k:Nat):=by rw [hx,Int.tdiv_eq_ediv_of_nonneg (by omega)]; omega
  have hd2:((x.size:Nat):Int).tmod 63 = 0:=by rw [hx,Int.tmod_eq_emod_of_nonneg (by omega)]; omega
  have hxk:(x.size:Int) / 63 = (k:Int):=by rw [hx]; omega
  have hxm:(x.size:Int) % 63 = 0:=by rw [hx]; omega
  have hwk:IntKind.i64.wrap (k:Int) = (k:Int):=by rw [IntKind.wrap_i64]; omega
  have ha1:¬ (a:Int) < 1:=by omega
  clear hx
  go_enter Tryz.func17,Tryz.ntmps17
  go_wp2_with fail
  go_call hrm as e w0 ⟨rfl,hb0⟩
  have R0:Hid _:=HR.out 0 _ _ R00.out hb0
  have g6:w0.cell? ⟨Sb,6,none⟩ = some (.int .i64 (a:Nat)):=F.cell_of (HS.out 0 _ R0.out) 6
  clear hrm hb0 R00
  go_wp2
  refine F.wp_region_pb (fun f=>⟨#[.pointer (some ⟨Sb,0,none⟩),.string x,undef,undef,.int .i64 0,.int .i64 (k:Int),.int .i64 (a:Int),.string x,.int .i64 (x.size:Int),.int .i64 (k:Int),.string x,.int .i64 (x.size:Int),.int .i64 0,.bool false,.bool false,.pointer (some ⟨Sb,0,none⟩),.pointer (some ⟨Sb,0,none⟩),.pointer (some ⟨Sb,6,none⟩),.int .i64 (a:Int),.bool false,.bool false,.bool false,.pointer (some ⟨Sb,0,none⟩),.int .i64 (k:Int),.bool true,.bool false,.bool false,.pointer (some ⟨Sb,0,none⟩),.pointer (some ⟨Sb,0,none⟩),.pointer (some ⟨Sb,6,none⟩),.int .i64 (a:Int),f 0,f 1,f 2,f 3,f 4,f 5,f 6,f 7,f 8,f 9,f 10,f 11,f 12,f 13,undef,undef,undef,undef,undef,undef,undef,undef,undef,undef,undef,undef,undef,undef,undef,undef,undef,undef,undef,undef,undef,undef,undef,undef,undef,undef,undef,undef,undef,undef,undef,undef,undef,undef],[]⟩) (V17a Sb M b a x y) (F.Two 13 (R 0) (R 1)) (fun i=>[undef,undef,undef,undef,undef,undef,undef,undef,undef,undef,undef,undef,undef,undef].getD i undef) (by kernel_rfl) rfl rfl ?hIa ?hputa ?stepa ?fina
  case hIa=>exact ⟨fun _=>HR.out 0 _ _ R0.out (Below.refl _ _).drew,(fun e=>by cases e)⟩
  case fina=>
    intro f w1 hP hV
    have R1:Hid _:=hP.b rfl
    have u0:f 0 = .pointer (some ⟨Sb,0,none⟩):=hV 0 (by decide)
    have u1:f 1 = .pointer (some ⟨Sb,0,none⟩):=hV 1 (by decide)
    have u2:f 2 = .pointer (some ⟨Sb,0,none⟩):=hV 2 (by decide)
    have u3:f 3 = .pointer (some ⟨M,0,none⟩):=hV 3 (by decide)
    have u4:f 4 = .pointer (some ⟨Sb,0,none⟩):=hV 4 (by decide)
    have u5:f 5 = .pointer (some ⟨Sb,0,none⟩):=hV 5 (by decide)
    have u6:f 6 = .pointer (some ⟨Sb,4,none⟩):=hV 6 (by decide)
    have u7:f 7 = .int .i64 (b:Nat):=hV 7 (by decide)
    have u8:f 8 = .int .i64 (a:Nat):=hV 8 (by decide)
    have u9:f 9 = .int .i64 ((b + a:Nat):Int):=hV 9 (by decide)
    have u10:f 10 = .int .i64 ((b + a + 1:Nat):Int):=hV 10 (by decide)
    have u11:f 11 = .string x:=hV 11 (by decide)
    have u12:f 12 = .string y:=hV 12 (by decide)
    clear hV hP
    generalize f 0 = z0 at *
    subst u0
    generalize f 1 = z1 at *
    subst u1
    generalize f 2 = z2 at *
    subst u2
    generalize f 3 = z3 at *
    subst u3
    generalize f 4 = z4 at *
    subst u4
    generalize f 5 = z5 at *
    subst u5
    generalize f 6 = z6 at *
    subst u6
    generalize f 7 = z7 at *
    subst u7
    generalize f 8 = z8 at *
    subst u8
    generalize f 9 = z9 at *
    subst u9
    generalize f 10 = z10 at *
    subst u10
    generalize f 11 = z11 at *
    subst u11
    generalize f 12 = z12 at *
    subst u12
    generalize f 13 = z13 at *
    clear f
    have hb1:=HS.out 1 _ R1.out
    have g0:=F.cell_of hb1 0
    have g6:=F.cell_of hb1 6
    have k6:=F.frz_of hb1 6
    replace g0:w1.cell? ⟨Sb,0,none⟩ = some (.pointer (some ⟨M,0,none⟩)):=g0
    replace g6:w1.cell? ⟨Sb,6,none⟩ = some (.int .i64 (a:Nat)):=g6
    go_wp2_with fail
    go_call (HF1.out w1 R1.out) as e w2 (⟨rfl,hr2⟩ | ⟨E,rfl,hB⟩)
    case hr.inr=>
      have HB:Hid _:=hB
      clear hB
      go_wp2
      exact ⟨rfl,Or.inr ⟨E,rfl,HB.out⟩⟩
    have R2:Hid _:=hr2
    clear hr2 g0 g6 k6 hb1
    have hb2:=HS.out 2 _ R2.out
    have g0:=F.cell_of hb2 0
    have g6:=F.cell_of hb2 6
    have k6:=F.frz_of hb2 6
    replace g0:w2.cell? ⟨Sb,0,none⟩ = some (.pointer (some ⟨M,0,none⟩)):=g0
    replace g6:w2.cell? ⟨Sb,6,none⟩ = some (.int .i64 (a:Nat)):=g6
    go_wp2
    clear g0 g6 k6 hb2
    refine F.wp_region_pb (fun f=>⟨#[.pointer (some ⟨Sb,0,none⟩),.string x,undef,undef,.int .i64 0,.int .i64 (k:Int),.int .i64 (a:Int),.string x,.int .i64 (x.size:Int),.int .i64 (k:Int),.string x,.int .i64 (x.size:Int),.int .i64 0,.bool false,.bool false,.pointer (some ⟨Sb,0,none⟩),.pointer (some ⟨Sb,0,none⟩),.pointer (some ⟨Sb,6,none⟩),.int .i64 (a:Int),.bool false,.bool false,.bool false,.pointer (some ⟨Sb,0,none⟩),.int .i64 (k:Int),.bool true,.bool false,.bool false,.pointer (some ⟨Sb,0,none⟩),.pointer (some ⟨Sb,0,none⟩),.pointer (some ⟨Sb,6,none⟩),.int .i64 (a:Int),.pointer (some ⟨Sb,0,none⟩),.pointer (some ⟨Sb,0,none⟩),.pointer (some ⟨Sb,0,none⟩),.pointer (some ⟨M,0,none⟩),.pointer (some ⟨Sb,0,none⟩),.pointer (some ⟨Sb,0,none⟩),.pointer (some ⟨Sb,4,none⟩),.int .i64 (b:Int),.int .i64 (a:Int),.int .i64 ((b:Int) + (a:Int)),.int .i64 ((b:Int) + (a:Int) + 1),.string x,.string y,z13,.pointer (some ⟨Sb,0,none⟩),.pointer (some ⟨Sb,0,none⟩),.pointer (some ⟨Sb,0,none⟩),.pointer (some ⟨M,0,none⟩),.tuple #[],f 0,f 1,f 2,f 3,f 4,f 5,f 6,f 7,f 8,f 9,f 10,f 11,f 12,f 13,f 14,f 15,undef,undef,undef,undef,undef,undef,undef,undef,undef,undef,undef,undef,undef],[]⟩) (V17b Sb M b a x z cs) (F.Two 15 (R 2) (R 3)) (fun i=>[undef,undef,undef,undef,undef,undef,undef,undef,undef,undef,undef,undef,undef,undef,undef,undef].getD i undef) (by kernel_rfl) rfl rfl ?hIb ?hputb ?stepb ?finb
    case hIb=>exact ⟨fun _=>HR.out 2 _ _ R2.out (Below.refl _ _).drew,(fun e=>by cases e)⟩
    case finb=>
      intro f w3 hP hV
      have R3:Hid _:=hP.b rfl
      have u0:f 0 = .pointer (some ⟨Sb,0,none⟩):=hV 0 (by decide)
      have u1:f 1 = .pointer (some ⟨Sb,0,none⟩):=hV 1 (by decide)
      have u2:f 2 = .pointer (some ⟨Sb,0,none⟩):=hV 2 (by decide)
      have u3:f 3 = .pointer (some ⟨M,0,none⟩):=hV 3 (by decide)
      have u4:f 4 = .pointer (some ⟨Sb,0,none⟩):=hV 4 (by decide)
      have u5:f 5 = .pointer (some ⟨Sb,0,none⟩):=hV 5 (by decide)
      have u6:f 6 = .pointer (some ⟨Sb,4,none⟩):=hV 6 (by decide)
      have u7:f 7 = .int .i64 (b:Nat):=hV 7 (by decide)
      have u8:f 8 = .int .i64 (a:Nat):=hV 8 (by decide)
      have u9:f 9 = .int .i64 ((b + a:Nat):Int):=hV 9 (by decide)
      have u10:f 10 = .pointer (some ⟨Sb,0,none⟩):=hV 10 (by decide)
      have u11:f 11 = .int .i64 (a:Nat):=hV 11 (by decide)
      have u12:f 12 = .string x:=hV 12 (by decide)
      have u13:f 13 = .agg cs:=hV 13 (by decide)
      have u14:f 14 = .string z:=hV 14 (by decide)
      clear hV hP
      generalize f 0 = y0 at *
      subst u0
      generalize f 1 = y1 at *
      subst u1
      generalize f 2 = y2 at *
      subst u2
      generalize f 3 = y3 at *
      subst u3
      generalize f 4 = y4 at *
      subst u4
      generalize f 5 = y5 at *
      subst u5
      generalize f 6 = y6 at *
      subst u6
      generalize f 7 = y7 at *
      subst u7
      generalize f 8 = y8 at *
      subst u8
      generalize f 9 = y9 at *
      subst u9
      generalize f 10 = y10 at *
      subst u10
      generalize f 11 = y11 at *
      subst u11
      generalize f 12 = y12 at *
      subst u12
      generalize f 13 = y13 at *
      subst u13
      generalize f 14 = y14 at *
      subst u14
      generalize f 15 = y15 at *
      clear f
      have hb3:=HS.out 3 _ R3.out
      have g0:=F.cell_of hb3 0
      have g6:=F.cell_of hb3 6
      have k6:=F.frz_of hb3 6
      replace g0:w3.cell? ⟨Sb,0,none⟩ = some (.pointer (some ⟨M,0,none⟩)):=g0
      replace g6:w3.cell? ⟨Sb,6,none⟩ = some (.int .i64 (a:Nat)):=g6
      go_wp2_with fail
      go_call (HF2.out w3 R3.out) as e w4 (⟨rfl,hr4⟩ | ⟨E,rfl,hB⟩)
      case hr.inr=>
        have HB:Hid _:=hB
        clear hB
        go_wp2
        exact ⟨rfl,Or.inr ⟨E,rfl,HB.out⟩⟩
      have R4:Hid _:=hr4
      clear hr4 g0 g6 k6 hb3
      have hb4:=HS.out 4 _ R4.out
      have g0:=F.cell_of hb4 0
      have g6:=F.cell_of hb4 6
      have k6:=F.frz_of hb4 6
      replace g0:w4.cell? ⟨Sb,0,none⟩ = some (.pointer (some ⟨M,0,none⟩)):=g0
      replace g6:w4.cell? ⟨Sb,6,none⟩ = some (.int .i64 (a:Nat)):=g6
      have HE:Hid (KS6 Sb w4 (w4.setCell ⟨Sb,6,none⟩ (.int .i64 ((a:Int) + 1 + (k:Int)))) ∧ (w4.setCell ⟨Sb,6,none⟩ (.int .i64 ((a:Int) + 1 + (k:Int)))).heap[Sb]? = some (.cells (Sg.mk M c j n b p (a + 1 + k)).cs 44)):=⟨KS6.set Sb w4 6 _,by rw [F.block_set hb4]; rfl⟩
      clear hb4
      go_wp2
      go_returns
      exact Or.inl ⟨rfl,w4,R4.out,HE.out.1,HE.out.2⟩
    case hputb=>
      repeat (refine ⟨fun f v=>rfl,?_⟩)
      trivial
    case stepb=>
      refine ⟨?_,?_⟩
      · intro done f W hP hdn hd K hK
        clear hd
        go_simp
        exact hK _ _ rfl (hP.pure _ (by decide) _)
      refine ⟨?_,?_⟩
      · intro done f W hP hdn hd K hK
        have d0:=(hd.1 rfl).2
        have e0:done 0 = true:=(hd.1 rfl).1
        clear hd
        replace d0:f 0 = .pointer (some ⟨Sb,0,none⟩):=d0
        generalize f 0 = x0 at *
        subst d0
        clear e0
        go_simp
        exact hK _ _ rfl (hP.pure _ (by decide) _)
      refine ⟨?_,?_⟩
      · intro done f W hP hdn hd K hK
        have d1:=(hd.1 rfl).2
        have e1:done 1 = true:=(hd.1 rfl).1
        clear hd
        replace d1:f 1 = .pointer (some ⟨Sb,0,none⟩):=d1
        generalize f 1 = x1 at *
        subst d1
        clear e1
        go_simp
        exact hK _ _ rfl (hP.pure _ (by decide) _)
      refine ⟨?_,?_⟩
      · intro done f W hP hdn hd K hK
        have d2:=(hd.1 rfl).2
        have e2:done 2 = true:=(hd.1 rfl).1
        clear hd
        replace d2:f 2 = .pointer (some ⟨Sb,0,none⟩):=d2
        generalize f 2 = x2 at *
        subst d2
        clear e2
        have hb:=F.Two.any (R:=fun W=>W.heap[Sb]? = some (.cells (Sg.mk M c j n b p a).cs 44)) (HS.out 2) (HS.out 3) hP
        have q0:=F.cell_of hb 0
        have q4:=F.cell_of hb 4
        replace q0:W.cell? ⟨Sb,0,none⟩ = some (.pointer (some ⟨M,0,none⟩)):=q0
        replace q4:W.cell? ⟨Sb,4,none⟩ = some (.int .i64 (b:Nat)):=q4
        go_simp
        exact hK _ _ rfl (hP.pure _ (by decide) _)
      refine ⟨?_,?_⟩
      · intro done f W hP hdn hd K hK
        clear hd
        go_simp
        exact hK _ _ rfl (hP.pure _ (by decide) _)
      refine ⟨?_,?_⟩
      · intro done f W hP hdn hd K hK
        have d4:=(hd.1 rfl).2
        have e4:done 4 = true:=(hd.1 rfl).1
        clear hd
        replace d4:f 4 = .pointer (some ⟨Sb,0,none⟩):=d4
        generalize f 4 = x4 at *
        subst d4
        clear e4
        go_simp
        exact hK _ _ rfl (hP.pure _ (by decide) _)
      refine ⟨?_,?_⟩
      · intro done f W hP hdn hd K hK
        have d5:=(hd.1 rfl).2
        have e5:done 5 = true:=(hd.1 rfl).1
        clear hd
        replace d5:f 5 = .pointer (some ⟨Sb,0,none⟩):=d5
        generalize f 5 = x5 at *
        subst d5
        clear e5
        go_simp
        exact hK _ _ rfl (hP.pure _ (by decide) _)
      refine ⟨?_,?_⟩
      · intro done f W hP hdn hd K hK
        have d6:=(hd.1 rfl).2
        have e6:done 6 = true:=(hd.1 rfl).1
        clear hd
        replace d6:f 6 = .pointer (some ⟨Sb,4,none⟩):=d6
        generalize f 6 = x6 at *
        subst d6
        clear e6
        have hb:=F.Two.any (R:=fun W=>W.heap[Sb]? = some (.cells (Sg.mk M c j n b p a).cs 44)) (HS.out 2) (HS.out 3) hP
        have q0:=F.cell_of hb 0
        have q4:=F.cell_of hb 4
        replace q0:W.cell? ⟨Sb,0,none⟩ = some (.pointer (some ⟨M,0,none⟩)):=q0
        replace q4:W.cell? ⟨Sb,4,none⟩ = some (.int .i64 (b:Nat)):=q4
        go_simp
        exact hK _ _ rfl (hP.pure _ (by decide) _)
      refine ⟨?_,?_⟩
      · intro done f W hP hdn hd K hK
        clear hd
        go_simp
        exact hK _ _ rfl (hP.pure _ (by decide) _)
      refine ⟨?_,?_⟩
      · intro done f W hP hdn hd K hK
        have d7:=(hd.1 rfl).2
        have e7:done 7 = true:=(hd.1 rfl).1
        have d8:=(hd.2.1 rfl).2
        have e8:done 8 = true:=(hd.2.1 rfl).1
        clear hd
        replace d7:f 7 = .int .i64 (b:Nat):=d7
        replace d8:f 8 = .int .i64 (a:Nat):=d8
        generalize f 7 = x7 at *
        subst d7
        clear e7
        generalize f 8 = x8 at *
        subst d8
        clear e8
        go_simp
        exact hK _ _ (by first | rfl | (show Value.int .i64 _ = Value.int .i64 _; congr 1; first | omega | (rw [IntKind.wrap_i64]; omega))) (hP.pure _ (by decide) _)
      refine ⟨?_,?_⟩
      · intro done f W hP hdn hd K hK
        clear hd
        go_simp
        exact hK _ _ rfl (hP.pure _ (by decide) _)
      refine ⟨?_,?_⟩
      · intro done f W hP hdn hd K hK
        clear hd
        go_simp
        exact hK _ _ rfl (hP.pure _ (by decide) _)
      refine ⟨?_,?_⟩
      · intro done f W hP hdn hd K hK
        clear hd
        go_simp
        exact hK _ _ rfl (hP.pure _ (by decide) _)
      refine ⟨?_,?_⟩
      · intro done f W hP hdn hd K hK
        have d10:=(hd.1 rfl).2
        have e10:done 10 = true:=(hd.1 rfl).1
        have d11:=(hd.2.1 rfl).2
        have e11:done 11 = true:=(hd.2.1 rfl).1
        have d12:=(hd.2.2.1 rfl).2
        have e12:done 12 = true:=(hd.2.2.1 rfl).1
        clear hd
        replace d10:f 10 = .pointer (some ⟨Sb,0,none⟩):=d10
        replace d11:f 11 = .int .i64 (a:Nat):=d11
        replace d12:f 12 = .string x:=d12
        generalize f 10 = x10 at *
        subst d10
        clear e10
        generalize f 11 = x11 at *
        subst d11
        clear e11
        generalize f 12 = x12 at *
        subst d12
        clear e12
        have hb0:=F.Two.any (R:=fun W=>W.heap[Sb]? = some (.cells (Sg.mk M c j n b p a).cs 44)) (HS.out 2) (HS.out 3) hP
        go_simp
        refine (HCM.out W hb0).mono ?_
        rintro e W' ⟨rfl,hb⟩
        exact hK _ _ rfl (hP.below (by decide) (fun q=>HR.out 2 _ _ q hb) (fun q=>HR.out 3 _ _ q hb) _)
      refine ⟨?_,?_⟩
      · intro done f W hP hdn hd K hK
        have d13:=(hd.1 rfl).2
        have e13:done 13 = true:=(hd.1 rfl).1
        clear hd
        replace d13:f 13 = .agg cs:=d13
        generalize f 13 = x13 at *
        subst d13
        clear e13
        go_simp
        refine (HPK.out W).mono ?_
        rintro e W' ⟨rfl,hb⟩
        exact hK _ _ rfl (hP.below (by decide) (fun q=>HR.out 2 _ _ q hb) (fun q=>HR.out 3 _ _ q hb) _)
      refine ⟨?_,?_⟩
      · intro done f W hP hdn hd K hK
        have d3:=(hd.1 rfl).2
        have e3:done 3 = true:=(hd.1 rfl).1
        have d9:=(hd.2.1 rfl).2
        have e9:done 9 = true:=(hd.2.1 rfl).1
        have d14:=(hd.2.2.1 rfl).2
        have e14:done 14 = true:=(hd.2.2.1 rfl).1
        clear hd
        replace d3:f 3 = .pointer (some ⟨M,0,none⟩):=d3
        replace d9:f 9 = .int .i64 ((b + a:Nat):Int):=d9
        replace d14:f 14 = .string z:=d14
        generalize f 3 = x3 at *
        subst d3
        clear e3
        generalize f 9 = x9 at *
        subst d9
        clear e9
        generalize f 14 = x14 at *
        subst d14
        clear e14
        have hx0:=hP.a hdn
        go_simp
        refine (HW2.out W hx0).mono ?_
        rintro e W' (⟨rfl,hr⟩ | ⟨E,rfl,hB⟩)
        · exact hK _ _ trivial (hP.turn hr _)
        · exact ⟨rfl,Or.inr ⟨E,rfl,hB⟩⟩
      trivial
  case hputa=>
    repeat (refine ⟨fun f v=>rfl,?_⟩)
    trivial
  case stepa=>
    refine ⟨?_,?_⟩
    · intro done f W hP hdn hd K hK
      clear hd
      go_simp
      exact hK _ _ rfl (hP.pure _ (by decide) _)
    refine ⟨?_,?_⟩
    · intro done f W hP hdn hd K hK
      have d0:=(hd.1 rfl).2
      have e0:done 0 = true:=(hd.1 rfl).1
      clear hd
      replace d0:f 0 = .pointer (some ⟨Sb,0,none⟩):=d0
      generalize f 0 = x0 at *
      subst d0
      clear e0
      go_simp
      exact hK _ _ rfl (hP.pure _ (by decide) _)
    refine ⟨?_,?_⟩
    · intro done f W hP hdn hd K hK
      have d1:=(hd.1 rfl).2
      have e1:done 1 = true:=(hd.1 rfl).1
      clear hd
      replace d1:f 1 = .pointer (some ⟨Sb,0,none⟩):=d1
      generalize f 1 = x1 at *
      subst d1
      clear e1
      go_simp
      exact hK _ _ rfl (hP.pure _ (by decide) _)
    refine ⟨?_,?_⟩
    · intro done f W hP hdn hd K hK
      have d2:=(hd.1 rfl).2
      have e2:done 2 = true:=(hd.1 rfl).1
      clear hd
      replace d2:f 2 = .pointer (some ⟨Sb,0,none⟩):=d2
      generalize f 2 = x2 at *
      subst d2
      clear e2
      have hb:=F.Two.any (R:=fun W=>W.heap[Sb]? = some (.cells (Sg.mk M c j n b p a).cs 44)) (HS.out 0) (HS.out 1) hP
      have q0:=F.cell_of hb 0
      have q4:=F.cell_of hb 4
      replace q0:W.cell? ⟨Sb,0,none⟩ = some (.pointer (some ⟨M,0,none⟩)):=q0
      replace q4:W.cell? ⟨Sb,4,none⟩ = some (.int .i64 (b:Nat)):=q4
      go_simp
      exact hK _ _ rfl (hP.pure _ (by decide) _)
    refine ⟨?_,?_⟩
    · intro done f W hP hdn hd K hK
      clear hd
      go_simp
      exact hK _ _ rfl (hP.pure _ (by decide) _)
    refine ⟨?_,?_⟩
    · intro done f W hP hdn hd K hK
      have d4:=(hd.1 rfl).2
      have e4:done 4 = true:=(hd.1 rfl).1
      clear hd
      replace d4:f 4 = .pointer (some ⟨Sb,0,none⟩):=d4
      generalize f 4 = x4 at *
      subst d4
      clear e4
      go_simp
      exact hK _ _ rfl (hP.pure _ (by decide) _)
    refine ⟨?_,?_⟩
    · intro done f W hP hdn hd K hK
      have d5:=(hd.1 rfl).2
      have e5:done 5 = true:=(hd.1 rfl).1
      clear hd
      replace d5:f 5 = .pointer (some ⟨Sb,0,none⟩):=d5
      generalize f 5 = x5 at *
      subst d5
      clear e5
      go_simp
      exact hK _ _ rfl (hP.pure _ (by decide) _)
    refine ⟨?_,?_⟩
    · intro done f W hP hdn hd K hK
      have d6:=(hd.1 rfl).2
      have e6:done 6 = true:=(hd.1 rfl).1
      clear hd
      replace d6:f 6 = .pointer (some ⟨Sb,4,none⟩):=d6
      generalize f 6 = x6 at *
      subst d6
      clear e6
      have hb:=F.Two.any (R:=fun W=>W.heap[Sb]? = some (.cells (Sg.mk M c j n b p a).cs 44)) (HS.out 0) (HS.out 1) hP
      have q0:=F.cell_of hb 0
      have q4:=F.cell_of hb 4
      replace q0:W.cell? ⟨Sb,0,none⟩ = some (.pointer (some ⟨M,0,none⟩)):=q0
      replace q4:W.cell? ⟨Sb,4,none⟩ = some (.int .i64 (b:Nat)):=q4
      go_simp
      exact hK _ _ rfl (hP.pure _ (by decide) _)
    refine ⟨?_,?_⟩
    · intro done f W hP hdn hd K hK
      clear hd
      go_simp
      exact hK _ _ rfl (hP.pure _ (by decide) _)
    refine ⟨?_,?_⟩
    · intro done f W hP hdn hd K hK
      have d7:=(hd.1 rfl).2
      have e7:done 7 = true:=(hd.1 rfl).1
      have d8:=(hd.2.1 rfl).2
      have e8:done 8 = true:=(hd.2.1 rfl).1
      clear hd
      replace d7:f 7 = .int .i64 (b:Nat):=d7
      replace d8:f 8 = .int .i64 (a:Nat):=d8
      generalize f 7 = x7 at *
      subst d7
      clear e7
      generalize f 8 = x8 at *
      subst d8
      clear e8
      go_simp
      exact hK _ _ (by first | rfl | (show Value.int .i64 _ = Value.int .i64 _; congr 1; first | omega | (rw [IntKind.wrap_i64]; omega))) (hP.pure _ (by decide) _)
    refine ⟨?_,?_⟩
    · intro done f W hP hdn hd K hK
      have d9:=(hd.1 rfl).2
      have e9:done 9 = true:=(hd.1 rfl).1
      clear hd
      replace d9:f 9 = .int .i64 ((b + a:Nat):Int):=d9
      generalize f 9 = x9 at *
      subst d9
      clear e9
      go_simp
      exact hK _ _ (by first | rfl | (show Value.int .i64 _ = Value.int .i64 _; congr 1; first | omega | (rw [IntKind.wrap_i64]; omega))) (hP.pure _ (by decide) _)
    refine ⟨?_,?_⟩
    · intro done f W hP hdn hd K hK
      clear hd
      go_simp
      exact hK _ _ rfl (hP.pure _ (by decide) _)
    refine ⟨?_,?_⟩
    · intro done f W hP hdn hd K hK
      have d11:=(hd.1 rfl).2
      have e11:done 11 = true:=(hd.1 rfl).1
      clear hd
      replace d11:f 11 = .string x:=d11
      generalize f 11 = x11 at *
      subst d11
      clear e11
      go_simp
      refine (HSE.out W).mono ?_
      rintro e W' ⟨rfl,hb⟩
      exact hK _ _ rfl (hP.below (by decide) (fun q=>HR.out 0 _ _ q hb) (fun q=>HR.out 1 _ _ q hb) _)
    refine ⟨?_,?_⟩
    · intro done f W hP hdn hd K hK
      have d3:=(hd.1 rfl).2
      have e3:done 3 = true:=(hd.1 rfl).1
      have d10:=(hd.2.1 rfl).2
      have e10:done 10 = true:=(hd.2.1 rfl).1
      have d12:=(hd.2.2.1 rfl).2
      have e12:done 12 = true:=(hd.2.2.1 rfl).1
      clear hd
      replace d3:f 3 = .pointer (some ⟨M,0,none⟩):=d3
      replace d10:f 10 = .int .i64 ((b + a + 1:Nat):Int):=d10
      replace d12:f 12 = .string y:=d12
      generalize f 3 = x3 at *
      subst d3
      clear e3
      generalize f 10 = x10 at *
      subst d10
      clear e10
      generalize f 12 = x12 at *
      subst d12
      clear e12
      have hx0:=hP.a hdn
      go_simp
      refine (HW1.out W hx0).mono ?_
      rintro e W' (⟨rfl,hr⟩ | ⟨E,rfl,hB⟩)
      · exact hK _ _ trivial (hP.turn hr _)
      · exact ⟨rfl,Or.inr ⟨E,rfl,hB⟩⟩
    trivial
end Go.Proofs.YtncfbocbigdhiaaGreat

/- Read of a segment, over any medium that does it, as a call. -/
namespace Go.Proofs.YtncfbocbigdhiaaGreat
open Go.RowKit
open Classical in
noncomputable def rdp (y:ByteArray) (k:Nat):ByteArray:=if ∀ i,i < k → Mk y i then O.tx (payL y k) else ⟨#[]⟩
theorem payof_rdp (y:ByteArray) (k:Nat) (hn:y.size = 64 * k) (hk:k ≤ 100) (w:World):Calls Tryz.prog 100 #[.string y] w fun e w'=>e = .returned (.string (rdp y k)) ∧ Below w.heap.size w w':=by
  refine (payof_any y k hn hk w).mono ?_
  rintro e w' ⟨(⟨h,rfl⟩ | ⟨⟨i,hi,h⟩,rfl⟩),hb⟩
  · unfold rdp; rw [if_pos h]; exact ⟨rfl,hb⟩
  · unfold rdp; rw [if_neg (fun q=>h (q i hi))]; exact ⟨rfl,hb⟩
def V60 (Sb M b t k:Nat) (y z:ByteArray):Nat → Value → Prop
  | 0,v=>v = .pointer (some ⟨Sb,0,none⟩)
  | 1,v=>v = .pointer (some ⟨Sb,0,none⟩)
  | 2,v=>v = .pointer (some ⟨Sb,0,none⟩)
  | 3,v=>v = .pointer (some ⟨M,0,none⟩)
  | 4,v=>v = .pointer (some ⟨Sb,0,none⟩)
  | 5,v=>v = .pointer (some ⟨Sb,0,none⟩)
  | 6,v=>v = .pointer (some ⟨Sb,4,none⟩)
  | 7,v=>v = .int .i64 (b:Nat)
  | 8,v=>v = .int .i64 (t:Nat)
  | 9,v=>v = .int .i64 ((b + t:Nat):Int)
  | 10,v=>v = .int .i64 ((b + t + 1:Nat):Int)
  | 11,v=>v = .int .i64 (k:Nat)
  | 12,v=>v = .string y
  | 13,v=>v = .string z
  | 14,v=>v = .string z
  | _,_=>True
set_option maxHeartbeats 2000000 in
set_option maxRecDepth 100000 in
theorem sread_any (s:Sg) (hs:s.b ≤ 10000 ∧ s.p ≤ 64) (Sb:Nat) (t k:Nat) (ht:1 ≤ t) (hk:1 ≤ k) (hr:t + k < s.p) (y:ByteArray) (hy:y.size = 64 * k) (X0 X1:World → Prop) (w:World)
    (h0:X0 w) (hB0:∀ W W',X0 W → Below W.heap.size W W' → X0 W') (hB1:∀ W W',X1 W → Below W.heap.size W W' → X1 W') (hS0:∀ W,X0 W → W.heap[Sb]? = some (.cells s.cs 44)) (hS1:∀ W,X1 W → W.heap[Sb]? = some (.cells s.cs 44))
    (hrd:∀ W,X0 W → Calls Tryz.prog 101 #[.pointer (some ⟨s.M,0,none⟩),.int .i64 ((s.b + t + 1:Nat):Int),.int .i64 (k:Nat)] W fun e W'=>e = .returned (.string y) ∧ X1 W') :
    Calls Tryz.prog 60 #[.pointer (some ⟨Sb,0,none⟩),.int .i64 (t:Nat),.int .i64 (k:Nat)] w fun e w'=>e = .returned (.string (rdp y k)) ∧ X1 w':=by
  obtain ⟨M,c,j,n,b,p,a⟩:=s
  have hb1:b ≤ 10000:=hs.1
  have hp1:p ≤ 64:=hs.2
  have hr1:t + k < p:=hr
  have HPO:Hid (∀ W,Calls Tryz.prog 100 #[.string y] W fun e w'=>e = .returned (.string (rdp y k)) ∧ Below W.heap.size W w'):=fun W=>payof_rdp y k hy (by omega) W
  have H0:Hid _:=h0
  have HB0:Hid _:=hB0
  have HB1:Hid _:=hB1
  have HS0:Hid (∀ W,X0 W → W.heap[Sb]? = some (.cells (Sg.mk M c j n b p a).cs 44)):=hS0
  have HS1:Hid (∀ W,X1 W → W.heap[Sb]? = some (.cells (Sg.mk M c j n b p a).cs 44)):=hS1
  have HRD:Hid (∀ W,X0 W → Calls Tryz.prog 101 #[.pointer (some ⟨M,0,none⟩),.int .i64 ((b + t + 1:Nat):Int),.int .i64 (k:Nat)] W fun e W'=>e = .returned (.string y) ∧ X1 W'):=hrd
  have hbx:=hS0 w h0
  have c5:w.cell? ⟨Sb,5,none⟩ = some (.int .i64 (p:Nat)):=F.cell_of hbx 5
  have ht1:¬ (t:Int) < 1:=by omega
  have hk1:¬ (k:Int) < 1:=by omega
  have hkp:¬ (p:Int) - (t:Int) ≤ (k:Int):=by omega
  have hwr:IntKind.i64.wrap ((p:Int) - (t:Int)) = (p:Int) - (t:Int):=by rw [IntKind.wrap_i64]; omega
  generalize rdp y k = z at *
  clear hs hr h0 hB0 hB1 hS0 hS1 hrd hbx hy
  go_enter Tryz.func60,Tryz.ntmps60
  go_wp2
  refine F.wp_region_pb (fun f=>⟨#[.pointer (some ⟨Sb,0,none⟩),.int .i64 (t:Int),.int .i64 (k:Int),undef,undef,undef,f 14,.int .i64 (t:Int),.bool false,.bool false,.int .i64 (k:Int),.bool false,.bool false,.bool false,.int .i64 (k:Int),.pointer (some ⟨Sb,0,none⟩),.pointer (some ⟨Sb,0,none⟩),.pointer (some ⟨Sb,5,none⟩),.int .i64 (p:Int),.int .i64 (t:Int),.int .i64 ((p:Int) - (t:Int)),.bool false,.bool false,f 0,f 1,f 2,f 3,f 4,f 5,f 6,f 7,f 8,f 9,f 10,f 11,f 12,f 13],[]⟩) (V60 Sb M b t k y z) (F.Two 12 X0 X1) (fun i=>[undef,undef,undef,undef,undef,undef,undef,undef,undef,undef,undef,undef,undef,undef,.string ⟨#[]⟩].getD i undef) (by kernel_rfl) rfl rfl ?hIa ?hputa ?stepa ?fina
  case hIa=>exact ⟨fun _=>HB0.out _ _ H0.out (Below.refl _ _).drew,(fun e=>by cases e)⟩
  case fina=>
    intro f W hP hV
    have X1h:Hid _:=hP.b rfl
    have u0:f 0 = .pointer (some ⟨Sb,0,none⟩):=hV 0 (by decide)
    have u1:f 1 = .pointer (some ⟨Sb,0,none⟩):=hV 1 (by decide)
    have u2:f 2 = .pointer (some ⟨Sb,0,none⟩):=hV 2 (by decide)
    have u3:f 3 = .pointer (some ⟨M,0,none⟩):=hV 3 (by decide)
    have u4:f 4 = .pointer (some ⟨Sb,0,none⟩):=hV 4 (by decide)
    have u5:f 5 = .pointer (some ⟨Sb,0,none⟩):=hV 5 (by decide)
    have u6:f 6 = .pointer (some ⟨Sb,4,none⟩):=hV 6 (by decide)
    have u7:f 7 = .int .i64 (b:Nat):=hV 7 (by decide)
    have u8:f 8 = .int .i64 (t:Nat):=hV 8 (by decide)
    have u9:f 9 = .int .i64 ((b + t:Nat):Int):=hV 9 (by decide)
    have u10:f 10 = .int .i64 ((b + t + 1:Nat):Int):=hV 10 (by decide)
    have u11:f 11 = .int .i64 (k:Nat):=hV 11 (by decide)
    have u12:f 12 = .string y:=hV 12 (by decide)
    have u13:f 13 = .string z:=hV 13 (by decide)
    have u14:f 14 = .string z:=hV 14 (by decide)
    clear hV hP
    generalize f 0 = z0 at *
    subst u0
    generalize f 1 = z1 at *
    subst u1
    generalize f 2 = z2 at *
    subst u2
    generalize f 3 = z3 at *
    subst u3
    generalize f 4 = z4 at *
    subst u4
    generalize f 5 = z5 at *
    subst u5
    generalize f 6 = z6 at *
    subst u6
    generalize f 7 = z7 at *
    subst u7
    generalize f 8 = z8 at *
    subst u8
    generalize f 9 = z9 at *
    subst u9
    generalize f 10 = z10 at *
    subst u10
    generalize f 11 = z11 at *
    subst u11
    generalize f 12 = z12 at *
    subst u12
    generalize f 13 = z13 at *
    subst u13
    generalize f 14 = z14 at *
    subst u14
    go_wp2
    go_returns
    exact ⟨rfl,X1h.out⟩
  case hputa=>
    repeat (refine ⟨fun f v=>rfl,?_⟩)
    trivial
  case stepa=>
    refine ⟨?_,?_⟩
    · intro done f W hP hdn hd K hK
      clear hd
      go_simp
      exact hK _ _ rfl (hP.pure _ (by decide) _)
    refine ⟨?_,?_⟩
    · intro done f W hP hdn hd K hK
      have d0:=(hd.1 rfl).2
      have e0:done 0 = true:=(hd.1 rfl).1
      clear hd
      replace d0:f 0 = .pointer (some ⟨Sb,0,none⟩):=d0
      generalize f 0 = x0 at *
      subst d0
      clear e0
      go_simp
      exact hK _ _ rfl (hP.pure _ (by decide) _)
    refine ⟨?_,?_⟩
    · intro done f W hP hdn hd K hK
      have d1:=(hd.1 rfl).2
      have e1:done 1 = true:=(hd.1 rfl).1
      clear hd
      replace d1:f 1 = .pointer (some ⟨Sb,0,none⟩):=d1
      generalize f 1 = x1 at *
      subst d1
      clear e1
      go_simp
      exact hK _ _ rfl (hP.pure _ (by decide) _)
    refine ⟨?_,?_⟩
    · intro done f W hP hdn hd K hK
      have d2:=(hd.1 rfl).2
      have e2:done 2 = true:=(hd.1 rfl).1
      clear hd
      replace d2:f 2 = .pointer (some ⟨Sb,0,none⟩):=d2
      generalize f 2 = x2 at *
      subst d2
      clear e2
      have hb:=F.Two.any (R:=fun W=>W.heap[Sb]? = some (.cells (Sg.mk M c j n b p a).cs 44)) HS0.out HS1.out hP
      have q0:=F.cell_of hb 0
      have q4:=F.cell_of hb 4
      replace q0:W.cell? ⟨Sb,0,none⟩ = some (.pointer (some ⟨M,0,none⟩)):=q0
      replace q4:W.cell? ⟨Sb,4,none⟩ = some (.int .i64 (b:Nat)):=q4
      go_simp
      exact hK _ _ rfl (hP.pure _ (by decide) _)
    refine ⟨?_,?_⟩
    · intro done f W hP hdn hd K hK
      clear hd
      go_simp
      exact hK _ _ rfl (hP.pure _ (by decide) _)
    refine ⟨?_,?_⟩
    · intro done f W hP hdn hd K hK
      have d4:=(hd.1 rfl).2
      have e4:done 4 = true:=(hd.1 rfl).1
      clear hd
      replace d4:f 4 = .pointer (some ⟨Sb,0,none⟩):=d4
      generalize f 4 = x4 at *
      subst d4
      clear e4
      go_simp
      exact hK _ _ rfl (hP.pure _ (by decide) _)
    refine ⟨?_,?_⟩
    · intro done f W hP hdn hd K hK
      have d5:=(hd.1 rfl).2
      have e5:done 5 = true:=(hd.1 rfl).1
      clear hd
      replace d5:f 5 = .pointer (some ⟨Sb,0,none⟩):=d5
      generalize f 5 = x5 at *
      subst d5
      clear e5
      go_simp
      exact hK _ _ rfl (hP.pure _ (by decide) _)
    refine ⟨?_,?_⟩
    · intro done f W hP hdn hd K hK
      have d6:=(hd.1 rfl).2
      have e6:done 6 = true:=(hd.1 rfl).1
      clear hd
      replace d6:f 6 = .pointer (some ⟨Sb,4,none⟩):=d6
      generalize f 6 = x6 at *
      subst d6
      clear e6
      have hb:=F.Two.any (R:=fun W=>W.heap[Sb]? = some (.cells (Sg.mk M c j n b p a).cs 44)) HS0.out HS1.out hP
      have q0:=F.cell_of hb 0
      have q4:=F.cell_of hb 4
      replace q0:W.cell? ⟨Sb,0,none⟩ = some (.pointer (some ⟨M,0,none⟩)):=q0
      replace q4:W.cell? ⟨Sb,4,none⟩ = some (.int .i64 (b:Nat)):=q4
      go_simp
      exact hK _ _ rfl (hP.pure _ (by decide) _)
    refine ⟨?_,?_⟩
    · intro done f W hP hdn hd K hK
      clear hd
      go_simp
      exact hK _ _ rfl (hP.pure _ (by decide) _)
    refine ⟨?_,?_⟩
    · intro done f W hP hdn hd K hK
      have d7:=(hd.1 rfl).2
      have e7:done 7 = true:=(hd.1 rfl).1
      have d8:=(hd.2.1 rfl).2
      have e8:done 8 = true:=(hd.2.1 rfl).1
      clear hd
      replace d7:f 7 = .int .i64 (b:Nat):=d7
      replace d8:f 8 = .int .i64 (t:Nat):=d8
      generalize f 7 = x7 at *
      subst d7
      clear e7
      generalize f 8 = x8 at *
      subst d8
      clear e8
      go_simp
      exact hK _ _ (by first | rfl | (show Value.int .i64 _ = Value.int .i64 _; congr 1; first | omega | (rw [IntKind.wrap_i64]; omega))) (hP.pure _ (by decide) _)
    refine ⟨?_,?_⟩
    · intro done f W hP hdn hd K hK
      have d9:=(hd.1 rfl).2
      have e9:done 9 = true:=(hd.1 rfl).1
      clear hd
      replace d9:f 9 = .int .i64 ((b + t:Nat):Int):=d9
      generalize f 9 = x9 at *
      subst d9
      clear e9
      go_simp
      exact hK _ _ (by first | rfl | (show Value.int .i64 _ = Value.int .i64 _; congr 1; first | omega | (rw [IntKind.wrap_i64]; omega))) (hP.pure _ (by decide) _)
    refine ⟨?_,?_⟩
    · intro done f W hP hdn hd K hK
      clear hd
      go_simp
      exact hK _ _ rfl (hP.pure _ (by decide) _)
    refine ⟨?_,?_⟩
    · intro done f W hP hdn hd K hK
      have d3:=(hd.1 rfl).2
      have e3:done 3 = true:=(hd.1 rfl).1
      have d10:=(hd.2.1 rfl).2
      have e10:done 10 = true:=(hd.2.1 rfl).1
      have d11:=(hd.2.2.1 rfl).2
      have e11:done 11 = true:=(hd.2.2.1 rfl).1
      clear hd
      replace d3:f 3 = .pointer (some ⟨M,0,none⟩):=d3
      replace d10:f 10 = .int .i64 ((b + t + 1:Nat):Int):=d10
      replace d11:f 11 = .int .i64 (k:Nat):=d11
      generalize f 3 = x3 at *
      subst d3
      clear e3
      generalize f 10 = x10 at *
      subst d10
      clear e10
      generalize f 11 = x11 at *
      subst d11
      clear e11
      have hx0:=hP.a hdn
      go_simp
      refine (HRD.out W hx0).mono ?_
      rintro e W' ⟨rfl,hr⟩
      exact hK _ _ rfl (hP.turn hr _)
    refine ⟨?_,?_⟩
    · intro done f W hP hdn hd K hK
      have d12:=(hd.1 rfl).2
      have e12:done 12 = true:=(hd.1 rfl).1
      clear hd
      replace d12:f 12 = .string y:=d12
      generalize f 12 = x12 at *
      subst d12
      clear e12
      go_simp
      refine (HPO.out W).mono ?_
      rintro e W' ⟨rfl,hb⟩
      exact hK _ _ rfl (hP.below (by decide) (fun q=>HB0.out _ _ q hb) (fun q=>HB1.out _ _ q hb) _)
    refine ⟨?_,?_⟩
    · intro done f W hP hdn hd K hK
      have d13:=(hd.1 rfl).2
      have e13:done 13 = true:=(hd.1 rfl).1
      clear hd
      replace d13:f 13 = .string z:=d13
      generalize f 13 = x13 at *
      subst d13
      clear e13
      go_simp
      exact hK _ _ rfl (hP.pure _ (by decide) _)
    trivial
end Go.Proofs.YtncfbocbigdhiaaGreat

/- Append of a segment on a device in any mode: it ends, or is broken off, ahead of the Commit, or at it. -/
namespace Go.Proofs.YtncfbocbigdhiaaGreat
open Go.RowKit
theorem ypart {y:ByteArray} {k:Nat} (h:y.size = 64 * k):F.parts y = k:=by unfold F.parts; omega
theorem ysize (x:ByteArray) (k:Nat) (hx:x.size = 63 * k):(O.tx (secP x k)).size = 64 * k:=by rw [tx_size]; exact secP_length x k (by omega)
def layP (now:Nat → ByteArray) (s:Sg) (x:ByteArray) (k:Nat):Nat → ByteArray:=F.lay now (s.b + s.a + 1) (O.tx (secP x k)) k
def layC (now:Nat → ByteArray) (s:Sg) (x:ByteArray) (k:Nat):Nat → ByteArray:=F.lay (layP now s x k) (s.b + s.a) (s.cm s.a x).sec 1
theorem F.One.other6 {b0:Nat} {w0:World} {L:F.Loc} {st:F.St} {lv:Value} {oth:List (Nat × Obj)} {w w':World} {B:Nat} {o:Obj} {c:Array Value} (h:F.One b0 w0 L st lv ((B,o) :: oth) w) (hne:∀ p ∈ oth,p.1 ≠ B) (k:KS6 B w w') (hb:w'.heap[B]? = some (.cells c 44)):F.One b0 w0 L st lv ((B,.cells c 44) :: oth) w':=
  h.other hne k.os k.tape k.output k.size k.block hb (F.apart_of (by decide))
end Go.Proofs.YtncfbocbigdhiaaGreat

/- Two Commits held against each other. -/
namespace Go.Proofs.YtncfbocbigdhiaaGreat
open Go.RowKit
theorem eq3 (d:Nat) (s s':Int) (w:World):(Op.equalIn (d + 1) 3 (.int .i64 s) (.int .i64 s')).run Tryz.prog w = .ok (decide (s = s')) w:=by
  simp [Op.equalIn,run_underlying Tryz.underlying3]
  rfl
theorem eq42 (d:Nat) (s s':Int) (w:World):(Op.equalIn (d + 1) 42 (.int .u64 s) (.int .u64 s')).run Tryz.prog w = .ok (decide (s = s')) w:=by
  simp [Op.equalIn,run_underlying Tryz.underlying42]
  rfl
theorem eq53 (d:Nat) (s s':Int) (w:World):(Op.equalIn (d + 1) 53 (.int .u32 s) (.int .u32 s')).run Tryz.prog w = .ok (decide (s = s')) w:=by
  simp [Op.equalIn,run_underlying Tryz.underlying53]
  rfl
abbrev sixI (a b c d e f:Int):Array Value:=#[.int .u64 a,.int .u64 b,.int .u64 c,.int .i64 d,.int .i64 e,.int .u32 f]
theorem spart0 (a b c d e f:Int) (w:World):(part 42 (sixI a b c d e f) 0).run Tryz.prog w = .ok (.int .u64 a) w:=by kernel_rfl
theorem spart1 (a b c d e f:Int) (w:World):(part 42 (sixI a b c d e f) 1).run Tryz.prog w = .ok (.int .u64 b) w:=by kernel_rfl
theorem spart2 (a b c d e f:Int) (w:World):(part 42 (sixI a b c d e f) 2).run Tryz.prog w = .ok (.int .u64 c) w:=by kernel_rfl
theorem spart3 (a b c d e f:Int) (w:World):(part 3 (sixI a b c d e f) 3).run Tryz.prog w = .ok (.int .i64 d) w:=by kernel_rfl
theorem spart4 (a b c d e f:Int) (w:World):(part 3 (sixI a b c d e f) 4).run Tryz.prog w = .ok (.int .i64 e) w:=by kernel_rfl
theorem spart5 (a b c d e f:Int) (w:World):(part 53 (sixI a b c d e f) 5).run Tryz.prog w = .ok (.int .u32 f) w:=by kernel_rfl
theorem equalIn55 (dd:Nat) (a b c d e f a' b' c' d' e' f':Int) (w:World):(Op.equalIn (dd + 2) 55 (.agg (sixI a b c d e f)) (.agg (sixI a' b' c' d' e' f'))).run Tryz.prog w = .ok (decide (a = a' ∧ b = b' ∧ c = c' ∧ d = d' ∧ e = e' ∧ f = f')) w:=by
  rw [Op.equalIn]
  simp [run_underlying Tryz.underlying55,spart0,spart1,spart2,spart3,spart4,spart5,eq3,eq42,eq53]
  by_cases h1:a = a'
  · by_cases h2:b = b'
    · by_cases h3:c = c'
      · by_cases h4:d = d'
        · by_cases h5:e = e'
          · by_cases h6:f = f'
            · simp [h1,h2,h3,h4,h5,h6]
            · simp [h1,h2,h3,h4,h5,h6]
          · simp [h1,h2,h3,h4,h5]
        · simp [h1,h2,h3,h4]
      · simp [h1,h2,h3]
    · simp [h1,h2]
  · simp [h1]
theorem cm_ne (p q:Cm):∃ b:Bool,(b = false ↔ p = q) ∧ ∀ w,(binOp .neq 55 (.agg p.cs) (.agg q.cs)).run Tryz.prog w = .ok (.bool b) w:=by
  obtain ⟨a,b,c,d,e,f⟩:=p
  obtain ⟨a',b',c',d',e',f'⟩:=q
  refine ⟨!decide (((a:Nat):Int) = (a':Nat) ∧ ((b:Nat):Int) = (b':Nat) ∧ ((c:Nat):Int) = (c':Nat) ∧ ((d:Nat):Int) = (d':Nat) ∧ ((e:Nat):Int) = (e':Nat) ∧ ((f:Nat):Int) = (f':Nat)),?_,fun w=>?_⟩
  · simp
    constructor
    · rintro ⟨h1,h2,h3,h4,h5,h6⟩
      obtain rfl:a = a':=by omega
      obtain rfl:b = b':=by omega
      obtain rfl:c = c':=by omega
      obtain rfl:d = d':=by omega
      obtain rfl:e = e':=by omega
      obtain rfl:f = f':=by omega
      exact ⟨rfl,rfl,rfl,rfl,rfl,rfl⟩
    · rintro ⟨rfl,rfl,rfl,rfl,rfl,rfl⟩
      exact ⟨rfl,rfl,rfl,rfl,rfl,rfl⟩
  · have h:=equalIn55 9998 (a:Nat) (b:Nat) (c:Nat) (d:Nat) (e:Nat) (f:Nat) (a':Nat) (b':Nat) (c':Nat) (d':Nat) (e':Nat) (f':Nat) w
    show (binOp .neq 55 (.agg (sixI (a:Nat) (b:Nat) (c:Nat) (d:Nat) (e:Nat) (f:Nat))) (.agg (sixI (a':Nat) (b':Nat) (c':Nat) (d':Nat) (e':Nat) (f':Nat)))).run Tryz.prog w = _
    have h2:(Op.equal 55 (.agg (sixI (a:Nat) (b:Nat) (c:Nat) (d:Nat) (e:Nat) (f:Nat))) (.agg (sixI (a':Nat) (b':Nat) (c':Nat) (d':Nat) (e':Nat) (f':Nat)))).run Tryz.prog w = _:=h
    simp only [binOp,Sem.run_bind,h2]
    rfl
end Go.Proofs.YtncfbocbigdhiaaGreat
