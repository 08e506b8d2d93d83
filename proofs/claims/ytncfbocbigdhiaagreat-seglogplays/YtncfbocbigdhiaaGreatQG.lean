/- Texts of this seat, one behind the other. -/
import Derived.Test.YtncfbocbigdhiaaGreatQH
/- What a Commit's fields are taken with, as calls: a number among two; a box of six cells. -/
namespace Go.Proofs.YtncfbocbigdhiaaGreat
set_option maxRecDepth 100000
open Go.RowKit
structure Off (B:Nat) (w W:World):Prop where
  os:W.os = w.os
  tape:W.tape = w.tape
  output:W.output = w.output
  size:w.heap.size ≤ W.heap.size
  block:∀ k,k ≠ B → W.heap[k]? = w.heap[k]?
theorem Off.refl (B:Nat) (w:World):Off B w w:=⟨rfl,rfl,rfl,Nat.le_refl _,fun _ _=>rfl⟩
theorem Off.set {B:Nat} {w W:World} (h:Off B w W) (o:Nat) (v:Value):Off B w (W.setCell ⟨B,o,none⟩ v):=
  ⟨h.os,h.tape,h.output,by simpa [World.setCell] using h.size,fun k h1=>by
    rw [Below.heap_setCell _ _ _ _ (by exact h1)]; exact h.block k h1⟩
theorem Off.below {B b:Nat} {w0 w W:World} (h:Off B w W) (h0:Below b w0 w) (h1:b ≤ B):Below b w0 W:=
  h0.trans ⟨h.os,h.tape,h.output,h.size,fun k hk=>h.block k (by omega)⟩
theorem off_setCells (B:Nat):∀ (vs:List Value) (o:Nat) (w:World),Off B w (w.setCells B o vs)
  | [],_,w=>Off.refl _ w
  | v :: r,o,w=>by
    have h1:=(Off.refl B w).set o v
    have h2:=off_setCells B r (o + 1) (w.setCell ⟨B,o,none⟩ v)
    exact ⟨h2.os.trans h1.os,h2.tape.trans h1.tape,h2.output.trans h1.output,Nat.le_trans h1.size h2.size,fun k a=>(h2.block k a).trans (h1.block k a)⟩
theorem size55:(Tryz.prog.info? 55).map (·.size) = some 6:=by kernel_rfl
theorem store6 {W:World} {B:Nat} {x0 x1 x2 x3 x4 x5:Value} {t:TypeId} (h:W.heap[B]? = some (.cells #[x0,x1,x2,x3,x4,x5] t)) (a b c d e f:Value) :
    ((((((W.setCell ⟨B,0,none⟩ a).setCell ⟨B,1,none⟩ b).setCell ⟨B,2,none⟩ c).setCell ⟨B,3,none⟩ d).setCell ⟨B,4,none⟩ e).setCell ⟨B,5,none⟩ f).heap[B]? = some (.cells #[a,b,c,d,e,f] t):=by
  rw [F.block_set (F.block_set (F.block_set (F.block_set (F.block_set (F.block_set h a) b) c) d) e) f]; rfl
theorem six_of {c:Array Value} (h:c.size = 6):∃ x0 x1 x2 x3 x4 x5,c = #[x0,x1,x2,x3,x4,x5]:=by
  obtain ⟨l⟩:=c
  match l,h with
  | [a,b,c,d,e,f],_=>exact ⟨a,b,c,d,e,f,rfl⟩
section
variable {ops:Array Oper} {rest:List Oper} {op:Oper} {act:Act} {W:World} {Q:Exit → Act → World → Prop} {K:Act → World → Prop}
theorem cst6p (x y:Operand) (ho:op.op = .store 55 x y) (B:Nat) (c:Array Value) (hc:c.size = 6) (hx:act.eval x = .pointer (some ⟨B,0,none⟩)) (hy:act.eval y = .agg c) {c0:Array Value} (hc0:c0.size = 6) (h:W.heap[B]? = some (.cells c0 55)) (h1:c.all (·.oneCell') = true)
    (k:∀ W',Off B W W' → W'.heap[B]? = some (.cells c 55) → K (act.put op.dst undef) W'):op.wp Tryz.prog act W K Q:=by
  obtain ⟨a,b,c',d,e,f,rfl⟩:=six_of hc
  obtain ⟨x0,x1,x2,x3,x4,x5,rfl⟩:=six_of hc0
  refine wp_store_mid 55 x y ho B 0 #[a,b,c',d,e,f] hx hy ?_ size55 h1 (k _ (off_setCells _ _ _ _) ?_)
  · intro j hj
    have hj5:j < 6:=hj
    rw [Nat.zero_add,F.cell_of h,F.frz_of h]
    refine ⟨?_,rfl⟩
    rw [Array.getElem?_eq_getElem (by exact hj5)]; rfl
  · exact store6 h a b c' d e f
theorem cst6 (hgd:op.guard = none) (x y:Operand) (ho:op.op = .store 55 x y) (B:Nat) (c:Array Value) (hc:c.size = 6) (hx:act.eval x = .pointer (some ⟨B,0,none⟩)) (hy:act.eval y = .agg c) {c0:Array Value} (hc0:c0.size = 6) (h:W.heap[B]? = some (.cells c0 55)) (h1:c.all (·.oneCell') = true)
    (k:∀ W',Off B W W' → W'.heap[B]? = some (.cells c 55) → wpList Tryz.prog ops Q rest (act.put op.dst undef) W'):wpList Tryz.prog ops Q (op :: rest) act W:=
  wpList_plain hgd fun _ hK=>cst6p x y ho B c hc hx hy hc0 h h1 (fun W' a b=>hK _ _ (k W' a b))
theorem pldp (x:Operand) (ho:op.op = .load 55 x) (B:Nat) (c:Array Value) (hc:c.size = 6) (hx:act.eval x = .pointer (some ⟨B,0,none⟩)) (h:W.heap[B]? = some (.cells c 55)) (k:K (act.put op.dst (.agg c)) W):op.wp Tryz.prog act W K Q:=
  wp_load_row 55 x ho B hx 55 c (0,0) _ h Tryz.underlying55 rfl (by rw [size55,hc]) k
theorem pld (hgd:op.guard = none) (x:Operand) (ho:op.op = .load 55 x) (B:Nat) (c:Array Value) (hc:c.size = 6) (hx:act.eval x = .pointer (some ⟨B,0,none⟩)) (h:W.heap[B]? = some (.cells c 55)) (k:wpList Tryz.prog ops Q rest (act.put op.dst (.agg c)) W):wpList Tryz.prog ops Q (op :: rest) act W:=
  wpList_load_row hgd 55 x ho B hx 55 c (0,0) _ h Tryz.underlying55 rfl (by rw [size55,hc]) k
end
theorem pret1 {fn:Func} {p:Tmp} (h:fn.results = #[.cell p 55]) (tmps:Array Value) (w:World) (B:Nat) (cs:Array Value) (hs:cs.size = 6) (hp:tmps.getD p undef = .pointer (some ⟨B,0,none⟩)) (hg:w.heap[B]? = some (.cells cs 55)) :
    (results fn tmps).run Tryz.prog w = .ok (.agg cs) w:=results_cell_row h tmps w B 55 cs (0,0) _ hp hg Tryz.underlying55 rfl (by rw [size55,hs])
theorem pret2 {fn:Func} {p u:Tmp} (h:fn.results = #[.cell p 55,.tmp u]) (tmps:Array Value) (w:World) (B:Nat) (cs:Array Value) (v:Value) (hs:cs.size = 6) (hp:tmps.getD p undef = .pointer (some ⟨B,0,none⟩)) (hg:w.heap[B]? = some (.cells cs 55)) (hu:tmps.getD u undef = v) :
    (results fn tmps).run Tryz.prog w = .ok (.tuple #[.agg cs,v]) w:=by
  rw [results_cell_tmp h,hp,hu]
  simp [asAddr,run_loadVar_row w B 55 55 cs (0,0) _ hg Tryz.underlying55 rfl (by rw [size55,hs]),Result.andThen]
theorem Cm.cs_size (p:Cm):p.cs.size = 6:=rfl
theorem Cm.cs_one (p:Cm):p.cs.all (·.oneCell') = true:=by simp [Cm.cs,Value.oneCell']
/-! ### an In, beside a box -/
theorem KI.off {I B:Nat} {w W W':World} (h:O.KI I w W) (ho:Off B W W') (hB:w.heap.size ≤ B):O.KI I w W':=
  ⟨ho.os.trans h.os,ho.tape.trans h.tape,ho.output.trans h.output,Nat.le_trans h.size ho.size,fun k hk hne=>(ho.block k (by omega)).trans (h.block k hk hne)⟩
theorem InIs.off {I B:Nat} {W W':World} {s:ByteArray} {y:Int} (h:O.InIs W I s y) (ho:Off B W W') (hB:I ≠ B):O.InIs W' I s y:=
  ⟨(World.cell?_of_block (w:=W) (ho.block I hB)).trans h.c0,(World.cell?_of_block (w:=W) (ho.block I hB)).trans h.c1,(World.frozen?_of_block (w:=W) (ho.block I hB)).trans h.f0,(World.frozen?_of_block (w:=W) (ho.block I hB)).trans h.f1⟩
theorem drop_numB (x k:Nat) (r:List UInt8):(O.numB x k ++ r).drop k = r:=by
  have:=List.drop_left (l₁:=O.numB x k) (l₂:=r)
  rwa [O.numB_length] at this
theorem tx_size (l:List UInt8):(O.tx l).size = l.length:=by
  rw [O.size_list]; show l.toArray.toList.length = _; rw [List.toList_toArray]
theorem num_step (I x k:Nat) (r:List UInt8) (w:World) (hk:O.wd (k:Nat) = k) (hx:x < 256 ^ k) (hl:k + r.length ≤ 1000000) (h:O.InIs w I (O.tx (O.numB x k ++ r)) 0) :
    Calls Tryz.prog 152 #[.pointer (some ⟨I,0,none⟩),.int .i64 (k:Nat)] w fun e w'=>e = .returned (.int .u64 (x:Nat)) ∧ O.InIs w' I (O.tx r) 0 ∧ O.KI I w w':=by
  have hs:(O.tx (O.numB x k ++ r)).size = k + r.length:=by rw [tx_size,List.length_append,O.numB_length]
  refine (O.num_in I _ (k:Nat) (by rw [hk,hs]; omega) (by rw [hs]; exact hl) w h).mono ?_
  rintro e w' ⟨rfl,h1,h2⟩
  rw [hk] at h1 ⊢
  rw [O.extract_tx,drop_numB] at h1
  rw [O.nv_all,Nat.mod_eq_of_lt hx]
  exact ⟨rfl,h1,h2⟩
set_option maxRecDepth 100000 in
theorem fromone_ok (I x:Nat) (r:List UInt8) (w:World) (hx:x < 18446744073709551616) (h0:x ≠ 0) (hl:r.length ≤ 1000) (h:O.InIs w I (O.tx (O.numB x 8 ++ r)) 0) :
    Calls Tryz.prog 165 #[.pointer (some ⟨I,0,none⟩)] w fun e w'=>e = .returned (.int .u64 (x:Nat)) ∧ O.InIs w' I (O.tx r) 0 ∧ O.KI I w w':=by
  have hn:=num_step I x 8 r w (by decide) (by exact hx) (by omega) h
  replace hn:Calls Tryz.prog 152 #[.pointer (some ⟨I,0,none⟩),.int .i64 8] w fun e w'=>e = .returned (.int .u64 (x:Nat)) ∧ O.InIs w' I (O.tx r) 0 ∧ O.KI I w w':=hn
  clear h
  go_enter Tryz.func165,Tryz.ntmps165
  go_wp2_with fail
  go_call hn as e w2 ⟨rfl,h1,h2⟩
  have H1:Hid _:=h1
  have H2:Hid _:=h2
  clear hn h1 h2
  have hx0:¬ ((x:Nat):Int) = 0:=by omega
  go_wp2
  go_returns
  exact ⟨rfl,H1.out,H2.out⟩
set_option maxRecDepth 100000 in
theorem among_ok (I x:Nat) (a b:Int) (r:List UInt8) (w:World) (hx:x < 256) (ha:a ≤ (x:Nat)) (hb:((x:Nat):Int) ≤ b) (hl:r.length ≤ 1000) (h:O.InIs w I (O.tx (O.numB x 1 ++ r)) 0) :
    Calls Tryz.prog 153 #[.pointer (some ⟨I,0,none⟩),.int .i64 1,.int .i64 a,.int .i64 b] w fun e w'=>e = .returned (.int .i64 (x:Nat)) ∧ O.InIs w' I (O.tx r) 0 ∧ O.KI I w w':=by
  have hn:=num_step I x 1 r w (by decide) (by exact hx) (by omega) h
  replace hn:Calls Tryz.prog 152 #[.pointer (some ⟨I,0,none⟩),.int .i64 1] w fun e w'=>e = .returned (.int .u64 (x:Nat)) ∧ O.InIs w' I (O.tx r) 0 ∧ O.KI I w w':=hn
  clear h
  have hw:IntKind.i64.wrap ((x:Nat):Int) = ((x:Nat):Int):=by rw [IntKind.wrap_i64]; omega
  go_enter Tryz.func153,Tryz.ntmps153
  go_wp2_with fail
  go_call hn as e w2 ⟨rfl,h1,h2⟩
  have H1:Hid _:=h1
  have H2:Hid _:=h2
  clear hn h1 h2
  have hx0:¬ ((x:Nat):Int) < a:=by omega
  have hx1:¬ b < ((x:Nat):Int):=by omega
  go_wp2
  go_returns
  exact ⟨rfl,H1.out,H2.out⟩
end Go.Proofs.YtncfbocbigdhiaaGreat

/- What a Commit's fields are taken of, as a call. -/
namespace Go.Proofs.YtncfbocbigdhiaaGreat
set_option maxRecDepth 100000
open Go.RowKit
theorem tx_head (d:ByteArray) (r:List UInt8):(O.tx (d.data.toList ++ r)).extract 0 d.size = d:=by
  apply ByteArray.ext
  unfold O.tx
  rw [ByteArray.data_extract]
  apply Array.ext'
  rw [Array.toList_extract,List.extract_eq_take_drop]
  simp
theorem tx_drop (d:ByteArray) (r:List UInt8):(O.tx (d.data.toList ++ r)).extract d.size (O.tx (d.data.toList ++ r)).size = O.tx r:=by
  rw [O.extract_tx]
  congr 1
  have:=List.drop_left (l₁:=d.data.toList) (l₂:=r)
  rwa [← O.size_list] at this
structure Bx (I B:Nat) (w0:World) (c:Array Value) (s:ByteArray) (W:World):Prop where
  b:W.heap[B]? = some (.cells c 55)
  i:O.InIs W I s 0
  k:O.KI I w0 W
theorem Bx.call {I B:Nat} {w0:World} {c:Array Value} {s t:ByteArray} {W W':World} (h:Bx I B w0 c s W) (hne:B ≠ I) (hi:O.InIs W' I t 0) (hk:O.KI I W W'):Bx I B w0 c t W':=
  ⟨(hk.block B (Array.getElem?_eq_some_iff.1 h.b).1 hne).trans h.b,hi,h.k.trans hk⟩
theorem Bx.set {I B:Nat} {w0:World} {c:Array Value} {s:ByteArray} {W:World} (h:Bx I B w0 c s W) (hne:I ≠ B) (hB:w0.heap.size ≤ B) (o:Nat) (v:Value):Bx I B w0 (c.setIfInBounds o v) s (W.setCell ⟨B,o,none⟩ v):=
  ⟨F.block_set h.b v,InIs.off h.i ((Off.refl B W).set o v) hne,KI.off h.k ((Off.refl B W).set o v) hB⟩
set_option maxHeartbeats 2000000 in
set_option maxRecDepth 100000 in
theorem tocm_ok (p:Cm) (hp:p.Ok) (I:Nat) (r:List UInt8) (w:World) (hl:r.length ≤ 900) (h:O.InIs w I (O.tx (p.fl ++ r)) 0) :
    Calls Tryz.prog 151 #[.pointer (some ⟨I,0,none⟩)] w fun e w'=>e = .returned (.agg p.cs) ∧ O.InIs w' I (O.tx r) 0 ∧ O.KI I w w':=by
  obtain ⟨c,j,n,a,m,s⟩:=p
  have hc1:c < 18446744073709551616:=hp.c
  have hj1:j < 18446744073709551616:=hp.j
  have hn1:n < 18446744073709551616:=hp.n
  have ha1:1 ≤ a:=hp.a0
  have hk1:1 ≤ m:=hp.k0
  have hm1:a + m ≤ 63:=hp.ak
  have hs1:s < 4294967296:=hp.s
  have hfl:(Cm.mk c j n a m s).fl ++ r = O.numB c 8 ++ (O.numB j 8 ++ (O.numB n 8 ++ (O.numB a 1 ++ (O.numB m 1 ++ (O.numB s 4 ++ r))))):=by
    show ((O.numB c 8 ++ O.numB j 8) ++ O.numB n 8) ++ ((O.numB a 1 ++ O.numB m 1) ++ O.numB s 4) ++ r = _
    simp only [List.append_assoc]
  rw [hfl] at h
  have hIl:=h.lt
  have L5:Hid ((O.numB s 4 ++ r).length ≤ 904):=by show _ ≤ _; rw [List.length_append,O.numB_length]; omega
  have L4:Hid ((O.numB m 1 ++ (O.numB s 4 ++ r)).length ≤ 905):=by show _ ≤ _; rw [List.length_append,O.numB_length]; have:=L5.out; omega
  have L3:Hid ((O.numB a 1 ++ (O.numB m 1 ++ (O.numB s 4 ++ r))).length ≤ 906):=by show _ ≤ _; rw [List.length_append,O.numB_length]; have:=L4.out; omega
  have L2:Hid ((O.numB n 8 ++ (O.numB a 1 ++ (O.numB m 1 ++ (O.numB s 4 ++ r)))).length ≤ 914):=by show _ ≤ _; rw [List.length_append,O.numB_length]; have:=L3.out; omega
  have L1:Hid ((O.numB j 8 ++ (O.numB n 8 ++ (O.numB a 1 ++ (O.numB m 1 ++ (O.numB s 4 ++ r))))).length ≤ 922):=by show _ ≤ _; rw [List.length_append,O.numB_length]; have:=L2.out; omega
  have hb0:Below w.heap.size w (w.alloc (.cells #[.int .u64 0,.int .u64 0,.int .u64 0,.int .i64 0,.int .i64 0,.int .u32 0] 55)):=Below.alloc (Below.refl _ _) (Nat.le_refl _) _
  have X0:Hid (Bx I w.heap.size w #[.int .u64 0,.int .u64 0,.int .u64 0,.int .i64 0,.int .i64 0,.int .u32 0] _ (w.alloc (.cells #[.int .u64 0,.int .u64 0,.int .u64 0,.int .i64 0,.int .i64 0,.int .u32 0] 55))):=⟨F.heap_new _ _,h.below hb0,O.KI.ofBelow hb0⟩
  have hne:w.heap.size ≠ I:=by omega
  have HNE:Hid _:=hne
  clear h hfl hb0 hp hIl hne
  go_enter Tryz.func151,Tryz.ntmps151
  go_wp2_with fail
  go_call (num_step I c 8 _ _ (by decide) hc1 (by have:=L1.out; omega) X0.out.i) as e w2 ⟨rfl,i2,k2⟩
  have X2:Hid _:=(X0.out.call HNE.out i2 k2).set (Ne.symm HNE.out) (Nat.le_refl _) 0 (.int .u64 (c:Nat))
  have b2:=F.cell_of (X0.out.call HNE.out i2 k2).b 0
  have f2:=F.frz_of (X0.out.call HNE.out i2 k2).b 0
  simp at b2
  clear i2 k2 X0 L1
  go_wp2_with fail
  generalize w2.setCell ⟨w.heap.size,0,none⟩ (.int .u64 (c:Nat)) = w3 at *
  clear b2 f2
  go_call (num_step I j 8 _ _ (by decide) hj1 (by have:=L2.out; omega) X2.out.i) as e w4 ⟨rfl,i4,k4⟩
  have X4:Hid _:=(X2.out.call HNE.out i4 k4).set (Ne.symm HNE.out) (Nat.le_refl _) 1 (.int .u64 (j:Nat))
  have b4:=F.cell_of (X2.out.call HNE.out i4 k4).b 1
  have f4:=F.frz_of (X2.out.call HNE.out i4 k4).b 1
  simp at b4
  clear i4 k4 X2 L2
  go_wp2_with fail
  generalize w4.setCell ⟨w.heap.size,1,none⟩ (.int .u64 (j:Nat)) = w5 at *
  clear b4 f4
  go_call (num_step I n 8 _ _ (by decide) hn1 (by have:=L3.out; omega) X4.out.i) as e w6 ⟨rfl,i6,k6⟩
  have X6:Hid _:=(X4.out.call HNE.out i6 k6).set (Ne.symm HNE.out) (Nat.le_refl _) 2 (.int .u64 (n:Nat))
  have b6:=F.cell_of (X4.out.call HNE.out i6 k6).b 2
  have f6:=F.frz_of (X4.out.call HNE.out i6 k6).b 2
  simp at b6
  clear i6 k6 X4 L3
  go_wp2_with fail
  generalize w6.setCell ⟨w.heap.size,2,none⟩ (.int .u64 (n:Nat)) = w7 at *
  clear b6 f6
  go_call (among_ok I a 1 63 _ _ (by omega) (by omega) (by omega) (by have:=L4.out; omega) X6.out.i) as e w8 ⟨rfl,i8,k8⟩
  have X8:Hid _:=(X6.out.call HNE.out i8 k8).set (Ne.symm HNE.out) (Nat.le_refl _) 3 (.int .i64 (a:Nat))
  have b8:=F.cell_of (X6.out.call HNE.out i8 k8).b 3
  have f8:=F.frz_of (X6.out.call HNE.out i8 k8).b 3
  have c8:=F.cell_of X8.out.b 3
  simp at b8 c8
  clear i8 k8 X6 L4
  go_wp2_with fail
  generalize w8.setCell ⟨w.heap.size,3,none⟩ (.int .i64 (a:Nat)) = w9 at *
  clear b8 f8
  go_call (among_ok I m 1 (63 - (a:Nat)) _ _ (by omega) (by omega) (by omega) (by have:=L5.out; omega) X8.out.i) as e w10 ⟨rfl,i10,k10⟩
  have X10:Hid _:=(X8.out.call HNE.out i10 k10).set (Ne.symm HNE.out) (Nat.le_refl _) 4 (.int .i64 (m:Nat))
  have b10:=F.cell_of (X8.out.call HNE.out i10 k10).b 4
  have f10:=F.frz_of (X8.out.call HNE.out i10 k10).b 4
  simp at b10
  clear i10 k10 X8 L5 c8
  go_wp2_with fail
  generalize w10.setCell ⟨w.heap.size,4,none⟩ (.int .i64 (m:Nat)) = w11 at *
  clear b10 f10
  go_call (num_step I s 4 r _ (by decide) hs1 (by omega) X10.out.i) as e w12 ⟨rfl,i12,k12⟩
  have X12:Hid _:=(X10.out.call HNE.out i12 k12).set (Ne.symm HNE.out) (Nat.le_refl _) 5 (.int .u32 (s:Nat))
  have b12:=F.cell_of (X10.out.call HNE.out i12 k12).b 5
  have f12:=F.frz_of (X10.out.call HNE.out i12 k12).b 5
  simp at b12
  have hcv:IntKind.u32.wrap ((s:Nat):Int) = ((s:Nat):Int):=by rw [IntKind.wrap_u32]; omega
  clear i12 k12 X10
  have Y9:Hid (Bx I w.heap.size w (Cm.mk c j n a m s).cs (O.tx r) (w12.setCell ⟨w.heap.size,5,none⟩ (.int .u32 (s:Nat)))):=X12.out
  clear X12
  go_wp2_with (first | (refine pld rfl _ rfl _ _ (Cm.cs_size _) rfl Y9.out.b ?_) | (refine pldp _ rfl _ _ (Cm.cs_size _) rfl Y9.out.b ?_) | (refine cst6 rfl _ _ rfl _ _ (Cm.cs_size _) rfl rfl (Cm.cs_size _) Y9.out.b (Cm.cs_one _) ?c9) | (refine cst6p _ _ rfl _ _ (Cm.cs_size _) rfl rfl (Cm.cs_size _) Y9.out.b (Cm.cs_one _) ?c9))
  intro wz hoz hkz
  have IZ:Hid _:=InIs.off Y9.out.i hoz (Ne.symm HNE.out)
  have KZ:Hid _:=KI.off Y9.out.k hoz (Nat.le_refl _)
  have BZ:Hid _:=hkz
  clear hoz hkz
  go_wp2
  refine bodyPost_ret (pret1 Tryz.results151 _ _ w.heap.size _ (Cm.cs_size _) rfl BZ.out) rfl ⟨rfl,IZ.out,KZ.out⟩
end Go.Proofs.YtncfbocbigdhiaaGreat

/- What is taken of a sector, within Take, as a call. -/
namespace Go.Proofs.YtncfbocbigdhiaaGreat
set_option maxRecDepth 100000
open Go.RowKit
theorem ent151 (args:Array Value) (W:World):(callFunc 151 args).run Tryz.prog W = .ok (.enter 151 args) W:=O.enter_of Tryz.func151 (by kernel_rfl) (by kernel_rfl) args W
theorem ent170 (args:Array Value) (W:World):(callFunc 170 args).run Tryz.prog W = .ok (.enter 170 args) W:=O.enter_of Tryz.func170 (by kernel_rfl) (by kernel_rfl) args W
structure KX (I X:Nat) (w w':World):Prop where
  os:w'.os = w.os
  tape:w'.tape = w.tape
  output:w'.output = w.output
  size:w.heap.size ≤ w'.heap.size
  block:∀ k,k < w.heap.size → k ≠ I → k ≠ X → w'.heap[k]? = w.heap[k]?
theorem KX.ofKI {I X:Nat} {w w':World} (h:O.KI I w w'):KX I X w w':=⟨h.os,h.tape,h.output,h.size,fun k a b _=>h.block k a b⟩
theorem KX.off {I X:Nat} {w W W':World} (h:KX I X w W) (ho:Off X W W'):KX I X w W':=
  ⟨ho.os.trans h.os,ho.tape.trans h.tape,ho.output.trans h.output,Nat.le_trans h.size ho.size,fun k a b c=>(ho.block k c).trans (h.block k a b c)⟩
structure RdPh (I:Nat) (w:World) (r:List UInt8) (done:Nat → Bool) (W:World):Prop where
  k:O.KI I w W
  a:done 1 = false → O.InIs W I (O.tx (O.numB 67 1 ++ r)) 0
  b:done 1 = true → O.InIs W I (O.tx r) 0
theorem RdPh.pure {I:Nat} {w:World} {r:List UInt8} {done:Nat → Bool} {W:World} (h:RdPh I w r done W) (k:Nat) (hk:k ≠ 1):RdPh I w r (O.updB done k) W:=by
  have e:O.updB done k 1 = done 1:=if_neg (Ne.symm hk)
  exact ⟨h.k,by rw [e]; exact h.a,by rw [e]; exact h.b⟩
def RdV (I:Nat):Nat → Value → Prop
  | 0,v=>v = .pointer (some ⟨I,0,none⟩)
  | 1,v=>v = .int .u64 67
  | 2,v=>v = .int .u64 67
  | 3,v=>v = .bool false
  | _,_=>True
set_option maxHeartbeats 2000000 in
set_option maxRecDepth 100000 in
theorem rdin_ok (p:Cm) (hp:p.Ok) (I M F1 X:Nat) (z:Nat) (cx:Array Value) (hcx:cx.size = 6) (w:World) (hz:z ≤ 900) (h:O.InIs w I (O.tx (O.numB 67 1 ++ (p.fl ++ List.replicate z 0))) 0)
    (hM:w.heap[M]? = some (.cells #[.int .u64 67] 42)) (hF:w.heap[F1]? = some (.cells #[.func (.func 151) #[] #[]] 195)) (hX:w.heap[X]? = some (.cells cx 55)) (nM:M ≠ I) (nF:F1 ≠ I) (nX:X ≠ I) :
    Calls Tryz.prog 170 #[.pointer (some ⟨I,0,none⟩),.pointer (some ⟨M,0,none⟩),.pointer (some ⟨F1,0,none⟩),.pointer (some ⟨X,0,none⟩)] w fun e w'=>e = .returned (.tuple #[]) ∧ O.InIs w' I ⟨#[]⟩ 0 ∧ w'.heap[X]? = some (.cells p.cs 55) ∧ KX I X w w':=by
  have hpl:p.fl.length ≤ 51:=by rw [Cm.fl_length]; decide
  have HI:Hid _:=h
  have HM:Hid _:=hM
  have HF:Hid _:=hF
  have HX:Hid _:=hX
  have HP:Hid _:=hp
  have HCX:Hid _:=hcx
  have HLN:Hid ((p.fl ++ List.replicate z 0).length ≤ 951):=by show _ ≤ _; simp; omega
  have HNX:Hid _:=nX
  have HNM:Hid _:=nM
  have HNF:Hid _:=nF
  have lX:X < w.heap.size:=(Array.getElem?_eq_some_iff.1 hX).1
  have HLX:Hid _:=lX
  have lM:M < w.heap.size:=(Array.getElem?_eq_some_iff.1 hM).1
  have HLM:Hid _:=lM
  have lF:F1 < w.heap.size:=(Array.getElem?_eq_some_iff.1 hF).1
  have HLF:Hid _:=lF
  clear h hM hF hX hp hcx hpl nX nM nF lX lM lF
  go_enter Tryz.func170,Tryz.ntmps170
  go_wp2
  refine O.wp_region_ph (fun f=>⟨#[.pointer (some ⟨I,0,none⟩),.pointer (some ⟨M,0,none⟩),.pointer (some ⟨F1,0,none⟩),.pointer (some ⟨X,0,none⟩),undef,undef,f 0,f 1,f 2,f 3,undef,undef,undef,undef,undef,undef,undef,undef],[]⟩) (RdV I) (fun done _ W=>RdPh I w (p.fl ++ List.replicate z 0) done W) (fun i=>[undef,undef,undef,undef].getD i undef) (by kernel_rfl) rfl rfl ?hIa ?hputa ?stepa ?fina
  case hIa=>exact ⟨O.KI.ofBelow (Below.refl _ _).drew,fun _=>HI.out.below (Below.refl _ _).drew,(fun e=>by cases e)⟩
  case fina=>
    intro f w1 hP hV
    replace hP:RdPh I w (p.fl ++ List.replicate z 0) (fun i=>decide (i < 4)) w1:=hP
    have u0:f 0 = .pointer (some ⟨I,0,none⟩):=hV 0 (by decide)
    have u1:f 1 = .int .u64 67:=hV 1 (by decide)
    have u2:f 2 = .int .u64 67:=hV 2 (by decide)
    have u3:f 3 = .bool false:=hV 3 (by decide)
    clear hV
    generalize f 0 = x0 at *
    subst u0
    generalize f 1 = x1 at *
    subst u1
    generalize f 2 = x2 at *
    subst u2
    generalize f 3 = x3 at *
    subst u3
    have I1:Hid _:=hP.b rfl
    have K1:Hid _:=hP.k
    have qf:=F.cell_of ((hP.k.block F1 HLF.out HNF.out).trans HF.out) 0
    simp at qf
    clear hP f
    have hq:=ent151
    go_wp2_with fail
    go_call (tocm_ok p HP.out I (List.replicate z 0) w1 (by simp; omega) I1.out) as e w2 ⟨rfl,i2,k2⟩
    have hb3:Below w2.heap.size w2 (w2.alloc (.cells #[.int .u64 0,.int .u64 0,.int .u64 0,.int .i64 0,.int .i64 0,.int .u32 0] 55)):=Below.alloc (Below.refl _ _) (Nat.le_refl _) _
    have hIl:I < w2.heap.size:=i2.lt
    have HIL:Hid _:=hIl
    have I3:Hid _:=i2.below hb3
    have K3:Hid _:=(K1.out.trans k2).trans (O.KI.ofBelow hb3)
    have B3:Hid ((w2.alloc (.cells #[.int .u64 0,.int .u64 0,.int .u64 0,.int .i64 0,.int .i64 0,.int .u32 0] 55)).heap[w2.heap.size]? = _):=F.heap_new _ _
    have HS2:Hid (w.heap.size ≤ w2.heap.size):=Nat.le_trans K1.out.size k2.size
    clear i2 k2 hb3 hIl I1 K1 qf hq
    go_wp2_with (first | (refine cst6 rfl _ _ rfl _ _ (Cm.cs_size _) rfl rfl (by decide) B3.out (Cm.cs_one _) ?c3) | (refine cst6p _ _ rfl _ _ (Cm.cs_size _) rfl rfl (by decide) B3.out (Cm.cs_one _) ?c3))
    intro w4 ho4 hk4
    have I4:Hid _:=InIs.off I3.out ho4 (by have:=HIL.out; omega)
    have K4:Hid _:=KI.off K3.out ho4 HS2.out
    have B4:Hid _:=hk4
    have hz:=O.zero_any I (O.tx (List.replicate z 0)) (by rw [tx_size]; simp; omega) w4 I4.out
    clear ho4 hk4 I3 K3 B3
    go_wp2_with fail
    go_call hz as e w5 ⟨hyes,hno,hk5⟩
    obtain ⟨rfl,i5⟩:=hyes (O.zeros_rep z)
    have I5:Hid _:=i5
    have K5:Hid _:=K4.out.trans hk5
    have B5:Hid _:=(hk5.block _ (Array.getElem?_eq_some_iff.1 B4.out).1 (by have:=HIL.out; omega)).trans B4.out
    have X5:Hid _:=(K5.out.block X HLX.out HNX.out).trans HX.out
    clear hyes hno hk5 i5 hz I4 K4 B4
    go_wp2_with (first | (refine pld rfl _ rfl _ _ (Cm.cs_size _) rfl B5.out ?_) | (refine pldp _ rfl _ _ (Cm.cs_size _) rfl B5.out ?_) | (refine cst6 rfl _ _ rfl _ _ (Cm.cs_size _) rfl rfl HCX.out X5.out (Cm.cs_one _) ?c6) | (refine cst6p _ _ rfl _ _ (Cm.cs_size _) rfl rfl HCX.out X5.out (Cm.cs_one _) ?c6))
    intro w6 ho6 hk6
    have I6:Hid _:=InIs.off I5.out ho6 (Ne.symm HNX.out)
    have K6:Hid _:=(KX.ofKI K5.out).off ho6
    have X6:Hid _:=hk6
    clear ho6 hk6
    go_wp2
    go_returns
    exact ⟨rfl,I6.out,X6.out,K6.out⟩
  case hputa=>
    repeat (refine ⟨fun f v=>rfl,?_⟩)
    trivial
  case stepa=>
    refine ⟨?_,?_⟩
    · intro done f W hP hdn hd K hK
      clear hd
      replace hP:RdPh I w (p.fl ++ List.replicate z 0) done W:=hP
      go_simp
      exact hK _ _ rfl (hP.pure _ (by decide))
    refine ⟨?_,?_⟩
    · intro done f W hP hdn hd K hK
      have d0:=(hd.1 rfl).2
      have e0:done 0 = true:=(hd.1 rfl).1
      clear hd
      replace d0:f 0 = .pointer (some ⟨I,0,none⟩):=d0
      replace hP:RdPh I w (p.fl ++ List.replicate z 0) done W:=hP
      generalize f 0 = x0 at *
      subst d0
      clear e0
      have hdn1:done 1 = false:=hdn
      go_simp
      refine (num_step I 67 1 _ W (by decide) (by decide) (by have:=HLN.out; omega) (hP.a hdn1)).mono ?_
      rintro e W' ⟨rfl,h1,h2⟩
      exact hK _ _ rfl ⟨hP.k.trans h2,(fun e=>by cases e),fun _=>h1⟩
    refine ⟨?_,?_⟩
    · intro done f W hP hdn hd K hK
      clear hd
      replace hP:RdPh I w (p.fl ++ List.replicate z 0) done W:=hP
      have kb:=(hP.k.block M HLM.out HNM.out).trans HM.out
      have qc:=F.cell_of kb 0
      simp at qc
      go_simp
      exact hK _ _ rfl (hP.pure _ (by decide))
    refine ⟨?_,?_⟩
    · intro done f W hP hdn hd K hK
      have d1:=(hd.1 rfl).2
      have e1:done 1 = true:=(hd.1 rfl).1
      have d2:=(hd.2.1 rfl).2
      have e2:done 2 = true:=(hd.2.1 rfl).1
      clear hd
      replace d1:f 1 = .int .u64 67:=d1
      replace d2:f 2 = .int .u64 67:=d2
      replace hP:RdPh I w (p.fl ++ List.replicate z 0) done W:=hP
      generalize f 1 = x1 at *
      subst d1
      clear e1
      generalize f 2 = x2 at *
      subst d2
      clear e2
      go_simp
      exact hK _ _ rfl (hP.pure _ (by decide))
    trivial
end Go.Proofs.YtncfbocbigdhiaaGreat

/- A Commit of its sector, and of a sector of noughts, as calls. -/
namespace Go.Proofs.YtncfbocbigdhiaaGreat
set_option maxRecDepth 100000
open Go.RowKit
theorem tx_list (l:List UInt8):(O.tx l).data.toList = l:=by unfold O.tx; simp
theorem tx_front (a b:List UInt8):(O.tx (a ++ b)).extract 0 a.length = O.tx a:=by
  have h:=tx_head (O.tx a) b
  rw [tx_list,tx_size] at h; exact h
theorem tx_back (a b:List UInt8):(O.tx (a ++ b)).extract a.length (O.tx (a ++ b)).size = O.tx b:=by
  have h:=tx_drop (O.tx a) b
  rw [tx_list,tx_size] at h; exact h
def cmz:Array Value:=#[.int .u64 0,.int .u64 0,.int .u64 0,.int .i64 0,.int .i64 0,.int .u32 0]
structure Rd (w:World) (R:Array Value) (X:Array Value) (W:World):Prop where
  bel:Below w.heap.size w W
  m:W.heap[w.heap.size]? = some (.cells #[.int .u64 67] 42)
  f:W.heap[w.heap.size + 1]? = some (.cells #[.func (.func 151) #[] #[]] 195)
  r:W.heap[w.heap.size + 2]? = some (.cells R 55)
  x:W.heap[w.heap.size + 3]? = some (.cells X 55)
theorem Rd.lt {w:World} {R X:Array Value} {W:World} (h:Rd w R X W):w.heap.size + 4 ≤ W.heap.size:=by
  have:=(Array.getElem?_eq_some_iff.1 h.x).1; omega
theorem Rd.below {w:World} {R X:Array Value} {W W':World} (h:Rd w R X W) (hb:Below W.heap.size W W'):Rd w R X W':=by
  have hl:=h.lt
  exact ⟨h.bel.trans (hb.mono (by omega)),(hb.block _ (by omega)).trans h.m,(hb.block _ (by omega)).trans h.f,(hb.block _ (by omega)).trans h.r,(hb.block _ (by omega)).trans h.x⟩
theorem rd_start (w:World):Rd w cmz cmz ((((w.alloc (.cells #[.int .u64 67] 42)).alloc (.cells #[.func (.func 151) #[] #[]] 195)).alloc (.cells cmz 55)).alloc (.cells cmz 55)):=by
  have e1:(w.alloc (.cells #[.int .u64 67] 42)).heap.size = w.heap.size + 1:=by simp
  have e2:((w.alloc (.cells #[.int .u64 67] 42)).alloc (.cells #[.func (.func 151) #[] #[]] 195)).heap.size = w.heap.size + 2:=by simp
  have e3:(((w.alloc (.cells #[.int .u64 67] 42)).alloc (.cells #[.func (.func 151) #[] #[]] 195)).alloc (.cells cmz 55)).heap.size = w.heap.size + 3:=by simp
  refine ⟨(((Below.alloc (Below.refl _ _) (Nat.le_refl _) _).alloc (by omega) _).alloc (by omega) _).alloc (by omega) _,?_,?_,?_,?_⟩
  · rw [Below.heap_alloc _ _ _ (by omega),Below.heap_alloc _ _ _ (by omega),Below.heap_alloc _ _ _ (by omega)]; exact F.heap_new _ _
  · rw [Below.heap_alloc _ _ _ (by omega),Below.heap_alloc _ _ _ (by omega),← e1]; exact F.heap_new _ _
  · rw [Below.heap_alloc _ _ _ (by omega),← e2]; exact F.heap_new _ _
  · rw [← e3]; exact F.heap_new _ _
def RgV (s tl bd:ByteArray):Nat → Value → Prop
  | 0,v=>v = .string s
  | 1,v=>v = .string tl
  | 2,v=>v = .string bd
  | 3,v=>v = .string tl
  | 4,v=>v = .bool false
  | _,_=>True
def RhV (s tl bd ty:ByteArray):Nat → Value → Prop
  | 0,v=>v = .string s
  | 1,v=>v = .string tl
  | 2,v=>v = .string bd
  | 3,v=>v = .string ty
  | 4,v=>v = .bool true
  | _,_=>True
set_option maxHeartbeats 2000000 in
set_option maxRecDepth 100000 in
theorem read_back (s bd tl:ByteArray) (p:Cm) (hp:p.Ok) (w:World) (hs:s.size = 64) (h1:s.extract 0 60 = bd) (h2:s.extract 60 64 = tl) (hbd:bd.size = 60) (hb:bd = O.tx (bodyL 67 p.fl)) (ht:tl = O.tx (tailL bd)) :
    Calls Tryz.prog 150 #[.string s,.int .u64 67,.func (.func 151) #[] #[]] w fun e w'=>e = .returned (.tuple #[.agg p.cs,.int .i64 0]) ∧ Below w.heap.size w w':=by
  have HTA:Hid _:=fun W=>tail_any bd (by omega) W
  obtain ⟨U,hU⟩:∃ U:World,U = (((w.alloc (.cells #[.int .u64 67] 42)).alloc (.cells #[.func (.func 151) #[] #[]] 195)).alloc (.cells cmz 55)).alloc (.cells cmz 55):=⟨_,rfl⟩
  have HU:Hid (_ = (((w.alloc (.cells #[.int .u64 67] 42)).alloc (.cells #[.func (.func 151) #[] #[]] 195)).alloc (.cells #[.int .u64 0,.int .u64 0,.int .u64 0,.int .i64 0,.int .i64 0,.int .u32 0] 55)).alloc (.cells #[.int .u64 0,.int .u64 0,.int .u64 0,.int .i64 0,.int .i64 0,.int .u32 0] 55)):=hU
  have HR0:Hid (Rd w cmz cmz U):=by rw [hU]; exact rd_start w
  have HS:Hid _:=hs
  have H1:Hid _:=h1
  have H2:Hid _:=h2
  have HBD:Hid _:=hbd
  have HP:Hid _:=hp
  have HBB:Hid _:=hb
  rw [← ht] at HTA
  clear hp hb ht
  clear hU
  go_enter Tryz.func150,Tryz.ntmps150
  go_wp2
  rw [← HU.out]
  refine O.wp_region_ph (fun f=>⟨#[.string s,.int .u64 67,.func (.func 151) #[] #[],undef,.pointer (some ⟨w.heap.size,0,none⟩),.pointer (some ⟨w.heap.size + 1,0,none⟩),.pointer (some ⟨w.heap.size + 1 + 1,0,none⟩),.int .i64 0,.pointer (some ⟨w.heap.size + 1 + 1 + 1,0,none⟩),.string bd,undef,undef,.string s,.int .i64 64,.bool false,undef,.string s,.string bd,f 0,f 1,f 2,f 3,f 4,undef,undef,undef,undef,undef,undef,undef,undef,undef],[]⟩) (RgV s tl bd) (fun _ _ W=>Rd w cmz cmz W) (fun i=>[undef,undef,undef,undef,undef].getD i undef) (by kernel_rfl) rfl rfl ?hIa ?hputa ?stepa ?fina
  case hIa=>exact HR0.out.below (Below.refl _ _).drew
  case fina=>
    intro f w1 hP hV
    have u0:f 0 = .string s:=hV 0 (by decide)
    have u1:f 1 = .string tl:=hV 1 (by decide)
    have u2:f 2 = .string bd:=hV 2 (by decide)
    have u3:f 3 = .string tl:=hV 3 (by decide)
    have u4:f 4 = .bool false:=hV 4 (by decide)
    clear hV
    generalize f 0 = x0 at *
    subst u0
    generalize f 1 = x1 at *
    subst u1
    generalize f 2 = x2 at *
    subst u2
    generalize f 3 = x3 at *
    subst u3
    generalize f 4 = x4 at *
    subst u4
    replace hP:Rd w cmz cmz w1:=hP
    have R1:Hid _:=hP
    clear hP f
    have hl1:=R1.out.lt
    have hz:bodyL 67 p.fl = O.numB 67 1 ++ (p.fl ++ List.replicate (60 - (1 + p.fl.length)) 0):=by unfold bodyL; rw [List.append_assoc]
    have hW:=O.W0_below w1 bd
    have hsz:=O.W0_size w1 bd
    have hin:=O.W0_in w1 bd
    have htk0:=O.W0_tk w1 bd
    have hRW:=R1.out.below hW
    have htk:=O.take_ok 170 #[.pointer (some ⟨w.heap.size,0,none⟩),.pointer (some ⟨w.heap.size + 1,0,none⟩),.pointer (some ⟨w.heap.size + 3,0,none⟩)] bd ⟨#[]⟩ (fun W=>W.heap[w.heap.size + 3]? = some (.cells p.cs 55) ∧ W.heap[w.heap.size + 2]? = some (.cells cmz 55) ∧ Below w.heap.size w W) w1 ent170 (by
      have hin2:=hin
      conv at hin2=>arg 3; rw [HBB.out,hz]
      refine (rdin_ok p HP.out (w1.heap.size + 2) w.heap.size (w.heap.size + 1) (w.heap.size + 3) _ cmz rfl (O.W0 w1 bd) (by omega) hin2 hRW.m hRW.f hRW.x (by omega) (by omega) (by omega)).mono ?_
      rintro e W ⟨rfl,hi,hx,hkx⟩
      exact ⟨rfl,hi,htk0.keep (fun k hk=>hkx.block k (by omega) (by omega) (by omega)),hx,(hkx.block (w.heap.size + 2) (by omega) (by omega) (by omega)).trans hRW.r,hRW.bel.trans ⟨hkx.os,hkx.tape,hkx.output,hkx.size,fun k hk=>hkx.block k (by omega) (by omega) (by omega)⟩⟩)
    clear hW hsz hin htk0 hRW hz
    go_wp2_with fail
    go_call htk as e w2 ⟨rfl,W,⟨hx,hr,hbl⟩,hkt⟩
    have hWs:w.heap.size + 4 ≤ W.heap.size:=by have:=(Array.getElem?_eq_some_iff.1 hx).1; omega
    have X2:Hid _:=(hkt.block (w.heap.size + 3) (by omega) (by omega) (by omega)).trans hx
    have R2:Hid _:=(hkt.block (w.heap.size + 2) (by omega) (by omega) (by omega)).trans hr
    have B2:Hid (Below w.heap.size w w2):=hbl.trans ⟨hkt.os,hkt.tape,hkt.output,hkt.size,fun k hk=>hkt.block k (by omega) (by omega) (by omega)⟩
    clear htk hx hr hbl hkt hWs R1 hl1
    go_wp2_with (first | (refine pld rfl _ rfl _ _ (Cm.cs_size _) rfl X2.out ?_) | (refine pldp _ rfl _ _ (Cm.cs_size _) rfl X2.out ?_) | (refine cst6 rfl _ _ rfl _ _ (Cm.cs_size _) rfl rfl (by rfl) R2.out (Cm.cs_one _) ?c6) | (refine cst6p _ _ rfl _ _ (Cm.cs_size _) rfl rfl (by rfl) R2.out (Cm.cs_one _) ?c6))
    intro w6 ho6 hk6
    have B6:Hid _:=ho6.below B2.out (by omega)
    have R6:Hid _:=hk6
    clear ho6 hk6
    go_wp2
    refine bodyPost_ret (pret2 Tryz.results150 _ _ (w.heap.size + 2) _ _ (Cm.cs_size _) rfl R6.out rfl) rfl ⟨rfl,B6.out⟩
  case hputa=>
    repeat (refine ⟨fun f v=>rfl,?_⟩)
    trivial
  case stepa=>
    refine ⟨?_,?_⟩
    · intro done f W hP hdn hd K hK
      clear hd
      replace hP:Rd w cmz cmz W:=hP
      go_simp
      exact hK _ _ rfl hP
    refine ⟨?_,?_⟩
    · intro done f W hP hdn hd K hK
      have d0:=(hd.1 rfl).2
      have e0:done 0 = true:=(hd.1 rfl).1
      clear hd
      replace d0:f 0 = .string s:=d0
      replace hP:Rd w cmz cmz W:=hP
      generalize f 0 = x0 at *
      subst d0
      clear e0
      go_simp
      exact hK _ _ (by first | rfl | (show Value.string _ = _; rw [H2.out]) | (show Value.string _ = _; rw [HS.out,H2.out])) hP
    refine ⟨?_,?_⟩
    · intro done f W hP hdn hd K hK
      clear hd
      replace hP:Rd w cmz cmz W:=hP
      go_simp
      exact hK _ _ rfl hP
    refine ⟨?_,?_⟩
    · intro done f W hP hdn hd K hK
      have d2:=(hd.1 rfl).2
      have e2:done 2 = true:=(hd.1 rfl).1
      clear hd
      replace d2:f 2 = .string bd:=d2
      replace hP:Rd w cmz cmz W:=hP
      generalize f 2 = x2 at *
      subst d2
      clear e2
      go_simp
      refine (HTA.out W).mono ?_
      rintro e W' ⟨rfl,hb⟩
      exact hK _ _ rfl (hP.below hb)
    refine ⟨?_,?_⟩
    · intro done f W hP hdn hd K hK
      have d1:=(hd.1 rfl).2
      have e1:done 1 = true:=(hd.1 rfl).1
      have d3:=(hd.2.1 rfl).2
      have e3:done 3 = true:=(hd.2.1 rfl).1
      clear hd
      replace d1:f 1 = .string tl:=d1
      replace d3:f 3 = .string tl:=d3
      replace hP:Rd w cmz cmz W:=hP
      generalize f 1 = x1 at *
      subst d1
      clear e1
      generalize f 3 = x3 at *
      subst d3
      clear e3
      go_simp
      exact hK _ _ (by first | rfl | (show Value.bool _ = _; simp)) hP
    trivial
set_option maxHeartbeats 2000000 in
set_option maxRecDepth 100000 in
theorem read_no (s bd tl:ByteArray) (w:World) (hs:s.size = 64) (h1:s.extract 0 60 = bd) (h2:s.extract 60 64 = tl) (hbd:bd.size = 60) (hne:¬ tl = O.tx (tailL bd)) :
    Calls Tryz.prog 150 #[.string s,.int .u64 67,.func (.func 151) #[] #[]] w fun e w'=>e = .returned (.tuple #[.agg cmz,.int .i64 5]) ∧ Below w.heap.size w w':=by
  have HTA:Hid _:=fun W=>tail_any bd (by omega) W
  obtain ⟨U,hU⟩:∃ U:World,U = (((w.alloc (.cells #[.int .u64 67] 42)).alloc (.cells #[.func (.func 151) #[] #[]] 195)).alloc (.cells cmz 55)).alloc (.cells cmz 55):=⟨_,rfl⟩
  have HU:Hid (_ = (((w.alloc (.cells #[.int .u64 67] 42)).alloc (.cells #[.func (.func 151) #[] #[]] 195)).alloc (.cells #[.int .u64 0,.int .u64 0,.int .u64 0,.int .i64 0,.int .i64 0,.int .u32 0] 55)).alloc (.cells #[.int .u64 0,.int .u64 0,.int .u64 0,.int .i64 0,.int .i64 0,.int .u32 0] 55)):=hU
  have HR0:Hid (Rd w cmz cmz U):=by rw [hU]; exact rd_start w
  have HS:Hid _:=hs
  have H1:Hid _:=h1
  have H2:Hid _:=h2
  have HBD:Hid _:=hbd
  generalize O.tx (tailL bd) = ty at *
  clear hU
  go_enter Tryz.func150,Tryz.ntmps150
  go_wp2
  rw [← HU.out]
  refine O.wp_region_ph (fun f=>⟨#[.string s,.int .u64 67,.func (.func 151) #[] #[],undef,.pointer (some ⟨w.heap.size,0,none⟩),.pointer (some ⟨w.heap.size + 1,0,none⟩),.pointer (some ⟨w.heap.size + 1 + 1,0,none⟩),.int .i64 0,.pointer (some ⟨w.heap.size + 1 + 1 + 1,0,none⟩),.string bd,undef,undef,.string s,.int .i64 64,.bool false,undef,.string s,.string bd,f 0,f 1,f 2,f 3,f 4,undef,undef,undef,undef,undef,undef,undef,undef,undef],[]⟩) (RhV s tl bd ty) (fun _ _ W=>Rd w cmz cmz W) (fun i=>[undef,undef,undef,undef,undef].getD i undef) (by kernel_rfl) rfl rfl ?hIb ?hputb ?stepb ?finb
  case hIb=>exact HR0.out.below (Below.refl _ _).drew
  case finb=>
    intro f w1 hP hV
    have u0:f 0 = .string s:=hV 0 (by decide)
    have u1:f 1 = .string tl:=hV 1 (by decide)
    have u2:f 2 = .string bd:=hV 2 (by decide)
    have u3:f 3 = .string ty:=hV 3 (by decide)
    have u4:f 4 = .bool true:=hV 4 (by decide)
    clear hV
    generalize f 0 = x0 at *
    subst u0
    generalize f 1 = x1 at *
    subst u1
    generalize f 2 = x2 at *
    subst u2
    generalize f 3 = x3 at *
    subst u3
    generalize f 4 = x4 at *
    subst u4
    replace hP:Rd w cmz cmz w1:=hP
    have R1:Hid _:=hP
    clear hP f
    go_wp2_with (first | (refine pld rfl _ rfl _ _ (by rfl) rfl R1.out.x ?_) | (refine pldp _ rfl _ _ (by rfl) rfl R1.out.x ?_) | (refine cst6 rfl _ _ rfl _ _ (by rfl) rfl rfl (by rfl) R1.out.r (by simp [cmz,Value.oneCell']) ?d6) | (refine cst6p _ _ rfl _ _ (by rfl) rfl rfl (by rfl) R1.out.r (by simp [cmz,Value.oneCell']) ?d6))
    intro w6 ho6 hk6
    have B6:Hid _:=ho6.below R1.out.bel (by omega)
    have R6:Hid _:=hk6
    clear ho6 hk6
    go_wp2
    refine bodyPost_ret (pret2 Tryz.results150 _ _ (w.heap.size + 2) _ _ (by rfl) rfl R6.out rfl) rfl ⟨rfl,B6.out⟩
  case hputb=>
    repeat (refine ⟨fun f v=>rfl,?_⟩)
    trivial
  case stepb=>
    refine ⟨?_,?_⟩
    · intro done f W hP hdn hd K hK
      clear hd
      replace hP:Rd w cmz cmz W:=hP
      go_simp
      exact hK _ _ rfl hP
    refine ⟨?_,?_⟩
    · intro done f W hP hdn hd K hK
      have d0:=(hd.1 rfl).2
      have e0:done 0 = true:=(hd.1 rfl).1
      clear hd
      replace d0:f 0 = .string s:=d0
      replace hP:Rd w cmz cmz W:=hP
      generalize f 0 = x0 at *
      subst d0
      clear e0
      go_simp
      exact hK _ _ (by first | rfl | (show Value.string _ = _; rw [H2.out]) | (show Value.string _ = _; rw [HS.out,H2.out])) hP
    refine ⟨?_,?_⟩
    · intro done f W hP hdn hd K hK
      clear hd
      replace hP:Rd w cmz cmz W:=hP
      go_simp
      exact hK _ _ rfl hP
    refine ⟨?_,?_⟩
    · intro done f W hP hdn hd K hK
      have d2:=(hd.1 rfl).2
      have e2:done 2 = true:=(hd.1 rfl).1
      clear hd
      replace d2:f 2 = .string bd:=d2
      replace hP:Rd w cmz cmz W:=hP
      generalize f 2 = x2 at *
      subst d2
      clear e2
      go_simp
      refine (HTA.out W).mono ?_
      rintro e W' ⟨rfl,hb⟩
      exact hK _ _ rfl (hP.below hb)
    refine ⟨?_,?_⟩
    · intro done f W hP hdn hd K hK
      have d1:=(hd.1 rfl).2
      have e1:done 1 = true:=(hd.1 rfl).1
      have d3:=(hd.2.1 rfl).2
      have e3:done 3 = true:=(hd.2.1 rfl).1
      clear hd
      replace d1:f 1 = .string tl:=d1
      replace d3:f 3 = .string ty:=d3
      replace hP:Rd w cmz cmz W:=hP
      generalize f 1 = x1 at *
      subst d1
      clear e1
      generalize f 3 = x3 at *
      subst d3
      clear e3
      have hnl:¬ tl.toList = ty.toList:=fun e=>hne (by rw [ByteArray.toList_eq,ByteArray.toList_eq] at e; exact ByteArray.ext (Array.toList_inj.mp e))
      go_simp
      exact hK _ _ (by first | rfl | (show Value.bool _ = _; simp [hnl])) hP
    trivial
set_option maxHeartbeats 1000000 in
set_option maxRecDepth 100000 in
theorem tocommit_of (s:ByteArray) (c:Array Value) (hc:c.size = 6) (h1:c.all (·.oneCell') = true) (er:Int) (w:World) (hr:∀ W,Calls Tryz.prog 150 #[.string s,.int .u64 67,.func (.func 151) #[] #[]] W fun e w'=>e = .returned (.tuple #[.agg c,.int .i64 er]) ∧ Below W.heap.size W w') :
    Calls Tryz.prog 131 #[.string s] w fun e w'=>e = .returned (.tuple #[.agg c,.int .i64 er]) ∧ Below w.heap.size w w':=by
  have HR:Hid _:=hr
  have HB:Hid (Below w.heap.size w (w.alloc (.cells #[.int .u64 0,.int .u64 0,.int .u64 0,.int .i64 0,.int .i64 0,.int .u32 0] 55))):=Below.alloc (Below.refl _ _) (Nat.le_refl _) _
  have HN:Hid ((w.alloc (.cells #[.int .u64 0,.int .u64 0,.int .u64 0,.int .i64 0,.int .i64 0,.int .u32 0] 55)).heap[w.heap.size]? = _):=F.heap_new _ _
  clear hr
  go_enter Tryz.func131,Tryz.ntmps131
  go_wp2_with fail
  go_call (HR.out _) as e w2 ⟨rfl,hb2⟩
  have N2:Hid _:=(hb2.block w.heap.size (by simp)).trans HN.out
  have B2:Hid (Below w.heap.size w w2):=HB.out.trans (hb2.mono (by simp))
  clear hb2 HB HN HR
  go_wp2_with (first | (refine cst6 rfl _ _ rfl _ _ hc rfl rfl (by rfl) N2.out h1 ?c6) | (refine cst6p _ _ rfl _ _ hc rfl rfl (by rfl) N2.out h1 ?c6))
  intro w6 ho6 hk6
  have B6:Hid _:=ho6.below B2.out (Nat.le_refl _)
  have R6:Hid _:=hk6
  clear ho6 hk6
  go_wp2
  refine bodyPost_ret (pret2 Tryz.results131 _ _ w.heap.size _ _ hc rfl R6.out rfl) rfl ⟨rfl,B6.out⟩
theorem tocommit_back (p:Cm) (hp:p.Ok) (w:World):Calls Tryz.prog 131 #[.string p.sec] w fun e w'=>e = .returned (.tuple #[.agg p.cs,.int .i64 0]) ∧ Below w.heap.size w w':=by
  have hl:=bodyL_length 67 p.fl (by rw [Cm.fl_length]; decide)
  have e1:=tx_front (bodyL 67 p.fl) (tailL (O.tx (bodyL 67 p.fl)))
  have e2:=tx_back (bodyL 67 p.fl) (tailL (O.tx (bodyL 67 p.fl)))
  rw [hl] at e1 e2
  have hs:=p.sec_size
  have e2':p.sec.extract 60 64 = O.tx (tailL (O.tx (bodyL 67 p.fl))):=by rw [← hs]; exact e2
  exact tocommit_of p.sec p.cs (Cm.cs_size _) (Cm.cs_one _) 0 w (fun W=>read_back p.sec _ _ p hp W hs e1 e2' (by rw [tx_size,hl]) rfl rfl)
def zsec:ByteArray:=O.tx (List.replicate 64 0)
end Go.Proofs.YtncfbocbigdhiaaGreat

/- Builder's WriteByte; a payload's sectors, and back, as calls. -/
namespace Go.Proofs
open Go.Shelf
set_option maxRecDepth 100000
def Tryz.lays167_ren:Go.Shelf.Ren:=⟨fun | 167=>94 | 240=>127 | 276=>148 | n=>n,fun | 0=>0 | 4=>4 | 5=>5 | 9=>9 | 20=>20 | 37=>75 | 70=>139 | 72=>141 | 75=>143 | 80=>57 | 164=>188 | n=>n,fun | n=>n⟩
theorem Tryz.lays167:Go.Proofs.Lays.n167 Tryz.prog Tryz.lays167_ren:={
  mixed:=by kernel_rfl
  f167:=Tryz.func94.trans (congrArg some (by kernel_rfl))
  f240:=Tryz.func127.trans (congrArg some (by kernel_rfl))
  f276:=Tryz.func148.trans (congrArg some (by kernel_rfl))
  t0:=Tryz.underlying0
  a0:=Tryz.isAgg0
  z0:=Tryz.sizeOf0
  v0:=Tryz.zeroValue0
  t4:=Tryz.underlying4
  a4:=Tryz.isAgg4
  z4:=Tryz.sizeOf4
  v4:=Tryz.zeroValue4
  t5:=Tryz.underlying5
  a5:=Tryz.isAgg5
  z5:=Tryz.sizeOf5
  v5:=Tryz.zeroValue5
  t9:=Tryz.underlying9
  a9:=Tryz.isAgg9
  z9:=Tryz.sizeOf9
  v9:=Tryz.zeroValue9
  t20:=Tryz.underlying20
  a20:=Tryz.isAgg20
  z20:=Tryz.sizeOf20
  v20:=Tryz.zeroValue20
  t37:=Tryz.underlying75
  a37:=Tryz.isAgg75
  z37:=Tryz.sizeOf75
  v37:=Tryz.zeroValue75
  t70:=Tryz.underlying139
  a70:=Tryz.isAgg139
  z70:=Tryz.sizeOf139
  v70:=Tryz.zeroValue139
  t72:=Tryz.underlying141
  a72:=Tryz.isAgg141
  z72:=Tryz.sizeOf141
  v72:=Tryz.zeroValue141
  t75:=Tryz.underlying143
  a75:=Tryz.isAgg143
  z75:=Tryz.sizeOf143
  v75:=Tryz.zeroValue143
  t164:=Tryz.underlying188
  a164:=Tryz.isAgg188
  z164:=Tryz.sizeOf188
  v164:=Tryz.zeroValue188 }
theorem Tryz.extra167:Builder.Extra Tryz.prog Tryz.lays167_ren:={
  sizeBuilder:=by kernel_rfl
  liesBuilder:=by kernel_rfl
  t5:=Tryz.underlying5
  a5:=Tryz.isAgg5
  z5:=Tryz.sizeOf5
  v5:=Tryz.zeroValue5
  infoByte:=by kernel_rfl
  cellsByte:=by kernel_rfl
  sizeByte:=by kernel_rfl
  neB5:=by decide }
end Go.Proofs
namespace Go.Proofs.YtncfbocbigdhiaaGreat
open Go.RowKit
theorem F.bld_byte (b:Nat) (l:List UInt8) (c:UInt8) (w:World) (h:F.Bld b l w) (hl:l.length ≤ 1000000) :
    Calls Tryz.prog 94 #[.pointer (some ⟨b,0,none⟩),.int .u8 (c.toNat:Nat)] w fun e w'=>e = .returned .nilIface ∧ F.Bld b (l ++ [c]) w' ∧ Lib.OthersKept 5 (some b) w w' ∧ Below b w w':=by
  have hb:b ≤ w.heap.size:=by
    rcases h with ⟨_,v,h1,_⟩ | ⟨_,v,h1,_⟩ <;> exact Nat.le_of_lt (F.getElem?_lt h1)
  have hlen:(Lib.byteCells l).length = l.length:=by rw [Lib.byteCells_length]
  refine (Any.Builder_WriteByte_k Tryz.lays167 Tryz.extra167 b b (Lib.byteCells l) (c.toNat:Nat) w h (by rw [hlen]; omega) hb).mono ?_
  rintro e w' ⟨he,h1,h2,h3⟩
  refine ⟨he,Or.inr ?_,h3,h2⟩
  have e2:Lib.byteCells l ++ [.int .u8 (c.toNat:Nat)] = Lib.byteCells (l ++ [c]):=by
    unfold Lib.byteCells
    rw [List.map_append]; rfl
  rw [e2] at h1
  exact h1
def plf (x:ByteArray) (k:Nat):ByteArray:=x.extract (63 * k) x.size
theorem plf_size (x:ByteArray) (k:Nat):(plf x k).size = x.size - 63 * k:=by unfold plf; simp [ByteArray.size_extract]
theorem plf_zero (x:ByteArray):plf x 0 = x:=by
  unfold plf
  apply ByteArray.ext
  simp
theorem plf_next (x:ByteArray) (k:Nat):(plf x k).extract 63 (plf x k).size = plf x (k + 1):=by
  unfold plf
  rw [ByteArray.extract_extract,ByteArray.size_extract]
  congr 1 <;> omega
def ppart (x:ByteArray) (k:Nat):ByteArray:=x.extract (63 * k) (63 * k + 63)
theorem plf_part (x:ByteArray) (k:Nat) (h:63 * k + 63 ≤ x.size):(plf x k).extract 0 63 = ppart x k:=by
  unfold plf ppart
  rw [ByteArray.extract_extract]
  congr 1; omega
theorem ppart_size (x:ByteArray) (k:Nat) (h:63 * k + 63 ≤ x.size):(ppart x k).size = 63:=by unfold ppart; rw [ByteArray.size_extract]; omega
def secP (x:ByteArray):Nat → List UInt8
  | 0=>[]
  | k + 1=>(secP x k ++ [68]) ++ (ppart x k).data.toList
theorem secP_length (x:ByteArray):∀ k,63 * k ≤ x.size → (secP x k).length = 64 * k
  | 0,_=>rfl
  | k + 1,h=>by
    rw [secP,List.length_append,List.length_append,secP_length x k (by omega),← O.size_list,ppart_size x k (by omega)]
    simp; omega
theorem ne_empty {t:ByteArray} (h:0 < t.size):t.toList.isEmpty = false:=by
  rw [Lib.toList_data]
  have:t.data.toList.length = t.size:=by rw [Array.length_toList]; rfl
  cases hd:t.data.toList with
  | nil=>rw [hd] at this; simp at this; omega
  | cons _ _=>rfl
theorem is_empty {t:ByteArray} (h:t.size = 0):t.toList.isEmpty = true:=by
  rw [Lib.toList_data]
  have h1:t.data.toList.length = t.size:=by rw [Array.length_toList]; rfl
  rw [h] at h1
  rw [List.eq_nil_of_length_eq_zero h1]; rfl
set_option maxHeartbeats 2000000 in
set_option maxRecDepth 100000 in
theorem sectors_any (x:ByteArray) (n:Nat) (hn:x.size = 63 * n) (hn2:n ≤ 100) (w:World) :
    Calls Tryz.prog 54 #[.string x] w fun e w'=>e = .returned (.string (O.tx (secP x n))) ∧ Below w.heap.size w w':=by
  have H0:Hid (Below w.heap.size w (w.alloc (.cells #[.pointer none,.slice none 0 0] 141)) ∧ F.Bld w.heap.size (secP x 0) (w.alloc (.cells #[.pointer none,.slice none 0 0] 141))):=⟨Below.alloc (Below.refl _ _) (Nat.le_refl _) _,F.bld_new w⟩
  have HLN:Hid (∀ k,k ≤ n → (secP x k).length ≤ 6400):=fun k hk=>by rw [secP_length x k (by omega)]; omega
  go_enter Tryz.func54,Tryz.ntmps54
  go_wp2
  go_loopw [0] (fun t wr=>∃ k:Nat,k ≤ n ∧ t = .string (plf x k) ∧ Hid (Below w.heap.size w wr ∧ F.Bld w.heap.size (secP x k) wr)) (fun t _=>match t with | .string b=>b.size | _=>0)
  case atStart=>exact ⟨0,by omega,by rw [plf_zero],H0.out⟩
  case round=>
    obtain ⟨k,hk,rfl,HI⟩:=hrel
    clear H0
    have hps:=plf_size x k
    rcases Nat.lt_or_ge k n with hlt | hge
    · have hpn:=plf_next x k
      have hpp:=plf_part x k (by omega)
      obtain ⟨t,ht⟩:∃ t,t = plf x k:=⟨_,rfl⟩
      rw [← ht] at hps hpn hpp ⊢
      have hts:t.size ≤ 6300:=by rw [hps]; omega
      have ht63:63 ≤ t.size:=by rw [hps]; omega
      have hne:=ne_empty (t:=t) (by omega)
      have HN:Hid _:=hpn
      have HP:Hid _:=hpp
      have HPS:Hid _:=hps
      have h63i:(63:Int) ≤ (t.size:Int):=by omega
      have hwb:=F.bld_byte w.heap.size (secP x k) 68 wr HI.out.2 (by have:=HLN.out k hk; omega)
      replace hwb:Calls Tryz.prog 94 #[.pointer (some ⟨w.heap.size,0,none⟩),.int .u8 68] wr fun e w'=>e = .returned .nilIface ∧ F.Bld w.heap.size (secP x k ++ [68]) w' ∧ Lib.OthersKept 5 (some w.heap.size) wr w' ∧ Below w.heap.size wr w':=hwb
      clear ht hpn hpp hps
      go_wp2_with fail
      go_call hwb as e w2 ⟨rfl,b2,k2,l2⟩
      have B2:Hid (Below w.heap.size w w2):=HI.out.1.trans l2
      have hws:=F.bld_write w.heap.size (secP x k ++ [68]) (t.extract 0 63) w2 b2 (by rw [List.length_append,ByteArray.size_extract]; have:=HLN.out k hk; simp; omega)
      clear hwb b2 k2 l2 HI
      go_wp2_with fail
      go_call hws as e w3 ⟨rfl,b3,k3,l3⟩
      have B3:Hid (Below w.heap.size w w3 ∧ F.Bld w.heap.size (secP x (k + 1)) w3):=⟨B2.out.trans l3,by rw [HP.out] at b3; exact b3⟩
      clear hws b3 k3 l3 B2
      go_wp2
      go_roundw
      case rel=>exact ⟨k + 1,by omega,by rw [HN.out],B3⟩
      case measure=>
        show (t.extract 63 t.size).size < t.size
        rw [ByteArray.size_extract]; omega
    · obtain rfl:k = n:=by omega
      have hemp:=is_empty (t:=plf x k) (by rw [hps]; omega)
      generalize plf x k = t at *
      have hst:=F.bld_string w.heap.size (secP x k) wr HI.out.2
      replace hst:Calls Tryz.prog 96 #[.pointer (some ⟨w.heap.size,0,none⟩)] wr fun e w'=>e = .returned (.string (O.tx (secP x k))) ∧ Lib.OthersKept 5 (some w.heap.size) wr w' ∧ Below w.heap.size wr w':=hst
      generalize hy:O.tx (secP x k) = y at hst
      have HY:Hid _:=hy
      clear hy hps
      go_wp2_with fail
      go_call hst as e w2 ⟨rfl,k2,l2⟩
      have B2:Hid (Below w.heap.size w w2):=HI.out.1.trans l2
      clear hst k2 l2
      go_wp2
      go_returns
      exact ⟨by show Ending.returned (.string y) = _; rw [← HY.out],B2.out⟩
end Go.Proofs.YtncfbocbigdhiaaGreat

/- The payload of its sectors, as a call. -/
namespace Go.Proofs.YtncfbocbigdhiaaGreat
open Go.RowKit
theorem idx0 (t:ByteArray) (b:UInt8) (h:t[0]? = some b) (W:World):(Instr.index 9 (.string t) (.int .i64 0)).run Tryz.prog W = .ok (.int .u8 (b.toNat:Nat)) W:=by
  simp [Instr.index,asIntOf,run_underlying Tryz.underlying9,h]
def slf (y:ByteArray) (k:Nat):ByteArray:=y.extract (64 * k) y.size
theorem slf_size (y:ByteArray) (k:Nat):(slf y k).size = y.size - 64 * k:=by unfold slf; simp [ByteArray.size_extract]
theorem slf_zero (y:ByteArray):slf y 0 = y:=by
  unfold slf
  apply ByteArray.ext
  simp
theorem slf_next (y:ByteArray) (k:Nat):(slf y k).extract 64 (slf y k).size = slf y (k + 1):=by
  unfold slf
  rw [ByteArray.extract_extract,ByteArray.size_extract]
  congr 1 <;> omega
def spart (y:ByteArray) (k:Nat):ByteArray:=y.extract (64 * k + 1) (64 * k + 64)
theorem slf_part (y:ByteArray) (k:Nat) (h:64 * k + 64 ≤ y.size):(slf y k).extract 1 64 = spart y k:=by
  unfold slf spart
  rw [ByteArray.extract_extract]
  congr 1; omega
theorem spart_size (y:ByteArray) (k:Nat) (h:64 * k + 64 ≤ y.size):(spart y k).size = 63:=by unfold spart; rw [ByteArray.size_extract]; omega
theorem slf_first (y:ByteArray) (k:Nat) (h:64 * k < y.size):(slf y k)[0]? = some y[64 * k]:=by
  have h0:0 < (y.extract (64 * k) y.size).size:=by rw [ByteArray.size_extract]; omega
  unfold slf
  rw [getElem?_pos (y.extract (64 * k) y.size) 0 h0,ByteArray.getElem_extract]
  rfl
def payL (y:ByteArray):Nat → List UInt8
  | 0=>[]
  | k + 1=>payL y k ++ (spart y k).data.toList
theorem payL_length (y:ByteArray):∀ k,64 * k ≤ y.size → (payL y k).length = 63 * k
  | 0,_=>rfl
  | k + 1,h=>by
    rw [payL,List.length_append,payL_length y k (by omega),← O.size_list,spart_size y k (by omega)]; omega
def Mk (y:ByteArray) (k:Nat):Prop:=y[64 * k]? = some 68
set_option maxHeartbeats 2000000 in
set_option maxRecDepth 100000 in
theorem payof_any (y:ByteArray) (n:Nat) (hn:y.size = 64 * n) (hn2:n ≤ 100) (w:World) :
    Calls Tryz.prog 100 #[.string y] w fun e w'=>(((∀ k,k < n → Mk y k) ∧ e = .returned (.string (O.tx (payL y n)))) ∨ ((∃ k,k < n ∧ ¬ Mk y k) ∧ e = .returned (.string ⟨#[]⟩))) ∧ Below w.heap.size w w':=by
  have H0:Hid (Below w.heap.size w (w.alloc (.cells #[.pointer none,.slice none 0 0] 141)) ∧ F.Bld w.heap.size (payL y 0) (w.alloc (.cells #[.pointer none,.slice none 0 0] 141)) ∧ ∀ k,k < 0 → Mk y k):=⟨Below.alloc (Below.refl _ _) (Nat.le_refl _) _,F.bld_new w,fun k hk=>absurd hk (Nat.not_lt_zero _)⟩
  have HLN:Hid (∀ k,k ≤ n → (payL y k).length ≤ 6300):=fun k hk=>by rw [payL_length y k (by omega)]; omega
  go_enter Tryz.func100,Tryz.ntmps100
  go_wp2
  go_loopw [0] (fun t wr=>∃ k:Nat,k ≤ n ∧ t = .string (slf y k) ∧ Hid (Below w.heap.size w wr ∧ F.Bld w.heap.size (payL y k) wr ∧ ∀ j,j < k → Mk y j)) (fun t _=>match t with | .string b=>b.size | _=>0)
  case atStart=>exact ⟨0,by omega,by rw [slf_zero],H0⟩
  case round=>
    obtain ⟨k,hk,rfl,HI⟩:=hrel
    clear H0
    have hps:=slf_size y k
    rcases Nat.lt_or_ge k n with hlt | hge
    · have hpn:=slf_next y k
      have hpp:=slf_part y k (by omega)
      have hf:=slf_first y k (by omega)
      obtain ⟨t,ht⟩:∃ t,t = slf y k:=⟨_,rfl⟩
      obtain ⟨b,hb⟩:∃ b,b = y[64 * k]'(by omega):=⟨_,rfl⟩
      rw [← ht] at hps hpn hpp hf ⊢
      rw [← hb] at hf
      have HMK:Hid (Mk y k ↔ b = 68):=by
        show Mk y k ↔ b = 68
        unfold Mk
        rw [getElem?_pos y (64 * k) (by omega),← hb]
        exact Option.some_inj
      have hix:=fun W=>idx0 t b hf W
      have hts:t.size ≤ 6400:=by rw [hps]; omega
      have ht64:64 ≤ t.size:=by rw [hps]; omega
      have hne:=ne_empty (t:=t) (by omega)
      have HN:Hid _:=hpn
      have HP:Hid _:=hpp
      have h64i:(64:Int) ≤ (t.size:Int):=by omega
      clear ht hpn hpp hps hb hf
      by_cases hb:b = 68
      · subst hb
        have hix2:∀ W,(Instr.index 9 (.string t) (.int .i64 0)).run Tryz.prog W = .ok (.int .u8 68) W:=hix
        have hws:=F.bld_write w.heap.size (payL y k) (t.extract 1 64) wr HI.out.2.1 (by rw [ByteArray.size_extract]; have:=HLN.out k hk; omega)
        clear hix
        go_wp2_with fail
        go_call hws as e w3 ⟨rfl,b3,k3,l3⟩
        have B3:Hid (Below w.heap.size w w3 ∧ F.Bld w.heap.size (payL y (k + 1)) w3 ∧ ∀ j,j < k + 1 → Mk y j):=⟨HI.out.1.trans l3,by rw [HP.out] at b3; exact b3,fun j hj=>by
          rcases Nat.lt_or_ge j k with h | h
          · exact HI.out.2.2 j h
          · obtain rfl:j = k:=by omega
            exact HMK.out.2 (by first | rfl | trivial)⟩
        clear hws b3 k3 l3 HI
        go_wp2
        go_roundw
        case rel=>exact ⟨k + 1,by omega,by rw [HN.out],B3⟩
        case measure=>
          show (t.extract 64 t.size).size < t.size
          rw [ByteArray.size_extract]; omega
      · have hbn:¬ ((b.toNat:Nat):Int) = 68:=fun e=>hb (by
          apply UInt8.toNat_inj.1
          show b.toNat = 68
          omega)
        go_wp2
        go_returns
        exact ⟨Or.inr ⟨⟨k,hlt,fun q=>hb (HMK.out.1 q)⟩,rfl⟩,HI.out.1⟩
    · obtain rfl:k = n:=by omega
      have hemp:=is_empty (t:=slf y k) (by rw [hps]; omega)
      generalize slf y k = t at *
      have hst:=F.bld_string w.heap.size (payL y k) wr HI.out.2.1
      replace hst:Calls Tryz.prog 96 #[.pointer (some ⟨w.heap.size,0,none⟩)] wr fun e w'=>e = .returned (.string (O.tx (payL y k))) ∧ Lib.OthersKept 5 (some w.heap.size) wr w' ∧ Below w.heap.size wr w':=hst
      generalize hy:O.tx (payL y k) = z at hst
      have HY:Hid _:=hy
      clear hy hps
      go_wp2_with fail
      go_call hst as e w2 ⟨rfl,k2,l2⟩
      have B2:Hid (Below w.heap.size w w2):=HI.out.1.trans l2
      clear hst k2 l2
      go_wp2
      go_returns
      exact ⟨Or.inl ⟨HI.out.2.2,by show Ending.returned (.string z) = _; rw [← HY.out]⟩,B2.out⟩
end Go.Proofs.YtncfbocbigdhiaaGreat

/- A segment: its commit, Room, as calls. -/
namespace Go.Proofs.YtncfbocbigdhiaaGreat
open Go.RowKit
structure Sg where
  M:Nat
  c:Nat
  j:Nat
  n:Nat
  b:Nat
  p:Nat
  a:Nat
def Sg.cs (s:Sg):Array Value:=#[.pointer (some ⟨s.M,0,none⟩),.int .u64 (s.c:Nat),.int .u64 (s.j:Nat),.int .u64 (s.n:Nat),.int .i64 (s.b:Nat),.int .i64 (s.p:Nat),.int .i64 (s.a:Nat)]
structure Sg.Ok (s:Sg):Prop where
  c:s.c < 18446744073709551616
  j:s.j < 18446744073709551616
  n:s.n < 18446744073709551616
  b:s.b ≤ 10000
  p0:8 ≤ s.p
  p1:s.p ≤ 64
  a0:1 ≤ s.a
  a1:s.a ≤ s.p
theorem sum_pay (x:ByteArray) (hx:x.size ≤ 100000) (b:Nat) (w:World) (hb:w.cell? ⟨b,0,none⟩ = some (.string x)) :
    Calls Tryz.prog 98 #[.slice (some ⟨b,0,none⟩) 1 1] w fun e w'=>e = .returned (.int .u32 (sm x:Nat)) ∧ w' = w:=by
  have h:=S.of_any (fun _=>x) 1 b (by decide) (fun _=>by omega) w (fun j hj=>by
    obtain rfl:j = 0:=by omega
    exact hb)
  exact h
def Sg.cm (s:Sg) (a:Nat) (x:ByteArray):Cm:=⟨s.c,s.j,s.n,a,x.size / 63,sm x⟩
set_option maxRecDepth 100000 in
set_option maxHeartbeats 1000000 in
theorem room_any (s:Sg) (B:Nat) (k:Int) (w:World) (h:w.heap[B]? = some (.cells s.cs 44)) (hs:s.p ≤ 1000 ∧ s.a ≤ 1000) :
    Calls Tryz.prog 14 #[.pointer (some ⟨B,0,none⟩),.int .i64 k] w fun e w'=>e = .returned (.bool (decide (0 < k ∧ k < (s.p:Nat) - (s.a:Nat)))) ∧ Below w.heap.size w w':=by
  obtain ⟨M,c,jn,nm,b,p,a⟩:=s
  have c5:∀ n,(w.drewN n).cell? ⟨B,5,none⟩ = some (.int .i64 (p:Nat)):=fun n=>F.cell_of (w:=w.drewN n) h 5
  have c6:∀ n,(w.drewN n).cell? ⟨B,6,none⟩ = some (.int .i64 (a:Nat)):=fun n=>F.cell_of (w:=w.drewN n) h 6
  have hs1:p ≤ 1000:=hs.1
  have hs2:a ≤ 1000:=hs.2
  show Calls Tryz.prog 14 #[.pointer (some ⟨B,0,none⟩),.int .i64 k] w fun e w'=>e = .returned (.bool (decide (0 < k ∧ k < (p:Int) - (a:Int)))) ∧ Below w.heap.size w w'
  clear h hs
  by_cases hk:0 < k
  · by_cases hk2:k < (p:Int) - (a:Int)
    · rw [decide_eq_true ⟨hk,hk2⟩]
      have hwr:IntKind.i64.wrap ((p:Int) - (a:Int)) = (p:Int) - (a:Int):=by rw [IntKind.wrap_i64]; omega
      go_enter Tryz.func14,Tryz.ntmps14
      go_wp2
      go_quiet (fail)
      go_wp2
      go_returns
      exact ⟨by first | rfl | simp [hk2] | (simp; omega),⟨rfl,rfl,rfl,Nat.le_refl _,fun _ _=>rfl⟩⟩
    · rw [decide_eq_false (fun q=>hk2 q.2)]
      have hk3:¬ k < (p:Int) - (a:Int):=hk2
      have hwr:IntKind.i64.wrap ((p:Int) - (a:Int)) = (p:Int) - (a:Int):=by rw [IntKind.wrap_i64]; omega
      go_enter Tryz.func14,Tryz.ntmps14
      go_wp2
      go_quiet (fail)
      go_wp2
      go_returns
      exact ⟨by first | rfl | simp [hk2] | (simp; omega),⟨rfl,rfl,rfl,Nat.le_refl _,fun _ _=>rfl⟩⟩
  · rw [decide_eq_false (fun q=>hk q.1)]
    have hk0:decide (0 < k) = false:=decide_eq_false hk
    have hk1:k ≤ 0:=by omega
    go_enter Tryz.func14,Tryz.ntmps14
    go_wp2
    go_quiet (fail)
    go_wp2
    go_returns
    exact ⟨rfl,⟨rfl,rfl,rfl,Nat.le_refl _,fun _ _=>rfl⟩⟩
end Go.Proofs.YtncfbocbigdhiaaGreat
