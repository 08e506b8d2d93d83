/- Texts of this seat, one behind the other. -/
import Derived.Test.YtncfbocbigdhiaaGreatQLQ
import Derived.Test.YtncfbocbigdhiaaGreatQJ
import Derived.Test.YtncfbocbigdhiaaGreatQLY
import Derived.Deep.QuietTactic
import Derived.BigQuiet
/- What SeglogTurns' pay and same answer, as calls. -/
namespace Go.Proofs.YtncfbocbigdhiaaGreat
open Go.RowKit
set_option maxHeartbeats 1000000 in
set_option maxRecDepth 100000 in
theorem pay44 (s:ByteArray) (n:Nat) (h1:1 ≤ n) (h2:n ≤ 100) (w:World):Calls Tryz.prog 44 #[.string s,.int .i64 (n:Nat)] w fun e w'=>e = .returned (.string (payN s n)) ∧ Below w.heap.size w w':=by
  have hmk:=mk_bytes (63 * n) (by omega) w
  have e63:(63:Int) * (n:Int) = ((63 * n:Nat):Int):=by omega
  have hcp:=run_copy_bytes (w.alloc (.cells (zb (63 * n)) 5)) w.heap.size (63 * n) (63 * n) s (zb (63 * n)) (F.heap_new _ _) (by unfold zb; simp) 3
  rw [pl0_cells] at hcp
  obtain ⟨w2,hw2⟩:∃ w2,w2 = (w.alloc (.cells (zb (63 * n)) 5)).setRow w.heap.size (Lib.byteCells (pl0 s n)).toArray:=⟨_,rfl⟩
  rw [← hw2] at hcp
  have hb2:w2.heap[w.heap.size]? = some (.cells (Lib.byteCells (pl0 s n)).toArray 5):=by rw [hw2]; exact setRow_heap _ _ _ _ _ _ (F.heap_new _ _)
  have hl2:(Lib.byteCells (pl0 s n)).length = 63 * n:=by rw [Lib.byteCells_length,pl0_len]
  have q0:∃ x,w2.cell? ⟨w.heap.size,62,none⟩ = some x:=by
    rw [F.cell_of hb2]
    exact ⟨_,Array.getElem?_eq_getElem (by rw [List.size_toArray,hl2]; omega)⟩
  obtain ⟨x0,q0⟩:=q0
  have f0:w2.frozen? ⟨w.heap.size,62,none⟩ = false:=F.frz_of hb2 62
  have hb3:=F.block_set (i:=62) hb2 (.int .u8 (n:Int))
  obtain ⟨w3,hw3⟩:∃ w3,w3 = w2.setCell ⟨w.heap.size,62,none⟩ (.int .u8 (n:Int)):=⟨_,rfl⟩
  rw [← hw3] at hb3
  have hcv:(convert 75 9 (.slice (some ⟨w.heap.size,0,none⟩) (63 * n) (63 * n))).run Tryz.prog w3 = .ok (.string (payN s n)) w3:=by
    have h:=run_convert_bytes_back (P:=Tryz.prog) w3 75 9 5 ⟨w.heap.size,0,none⟩ (63 * n) ((pl0 s n).set 62 (UInt8.ofNat n)) Tryz.underlying75 Tryz.underlying5 Tryz.underlying9 (fun j hj=>by
      have hj2:j < 63 * n:=by rw [List.length_set,pl0_len] at hj; exact hj
      rw [Addr.add_lit,Nat.zero_add,F.cell_of hb3,Array.getElem?_setIfInBounds]
      by_cases e:62 = j
      · subst e
        rw [if_pos rfl,if_pos (by rw [List.size_toArray,hl2]; omega),List.getElem_set_self]
        congr 2
        rw [UInt8.toNat_ofNat']; omega
      · rw [if_neg e,List.getElem?_toArray,List.getElem?_eq_getElem (by rw [hl2]; exact hj2),List.getElem_set_ne e]
        unfold Lib.byteCells
        rw [List.getElem_map])
    rw [List.length_set,pl0_len] at h
    exact h
  have HB:Hid (Below w.heap.size w w3):=by
    rw [hw3,hw2]
    have hb1:Below w.heap.size w (w.alloc (.cells (zb (63 * n)) 5)):=(Below.refl _ _).alloc (Nat.le_refl _) _
    have hb4:Below w.heap.size w ((w.alloc (.cells (zb (63 * n)) 5)).setRow w.heap.size (Lib.byteCells (pl0 s n)).toArray):=⟨hb1.os,hb1.tape,hb1.output,by rw [size_setRow]; exact hb1.size,fun k hk=>by rw [setRow_other _ _ _ _ (by omega)]; exact hb1.block k hk⟩
    exact hb4.setCell (Nat.le_refl _) _
  rw [← e63] at hmk
  rw [hw3] at hcv HB
  clear hb2 hl2 hb3 hw2 e63 hw3
  go_enter Tryz.func44,Tryz.ntmps44
  go_wp2
  go_returns
  exact ⟨rfl,HB.out⟩
end Go.Proofs.YtncfbocbigdhiaaGreat

/- awake of the statements on logs: its closure, as a call. -/
namespace Go.Proofs.YtncfbocbigdhiaaGreat.U
open Go Go.RowKit Go.Sort
theorem ent70 (args:Array Value) (W:World):(callFunc 70 args).run Tryz.prog W = .ok (.enter 70 args) W:=O.enter_of Tryz.func70 (by kernel_rfl) (by kernel_rfl) args W
def x63:ByteArray:=⟨(List.replicate 63 0).toArray⟩
structure PhW (A B:List (Nat × Obj) → World → Prop) (zs:Obj) (z v:Obj) (done:Nat → Bool) (f:Nat → Value) (W:World):Prop where
  a0:done 3 = false → done 4 = false → A [] W
  a1:done 3 = false → done 4 = true → ∃ X,f 4 = .pointer (some ⟨X,0,none⟩) ∧ A [(X,z)] W
  b0:done 3 = true → done 4 = false → B [] W
  b1:done 3 = true → done 4 = true → done 5 = false → ∃ X,f 4 = .pointer (some ⟨X,0,none⟩) ∧ B [(X,z)] W
  c:done 5 = true → ∃ X,f 4 = .pointer (some ⟨X,0,none⟩) ∧ B [(X,v)] W
  m:done 1 = true → done 2 = false → ∃ G,f 1 = .slice (some ⟨G,0,none⟩) 63 63 ∧ W.heap[G]? = some zs
  o:done 5 = true → done 3 = true ∧ done 4 = true
  o3:done 3 = true → done 2 = true
  o2:done 2 = true → done 1 = true
section
variable {A B:List (Nat × Obj) → World → Prop} {zs z v:Obj} {done:Nat → Bool} {f:Nat → Value} {W W':World}
theorem PhW.start (h:A [] W):PhW A B zs z v (fun _=>false) f W:=by
  exact ⟨fun _ _=>h,(fun _ e=>by cases e),(fun e=>by cases e),(fun e=>by cases e),(fun e=>by cases e),(fun e=>by cases e),(fun e=>by cases e),(fun e=>by cases e),(fun e=>by cases e)⟩
theorem PhW.n5 (h:PhW A B zs z v done f W) (hd:done 3 = false ∨ done 4 = false):done 5 = false:=by
  cases e:done 5 with
  | false=>rfl
  | true=>obtain ⟨a,b⟩:=h.o e; rcases hd with hd | hd <;> simp_all
theorem PhW.pure (h:PhW A B zs z v done f W) (u:Value):PhW A B zs z v (F.updB done 0) (F.upd f 0 u) W:=
  ⟨h.a0,h.a1,h.b0,h.b1,h.c,h.m,h.o,h.o3,h.o2⟩
theorem PhW.mks (h:PhW A B zs z v done f W) (hd:done 1 = false) (G:Nat) (hA:∀ ex,A ex W → A ex W') (hG:W'.heap[G]? = some zs):PhW A B zs z v (F.updB done 1) (F.upd f 1 (.slice (some ⟨G,0,none⟩) 63 63)) W':=by
  have h3:done 3 = false:=by
    cases e:done 3 with
    | false=>rfl
    | true=>have:=h.o2 (h.o3 e); rw [hd] at this; cases this
  have n5:=h.n5 (Or.inl h3)
  refine ⟨fun a b=>hA _ (h.a0 a b),fun a b=>?_,fun a=>?_,fun a=>?_,fun a=>?_,fun _ _=>⟨G,rfl,hG⟩,h.o,h.o3,fun _=>rfl⟩
  · obtain ⟨X,x1,x2⟩:=h.a1 a b
    exact ⟨X,x1,hA _ x2⟩
  · have a2:done 3 = true:=a
    rw [h3] at a2; cases a2
  · have a2:done 3 = true:=a
    rw [h3] at a2; cases a2
  · have a2:done 5 = true:=a
    rw [n5] at a2; cases a2
theorem PhW.cv (h:PhW A B zs z v done f W) (u:Value) (h1:done 1 = true):PhW A B zs z v (F.updB done 2) (F.upd f 2 u) W:=by
  refine ⟨h.a0,h.a1,h.b0,h.b1,h.c,fun _ b=>?_,h.o,fun _=>rfl,fun _=>h1⟩
  have b2:(if (2:Nat) = 2 then true else done 2) = false:=b
  cases b2
theorem PhW.call (h:PhW A B zs z v done f W) (u:Value) (h2:done 2 = true) (h3:done 3 = false) (hB:∀ ex,(done 4 = false ∧ ex = [] ∨ done 4 = true ∧ ∃ X,f 4 = .pointer (some ⟨X,0,none⟩) ∧ ex = [(X,z)]) → A ex W → B ex W'):PhW A B zs z v (F.updB done 3) (F.upd f 3 u) W':=by
  have n5:=h.n5 (Or.inl h3)
  refine ⟨fun a b=>?_,fun a b=>?_,fun _ b=>hB _ (Or.inl ⟨b,rfl⟩) (h.a0 h3 b),fun _ b _=>?_,fun a=>?_,fun a b=>?_,fun a=>?_,fun _=>h2,h.o2⟩
  · cases a
  · cases a
  · obtain ⟨X,x1,x2⟩:=h.a1 h3 b
    exact ⟨X,x1,hB _ (Or.inr ⟨b,X,x1,rfl⟩) x2⟩
  · have a2:done 5 = true:=a
    rw [n5] at a2; cases a2
  · have b2:done 2 = false:=b
    rw [h2] at b2; cases b2
  · have a2:done 5 = true:=a
    rw [n5] at a2; cases a2
theorem PhW.alloc (h:PhW A B zs z v done f W) (h4:done 4 = false) (X:Nat) (hA:A [] W → A [(X,z)] W') (hB:B [] W → B [(X,z)] W') (hk:∀ G:Nat,W.heap[G]? = some zs → W'.heap[G]? = some zs):PhW A B zs z v (F.updB done 4) (F.upd f 4 (.pointer (some ⟨X,0,none⟩))) W':=by
  have n5:=h.n5 (Or.inr h4)
  refine ⟨fun a b=>?_,fun a _=>⟨X,rfl,hA (h.a0 a h4)⟩,fun a b=>?_,fun a _ _=>⟨X,rfl,hB (h.b0 a h4)⟩,fun a=>?_,fun a b=>?_,fun a=>?_,h.o3,h.o2⟩
  · cases b
  · cases b
  · have a2:done 5 = true:=a
    rw [n5] at a2; cases a2
  · obtain ⟨G,g1,g2⟩:=h.m a b
    exact ⟨G,g1,hk G g2⟩
  · have a2:done 5 = true:=a
    rw [n5] at a2; cases a2
theorem PhW.store (h:PhW A B zs z v done f W) (u:Value) (h3:done 3 = true) (h4:done 4 = true) (X:Nat) (hX:f 4 = .pointer (some ⟨X,0,none⟩)) (hB:B [(X,v)] W'):PhW A B zs z v (F.updB done 5) (F.upd f 5 u) W':=by
  have h2:=h.o3 h3
  refine ⟨fun a=>?_,fun a=>?_,fun a b=>?_,fun a b c=>?_,fun _=>⟨X,hX,hB⟩,fun a b=>?_,fun _=>⟨h3,h4⟩,h.o3,h.o2⟩
  · have a2:done 3 = false:=a
    rw [h3] at a2; cases a2
  · have a2:done 3 = false:=a
    rw [h3] at a2; cases a2
  · have a2:done 4 = false:=b
    rw [h4] at a2; cases a2
  · cases c
  · have b2:done 2 = false:=b
    rw [h2] at b2; cases b2
end
theorem x63_size:x63.size = 63 * 1:=by decide
theorem conv63 (W:World) (G:Nat) (h:W.heap[G]? = some (.cells (zb 63) 5)):(convert 75 9 (.slice (some ⟨G,0,none⟩) 63 63)).run Tryz.prog W = .ok (.string x63) W:=by
  have h:=run_convert_bytes_back (P:=Tryz.prog) W 75 9 5 ⟨G,0,none⟩ 63 (List.replicate 63 0) Tryz.underlying75 Tryz.underlying5 Tryz.underlying9 (fun j hj=>by
    rw [List.length_replicate] at hj
    rw [Addr.add_lit,Nat.zero_add,F.cell_of h]
    unfold zb
    rw [Array.getElem?_replicate,if_pos hj,List.getElem_replicate]; rfl)
  rw [List.length_replicate] at h
  exact h
def V70 (Lb:Nat):Nat → Value → Prop
  | 0,v=>v = .pointer (some ⟨Lb,0,none⟩)
  | 2,v=>v = .string x63
  | 3,v=>v = .agg #[.int .i64 0,.int .i64 1,.int .i64 1]
  | _,_=>True
set_option maxHeartbeats 4000000 in
set_option maxRecDepth 100000 in
theorem op70 {T:Nat} {w:World} {L:F.Loc} {q:Int} {Lb Xb Gb:Nat} {l:Lg} {v:Value} {ol rest:List (Nat × Obj)} {now:Nat → ByteArray} {c:Int} {W0:World} (h:LgI T w L q 17 Lb l v ol ((Xb,Obj.cells #[.pointer (some ⟨Lb,0,none⟩)] 62) :: (Gb,Obj.cells #[.bool false] 4) :: rest) now now c W0)
    (ep:l.p = 8) (ens:l.ns = 2) (elv:l.lv = []) (em:l.m = 0) (hm:(l.M,F.med L.P 1 q) ∈ rest) (hXG:Xb ≠ Gb) (hnx:∀ r ∈ rest,r.1 ≠ Xb) (hng:∀ r ∈ rest,r.1 ≠ Gb) (hc:c ≤ 1000000) :
    Calls Tryz.prog 70 #[.pointer (some ⟨Xb,0,none⟩),.pointer (some ⟨Gb,0,none⟩)] W0 fun e w'=>e = .returned (.tuple #[]) ∧ ∃ S v' ol',LgI T w L q 17 Lb ((l.up 0 S 1).to 0 3) v' ol' ((Xb,Obj.cells #[.pointer (some ⟨Lb,0,none⟩)] 62) :: (Gb,Obj.cells #[.bool true] 4) :: rest) (layC (F.lay now 1 (Hd.mk l.c l.j 1 false).sec 1) ⟨l.M,l.c,l.j,1,1,8,1⟩ x63 1) (layC (F.lay now 1 (Hd.mk l.c l.j 1 false).sec 1) ⟨l.M,l.c,l.j,1,1,8,1⟩ x63 1) (c + 200) w':=by
  have hpt:l.pt 0 = none:=by
    have:=(h.pn 0 (by omega))
    rw [elv] at this
    cases hp:l.pt 0 with
    | none=>rfl
    | some S=>exact absurd (this.2 (by rw [hp]; exact fun x=>by cases x)) (by simp)
  have hst:=start_yes h 0 (by omega) hpt (fun i hi=>absurd hi (Nat.not_lt_zero _)) (by omega) (by omega) (by decide) (by omega)
  rw [em,Nat.zero_mul] at hst
  have qx:W0.cell? ⟨Xb,0,none⟩ = some (.pointer (some ⟨Lb,0,none⟩)):=F.cell_of (h.dv.at' (p:=(Xb,Obj.cells #[.pointer (some ⟨Lb,0,none⟩)] 62)) (by simp)) 0
  have HH:Hid (l.p = 8 ∧ l.ns = 2 ∧ l.lv = [] ∧ (l.M,F.med L.P 1 q) ∈ rest ∧ Xb ≠ Gb ∧ (∀ r ∈ rest,r.1 ≠ Xb) ∧ (∀ r ∈ rest,r.1 ≠ Gb) ∧ c ≤ 1000000):=⟨ep,ens,elv,hm,hXG,hnx,hng,hc⟩
  clear h ep ens elv em hm hXG hnx hng hc hpt
  go_enter Tryz.func70,Tryz.ntmps70
  go_wp2_with fail
  go_call hst as e w1 ⟨rfl,S,v1,ol1,h1⟩
  have h1lv:(l.up 0 S 1).lv = [0]:=by show l.lv ++ [0] = _; rw [HH.out.2.2.1]; rfl
  have h1a:(l.up 0 S 1).a 0 = 1:=rfl
  have h1p:(l.up 0 S 1).p = 8:=HH.out.1
  have hr6:=room_some h1 (by rw [h1lv]; decide) 0 (by simp only [h1lv]; rfl) 6 true (by rw [h1a,h1p]; decide)
  have q1:w1.cell? ⟨Xb,0,none⟩ = some (.pointer (some ⟨Lb,0,none⟩)):=F.cell_of (h1.dv.at' (p:=(Xb,Obj.cells #[.pointer (some ⟨Lb,0,none⟩)] 62)) (by simp)) 0
  have H1:Hid _:=h1
  clear hst h1 qx
  go_wp2_with fail
  go_call hr6 as e w2 ⟨rfl,hb2⟩
  have h2:=H1.out.below hb2
  have hr7:=room_some h2 (by rw [h1lv]; decide) 0 (by simp only [h1lv]; rfl) 7 false (by rw [h1a,h1p]; decide)
  have q2:w2.cell? ⟨Xb,0,none⟩ = some (.pointer (some ⟨Lb,0,none⟩)):=F.cell_of (h2.dv.at' (p:=(Xb,Obj.cells #[.pointer (some ⟨Lb,0,none⟩)] 62)) (by simp)) 0
  have H2:Hid _:=h2
  clear hr6 h2 q1 hb2 H1
  go_wp2_with fail
  go_call hr7 as e w3 ⟨rfl,hb3⟩
  have h3:=H2.out.below hb3
  have hbg:=h3.dv.at' (p:=(Gb,Obj.cells #[.bool false] 4)) (by simp)
  have q3:w3.cell? ⟨Gb,0,none⟩ = some (.bool false):=F.cell_of hbg 0
  have f3:w3.frozen? ⟨Gb,0,none⟩ = false:=F.frz_of hbg 0
  have h4:=(h3.drop (rest':=(Gb,Obj.cells #[.bool false] 4) :: (Xb,Obj.cells #[.pointer (some ⟨Lb,0,none⟩)] 62) :: rest) (by simp [Lg.up,HH.out.2.2.2.1]) (by
    intro r hr
    simp only [List.mem_cons] at hr ⊢
    rcases hr with hr | hr | hr <;> simp [hr])).off (W':=w3.setCell ⟨Gb,0,none⟩ (.bool true)) (o':=Obj.cells #[.bool true] 4) (by
    intro r hr
    rcases List.mem_cons.1 hr with rfl | hr
    · exact HH.out.2.2.2.2.1
    · exact HH.out.2.2.2.2.2.2.1 r hr) (by simp [Lg.up,HH.out.2.2.2.1]) ((Off.refl Gb _).set 0 _) (by rw [F.block_set hbg]; rfl) (F.apart_of (by decide)) (fun _ _=>cells_ne2 (by decide))
  have H4:Hid (LgI T w L q 17 Lb (l.up 0 S 1) v1 ol1 ((Gb,Obj.cells #[.bool true] 4) :: (Xb,Obj.cells #[.pointer (some ⟨Lb,0,none⟩)] 62) :: rest) (F.lay now 1 (Hd.mk l.c l.j 1 false).sec 1) (F.lay now 1 (Hd.mk l.c l.j 1 false).sec 1) (c + 2) (w3.setCell ⟨Gb,0,none⟩ (.bool true))):=h4
  have HL:Hid ((l.up 0 S 1).lv = [0] ∧ (l.up 0 S 1).p = 8):=⟨h1lv,h1p⟩
  clear hr7 h3 h4 q2 hb3 hbg H2 h1lv h1a h1p
  go_wp2
  obtain ⟨nw,hnw⟩:∃ nw,nw = F.lay now 1 (Hd.mk l.c l.j 1 false).sec 1:=⟨_,rfl⟩
  obtain ⟨nw2,hnw2⟩:∃ nw2,nw2 = layC nw ⟨l.M,l.c,l.j,1,1,8,1⟩ x63 1:=⟨_,rfl⟩
  have HNW:Hid (layC nw ⟨l.M,l.c,l.j,1,1,8,1⟩ x63 1 = nw2):=hnw2.symm
  have HNW1:Hid (nw = F.lay now 1 (Hd.mk l.c l.j 1 false).sec 1):=hnw
  rw [← hnw] at H4
  clear hnw hnw2
  refine F.wp_region_pb (fun f=>⟨#[.pointer (some ⟨Xb,0,none⟩),.pointer (some ⟨Gb,0,none⟩),f 4,.pointer (some ⟨Lb,0,none⟩),.bool true,.bool true,.pointer (some ⟨Lb,0,none⟩),.bool true,.bool true,.bool true,.pointer (some ⟨Lb,0,none⟩),.bool false,.bool true,.bool true,f 0,f 1,f 2,f 3,undef,undef,undef,undef,undef,undef],[]⟩) (V70 Lb) (PhW (fun ex W=>LgI T w L q 17 Lb (l.up 0 S 1) v1 ol1 (ex ++ ((Gb,Obj.cells #[.bool true] 4) :: (Xb,Obj.cells #[.pointer (some ⟨Lb,0,none⟩)] 62) :: rest)) nw nw (c + 2) W ∧ ∀ p ∈ ex,∀ r ∈ ((Gb,Obj.cells #[.bool true] 4) :: (Xb,Obj.cells #[.pointer (some ⟨Lb,0,none⟩)] 62) :: rest),r.1 ≠ p.1) (fun ex W=>LgI T w L q 17 Lb ((l.up 0 S 1).to 0 3) v1 ol1 (ex ++ ((Gb,Obj.cells #[.bool true] 4) :: (Xb,Obj.cells #[.pointer (some ⟨Lb,0,none⟩)] 62) :: rest)) nw2 nw2 (c + 102) W ∧ ∀ p ∈ ex,∀ r ∈ ((Gb,Obj.cells #[.bool true] 4) :: (Xb,Obj.cells #[.pointer (some ⟨Lb,0,none⟩)] 62) :: rest),r.1 ≠ p.1) (.cells (zb 63) 5) (Obj.cells #[.int .i64 0,.int .i64 0,.int .i64 0] 77) (Obj.cells #[.int .i64 0,.int .i64 1,.int .i64 1] 77)) (fun i=>[undef,undef,undef,undef,undef,undef].getD i undef) (by kernel_rfl) rfl rfl ?hIq ?hputq ?stepq ?finq
  case hIq=>exact PhW.start ⟨H4.out.below (Below.refl _ _).drew,fun p hp=>by cases hp⟩
  case finq=>
    intro f W hP hV
    have w0:f 0 = .pointer (some ⟨Lb,0,none⟩):=hV 0 (by decide)
    have w2:f 2 = .string x63:=hV 2 (by decide)
    have w3:f 3 = .agg #[.int .i64 0,.int .i64 1,.int .i64 1]:=hV 3 (by decide)
    clear hV
    obtain ⟨X,hX,hB,hap⟩:=hP.c rfl
    clear hP
    generalize f 0 = z0 at *
    subst w0
    generalize f 2 = z2 at *
    subst w2
    generalize f 3 = z3 at *
    subst w3
    generalize f 4 = z4 at *
    subst hX
    generalize f 1 = z1 at *
    have HB:Hid (LgI T w L q 17 Lb ((l.up 0 S 1).to 0 3) v1 ol1 ([(X,Obj.cells #[.int .i64 0,.int .i64 1,.int .i64 1] 77)] ++ ((Gb,Obj.cells #[.bool true] 4) :: (Xb,Obj.cells #[.pointer (some ⟨Lb,0,none⟩)] 62) :: rest)) nw2 nw2 (c + 102) W):=hB
    have hbx:=hB.dv.at' (p:=(X,Obj.cells #[.int .i64 0,.int .i64 1,.int .i64 1] 77)) (by simp)
    have q0:W.cell? ⟨X,0,none⟩ = some (.int .i64 0):=F.cell_of hbx 0
    have q1:W.cell? ⟨X,1,none⟩ = some (.int .i64 1):=F.cell_of hbx 1
    have q2:W.cell? ⟨X,2,none⟩ = some (.int .i64 1):=F.cell_of hbx 2
    have hbg:=hB.dv.at' (p:=(Gb,Obj.cells #[.bool true] 4)) (by simp)
    have q3:W.cell? ⟨Gb,0,none⟩ = some (.bool true):=F.cell_of hbg 0
    have z3:W.frozen? ⟨Gb,0,none⟩ = false:=F.frz_of hbg 0
    clear hB hap hbx hbg
    go_wp2
    go_returns
    have hB2:=HB.out
    have hbg2:=hB2.dv.at' (p:=(Gb,Obj.cells #[.bool true] 4)) (by simp)
    have hD:=(hB2.drop (rest':=(Gb,Obj.cells #[.bool true] 4) :: (Xb,Obj.cells #[.pointer (some ⟨Lb,0,none⟩)] 62) :: rest) (by simp [Lg.to,Lg.up,HH.out.2.2.2.1]) (fun r hr=>List.mem_append_right _ hr)).off (W':=W.setCell ⟨Gb,0,none⟩ (.bool true)) (o':=Obj.cells #[.bool true] 4) (by
      intro r hr
      rcases List.mem_cons.1 hr with rfl | hr
      · exact HH.out.2.2.2.2.1
      · exact HH.out.2.2.2.2.2.2.1 r hr) (by simp [Lg.to,Lg.up,HH.out.2.2.2.1]) ((Off.refl Gb _).set 0 _) (by rw [F.block_set hbg2]; rfl) (F.apart_of (by decide)) (fun _ _=>cells_ne2 (by decide))
    refine ⟨rfl,S,v1,ol1,?_⟩
    rw [← HNW1.out,HNW.out]
    exact (hD.drop (by simp [Lg.to,Lg.up,HH.out.2.2.2.1]) (by
      intro r hr
      simp only [List.mem_cons] at hr ⊢
      rcases hr with hr | hr | hr <;> simp [hr])).more (by omega)
  case hputq=>
    repeat (refine ⟨fun f v=>rfl,?_⟩)
    trivial
  case stepq=>
    refine ⟨?_,?_⟩
    · intro done f W hP hdn hd K hK
      clear hd
      have qb:W.heap[Xb]? = some (Obj.cells #[.pointer (some ⟨Lb,0,none⟩)] 62):=by
        cases e3:done 3 with
        | false=>
          cases e4:done 4 with
          | false=>exact (hP.a0 e3 e4).1.dv.at' (p:=(Xb,_)) (by simp)
          | true=>obtain ⟨X,_,h⟩:=hP.a1 e3 e4; exact h.1.dv.at' (p:=(Xb,_)) (by simp)
        | true=>
          cases e4:done 4 with
          | false=>exact (hP.b0 e3 e4).1.dv.at' (p:=(Xb,_)) (by simp)
          | true=>
            cases e5:done 5 with
            | false=>obtain ⟨X,_,h⟩:=hP.b1 e3 e4 e5; exact h.1.dv.at' (p:=(Xb,_)) (by simp)
            | true=>obtain ⟨X,_,h⟩:=hP.c e5; exact h.1.dv.at' (p:=(Xb,_)) (by simp)
      have q:W.cell? ⟨Xb,0,none⟩ = some (.pointer (some ⟨Lb,0,none⟩)):=F.cell_of qb 0
      clear qb
      go_simp
      exact hK _ _ rfl (hP.pure _)
    refine ⟨?_,?_⟩
    · intro done f W hP hdn hd K hK
      clear hd
      have hmk:(Instr.makeSlice 75 (.int .i64 63) (.int .i64 63)).run Tryz.prog W = .ok (.slice (some ⟨W.heap.size,0,none⟩) 63 63) (W.alloc (.cells (zb 63) 5)):=mk_bytes 63 (by decide) W
      rw [if_pos (by rfl)]
      unfold Oper.wp execOp
      simp only [Act.eval,Sem.run_bind,Sem.run_pure,Result.andThen_ok,hmk]
      exact hK _ _ trivial (hP.mks (W':=W.alloc (.cells (zb 63) 5)) hdn W.heap.size (fun ex h=>⟨h.1.below ((Below.refl _ _).alloc (Nat.le_refl _) _),h.2⟩) (F.heap_new _ _))
    refine ⟨?_,?_⟩
    · intro done f W hP hdn hd K hK
      have d1:=(hd.1 rfl).2
      have e1:done 1 = true:=(hd.1 rfl).1
      clear hd
      obtain ⟨G,hG1,hG2⟩:=hP.m e1 hdn
      have hcv:=conv63 W G hG2
      generalize f 1 = y1 at *
      subst hG1
      go_simp
      exact hK _ _ rfl (hP.cv _ e1)
    refine ⟨?_,?_⟩
    · intro done f W hP hdn hd K hK
      have d0:=(hd.1 rfl).2
      have e0:done 0 = true:=(hd.1 rfl).1
      have d2:=(hd.2.1 rfl).2
      have e2:done 2 = true:=(hd.2.1 rfl).1
      clear hd
      replace d0:f 0 = .pointer (some ⟨Lb,0,none⟩):=d0
      replace d2:f 2 = .string x63:=d2
      generalize f 0 = x0 at *
      subst d0
      clear e0
      generalize f 2 = x2 at *
      subst d2
      have hB:∀ ex,(done 4 = false ∧ ex = [] ∨ done 4 = true ∧ ∃ X,f 4 = .pointer (some ⟨X,0,none⟩) ∧ ex = [(X,Obj.cells #[.int .i64 0,.int .i64 0,.int .i64 0] 77)]) → LgI T w L q 17 Lb (l.up 0 S 1) v1 ol1 (ex ++ ((Gb,Obj.cells #[.bool true] 4) :: (Xb,Obj.cells #[.pointer (some ⟨Lb,0,none⟩)] 62) :: rest)) nw nw (c + 2) W → Calls Tryz.prog 45 #[.pointer (some ⟨Lb,0,none⟩),.string x63] W fun e W'=>e = .returned (.agg #[.int .i64 0,.int .i64 1,.int .i64 1]) ∧ LgI T w L q 17 Lb ((l.up 0 S 1).to 0 3) v1 ol1 (ex ++ ((Gb,Obj.cells #[.bool true] 4) :: (Xb,Obj.cells #[.pointer (some ⟨Lb,0,none⟩)] 62) :: rest)) nw2 nw2 (c + 102) W':=by
        intro ex _ h
        have ha:=append_any h 0 (by rw [HL.out.1]; decide) (by simp only [HL.out.1]; rfl) x63 1 (by decide) (by rw [HL.out.2]; show 1 + 1 < 8; decide) x63_size (by rw [HL.out.2]; decide) (by decide) (by show (if (0:Nat) = 0 then 1 else l.nu 0) < 18446744073709551616; rw [if_pos rfl]; decide) (by have:=HH.out.2.2.2.2.2.2.2; omega)
        refine ha.mono ?_
        rintro e W' ⟨rfl,h2⟩
        refine ⟨rfl,?_⟩
        have e5:(l.up 0 S 1).sg 0 = ⟨l.M,l.c,l.j,1,1,8,1⟩:=by
          unfold Lg.sg
          show Sg.mk l.M l.c l.j 1 (1 + 0 * l.p) l.p 1 = _
          rw [Nat.zero_mul,HH.out.1]
        rw [e5,HNW.out] at h2
        exact h2.more (by omega)
      have hcl:∃ ex,((done 4 = false ∧ ex = [] ∨ done 4 = true ∧ ∃ X,f 4 = .pointer (some ⟨X,0,none⟩) ∧ ex = [(X,Obj.cells #[.int .i64 0,.int .i64 0,.int .i64 0] 77)])) ∧ LgI T w L q 17 Lb (l.up 0 S 1) v1 ol1 (ex ++ ((Gb,Obj.cells #[.bool true] 4) :: (Xb,Obj.cells #[.pointer (some ⟨Lb,0,none⟩)] 62) :: rest)) nw nw (c + 2) W ∧ (∀ p ∈ ex,∀ r ∈ ((Gb,Obj.cells #[.bool true] 4) :: (Xb,Obj.cells #[.pointer (some ⟨Lb,0,none⟩)] 62) :: rest),r.1 ≠ p.1):=by
        cases e4:done 4 with
        | false=>exact ⟨[],Or.inl ⟨rfl,rfl⟩,hP.a0 hdn e4⟩
        | true=>
          obtain ⟨X,x1,x2⟩:=hP.a1 hdn e4
          exact ⟨[(X,Obj.cells #[.int .i64 0,.int .i64 0,.int .i64 0] 77)],Or.inr ⟨rfl,X,x1,rfl⟩,x2⟩
      obtain ⟨ex,hex,hA,hap⟩:=hcl
      have hca:=hB ex hex hA
      clear hB
      go_simp
      refine Calls.mono hca ?_
      rintro er W' ⟨rfl,hB⟩
      refine hK _ _ rfl (hP.call _ e2 hdn (fun ex2 hex2 _=>?_))
      rcases hex with ⟨h1,rfl⟩ | ⟨h1,X,h2,rfl⟩ <;> rcases hex2 with ⟨h3,rfl⟩ | ⟨h3,X2,h4,rfl⟩
      · exact ⟨hB,hap⟩
      · rw [h1] at h3; cases h3
      · rw [h1] at h3; cases h3
      · rw [h2] at h4
        have h6:X = X2:=by injection h4 with h4; injection h4 with h4; injection h4
        rw [← h6]; exact ⟨hB,hap⟩
    refine ⟨?_,?_⟩
    · intro done f W hP hdn hd K hK
      clear hd
      go_simp
      refine hK _ _ trivial (hP.alloc hdn W.heap.size (fun h=>⟨h.1.hold _ (F.apart_of (by decide)) (fun _ _=>cells_ne2 (by decide)),fun p hp r hr=>by rw [List.mem_singleton.1 hp]; have:=h.1.lt r hr; show r.1 ≠ W.heap.size; omega⟩) (fun h=>⟨h.1.hold _ (F.apart_of (by decide)) (fun _ _=>cells_ne2 (by decide)),fun p hp r hr=>by rw [List.mem_singleton.1 hp]; have:=h.1.lt r hr; show r.1 ≠ W.heap.size; omega⟩) (fun G hG=>?_))
      exact (((Below.refl _ W).alloc (Nat.le_refl _) _).block G (F.getElem?_lt hG)).trans hG
    refine ⟨?_,?_⟩
    · intro done f W hP hdn hd K hK
      have d4:=(hd.1 rfl).2
      have e4:done 4 = true:=(hd.1 rfl).1
      have d3:=(hd.2.1 rfl).2
      have e3:done 3 = true:=(hd.2.1 rfl).1
      clear hd
      replace d3:f 3 = .agg #[.int .i64 0,.int .i64 1,.int .i64 1]:=d3
      generalize f 3 = x3 at *
      subst d3
      obtain ⟨X,hX,hB,hap⟩:=hP.b1 e3 e4 hdn
      have hbx:=hB.dv.at' (p:=(X,Obj.cells #[.int .i64 0,.int .i64 0,.int .i64 0] 77)) (by simp)
      have q0:W.cell? ⟨X,0,none⟩ = some (.int .i64 0):=F.cell_of hbx 0
      have q1:W.cell? ⟨X,1,none⟩ = some (.int .i64 0):=F.cell_of hbx 1
      have q2:W.cell? ⟨X,2,none⟩ = some (.int .i64 0):=F.cell_of hbx 2
      have z0:W.frozen? ⟨X,0,none⟩ = false:=F.frz_of hbx 0
      have z1:W.frozen? ⟨X,1,none⟩ = false:=F.frz_of hbx 1
      have z2:W.frozen? ⟨X,2,none⟩ = false:=F.frz_of hbx 2
      have b1:=F.block_set (i:=0) hbx (.int .i64 0)
      have b2:=F.block_set (i:=1) b1 (.int .i64 1)
      have b3:=F.block_set (i:=2) b2 (.int .i64 1)
      have hoff:=(((Off.refl X W).set 0 (.int .i64 0)).set 1 (.int .i64 1)).set 2 (.int .i64 1)
      have hD:=hB.off (o':=Obj.cells #[.int .i64 0,.int .i64 1,.int .i64 1] 77) (fun r hr=>hap (X,Obj.cells #[.int .i64 0,.int .i64 0,.int .i64 0] 77) (by simp) r hr) (by simp [Lg.to,Lg.up,HH.out.2.2.2.1]) hoff (by rw [b3]; rfl) (F.apart_of (by decide)) (fun _ _=>cells_ne2 (by decide))
      have HD:Hid _:=hP.store (.bool false) e3 e4 X hX ⟨hD,fun p hp r hr=>by rw [List.mem_singleton.1 hp]; exact hap (X,Obj.cells #[.int .i64 0,.int .i64 0,.int .i64 0] 77) (by simp) r hr⟩
      clear hD hB hap hbx b1 b2 b3 hoff hP
      generalize f 4 = y4 at *
      subst hX
      go_simp
      exact hK (.bool false) _ trivial HD.out
    trivial
end Go.Proofs.YtncfbocbigdhiaaGreat.U

/- awake of the statements on logs, as a call. -/
namespace Go.Proofs.YtncfbocbigdhiaaGreat.U
open Go Go.RowKit Go.Sort
theorem mxN_le (c:Nat) (g:Nat → Hd) (m:Nat):∀ k,(∀ i,i < k → (g i).n ≤ m) → mxN c g k ≤ m
  | 0,_=>Nat.zero_le _
  | k + 1,h=>by
    have h1:=mxN_le c g m k (fun i hi=>h i (by omega))
    have h2:=h k (Nat.lt_succ_self k)
    unfold mxN
    split <;> omega
theorem le_mxN (c:Nat) (g:Nat → Hd):∀ k i,i < k → (g i).c = c → (g i).n ≤ mxN c g k
  | 0,i,h,_=>absurd h (Nat.not_lt_zero _)
  | k + 1,i,h,hc=>by
    unfold mxN
    rcases Nat.lt_or_ge i k with h2 | h2
    · have:=le_mxN c g k i h2 hc
      split <;> omega
    · obtain rfl:i = k:=by omega
      rw [if_pos hc]; omega
theorem Txs.len {tv:Value} {xs:List ByteArray} {tl:List (Nat × Obj)} (h:Txs tv xs tl):∃ ao cp,tv = .slice ao xs.length cp:=by
  rcases h with ⟨rfl,h2,_⟩ | ⟨g,cap,cur,rfl,_⟩
  · rw [h2]; exact ⟨_,_,rfl⟩
  · exact ⟨_,_,rfl⟩
theorem own_len {W:World} {b:Nat} {v:Value} {n:Nat} {ys:List Value} {t s:Nat} (h:W.ownsRow b t s v n ys):∃ ao cp,v = .slice ao n cp:=by
  rcases h.2 with ⟨rfl,h2⟩ | ⟨g,cap,cur,rfl,_⟩
  · rw [h2]; exact ⟨_,_,rfl⟩
  · exact ⟨_,_,rfl⟩
theorem LgI.guarded {T:Nat} {w:World} {L:F.Loc} {q:Int} {n Lb:Nat} {l:Lg} {v:Value} {ol rest:List (Nat × Obj)} {now su:Nat → ByteArray} {c:Int} {W:World} (h:LgI T w L q n Lb l v ol rest now su c W):LgI T w L q n Lb l v ol (F.gob W.heap.size rest) now su c (F.G0 W):=by
  have h1:=(h.hold F.bob (F.apart_of (by decide)) (fun _ _=>cells_ne2 (by decide))).hold F.iob (F.apart_of (by decide)) (fun _ _=>cells_ne2 (by decide))
  have e:(W.alloc F.bob).heap.size = W.heap.size + 1:=by simp
  rw [e] at h1
  exact h1
theorem any_guard (f:Nat) (cap:Array Value) (R S:World → Prop) (W:World) (hent:∀ args W,(callFunc f args).run Tryz.prog W = .ok (.enter f args) W) (hop:Calls Tryz.prog f cap (F.G0 W) fun e W'=>e = .returned (.tuple #[]) ∧ R W') (hb:∀ W',R W' → W'.heap[W.heap.size]? = some F.bob ∧ W'.heap[W.heap.size + 1]? = some F.iob) (hS:∀ W2 W',R W2 → F.KT W.heap.size W2 W' → S W') :
    Calls Tryz.prog 15 #[.func (.func f) #[] cap] W fun e w'=>e = .returned (.tuple #[.agg #[.int .i64 0,.int .i64 0],.bool false]) ∧ S w':=by
  refine (F.guard_ok f cap R W hent (hop.mono ?_)).mono ?_
  · rintro e W' ⟨rfl,h⟩
    exact ⟨rfl,(hb W' h).1,(hb W' h).2,h⟩
  · rintro e w' ⟨rfl,W2,h,hk⟩
    exact ⟨rfl,hS W2 w' h hk⟩
set_option maxHeartbeats 4000000 in
set_option maxRecDepth 100000 in
theorem awake33 (w:World):Calls Tryz.prog 33 #[] w fun e w'=>e = .returned (.bool true) ∧ Below w.heap.size w w':=by
  have hmk:=F.made_any w.heap.size w w [] (Below.refl _ _) (Nat.le_refl _) (by intro p hp; cases hp) 1 (by decide) (by decide) 17 (by decide) (by decide)
  go_enter Tryz.func33,Tryz.ntmps33
  go_wp2_with fail
  go_call hmk as e w1 ⟨L,M0,rfl,o1⟩
  have hd1:=(Dev.ofV (V.dev0 o1)).forget (oth':=[]) (fun p hp=>by cases hp)
  have hop1:=open34 hd1 (fun r hr=>by cases hr) (im_zero 17 8 2) (by decide) (by decide) (by decide) (by decide) (by decide) (fun i _=>by
    have:=mxN_le 3 (fun _=>(⟨0,0,0,false⟩:Hd)) 0 i (fun _ _=>Nat.le_refl _)
    omega)
  clear hmk o1 hd1
  go_wp2_with fail
  go_call hop1 as e w2 ⟨M,B,l,v,ol,tv,tl,rfl,hopn,htx,hl,hap⟩
  obtain ⟨tao,tcp,htv⟩:=Txs.len htx
  replace htv:tv = .slice tao 0 tcp:=htv
  have hl2:=(hl.drop (rest':=[(M,F.med L.P 1 1)]) (by rw [hopn.eM]; simp) (by
    intro r hr
    rw [List.mem_singleton.1 hr]; simp)).hold (.cells #[.pointer (some ⟨B + 1,0,none⟩)] 62) (F.apart_of (by decide)) (fun _ _=>cells_ne2 (by decide))
  obtain ⟨W2,hW2⟩:∃ W2,W2 = w2.alloc (.cells #[.pointer (some ⟨B + 1,0,none⟩)] 62):=⟨_,rfl⟩
  obtain ⟨Xb,hXb⟩:∃ Xb,Xb = w2.heap.size:=⟨_,rfl⟩
  rw [← hW2,← hXb] at hl2
  have HW2:Hid (w2.alloc (.cells #[.pointer (some ⟨B + 1,0,none⟩)] 62) = W2 ∧ w2.heap.size = Xb):=⟨hW2.symm,hXb.symm⟩
  have hlv:l.lv = []:=hopn.elv
  have hns:l.ns = 2:=hopn.ens
  obtain ⟨vao,vcp,hv⟩:=hl2.pl.len
  rw [hlv] at hv
  replace hv:v = .slice vao 0 vcp:=hv
  have q1:W2.cell? ⟨Xb,0,none⟩ = some (.pointer (some ⟨B + 1,0,none⟩)):=F.cell_of (hl2.dv.at' (p:=(Xb,Obj.cells #[.pointer (some ⟨B + 1,0,none⟩)] 62)) (by simp)) 0
  have hfr:=free_any hl2.lz (by rw [hns]; decide) (by rw [hns,hlv]; decide)
  rw [hns,hlv] at hfr
  replace hfr:Calls Tryz.prog 46 #[.pointer (some ⟨B + 1,0,none⟩)] W2 fun e w'=>e = .returned (.int .i64 2) ∧ Below W2.heap.size W2 w':=hfr
  have HL2:Hid _:=hl2
  have HLX:Hid (M < Xb):=by show M < Xb; rw [hXb]; exact hl.lt (M,F.med L.P 1 1) (by simp)
  have HO:Hid (Opn M 3 7 8 B 2 (fun _=>⟨0,0,0,false⟩) [] (fun _=>1) [].length l):=hopn
  have HV:Hid (v = .slice vao 0 vcp):=hv
  subst htv
  clear hop1 hopn htx hl hap hl2 hW2 hXb hlv hns hv
  go_wp2_with fail
  rw [HW2.out.1]
  refine Calls.mono hfr ?_
  rintro er w3 ⟨rfl,hb3⟩
  have hl3:=HL2.out.below hb3
  have q3:w3.cell? ⟨Xb,0,none⟩ = some (.pointer (some ⟨B + 1,0,none⟩)):=F.cell_of (hl3.dv.at' (p:=(Xb,Obj.cells #[.pointer (some ⟨B + 1,0,none⟩)] 62)) (by simp)) 0
  have hb:=hl3.lz.b
  rw [HV.out] at hb
  have hro:=room_none hb 1
  have HL3:Hid _:=hl3
  clear hfr hb3 hl3 q1 HL2 hb
  rw [HW2.out.2]
  go_wp2_with fail
  go_call hro as e3 w4 ⟨rfl,hb4⟩
  have hl4:=HL3.out.below hb4
  have hl5:=hl4.hold (.cells #[.bool false] 4) (F.apart_of (by decide)) (fun _ _=>cells_ne2 (by decide))
  have HLX2:Hid (Xb < w4.heap.size):=hl4.lt (Xb,Obj.cells #[.pointer (some ⟨B + 1,0,none⟩)] 62) (by simp)
  obtain ⟨Gb,hGb⟩:∃ Gb,Gb = w4.heap.size:=⟨_,rfl⟩
  obtain ⟨W5,hW5⟩:∃ W5,W5 = w4.alloc (.cells #[.bool false] 4):=⟨_,rfl⟩
  have e5:W5.heap.size = Gb + 1:=by rw [hW5,hGb]; simp
  rw [← hGb,← hW5] at hl5
  rw [← hGb] at HLX2
  have HW5:Hid (w4.alloc (.cells #[.bool false] 4) = W5 ∧ w4.heap.size = Gb):=⟨hW5.symm,hGb.symm⟩
  have hgd:Calls Tryz.prog 15 #[.func (.func 70) #[] #[.pointer (some ⟨Xb,0,none⟩),.pointer (some ⟨Gb,0,none⟩)]] W5 fun e w'=>e = .returned (.tuple #[.agg #[.int .i64 0,.int .i64 0],.bool false]) ∧ ∃ nw,Im nw 17 8 2 (fun i=>if i = 0 then ⟨3,7,1,false⟩ else ⟨0,0,0,false⟩) [0] (fun j=>if j = 0 then [(1,x63)] else (if j = 0 then [] else [])) (fun j=>if j = 0 then 3 else if j = 0 then 1 else 1) ∧ Dev w.heap.size w L 1 17 [(Xb,Obj.cells #[.pointer (some ⟨B + 1,0,none⟩)] 62),(Gb,Obj.cells #[.bool true] 4)] nw nw 9200 w':=by
    have hg:=hl5.guarded
    rw [e5] at hg
    have hX:=HLX.out
    have hX2:=HLX2.out
    have hop:=op70 (Xb:=Xb) (Gb:=Gb) (rest:=F.gob (Gb + 1) [(M,F.med L.P 1 1)]) (hg.drop (by rw [HO.out.eM]; simp [F.gob]) (by
      intro r hr
      simp only [F.gob,List.mem_cons,List.not_mem_nil,or_false] at hr ⊢
      rcases hr with hr | hr | hr | hr | hr <;> simp [hr])) HO.out.ep HO.out.ens HO.out.elv (by rw [HO.out.em]; exact Nat.le_antisymm (mxN_le 3 _ 0 2 (fun _ _=>Nat.le_refl _)) (Nat.zero_le _)) (by rw [HO.out.eM]; simp [F.gob]) (by omega) (by
      intro r hr
      simp only [F.gob,List.mem_cons,List.not_mem_nil,or_false] at hr
      rcases hr with rfl | rfl | rfl
      · show Gb + 1 + 1 ≠ Xb; omega
      · show Gb + 1 ≠ Xb; omega
      · show M ≠ Xb; omega) (by
      intro r hr
      simp only [F.gob,List.mem_cons,List.not_mem_nil,or_false] at hr
      rcases hr with rfl | rfl | rfl
      · show Gb + 1 + 1 ≠ Gb; omega
      · show Gb + 1 ≠ Gb; omega
      · show M ≠ Gb; omega) (by decide)
    have him:=(Im.start (im_zero 17 8 2) (by decide) 0 0 (by decide) (by simp) (fun _ _=>Nat.le_refl _) (by decide)).append (by decide) (by decide) 0 l.M 1 x63 (by simp) x63_size (by decide) (by decide)
    refine any_guard 70 _ (fun W'=>∃ S v' ol',LgI w.heap.size w L 1 17 (B + 1) ((l.up 0 S 1).to 0 3) v' ol' ((Xb,Obj.cells #[.pointer (some ⟨B + 1,0,none⟩)] 62) :: (Gb,Obj.cells #[.bool true] 4) :: F.gob (Gb + 1) [(M,F.med L.P 1 1)]) (layC (F.lay (fun _=>F.pad ⟨#[]⟩) 1 (Hd.mk l.c l.j 1 false).sec 1) ⟨l.M,l.c,l.j,1,1,8,1⟩ x63 1) (layC (F.lay (fun _=>F.pad ⟨#[]⟩) 1 (Hd.mk l.c l.j 1 false).sec 1) ⟨l.M,l.c,l.j,1,1,8,1⟩ x63 1) (0 + 9000 + 200) W') _ W5 ent70 hop (fun W' hR=>?_) (fun W2 W' hR hk=>?_)
    · obtain ⟨S,v',ol',hR⟩:=hR
      rw [e5]
      exact ⟨hR.dv.at' (p:=(Gb + 1,F.bob)) (by simp [F.gob]),hR.dv.at' (p:=(Gb + 1 + 1,F.iob)) (by simp [F.gob])⟩
    · obtain ⟨S,v',ol',hR⟩:=hR
      rw [e5] at hk
      refine ⟨layC (F.lay (fun _=>F.pad ⟨#[]⟩) 1 (Hd.mk l.c l.j 1 false).sec 1) ⟨l.M,l.c,l.j,1,1,8,1⟩ x63 1,?_,?_⟩
      · rw [HO.out.ec,HO.out.ej]
        exact him
      · refine Dev.kt (B:=Gb + 1) (hR.dv.forget (oth':=F.gob (Gb + 1) [(Xb,Obj.cells #[.pointer (some ⟨B + 1,0,none⟩)] 62),(Gb,Obj.cells #[.bool true] 4)]) (by
          intro r hr
          simp only [F.gob,List.mem_cons,List.not_mem_nil,or_false] at hr
          rcases hr with rfl | rfl | rfl | rfl <;> simp [F.gob])) (by
          intro r hr
          simp only [List.mem_cons,List.not_mem_nil,or_false] at hr
          rcases hr with rfl | rfl
          · show Xb ≠ Gb + 1 ∧ Xb ≠ Gb + 1 + 1; omega
          · show Gb ≠ Gb + 1 ∧ Gb ≠ Gb + 1 + 1; omega) hk
  have hmf:∀ (fn:Fn) (first cap:Array Value) (w:World),(Instr.makeFunc fn first cap).run Tryz.prog w = .ok (.func fn first cap) w:=fun _ _ _ _=>rfl
  clear hro hb4 q3 HL3 hl4 hl5 hGb hW5 e5
  go_wp2_with fail
  rw [HW5.out.1,HW5.out.2]
  refine Calls.mono hgd ?_
  rintro er w6 ⟨rfl,nw,him,hd6⟩
  have hop2:=open34 hd6 (fun r hr=>by
    simp only [List.mem_cons,List.not_mem_nil,or_false] at hr
    rcases hr with rfl | rfl <;> exact fun _ _=>cells_ne2 (by decide)) him (by decide) (by decide) (by decide) (by decide) (by decide) (fun i _=>by
    have:=mxN_le 3 (fun i=>if i = 0 then (⟨3,7,1,false⟩:Hd) else ⟨0,0,0,false⟩) 1 i (fun j _=>by
      by_cases h:j = 0
      · simp only [h]; exact Nat.le_refl _
      · simp only [h]; exact Nat.zero_le _)
    omega)
  clear hgd him hd6
  go_wp2_with fail
  go_call hop2 as e w7 ⟨M2,B2,l2,v2,ol2,tv2,tl2,rfl,hopn,htx,hl,hap⟩
  obtain ⟨tao2,tcp2,htv⟩:=Txs.len htx
  replace htv:tv2 = .slice tao2 1 tcp2:=htv
  have hx8:Xb ≠ Gb:=by have:=HLX2.out; omega
  have hmx:M2 ≠ Xb:=hl.dv.ne (p:=(M2,F.med L.P 1 1)) (r:=(Xb,Obj.cells #[.pointer (some ⟨B + 1,0,none⟩)] 62)) (by simp) (by simp) (cells_ne2 (by decide))
  have hl8:=hl.drop (rest':=(Xb,Obj.cells #[.pointer (some ⟨B + 1,0,none⟩)] 62) :: [(M2,F.med L.P 1 1),(Gb,Obj.cells #[.bool true] 4)]) (by rw [hopn.eM]; simp) (by
    intro r hr
    simp only [List.mem_cons,List.not_mem_nil,or_false] at hr
    rcases hr with rfl | rfl | rfl <;> simp)
  have hbx:=hl8.dv.at' (p:=(Xb,Obj.cells #[.pointer (some ⟨B + 1,0,none⟩)] 62)) (by simp)
  have q7:w7.cell? ⟨Xb,0,none⟩ = some (.pointer (some ⟨B + 1,0,none⟩)):=F.cell_of hbx 0
  have z7:w7.frozen? ⟨Xb,0,none⟩ = false:=F.frz_of hbx 0
  have hl9:=hl8.off (W':=w7.setCell ⟨Xb,0,none⟩ (.pointer (some ⟨B2 + 1,0,none⟩))) (o':=Obj.cells #[.pointer (some ⟨B2 + 1,0,none⟩)] 62) (by
    intro r hr
    simp only [List.mem_cons,List.not_mem_nil,or_false] at hr
    rcases hr with rfl | rfl
    · exact hmx
    · exact Ne.symm hx8) (by rw [hopn.eM]; simp) ((Off.refl Xb _).set 0 _) (by rw [F.block_set hbx]; rfl) (F.apart_of (by decide)) (fun _ _=>cells_ne2 (by decide))
  have q8:(w7.setCell ⟨Xb,0,none⟩ (.pointer (some ⟨B2 + 1,0,none⟩))).cell? ⟨Xb,0,none⟩ = some (.pointer (some ⟨B2 + 1,0,none⟩)):=F.cell_of (hl9.dv.at' (p:=(Xb,Obj.cells #[.pointer (some ⟨B2 + 1,0,none⟩)] 62)) (by simp)) 0
  have q9:(w7.setCell ⟨Xb,0,none⟩ (.pointer (some ⟨B2 + 1,0,none⟩))).cell? ⟨Gb,0,none⟩ = some (.bool true):=F.cell_of (hl9.dv.at' (p:=(Gb,Obj.cells #[.bool true] 4)) (by simp)) 0
  have hlive:=live_any hl9
  have hlv:l2.lv.length = 1:=by rw [hopn.elv]; rfl
  have HB9:Hid _:=hl9.dv.bel
  rw [hlv] at hlive
  subst htv
  clear hop2 hopn htx hl hap hl8 hl9 hbx hmx hx8
  go_wp2_with fail
  go_call hlive as e9 w9 ⟨v9,rfl,ho9,hb9⟩
  obtain ⟨lao,lcp,hv9⟩:=own_len ho9
  subst hv9
  have HB10:Hid (Below w.heap.size w w9):=HB9.out.trans (hb9.mono HB9.out.size)
  clear hlive ho9 hb9
  go_wp2
  go_returns
  exact ⟨rfl,HB10.out⟩
end Go.Proofs.YtncfbocbigdhiaaGreat.U
