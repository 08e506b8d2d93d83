/- Texts of this seat, one behind the other. -/
import Derived.Test.YtncfbocbigdhiaaGreatQGP
import Derived.Lib.BufferWrite
import Derived.Lib.MinMax
import Derived.Deep.QuietTactic
import Derived.BigQuiet
import Derived.Test.YtncfbocbigdhiaaGreatQLA
/- What the statements' pay answers, as a call: so many bytes of a text, filled up, marked; of every text and every number of sectors from 1 on. -/
namespace Go.Proofs.YtncfbocbigdhiaaGreat
open Go.RowKit
theorem run_copy_bytes (w:World) (g N cp:Nat) (s:ByteArray) (cur:Array Value) (hg:w.heap[g]? = some (.cells cur 5)) (hN:cur.size = N) (ty:TypeId) :
    (Builtin.copy_ #[75,9] ty #[.slice (some ⟨g,0,none⟩) N cp,.string s]).run Tryz.prog w =
      .ok (goInt (Nat.min s.size N)) (w.setRow g (Lib.byteCells (s.data.toList.take N) ++ cur.toList.drop (Nat.min s.size N)).toArray):=by
  have hlen:(Lib.byteCells (s.data.toList.take N)).length = Nat.min s.size N:=by
    rw [Lib.byteCells_length,List.length_take,← Lib.size_eq]; exact Nat.min_comm _ _
  have hst:=run_storeCells_at Tryz.prog g 0 5 (Lib.byteCells (s.data.toList.take N)) 0 cur w hg (by rw [hlen,hN,Nat.add_zero,Nat.zero_add]; exact Nat.min_le_right _ _) (Lib.byteCells_one _)
  have htk:List.take (Nat.min s.size N) (List.map (fun b:UInt8=>Value.int IntKind.u8 (b.toNat:Int)) s.data.toList) = Lib.byteCells (s.data.toList.take N):=by
    unfold Lib.byteCells
    rw [← List.map_take]
    congr 1
    rcases Nat.le_total s.size N with h | h
    · rw [show Nat.min s.size N = s.size from Nat.min_eq_left h,List.take_of_length_le (by rw [← Lib.size_eq]; exact Nat.le_refl _),List.take_of_length_le (by rw [← Lib.size_eq]; exact h)]
    · rw [show Nat.min s.size N = N from Nat.min_eq_right h]
  rw [hlen] at hst
  simp only [Nat.add_zero] at hst
  have hs:(Tryz.prog.info? 5).map (·.size) = some 1:=by kernel_rfl
  cases hq:Tryz.prog.info? 5 with
  | none=>simp [hq] at hs
  | some i=>
    simp [Builtin.copy_,run_underlying Tryz.underlying75,Builtin.lenOf,Builtin.firstCells,sizeOf,typeInfo,hq]
    rw [htk,hst]
    simp [Result.andThen]
def payN (s:ByteArray) (n:Nat):ByteArray:=O.tx (((s.data.toList.take (63 * n)) ++ List.replicate (63 * n - s.size) 0).set 62 (UInt8.ofNat n))
theorem payN_size (s:ByteArray) (n:Nat):(payN s n).size = 63 * n:=by
  unfold payN
  rw [tx_size,List.length_set,List.length_append,List.length_take,List.length_replicate,← Lib.size_eq]
  omega
def zb (n:Nat):Array Value:=Array.replicate n (.int .u8 0)
theorem info5:(Tryz.prog.info? 5).map (fun i=>(i.zero,i.size,i.bytes)) = some (some (.int .u8 0),1,1):=by kernel_rfl
theorem mk_bytes (n:Nat) (hn:n ≤ 100000) (w:World):(Instr.makeSlice 75 (.int .i64 (n:Nat)) (.int .i64 (n:Nat))).run Tryz.prog w = .ok (.slice (some ⟨w.heap.size,0,none⟩) n n) (w.alloc (.cells (zb n) 5)):=by
  obtain ⟨i,hi,hz,hs,hb⟩:=info_parts info5
  have:=run_make (P:=Tryz.prog) w 75 5 i (.int .u8 0) Tryz.underlying75 hi hz .i64 .i64 n n (by omega) (by omega) (by rw [hb]; omega) (by omega)
  rw [hs] at this
  simp only [Int.toNat_natCast] at this
  have e:madeCells (Value.int .u8 0).cells (n * 1) = zb n:=by
    have hz:(Value.int .u8 0).cells = #[.int .u8 0]:=rfl
    rw [hz]
    unfold madeCells zb
    apply Array.ext
    · simp
    · intro k h1 h2
      simp [Nat.mod_one]
  rw [e] at this
  exact this
def pl0 (s:ByteArray) (n:Nat):List UInt8:=(s.data.toList.take (63 * n)) ++ List.replicate (63 * n - s.size) 0
theorem pl0_len (s:ByteArray) (n:Nat):(pl0 s n).length = 63 * n:=by
  unfold pl0
  rw [List.length_append,List.length_take,List.length_replicate,← Lib.size_eq]
  omega
theorem pl0_cells (s:ByteArray) (n:Nat):(Lib.byteCells (s.data.toList.take (63 * n)) ++ (zb (63 * n)).toList.drop (Nat.min s.size (63 * n))) = Lib.byteCells (pl0 s n):=by
  unfold pl0 zb Lib.byteCells
  rw [List.map_append,List.map_replicate,Array.toList_replicate,List.drop_replicate]
  congr 2
  show 63 * n - min s.size (63 * n) = _
  omega
end Go.Proofs.YtncfbocbigdhiaaGreat

/- A segment of a device as the statements make it; their fixed fact, as calls. -/
namespace Go.Proofs.YtncfbocbigdhiaaGreat.F
open Go.RowKit
section
variable {b0:Nat} {w0:World} {L:Loc} {st:St} {lv:Value} {oth:List (Nat × Obj)} {w:World}
theorem One.kt2 {B:Nat} {w':World} (h:One b0 w0 L st lv (gob B oth) w) (hne:∀ p ∈ oth,p.1 ≠ B ∧ p.1 ≠ B + 1) (k:KT B w w'):One b0 w0 L st lv oth w':=by
  obtain ⟨i1,i2,i3,i4⟩:=h.oth (B + 1,iob) (by simp [gob])
  obtain ⟨j1,j2,j3,j4⟩:=h.oth (B,bob) (by simp [gob])
  have same:∀ {j:Nat} {o:Obj},w.heap[j]? = some o → j ≠ B → j ≠ B + 1 → w'.heap[j]? = some o:=fun e h1 h2=>(k.block _ (getElem?_lt e) h1 h2).trans e
  refine ⟨?_,h.bP,h.bR,h.bD,h.bS,same h.pool j2.1.symm i2.1.symm,same h.rowb j2.2.1.symm i2.2.1.symm,h.rc0,same h.dev j2.2.2.1.symm i2.2.2.1.symm,same h.sec j2.2.2.2.symm i2.2.2.2.symm,⟨h.own.1,?_⟩,?_⟩
  · refine ⟨k.os.trans h.below.os,k.tape.trans h.below.tape,k.output.trans h.below.output,Nat.le_trans h.below.size k.size,fun j hj=>?_⟩
    have j4':b0 ≤ B:=j4
    have hs:j < w.heap.size:=by have:=getElem?_lt h.pool; have:=h.bP; omega
    rw [k.block j hs (by omega) (by omega)]
    exact h.below.block j hj
  · rcases h.own.2 with h1 | ⟨g,cap,cur,e,h2,h3,h4⟩
    · exact Or.inl h1
    · refine Or.inr ⟨g,cap,cur,e,h2,same h3 ?_ ?_,h4⟩
      · intro e2; rw [e2] at h3; rw [h3] at j1; injection j1 with j1; exact j3 _ j1.symm
      · intro e2; rw [e2] at h3; rw [h3] at i1; injection i1 with i1; exact i3 _ i1.symm
  · intro p hp
    obtain ⟨o1,o2,o3,o4⟩:=h.oth p (by simp [gob,hp])
    have:=hne p hp
    exact ⟨same o1 this.1 this.2,o2,o3,o4⟩
end
end Go.Proofs.YtncfbocbigdhiaaGreat.F
namespace Go.Proofs.YtncfbocbigdhiaaGreat
open Go.RowKit
end Go.Proofs.YtncfbocbigdhiaaGreat

/- A device that does all: Append, Room, Scan and Read of a segment there, by what lies on it. -/
namespace Go.Proofs.YtncfbocbigdhiaaGreat
open Go.RowKit
structure Dev (T:Nat) (w:World) (L:F.Loc) (n:Nat) (oth:List (Nat × Obj)) (now:Nat → ByteArray) (c:Int) (W:World):Prop where
  ex:∃ st lv ats,F.One T w L st lv oth W ∧ st.n = n ∧ st.serial = 1 ∧ st.session = 1 ∧ st.there = true ∧ F.Mode.idle.is st ∧ F.Dv st ats now now ∧ 0 ≤ st.count ∧ st.count ≤ c ∧ st.ln = 0
section
variable {T:Nat} {w:World} {L:F.Loc} {n:Nat} {oth oth':List (Nat × Obj)} {now:Nat → ByteArray} {c:Int} {W W':World}
theorem Dev.below (h:Dev T w L n oth now c W) (hb:Below W.heap.size W W'):Dev T w L n oth now c W':=by
  obtain ⟨st,lv,ats,h1,h2⟩:=h.ex
  exact ⟨st,lv,ats,h1.ofBelow hb,h2⟩
theorem Dev.forget (h:Dev T w L n oth now c W) (hs:∀ p ∈ oth',p ∈ oth):Dev T w L n oth' now c W:=by
  obtain ⟨st,lv,ats,h1,h2⟩:=h.ex
  exact ⟨st,lv,ats,h1.forget hs,h2⟩
theorem Dev.alloc (h:Dev T w L n oth now c W) (o:Obj) (ho:F.Obj.apart o):Dev T w L n ((W.heap.size,o) :: oth) now c (W.alloc o):=by
  obtain ⟨st,lv,ats,h1,h2⟩:=h.ex
  exact ⟨st,lv,ats,h1.alloc o ho,h2⟩
theorem Dev.at' (h:Dev T w L n oth now c W) {p:Nat × Obj} (hp:p ∈ oth):W.heap[p.1]? = some p.2:=by
  obtain ⟨st,lv,ats,h1,h2⟩:=h.ex
  exact (h1.oth p hp).1
theorem Dev.bel (h:Dev T w L n oth now c W):Below T w W:=by
  obtain ⟨st,lv,ats,h1,h2⟩:=h.ex
  exact h1.below
theorem Dev.more (h:Dev T w L n oth now c W) {d:Int} (hd:c ≤ d):Dev T w L n oth now d W:=by
  obtain ⟨st,lv,ats,h1,h2,h3,h4,h5,h6,h7,h8,h9,h10⟩:=h.ex
  exact ⟨st,lv,ats,h1,h2,h3,h4,h5,h6,h7,h8,by omega,h10⟩
theorem Dev.lts (h:Dev T w L n oth now c W):∀ p ∈ oth,p.1 < W.heap.size:=by
  obtain ⟨st,lv,ats,h1,h2⟩:=h.ex
  exact h1.lts
end
theorem idle_iter (k:Nat):F.Mode.idle.iter k = F.Mode.idle:=by
  induction k with
  | zero=>rfl
  | succ k ih=>first | (show (F.Mode.idle.iter k).next = _; rw [ih]; rfl) | (show F.Mode.idle.next.iter k = _; exact ih)
theorem dev_write {T:Nat} {w:World} {L:F.Loc} {n:Nat} {oth:List (Nat × Obj)} {st:F.St} {lv:Value} {ats:Nat → Nat} {now sure:Nat → ByteArray} {W:World} (h:F.One T w L st lv oth W) (hn:st.n = n) (hs:st.serial = 1) (hq:st.session = 1) (ht:st.there = true) (hi:F.Mode.idle.is st) (hd:F.Dv st ats now sure) (hc:0 ≤ st.count ∧ st.count ≤ 70000000) (hn1:n ≤ 1000) (M:Nat) (hM:(M,F.med L.P 1 1) ∈ oth) (frm:Nat) (y:ByteArray) (k:Nat) (hy:y.size = 64 * k) (hk:k ≤ 100) (hf:frm + k ≤ n) :
    Calls Tryz.prog 28 #[.pointer (some ⟨M,0,none⟩),.int .i64 (frm:Nat),.string y] W fun e W'=>e = .returned (.tuple #[]) ∧ ∃ st' lv' ats',F.One T w L st' lv' oth W' ∧ st'.n = n ∧ st'.serial = 1 ∧ st'.session = 1 ∧ st'.there = true ∧ F.Mode.idle.is st' ∧ F.Dv st' ats' (F.lay now frm y k) sure ∧ st.count ≤ st'.count ∧ st'.count ≤ st.count + k:=by
  have hp:=ypart hy
  refine (h.mwrite_md M (by rw [hs,hq]; exact hM) ht .idle hi (fun e=>by cases e) ⟨hc.1,by omega⟩ hd (by omega) frm y (by omega) (by rw [hp]; omega)).mono ?_
  rintro e W' (⟨rfl,-,st',lv',ho,kp,c0,c1,hm,ats',hd'⟩ | ⟨E,-,⟨j,hj⟩,-⟩)
  · rw [hp] at c1 hm hd'
    rw [idle_iter] at hm
    exact ⟨rfl,st',lv',ats',ho,kp.n.trans hn,kp.serial.trans hs,kp.session.trans hq,kp.there.trans ht,hm,hd',c0,c1⟩
  · rw [idle_iter] at hj
    exact absurd rfl hj
theorem dev_flush {T:Nat} {w:World} {L:F.Loc} {n:Nat} {oth:List (Nat × Obj)} {st:F.St} {lv:Value} {ats:Nat → Nat} {now sure:Nat → ByteArray} {W:World} (h:F.One T w L st lv oth W) (hn:st.n = n) (hs:st.serial = 1) (hq:st.session = 1) (ht:st.there = true) (hi:F.Mode.idle.is st) (hd:F.Dv st ats now sure) (hc:0 ≤ st.count ∧ st.count ≤ 70000000) (M:Nat) (hM:(M,F.med L.P 1 1) ∈ oth) :
    Calls Tryz.prog 55 #[.pointer (some ⟨M,0,none⟩)] W fun e W'=>e = .returned (.tuple #[]) ∧ ∃ st' lv' ats',F.One T w L st' lv' oth W' ∧ st'.n = n ∧ st'.serial = 1 ∧ st'.session = 1 ∧ st'.there = true ∧ F.Mode.idle.is st' ∧ F.Dv st' ats' now now ∧ st.count ≤ st'.count ∧ st'.count ≤ st.count + 1 ∧ st'.ln = 0:=by
  refine (h.mflush M (by rw [hs,hq]; exact hM) hi.1 ht hi.2.1 hi.2.2 ⟨hc.1,by omega⟩).mono ?_
  rintro e W' ⟨rfl,lv',ho⟩
  exact ⟨rfl,_,lv',ats,ho,hn,hs,hq,ht,hi,hd.flushed rfl rfl rfl rfl,by show st.count ≤ st.count + 1; omega,Int.le_refl _,rfl⟩
set_option maxHeartbeats 1000000 in
theorem dev_append {T:Nat} {w:World} {L:F.Loc} {n:Nat} {oth:List (Nat × Obj)} {now:Nat → ByteArray} {c:Int} {W:World} {Sb:Nat} (s:Sg) (h:Dev T w L n ((Sb,.cells s.cs 44) :: oth) now c W) (hM:(s.M,F.med L.P 1 1) ∈ oth) (hne:∀ p ∈ oth,p.1 ≠ Sb) (hs:s.Ok) (x:ByteArray) (k:Nat) (hk:1 ≤ k) (hroom:s.a + k < s.p) (hx:x.size = 63 * k) (hn:s.b + s.p ≤ n) (hn1:n ≤ 1000) (hc:c ≤ 60000000) :
    Calls Tryz.prog 17 #[.pointer (some ⟨Sb,0,none⟩),.string x] W fun e W'=>e = .returned (.int .i64 (s.a:Nat)) ∧ Dev T w L n ((Sb,.cells (Sg.cs { s with a:=s.a + 1 + k }) 44) :: oth) (layC now s x k) (c + 100) W':=by
  have hy:=ysize x k hx
  have hp1:=hs.p1
  have hcs:(s.cm s.a x).sec.size = 64 * 1:=Cm.sec_size _
  have hM':(s.M,F.med L.P 1 1) ∈ ((Sb,.cells s.cs 44) :: oth:List (Nat × Obj)):=List.mem_cons_of_mem _ hM
  let St:(Nat → ByteArray) → (Nat → ByteArray) → Int → World → Prop:=fun a b d W=>∃ st lv ats,F.One T w L st lv ((Sb,.cells s.cs 44) :: oth) W ∧ st.n = n ∧ st.serial = 1 ∧ st.session = 1 ∧ st.there = true ∧ F.Mode.idle.is st ∧ F.Dv st ats a b ∧ 0 ≤ st.count ∧ st.count ≤ d
  let St0:(Nat → ByteArray) → Int → World → Prop:=fun a d W=>∃ st lv ats,F.One T w L st lv ((Sb,.cells s.cs 44) :: oth) W ∧ st.n = n ∧ st.serial = 1 ∧ st.session = 1 ∧ st.there = true ∧ F.Mode.idle.is st ∧ F.Dv st ats a a ∧ 0 ≤ st.count ∧ st.count ≤ d ∧ st.ln = 0
  let R:Nat → World → Prop:=fun i W=>if i = 0 then St now now c W else if i = 1 then St (layP now s x k) now (c + k) W else if i = 2 then St (layP now s x k) (layP now s x k) (c + k + 1) W else if i = 3 then St (layC now s x k) (layP now s x k) (c + k + 2) W else St0 (layC now s x k) (c + k + 3) W
  have hStB:∀ {a b d W W'},St a b d W → Below W.heap.size W W' → St a b d W':=fun ⟨st,lv,ats,h1,h2⟩ hb=>⟨st,lv,ats,h1.ofBelow hb,h2⟩
  have hStB0:∀ {a d W W'},St0 a d W → Below W.heap.size W W' → St0 a d W':=fun ⟨st,lv,ats,h1,h2⟩ hb=>⟨st,lv,ats,h1.ofBelow hb,h2⟩
  have hStS0:∀ {a d W},St0 a d W → W.heap[Sb]? = some (.cells s.cs 44):=fun ⟨st,lv,ats,h1,h2⟩=>(h1.oth _ (List.mem_cons_self ..)).1
  have hStS:∀ {a b d W},St a b d W → W.heap[Sb]? = some (.cells s.cs 44):=fun ⟨st,lv,ats,h1,h2⟩=>(h1.oth _ (List.mem_cons_self ..)).1
  refine (append_brk 1 (fun _=>False) s hs Sb x k hk hroom hx R W ?_ ?_ (by
    obtain ⟨st,lv,ats,h1,h2,h3,h4,h5,h6,h7,h8,h9,_⟩:=h.ex
    exact ⟨st,lv,ats,h1,h2,h3,h4,h5,h6,h7,h8,h9⟩) ?_ ?_ ?_ ?_).mono ?_
  · intro i W W' hR hb
    show if i = 0 then _ else _
    have hR':(if i = 0 then St now now c W else if i = 1 then St (layP now s x k) now (c + k) W else if i = 2 then St (layP now s x k) (layP now s x k) (c + k + 1) W else if i = 3 then St (layC now s x k) (layP now s x k) (c + k + 2) W else St0 (layC now s x k) (c + k + 3) W):=hR
    repeat' (split at hR' <;> split <;> try contradiction)
    all_goals first | exact hStB hR' hb | exact hStB0 hR' hb
  · intro i W hR
    have hR':(if i = 0 then St now now c W else if i = 1 then St (layP now s x k) now (c + k) W else if i = 2 then St (layP now s x k) (layP now s x k) (c + k + 1) W else if i = 3 then St (layC now s x k) (layP now s x k) (c + k + 2) W else St0 (layC now s x k) (c + k + 3) W):=hR
    repeat' split at hR'
    all_goals first | exact hStS hR' | exact hStS0 hR'
  · rintro W ⟨st,lv,ats,h1,h2,h3,h4,h5,h6,h7,h8,h9⟩
    refine (dev_write h1 h2 h3 h4 h5 h6 h7 ⟨h8,by omega⟩ hn1 s.M hM' (s.b + s.a + 1) (O.tx (secP x k)) k hy (by omega) (by omega)).mono ?_
    rintro e W' ⟨rfl,st',lv',ats',a1,a2,a3,a4,a5,a6,a7,a8,a9⟩
    exact Or.inl ⟨rfl,st',lv',ats',a1,a2,a3,a4,a5,a6,a7,by omega,by omega⟩
  · rintro W ⟨st,lv,ats,h1,h2,h3,h4,h5,h6,h7,h8,h9⟩
    refine (dev_flush h1 h2 h3 h4 h5 h6 h7 ⟨h8,by omega⟩ s.M hM').mono ?_
    rintro e W' ⟨rfl,st',lv',ats',a1,a2,a3,a4,a5,a6,a7,a8,a9,_⟩
    exact Or.inl ⟨rfl,st',lv',ats',a1,a2,a3,a4,a5,a6,a7,by omega,by omega⟩
  · rintro W ⟨st,lv,ats,h1,h2,h3,h4,h5,h6,h7,h8,h9⟩
    refine (dev_write h1 h2 h3 h4 h5 h6 h7 ⟨h8,by omega⟩ hn1 s.M hM' (s.b + s.a) (s.cm s.a x).sec 1 hcs (by decide) (by omega)).mono ?_
    rintro e W' ⟨rfl,st',lv',ats',a1,a2,a3,a4,a5,a6,a7,a8,a9⟩
    exact Or.inl ⟨rfl,st',lv',ats',a1,a2,a3,a4,a5,a6,a7,by omega,by omega⟩
  · rintro W ⟨st,lv,ats,h1,h2,h3,h4,h5,h6,h7,h8,h9⟩
    refine (dev_flush h1 h2 h3 h4 h5 h6 h7 ⟨h8,by omega⟩ s.M hM').mono ?_
    rintro e W' ⟨rfl,st',lv',ats',a1,a2,a3,a4,a5,a6,a7,a8,a9,a10⟩
    exact Or.inl ⟨rfl,st',lv',ats',a1,a2,a3,a4,a5,a6,a7,by omega,by omega,a10⟩
  · rintro e w' (⟨rfl,w2,⟨st,lv,ats,h1,h2,h3,h4,h5,h6,h7,h8,h9,h10⟩,hks,hcs2⟩ | ⟨E,-,hB⟩)
    · exact ⟨rfl,st,lv,ats,h1.other6 hne hks hcs2,h2,h3,h4,h5,h6,h7,h8,by omega,h10⟩
    · exact hB.elim
end Go.Proofs.YtncfbocbigdhiaaGreat

/- Groups as they lie on a device, one behind the other, and what Scan finds of them. -/
namespace Go.Proofs.YtncfbocbigdhiaaGreat
open Go.RowKit
theorem chunk_list (y:ByteArray) (i:Nat):(F.chunk y i).data.toList = (y.data.toList.drop (64 * i)).take 64:=by
  unfold F.chunk F.part
  rw [ByteArray.data_extract,Array.toList_extract,List.extract_eq_take_drop,ByteArray.data_extract,Array.toList_extract,List.extract_eq_take_drop]
  simp only [List.drop_zero,Nat.sub_zero]
  rw [List.take_of_length_le (l:=List.drop (64 * i) y.data.toList) (by rw [List.length_drop,← O.size_list]; exact Nat.le_refl _)]
  rw [ByteArray.size_extract]
  rcases Nat.le_total 64 (y.size - 64 * i) with h | h
  · rw [Nat.min_eq_left (by omega)]
  · rw [List.take_of_length_le (by rw [List.length_drop,← O.size_list]; omega),List.take_of_length_le (by rw [List.length_drop,← O.size_list]; omega)]
theorem padc_list (y:ByteArray) (i n:Nat) (h:y.size = 64 * n) (hi:i < n):(F.pad (F.chunk y i)).data.toList = (y.data.toList.drop (64 * i)).take 64:=by
  have hc:=chunk_list y i
  have hl:(F.chunk y i).size = 64:=by
    rw [O.size_list,hc,List.length_take,List.length_drop,← O.size_list]; omega
  unfold F.pad
  rw [hl,← hc]
  show ((F.chunk y i) ++ _).data.toList = _
  rw [ByteArray.data_append,Array.toList_append]
  simp
theorem rdsL_lay (st:F.St) (frm:Nat) (y:ByteArray) (n:Nat) (h:y.size = 64 * n):∀ k,k ≤ n → (∀ i,i < k → F.rd st (frm + i) = F.pad (F.chunk y i)) → F.rdsL st frm k = y.data.toList.take (64 * k)
  | 0,_,_=>by simp [F.rdsL]
  | k + 1,hk,hr=>by
    have h1:=rdsL_lay st frm y n h k (by omega) (fun i hi=>hr i (by omega))
    have h2:F.rdB st (frm + k) = (y.data.toList.drop (64 * k)).take 64:=by
      rw [← padc_list y k n h (by omega),← hr k (by omega)]
      show _ = (F.rdB st (frm + k)).toArray.toList
      rw [List.toList_toArray]
    show F.rdsL st frm k ++ F.rdB st (frm + k) = _
    rw [h1,h2,show 64 * (k + 1) = 64 * k + 64 by omega,List.take_add]
theorem rds_one (st:F.St) (i:Nat):(⟨(F.rdsL st i 1).toArray⟩:ByteArray) = F.rd st i:=by
  show (⟨([] ++ F.rdB st (i + 0)).toArray⟩:ByteArray) = _
  rfl
structure Grp (now:Nat → ByteArray) (s:Sg) (t k:Nat) (x:ByteArray):Prop where
  sz:x.size = 63 * k
  k1:1 ≤ k
  fit:t + k < s.p
  com:now (s.b + t) = (s.cm t x).sec
  pay:∀ i,i < k → now (s.b + t + 1 + i) = F.pad (F.chunk (O.tx (secP x k)) i)
inductive Chn (now:Nat → ByteArray) (s:Sg):List (Nat × ByteArray) → Nat → Prop
  | nil:Chn now s [] 1
  | next {l:List (Nat × ByteArray)} {t k:Nat} {x:ByteArray}:Chn now s l t → Grp now s t k x → Chn now s (l ++ [(t,x)]) (t + 1 + k)
theorem Chn.lt {now:Nat → ByteArray} {s:Sg} {l:List (Nat × ByteArray)} {e:Nat} (h:Chn now s l e):1 ≤ e ∧ ∀ p ∈ l,1 ≤ p.1 ∧ p.1 < e:=by
  induction h with
  | nil=>exact ⟨Nat.le_refl _,fun p hp=>by cases hp⟩
  | next h1 h2 ih=>
    refine ⟨by omega,fun p hp=>?_⟩
    rcases List.mem_append.1 hp with hp | hp
    · have:=ih.2 p hp; omega
    · rw [List.mem_singleton.1 hp]; exact ⟨ih.1,by show _ < _; simp; omega⟩
theorem Chn.grp {now:Nat → ByteArray} {s:Sg} {l:List (Nat × ByteArray)} {e:Nat} (h:Chn now s l e):∀ p ∈ l,∃ k,Grp now s p.1 k p.2:=by
  induction h with
  | nil=>intro p hp; cases hp
  | next h1 h2 ih=>
    intro p hp
    rcases List.mem_append.1 hp with hp | hp
    · exact ih p hp
    · rw [List.mem_singleton.1 hp]; exact ⟨_,h2⟩
theorem Chn.one {now:Nat → ByteArray} {s:Sg} {l:List (Nat × ByteArray)} {e:Nat} (h:Chn now s l e):∀ p ∈ l,∀ q ∈ l,p.1 = q.1 → p = q:=by
  induction h with
  | nil=>intro p hp; cases hp
  | next h1 h2 ih=>
    intro p hp q hq e
    have hl:=h1.lt.2
    rcases List.mem_append.1 hp with hp | hp <;> rcases List.mem_append.1 hq with hq | hq
    · exact ih p hp q hq e
    · have:=hl p hp; rw [List.mem_singleton.1 hq] at e; simp only at e; omega
    · have:=hl q hq; rw [List.mem_singleton.1 hp] at e; simp only at e; omega
    · rw [List.mem_singleton.1 hp,List.mem_singleton.1 hq]
def Ksec (y:ByteArray):Prop:=y.size = 64 ∧ (y[0]? ≠ some 67 ∨ ∃ q:Cm,q.Ok ∧ y = q.sec)
def cm0:Cm:=⟨0,0,0,0,0,0⟩
theorem ksec_tells {y:ByteArray} (h:Ksec y):∃ (q:Cm) (er:Int),q.k ≤ 255 ∧ (y[0]? ≠ some 67 → q = cm0) ∧ (∀ W,Calls Tryz.prog 131 #[.string y] W fun e w'=>e = .returned (.tuple #[.agg q.cs,.int .i64 er]) ∧ Below W.heap.size W w'):=by
  by_cases h0:y[0]? = some 67
  · rcases h.2 with h1 | ⟨q,hq,rfl⟩
    · exact absurd h0 h1
    · exact ⟨q,0,by have:=hq.ak; omega,fun h=>absurd h0 h,fun W=>tocommit_back q hq W⟩
  · obtain ⟨er,hc⟩:=tocommit_other y h.1 h0
    exact ⟨cm0,er,Nat.zero_le _,fun _=>rfl,hc⟩
def wayG (cnt:Nat → Nat):Nat → List Nat × Nat
  | 0=>([],1)
  | j + 1=>((wayG cnt j).1 ++ [(wayG cnt j).2],(wayG cnt j).2 + 1 + cnt (wayG cnt j).2)
theorem Way.steps {cnt:Nat → Nat} {ps:List Nat} {t:Nat} (h:Way cnt ps t):(ps,t) = wayG cnt ps.length ∧ ∀ j,j < ps.length → 0 < cnt (wayG cnt j).2:=by
  induction h with
  | nil=>exact ⟨rfl,fun j hj=>absurd hj (Nat.not_lt_zero _)⟩
  | next h1 h2 ih=>
    rename_i ps t
    have e1:(wayG cnt ps.length).1 = ps:=by rw [← ih.1]
    have e2:(wayG cnt ps.length).2 = t:=by rw [← ih.1]
    rw [List.length_append]
    refine ⟨?_,fun j hj=>?_⟩
    · show _ = wayG cnt (ps.length + 1)
      show _ = ((wayG cnt ps.length).1 ++ [(wayG cnt ps.length).2],(wayG cnt ps.length).2 + 1 + cnt (wayG cnt ps.length).2)
      rw [e1,e2]
    · have hj':j < ps.length + 1:=hj
      rcases Nat.lt_or_ge j ps.length with h | h
      · exact ih.2 j h
      · obtain rfl:j = ps.length:=by omega
        rw [e2]; exact h2
theorem Way.det {cnt:Nat → Nat} {ps ps':List Nat} {t t':Nat} (h:Way cnt ps t) (h':Way cnt ps' t') (hz:cnt t = 0) (hz':cnt t' = 0):ps = ps' ∧ t = t':=by
  have s1:=h.steps
  have s2:=h'.steps
  have e2:(wayG cnt ps.length).2 = t:=by rw [← s1.1]
  have e2':(wayG cnt ps'.length).2 = t':=by rw [← s2.1]
  rcases Nat.lt_trichotomy ps.length ps'.length with h | h | h
  · have:=s2.2 _ h; rw [e2] at this; omega
  · have e:(ps,t) = (ps',t'):=by rw [s1.1,s2.1,h]
    injection e with a b
    exact ⟨a,b⟩
  · have:=s1.2 _ h; rw [e2'] at this; omega
end Go.Proofs.YtncfbocbigdhiaaGreat

/- Scan and Read of a segment whose groups lie there; and what an Append adds to them. -/
namespace Go.Proofs.YtncfbocbigdhiaaGreat
open Go.RowKit
theorem rd_now {st:F.St} {ats:Nat → Nat} {now:Nat → ByteArray} {n:Nat} (hd:F.Dv st ats now now) (hn:st.n = n) (i:Nat) (hi:i < n):F.rd st i = now i:=hd.nw i (by omega)
theorem grp_read {st:F.St} {ats:Nat → Nat} {now:Nat → ByteArray} {n:Nat} {s:Sg} {t k:Nat} {x:ByteArray} (hd:F.Dv st ats now now) (hn:st.n = n) (hfit:s.b + s.p ≤ n) (hg:Grp now s t k x):(⟨(F.rdsL st (s.b + t + 1) k).toArray⟩:ByteArray) = O.tx (secP x k):=by
  have hy:=ysize x k hg.sz
  have hf:=hg.fit
  have h1:=rdsL_lay st (s.b + t + 1) (O.tx (secP x k)) k hy k (Nat.le_refl _) (fun i hi=>by rw [rd_now hd hn _ (by omega)]; exact hg.pay i hi)
  rw [h1,List.take_of_length_le (by rw [← O.size_list]; omega)]
theorem dev_scan {T:Nat} {w:World} {L:F.Loc} {n:Nat} {oth:List (Nat × Obj)} {now:Nat → ByteArray} {c:Int} {W:World} {Sb:Nat} (s:Sg) (h:Dev T w L n ((Sb,.cells s.cs 44) :: oth) now c W) (hM:(s.M,F.med L.P 1 1) ∈ oth) (h5:∀ p ∈ oth,∀ c fz,p.2 ≠ .cells c 5 fz) (hne:∀ p ∈ oth,p.1 ≠ Sb)
    (hsb:s.c < 18446744073709551616 ∧ s.j < 18446744073709551616 ∧ s.n < 18446744073709551616) (hs:s.b ≤ 10000 ∧ 1 ≤ s.p ∧ s.p ≤ 64) (hfit:s.b + s.p ≤ n) (hn1:n ≤ 1000) (hc:c ≤ 4000000) (hk:∀ i,i < n → Ksec (now i)) {l:List (Nat × ByteArray)} {e:Nat} (hch:Chn now s l e) (he:e < s.p → (now (s.b + e))[0]? ≠ some 67) :
    Calls Tryz.prog 59 #[.pointer (some ⟨Sb,0,none⟩)] W fun r W'=>∃ v ol,r = .returned v ∧ Plc v (l.map Prod.fst) ol ∧ Dev T w L n (ol ++ (Sb,.cells (Sg.cs { s with a:=e }) 44) :: oth) now (c + 66 * l.length + 66) W' ∧ (∀ p ∈ ol,∀ q ∈ (Sb,.cells s.cs 44) :: oth,p.1 ≠ q.1):=by
  obtain ⟨T1,hx⟩:=Mx.of Sb oth
  obtain ⟨st,lv,ats,ho,hn,hsr,hss,hth,⟨hi1,hi2,hi3⟩,hd,hc0,hc1,hl0⟩:=h.ex
  have hlt:=hch.lt
  have key:∀ t,∃ (q:Cm) (er:Int),1 ≤ t → t < s.p → (q.k ≤ 255 ∧ (∀ W,Calls Tryz.prog 131 #[.string ⟨(F.rdsL st (s.b + t) 1).toArray⟩] W fun e w'=>e = .returned (.tuple #[.agg q.cs,.int .i64 er]) ∧ Below W.heap.size W w') ∧ (∀ x,(t,x) ∈ l → q = s.cm t x) ∧ (t = e → ∀ z,q ≠ s.cm t z)):=by
    intro t
    by_cases ht:1 ≤ t ∧ t < s.p
    · have hr:(⟨(F.rdsL st (s.b + t) 1).toArray⟩:ByteArray) = now (s.b + t):=by rw [rds_one,rd_now hd hn _ (by omega)]
      by_cases hx:∃ x,(t,x) ∈ l
      · obtain ⟨x,hx⟩:=hx
        obtain ⟨k,hg⟩:=hch.grp _ hx
        have hg':Grp now s t k x:=hg
        have hcom:=hg'.com
        have hxk:x.size / 63 = k:=by have:=hg'.sz; omega
        have hfit2:=hg'.fit
        have hk1:=hg'.k1
        have hok:(s.cm t x).Ok:=⟨hsb.1,hsb.2.1,hsb.2.2,ht.1,by show 1 ≤ x.size / 63; omega,by show t + x.size / 63 ≤ 63; omega,sm_lt x⟩
        refine ⟨s.cm t x,0,fun _ _=>⟨by show x.size / 63 ≤ 255; omega,fun W=>by rw [hr,hcom]; exact tocommit_back _ hok W,fun x' hx'=>?_,fun hte=>?_⟩⟩
        · have:=hch.one (t,x) hx (t,x') hx' rfl
          injection this with _ e2
          rw [e2]
        · have:=hlt.2 _ hx
          simp only at this
          omega
      · obtain ⟨q,er,hq1,hq2,hq3⟩:=ksec_tells (hk (s.b + t) (by omega))
        refine ⟨q,er,fun _ _=>⟨hq1,fun W=>by rw [hr]; exact hq3 W,fun x' hx'=>absurd ⟨x',hx'⟩ hx,fun hte z=>?_⟩⟩
        rw [hq2 (by rw [hte]; exact he (by omega))]
        intro e2
        have:=congrArg Cm.a e2
        have e3:(0:Nat) = t:=this
        omega
    · exact ⟨cm0,0,fun h1 h2=>absurd ⟨h1,h2⟩ ht⟩
  let Q:Nat → Cm:=fun t=>(key t).choose
  let E:Nat → Int:=fun t=>(key t).choose_spec.choose
  have hQE:∀ t,1 ≤ t → t < s.p → _:=fun t=>(key t).choose_spec.choose_spec
  have hsc:=scan_dev ho (by rw [hsr,hss]; exact hM) h5 hx hne hs (by omega) (by omega) hi1 hth hi2 hi3 ⟨hd.ok.1,hd.ok.2⟩ ⟨hc0,by omega⟩ Q E (fun t h1 h2=>⟨(hQE t h1 h2).1,(hQE t h1 h2).2.1⟩)
  have hcnt:∀ p ∈ l,∀ k,Grp now s p.1 k p.2 → cntO st s Q p.1 = k:=by
    intro p hp k hg
    have hq:=(hQE p.1 (hlt.2 p hp).1 (by have:=hg.fit; omega)).2.2.1 p.2 hp
    have hxk:p.2.size / 63 = k:=by have:=hg.sz; omega
    have hqk:(Q p.1).k = k:=by show (key p.1).choose.k = k; rw [hq]; exact hxk
    have hz:zO st s p.1 (Q p.1).k = p.2:=by
      rw [hqk]
      unfold zO
      rw [if_neg (by have:=hg.k1; have:=hg.fit; omega),grp_read hd hn hfit hg,rdp_secP p.2 k hg.sz]
    unfold cntO
    rw [if_pos ⟨by have:=hg.fit; omega,by rw [hz]; exact hq⟩,hqk]
  have hway:∀ {l2:List (Nat × ByteArray)} {e2:Nat},Chn now s l2 e2 → (∀ p ∈ l2,p ∈ l) → Way (cntO st s Q) (l2.map Prod.fst) e2:=by
    intro l2 e2 hc2
    induction hc2 with
    | nil=>intro _; exact Way.nil
    | next h1 h2 ih=>
      rename_i l3 t k x
      intro hsub
      have hck:=hcnt (t,x) (hsub _ (List.mem_append_right _ (List.mem_singleton.2 rfl))) k h2
      have:=Way.next (ih (fun p hp=>hsub p (List.mem_append_left _ hp))) (t:=t) (by rw [hck]; exact h2.k1)
      rw [hck] at this
      rw [List.map_append]
      exact this
  have hend:cntO st s Q e = 0:=by
    unfold cntO
    rw [if_neg]
    rintro ⟨h1,h2⟩
    exact (hQE e hlt.1 h1).2.2.2 rfl _ h2
  refine hsc.mono ?_
  rintro r W' ⟨ps,t,v,hw1,hz1,rfl,c2,lv2,ol,hpl,ho2,hca,hcb,hra⟩
  obtain ⟨rfl,rfl⟩:=hw1.det (hway hch (fun p hp=>hp)) hz1 hend
  rw [List.length_map] at hcb
  exact ⟨v,ol,rfl,hpl,⟨{ st with count:=c2 },lv2,ats,ho2,hn,hsr,hss,hth,⟨hi1,hi2,hi3⟩,hd.same rfl rfl rfl rfl,by show 0 ≤ c2; omega,by show c2 ≤ _; omega,hl0⟩,SI.apart hx hra⟩
theorem dev_read {T:Nat} {w:World} {L:F.Loc} {n:Nat} {oth:List (Nat × Obj)} {now:Nat → ByteArray} {c:Int} {W:World} {Sb:Nat} (s:Sg) (h:Dev T w L n oth now c W) (hSb:(Sb,.cells s.cs 44) ∈ oth) (hM:(s.M,F.med L.P 1 1) ∈ oth) (h5:∀ p ∈ oth,∀ c fz,p.2 ≠ .cells c 5 fz)
    (hs:s.b ≤ 10000 ∧ s.p ≤ 64) (hfit:s.b + s.p ≤ n) (hn1:n ≤ 1000) (hc:c ≤ 9000000) {t k:Nat} {x:ByteArray} (ht:1 ≤ t) (hg:Grp now s t k x) :
    Calls Tryz.prog 60 #[.pointer (some ⟨Sb,0,none⟩),.int .i64 (t:Nat),.int .i64 (k:Nat)] W fun r W'=>r = .returned (.string x) ∧ Dev T w L n oth now (c + k) W':=by
  have hy:=ysize x k hg.sz
  have hf:=hg.fit
  have hx:=rdp_secP x k hg.sz
  have hr:=sread_any s hs Sb t k ht hg.k1 hg.fit (O.tx (secP x k)) hy (Dev T w L n oth now c) (Dev T w L n oth now (c + k)) W h (fun W W' a b=>a.below b) (fun W W' a b=>a.below b) (fun W a=>a.at' hSb) (fun W a=>a.at' hSb) (fun W hW=>by
    obtain ⟨st,lv,ats,ho,hn,hsr,hss,hth,⟨hi1,hi2,hi3⟩,hd,hc0,hc1,hl0⟩:=hW.ex
    have hm:=ho.mread s.M (by rw [hsr,hss]; exact hM) h5 (s.b + t + 1) k (by omega) (by omega) hi1 hth hi2 hi3 ⟨hd.ok.1,hd.ok.2⟩ ⟨hc0,by omega⟩
    refine hm.mono ?_
    rintro e W' ⟨rfl,lv',ho'⟩
    refine ⟨by rw [grp_read hd hn hfit hg],{ st with count:=st.count + k },lv',ats,ho',hn,hsr,hss,hth,⟨hi1,hi2,hi3⟩,hd.same rfl rfl rfl rfl,by show 0 ≤ st.count + (k:Int); omega,by show st.count + (k:Int) ≤ _; omega,hl0⟩)
  rw [hx] at hr
  exact hr
theorem ba_get (b:ByteArray) (i:Nat):b[i]? = b.data[i]?:=rfl
theorem pad_whole (y:ByteArray) (h:y.size = 64):F.pad (F.chunk y 0) = y:=by
  apply ByteArray.ext
  apply Array.toList_inj.1
  rw [padc_list y 0 1 (by omega) (by decide),Nat.mul_zero,List.drop_zero,List.take_of_length_le (by rw [← O.size_list]; omega)]
section
variable {now now':Nat → ByteArray} {s:Sg} {x:ByteArray} {k t n:Nat}
theorem layC_ge (i:Nat) (h:s.b + s.a + 1 + k ≤ i):layC now s x k i = now i:=by
  unfold layC layP F.lay
  rw [if_neg (by omega),if_neg (by omega)]
theorem layC_lt (i:Nat) (h:i < s.b + s.a):layC now s x k i = now i:=by
  unfold layC layP F.lay
  rw [if_neg (by omega),if_neg (by omega)]
theorem layC_com:layC now s x k (s.b + s.a) = (s.cm s.a x).sec:=by
  unfold layC F.lay
  rw [if_pos (by omega),Nat.sub_self]
  exact pad_whole _ (Cm.sec_size _)
theorem layC_pay (i:Nat) (h:i < k):layC now s x k (s.b + s.a + 1 + i) = F.pad (F.chunk (O.tx (secP x k)) i):=by
  unfold layC layP F.lay
  rw [if_neg (by omega),if_pos (by omega),show s.b + s.a + 1 + i - (s.b + s.a + 1) = i by omega]
theorem layC_ksec (hs:s.Ok) (hx:x.size = 63 * k) (hk:1 ≤ k) (hr:s.a + k < s.p) (h:∀ i,i < n → Ksec (now i)):∀ i,i < n → Ksec (layC now s x k i):=by
  intro i hi
  have hp:=hs.p1
  have ha:=hs.a0
  rcases Nat.lt_trichotomy i (s.b + s.a) with h1 | h1 | h1
  · rw [layC_lt i h1]; exact h i hi
  · rw [h1,layC_com]
    exact ⟨Cm.sec_size _,Or.inr ⟨_,⟨hs.c,hs.j,hs.n,ha,by show 1 ≤ x.size / 63; omega,by show s.a + x.size / 63 ≤ 63; omega,sm_lt x⟩,rfl⟩⟩
  · rcases Nat.lt_or_ge i (s.b + s.a + 1 + k) with h2 | h2
    · obtain ⟨j,rfl⟩:∃ j,i = s.b + s.a + 1 + j:=⟨i - (s.b + s.a + 1),by omega⟩
      rw [layC_pay j (by omega)]
      have hy:=ysize x k hx
      have hl:=padc_list (O.tx (secP x k)) j k hy (by omega)
      have hmk:=secP_mk x k j (by omega) (by omega)
      refine ⟨F.pad_size _ (F.chunk_size _ _),Or.inl ?_⟩
      have e1:(F.pad (F.chunk (O.tx (secP x k)) j))[0]? = some 68:=by
        rw [ba_get,← Array.getElem?_toList,hl,List.getElem?_take_of_lt (by decide),List.getElem?_drop,Array.getElem?_toList,Nat.add_zero,← ba_get]
        exact hmk
      rw [e1]
      intro e
      have e2:=Option.some.inj e
      exact absurd e2 (by decide)
    · rw [layC_ge i h2]; exact h i hi
end
end Go.Proofs.YtncfbocbigdhiaaGreat

/- The fixed fact of the statements on groups, as a call. -/
namespace Go.Proofs.YtncfbocbigdhiaaGreat
open Go.RowKit
structure Ph3 (i1 i2:Nat) (A B C:World → Prop) (done:Nat → Bool) (f:Nat → Value) (W:World):Prop where
  a:done i1 = false → A W
  b:done i1 = true → done i2 = false → B W
  c:done i1 = true → done i2 = true → C W
  e:done i2 = true → done i1 = true
theorem Ph3.start {i1 i2:Nat} {A B C:World → Prop} {f:Nat → Value} {W:World} (h:A W):Ph3 i1 i2 A B C (fun _=>false) f W:=⟨fun _=>h,(fun e=>by cases e),(fun e=>by cases e),(fun e=>by cases e)⟩
theorem Ph3.step {i1 i2 j:Nat} {A B C:World → Prop} {done:Nat → Bool} {f g:Nat → Value} {W W':World} (h:Ph3 i1 i2 A B C done f W) (h1:i1 ≠ j) (h2:i2 ≠ j) (hA:A W → A W') (hB:B W → B W') (hC:C W → C W'):Ph3 i1 i2 A B C (F.updB done j) g W':=by
  have e1:F.updB done j i1 = done i1:=if_neg h1
  have e2:F.updB done j i2 = done i2:=if_neg h2
  exact ⟨fun q=>hA (h.a (by rw [← e1]; exact q)),fun q r=>hB (h.b (by rw [← e1]; exact q) (by rw [← e2]; exact r)),fun q r=>hC (h.c (by rw [← e1]; exact q) (by rw [← e2]; exact r)),fun q=>by rw [e1]; exact h.e (by rw [← e2]; exact q)⟩
theorem Ph3.pure {i1 i2 j:Nat} {A B C:World → Prop} {done:Nat → Bool} {f g:Nat → Value} {W:World} (h:Ph3 i1 i2 A B C done f W) (h1:i1 ≠ j) (h2:i2 ≠ j):Ph3 i1 i2 A B C (F.updB done j) g W:=h.step h1 h2 id id id
theorem Ph3.one {i1 i2:Nat} {A B C:World → Prop} {done:Nat → Bool} {f g:Nat → Value} {W W':World} (h:Ph3 i1 i2 A B C done f W) (hne:i2 ≠ i1) (hd:done i1 = false) (hB:B W'):Ph3 i1 i2 A B C (F.updB done i1) g W':=by
  have e1:F.updB done i1 i1 = true:=if_pos rfl
  have e2:F.updB done i1 i2 = done i2:=if_neg hne
  have h2:done i2 = false:=by
    cases q:done i2 with
    | false=>rfl
    | true=>rw [h.e q] at hd; cases hd
  exact ⟨(fun q=>by rw [e1] at q; cases q),fun _ _=>hB,(fun _ r=>by rw [e2,h2] at r; cases r),fun _=>e1⟩
theorem Ph3.two {i1 i2:Nat} {A B C:World → Prop} {done:Nat → Bool} {f g:Nat → Value} {W W':World} (_:Ph3 i1 i2 A B C done f W) (hne:i1 ≠ i2) (hd:done i1 = true) (hC:C W'):Ph3 i1 i2 A B C (F.updB done i2) g W':=by
  have e1:F.updB done i2 i1 = true:=by show (if _ then _ else _) = _; rw [if_neg hne]; exact hd
  have e2:F.updB done i2 i2 = true:=if_pos rfl
  exact ⟨(fun q=>by rw [e1] at q; cases q),(fun _ q=>by rw [e2] at q; cases q),fun _ _=>hC,fun _=>e1⟩
theorem Ph3.any {i1 i2:Nat} {A B C D:World → Prop} {done:Nat → Bool} {f:Nat → Value} {W:World} (h:Ph3 i1 i2 A B C done f W) (h1:A W → D W) (h2:B W → D W) (h3:C W → D W):D W:=by
  cases e:done i1 with
  | false=>exact h1 (h.a e)
  | true=>
    cases e2:done i2 with
    | false=>exact h2 (h.b e e2)
    | true=>exact h3 (h.c e e2)
end Go.Proofs.YtncfbocbigdhiaaGreat

/- awake of the statements on groups, as a call. -/
namespace Go.Proofs.YtncfbocbigdhiaaGreat
open Go.RowKit
theorem dev0 {T:Nat} {w:World} {L:F.Loc} {n:Nat} {oth:List (Nat × Obj)} {lv:Value} {W:World} (h:F.One T w L (F.st0 1 n) lv oth W):Dev T w L n oth (fun _=>F.pad ⟨#[]⟩) 0 W:=
  ⟨F.st0 1 n,lv,_,h,rfl,rfl,rfl,rfl,⟨rfl,rfl,rfl⟩,F.dv0 1 n,Int.le_refl _,Int.le_refl _,rfl⟩
theorem pad0:(F.pad ⟨#[]⟩)[0]? = some 0:=by decide
theorem ksec0:Ksec (F.pad ⟨#[]⟩):=⟨F.pad_size _ (by decide),Or.inl (by rw [pad0]; decide)⟩
theorem Dev.guarded {T:Nat} {w:World} {L:F.Loc} {n:Nat} {oth:List (Nat × Obj)} {now:Nat → ByteArray} {c:Int} {W:World} (h:Dev T w L n oth now c W):Dev T w L n (F.gob W.heap.size oth) now c (F.G0 W):=by
  obtain ⟨st,lv,ats,h1,h2⟩:=h.ex
  exact ⟨st,lv,ats,h1.guarded,h2⟩
theorem Dev.kt {T:Nat} {w:World} {L:F.Loc} {n:Nat} {oth:List (Nat × Obj)} {now:Nat → ByteArray} {c:Int} {W W':World} {B:Nat} (h:Dev T w L n (F.gob B oth) now c W) (hne:∀ p ∈ oth,p.1 ≠ B ∧ p.1 ≠ B + 1) (k:F.KT B W W'):Dev T w L n oth now c W':=by
  obtain ⟨st,lv,ats,h1,h2⟩:=h.ex
  exact ⟨st,lv,ats,h1.kt2 hne k,h2⟩
end Go.Proofs.YtncfbocbigdhiaaGreat

/- Rows of texts: appended to in any order, and kept. -/
namespace Go.Proofs.YtncfbocbigdhiaaGreat
open Go.RowKit
section
variable {b0:Nat} {w0:World} {L:F.Loc} {st:F.St} {lv:Value} {oth:List (Nat × Obj)} {w w':World}
theorem F.One.grownS {row:Option Nat} (h:F.One b0 w0 L st lv oth w) (hg:w.grownBy w' row) (hr:∀ g,row = some g → b0 ≤ g ∧ ∃ c,w.heap[g]? = some (.cells c 9)) (ho:∀ p ∈ oth,row ≠ some p.1):F.One b0 w0 L st lv oth w':=by
  have tne:∀ {i:Nat} {d:Array Value} {t:TypeId},w.heap[i]? = some (.cells d t) → t ≠ 9 → some i ≠ row:=fun {i d t} e ht er=>by
    obtain ⟨_,c,hc⟩:=hr i er.symm
    rw [e] at hc
    injection hc with hc
    injection hc with _ hc _
    exact ht hc
  have same:∀ {j:Nat} {o:Obj},w.heap[j]? = some o → some j ≠ row → w'.heap[j]? = some o:=fun e h1=>(hg.block _ (F.getElem?_lt e) h1).trans e
  refine ⟨?_,h.bP,h.bR,h.bD,h.bS,same h.pool (tne h.pool (by decide)),same h.rowb (tne h.rowb (by decide)),h.rc0,same h.dev (tne h.dev (by decide)),same h.sec (tne h.sec (by decide)),⟨h.own.1,?_⟩,?_⟩
  · refine ⟨hg.os.trans h.below.os,hg.tape.trans h.below.tape,hg.output.trans h.below.output,Nat.le_trans h.below.size hg.size,fun j hj=>?_⟩
    rw [hg.block j (Nat.lt_of_lt_of_le hj (Nat.le_trans h.bP (Nat.le_of_lt (F.getElem?_lt h.pool)))) (fun e=>by have:=(hr j e.symm).1; omega)]
    exact h.below.block j hj
  · rcases h.own.2 with h1 | ⟨g,cap,cur,e,h2,h3,h4⟩
    · exact Or.inl h1
    · exact Or.inr ⟨g,cap,cur,e,h2,same h3 (tne h3 (by decide)),h4⟩
  · intro p hp
    obtain ⟨o1,o2,o3,o4⟩:=h.oth p hp
    exact ⟨same o1 (fun e=>ho p hp e.symm),o2,o3,o4⟩
theorem F.One.addS {g:Nat} {c:Array Value} (h:F.One b0 w0 L st lv oth w) (hg:w.heap[g]? = some (.cells c 9)) (hb:b0 ≤ g):F.One b0 w0 L st lv ((g,.cells c 9) :: oth) w:=by
  have tne:∀ {i:Nat} {d:Array Value} {t:TypeId},w.heap[i]? = some (.cells d t) → t ≠ 9 → g ≠ i:=fun e ht er=>by
    subst er
    rw [hg] at e
    injection e with e
    injection e with _ e _
    exact ht e.symm
  refine { h with oth:=?_ }
  intro p hp
  rcases List.mem_cons.1 hp with rfl | hp
  · exact ⟨hg,⟨tne h.pool (by decide),tne h.rowb (by decide),tne h.dev (by decide),tne h.sec (by decide)⟩,F.apart_of (by decide),hb⟩
  · exact h.oth p hp
end
def Txs (v:Value) (xs:List ByteArray) (ol:List (Nat × Obj)):Prop:=
  (v = .slice none 0 0 ∧ xs = [] ∧ ol = []) ∨ ∃ g cap cur,v = .slice (some ⟨g,0,none⟩) xs.length cap ∧ ol = [(g,.cells cur 9)] ∧ xs.length ≤ cap ∧ cap ≤ maxLen ∧ cur.size = cap ∧ cur.toList.take xs.length = xs.map .string
theorem Txs.nil:Txs (.slice none 0 0) [] []:=Or.inl ⟨rfl,rfl,rfl⟩
theorem Txs.cell {v:Value} {xs:List ByteArray} {ol:List (Nat × Obj)} (h:Txs v xs ol) {W:World} (ho:∀ p ∈ ol,W.heap[p.1]? = some p.2) :
    ∃ ao cp g,v = .slice ao xs.length cp ∧ (0 < xs.length → ao = some ⟨g,0,none⟩) ∧ ∀ j (hj:j < xs.length),W.cell? ⟨g,j,none⟩ = some (.string xs[j]):=by
  rcases h with ⟨rfl,rfl,rfl⟩ | ⟨g,cap,cur,rfl,rfl,h1,h2,h3,h4⟩
  · exact ⟨none,0,0,rfl,fun h=>absurd h (Nat.lt_irrefl _),fun j hj=>absurd hj (Nat.not_lt_zero _)⟩
  · have o1:=ho (g,.cells cur 9) (List.mem_singleton.2 rfl)
    refine ⟨_,_,g,rfl,fun _=>rfl,fun j hj=>?_⟩
    rw [F.cell_of o1]
    have:=congrArg (fun l=>l[j]?) h4
    simp only [List.getElem?_take_of_lt hj,List.getElem?_map,Array.getElem?_toList,List.getElem?_eq_getElem hj] at this
    exact this
theorem tinfo:(Tryz.prog.info? 9).map (fun i=>(i.zero,i.size,i.bytes)) = some (some (.string ⟨#[]⟩),1,16):=by kernel_rfl
end Go.Proofs.YtncfbocbigdhiaaGreat

/- The closure of scanned: Scan, and Read of each. -/
namespace Go.Proofs.YtncfbocbigdhiaaGreat
open Go.RowKit
theorem Chn.at' {now:Nat → ByteArray} {s:Sg} {l:List (Nat × ByteArray)} {e:Nat} (h:Chn now s l e):∀ i (hi:i < l.length),∃ k,1 ≤ l[i].1 ∧ Grp now s l[i].1 k l[i].2 ∧ (∀ h2:i + 1 < l.length,l[i+1].1 = l[i].1 + 1 + k) ∧ (i + 1 = l.length → e = l[i].1 + 1 + k):=by
  induction h with
  | nil=>intro i hi; exact absurd hi (Nat.not_lt_zero _)
  | next h1 h2 ih=>
    rename_i l t k x
    intro i hi
    rw [List.length_append,List.length_singleton] at hi
    rcases Nat.lt_or_ge i l.length with hl | hl
    · obtain ⟨k',a1,a2,a3,a4⟩:=ih i hl
      have e1:(l ++ [(t,x)])[i]'(by rw [List.length_append,List.length_singleton]; exact hi) = l[i]:=List.getElem_append_left hl
      refine ⟨k',by rw [e1]; exact a1,by rw [e1]; exact a2,fun hj=>?_,fun hj=>?_⟩
      · rw [e1]
        rcases Nat.lt_or_ge (i + 1) l.length with hm | hm
        · rw [List.getElem_append_left hm]; exact a3 hm
        · have e3:i + 1 = l.length:=by omega
          have e2:(l ++ [(t,x)])[i + 1]'hj = (t,x):=by simp [e3]
          rw [e2]
          show t = _
          exact a4 (by omega)
      · rw [List.length_append,List.length_singleton] at hj; omega
    · have hi':i = l.length:=by omega
      subst hi'
      have e1:(l ++ [(t,x)])[l.length]'(by rw [List.length_append,List.length_singleton]; exact hi) = (t,x):=by simp
      refine ⟨k,by rw [e1]; exact h1.lt.1,by rw [e1]; exact h2,fun hj=>?_,fun _=>by rw [e1]⟩
      rw [List.length_append,List.length_singleton] at hj; omega
theorem Chn.len {now:Nat → ByteArray} {s:Sg} {l:List (Nat × ByteArray)} {e:Nat} (h:Chn now s l e):2 * l.length < e ∧ e ≤ max 1 s.p:=by
  induction h with
  | nil=>exact ⟨by decide,Nat.le_max_left _ _⟩
  | next h1 h2 ih=>
    have:=h2.k1
    have:=h2.fit
    refine ⟨by simp; omega,by omega⟩
section
variable {A0 A:World → Prop} {B C:Value → World → Prop} {D:World → Prop} {done:Nat → Bool} {f:Nat → Value} {W W':World}
end
def RS (T:Nat) (w:World) (L:F.Loc) (n:Nat) (rest:List (Nat × Obj)) (now:Nat → ByteArray) (T1 Ob:Nat) (xs:List ByteArray) (c:Int) (v:Value) (W:World):Prop:=
  ∃ ol,Txs v xs ol ∧ (∀ p ∈ ol,T1 ≤ p.1) ∧ Dev T w L n (ol ++ (Ob,.cells #[v] 30) :: rest) now c W
section
variable {T:Nat} {w:World} {L:F.Loc} {n:Nat} {rest:List (Nat × Obj)} {now:Nat → ByteArray} {T1 Ob:Nat} {xs:List ByteArray} {c:Int} {v:Value} {W W':World}
theorem RS.below (h:RS T w L n rest now T1 Ob xs c v W) (hb:Below W.heap.size W W'):RS T w L n rest now T1 Ob xs c v W':=by
  obtain ⟨ol,h1,h2,h3⟩:=h
  exact ⟨ol,h1,h2,h3.below hb⟩
theorem RS.read {Sb:Nat} (s:Sg) (h:RS T w L n rest now T1 Ob xs c v W) (hSb:(Sb,.cells s.cs 44) ∈ rest) (hM:(s.M,F.med L.P 1 1) ∈ rest) (h5:∀ p ∈ rest,∀ c fz,p.2 ≠ .cells c 5 fz)
    (hs:s.b ≤ 10000 ∧ s.p ≤ 64) (hfit:s.b + s.p ≤ n) (hn1:n ≤ 1000) (hc:c ≤ 9000000) {t k:Nat} {x:ByteArray} (ht:1 ≤ t) (hg:Grp now s t k x) :
    Calls Tryz.prog 60 #[.pointer (some ⟨Sb,0,none⟩),.int .i64 (t:Nat),.int .i64 (k:Nat)] W fun r W'=>r = .returned (.string x) ∧ RS T w L n rest now T1 Ob xs (c + k) v W':=by
  obtain ⟨ol,h1,h2,h3⟩:=h
  refine (dev_read s h3 (List.mem_append_right _ (List.mem_cons_of_mem _ hSb)) (List.mem_append_right _ (List.mem_cons_of_mem _ hM)) ?_ hs hfit hn1 hc ht hg).mono ?_
  · intro p hp cc fz e
    rcases List.mem_append.1 hp with hp | hp
    · rcases h1 with ⟨_,_,rfl⟩ | ⟨g,cap,cur,_,rfl,_⟩
      · cases hp
      · rw [List.mem_singleton.1 hp] at e; injection e with _ e _; exact absurd e (by decide)
    · rcases List.mem_cons.1 hp with rfl | hp
      · injection e with _ e _; exact absurd e (by decide)
      · exact h5 p hp cc fz e
  · rintro e W' ⟨rfl,h4⟩
    exact ⟨rfl,ol,h1,h2,h4⟩
end
end Go.Proofs.YtncfbocbigdhiaaGreat

/- scanned: the texts of the groups that lie there. -/
namespace Go.Proofs.YtncfbocbigdhiaaGreat
open Go.RowKit
end Go.Proofs.YtncfbocbigdhiaaGreat

/- GroupFull's closure: groups, till there is no room. -/
namespace Go.Proofs.YtncfbocbigdhiaaGreat
open Go.RowKit
def FS (T:Nat) (w:World) (L:F.Loc) (rest:List (Nat × Obj)) (per n M Cb Sb i:Nat) (W:World):Prop:=
  1 + i * (n + 1) ≤ per ∧ ∃ now l,Chn now ⟨M,3,2,5,4,per,1 + i * (n + 1)⟩ l (1 + i * (n + 1)) ∧ l.length = i ∧ (∀ j,j < 4 + per → Ksec (now j)) ∧ (∀ j,4 + (1 + i * (n + 1)) ≤ j → now j = F.pad ⟨#[]⟩) ∧ Dev T w L (4 + per) ((Cb,.cells #[.int .i64 (i:Nat)] 3) :: (Sb,.cells (Sg.cs ⟨M,3,2,5,4,per,1 + i * (n + 1)⟩) 44) :: rest) now (100 * i) W
section
variable {T:Nat} {w:World} {L:F.Loc} {rest:List (Nat × Obj)} {per n M Cb Sb i:Nat} {W W':World}
end
theorem F_two_start {i:Nat} {X0 X1:World → Prop} {f:Nat → Value} {W:World} (h:X0 W):F.Two i X0 X1 (fun _=>false) f W:=⟨fun _=>h,(fun e=>by cases e)⟩
end Go.Proofs.YtncfbocbigdhiaaGreat

/- GroupFull as a call: of any numbers it returns true, and nothing that was there has turned. -/
namespace Go.Proofs.YtncfbocbigdhiaaGreat
open Go.RowKit
section
variable {T:Nat} {w:World} {L:F.Loc} {rest:List (Nat × Obj)} {per n M Cb Sb i:Nat} {W W':World}
end
section
variable {v:Value} {X0 X1:World → Prop} {done:Nat → Bool} {f:Nat → Value} {W W':World}
end
end Go.Proofs.YtncfbocbigdhiaaGreat

/- Texts of this seat, one behind the other: JM, JN, JO, JP, JQ. -/
/- same: texts held against themselves, as they lie in two rows. -/
namespace Go.Proofs.YtncfbocbigdhiaaGreat
open Go.RowKit
end Go.Proofs.YtncfbocbigdhiaaGreat
/- Loose, and GroupBack's closure, on a device that does all. -/
namespace Go.Proofs.YtncfbocbigdhiaaGreat
open Go.RowKit
end Go.Proofs.YtncfbocbigdhiaaGreat
/- GroupBack's closure, under Guard. -/
namespace Go.Proofs.YtncfbocbigdhiaaGreat
open Go.RowKit
end Go.Proofs.YtncfbocbigdhiaaGreat
/- GroupBack's state between two rounds: what lies on the device, the texts that were wanted, the box of i. -/
namespace Go.Proofs.YtncfbocbigdhiaaGreat
open Go.RowKit
theorem Txs.ty {v:Value} {xs:List ByteArray} {ol:List (Nat × Obj)} (h:Txs v xs ol):∀ p ∈ ol,∃ c,p.2 = .cells c 9:=by
  rcases h with ⟨rfl,rfl,rfl⟩ | ⟨g,cap,cur,rfl,rfl,_⟩
  · intro p hp; cases hp
  · intro p hp; rw [List.mem_singleton.1 hp]; exact ⟨_,rfl⟩
section
variable {T:Nat} {w:World} {L:F.Loc} {rest:List (Nat × Obj)} {per M Sb m i a n Ib:Nat} {y:ByteArray} {v:Value} {W W':World}
end
end Go.Proofs.YtncfbocbigdhiaaGreat
/- GroupBack's walk, under way. -/
namespace Go.Proofs.YtncfbocbigdhiaaGreat
open Go.RowKit
section
variable {P:World → Prop} {Q:Value → World → Prop} {y:ByteArray} {vs:Value} {done:Nat → Bool} {f:Nat → Value} {W W':World}
end
end Go.Proofs.YtncfbocbigdhiaaGreat

/- A device that does all, in any of its sessions, once more: what is sure is told beside what lies there (made by gua.py). -/
namespace Go.Proofs.YtncfbocbigdhiaaGreat.U
open Go.RowKit
structure Dev (T:Nat) (w:World) (L:F.Loc) (q:Int) (n:Nat) (oth:List (Nat × Obj)) (now su:Nat → ByteArray) (c:Int) (W:World):Prop where
  ex:∃ st lv ats,F.One T w L st lv oth W ∧ st.n = n ∧ st.serial = 1 ∧ st.session = q ∧ st.there = true ∧ F.Mode.idle.is st ∧ F.Dv st ats now su ∧ 0 ≤ st.count ∧ st.count ≤ c ∧ (su 5000 = now 5000 → st.ln = 0)
section
variable {T:Nat} {w:World} {L:F.Loc} {q:Int} {n:Nat} {oth oth':List (Nat × Obj)} {now su:Nat → ByteArray} {c:Int} {W W':World}
theorem Dev.below (h:Dev T w L q n oth now su c W) (hb:Below W.heap.size W W'):Dev T w L q n oth now su c W':=by
  obtain ⟨st,lv,ats,h1,h2⟩:=h.ex
  exact ⟨st,lv,ats,h1.ofBelow hb,h2⟩
theorem Dev.forget (h:Dev T w L q n oth now su c W) (hs:∀ p ∈ oth',p ∈ oth):Dev T w L q n oth' now su c W:=by
  obtain ⟨st,lv,ats,h1,h2⟩:=h.ex
  exact ⟨st,lv,ats,h1.forget hs,h2⟩
theorem Dev.alloc (h:Dev T w L q n oth now su c W) (o:Obj) (ho:F.Obj.apart o):Dev T w L q n ((W.heap.size,o) :: oth) now su c (W.alloc o):=by
  obtain ⟨st,lv,ats,h1,h2⟩:=h.ex
  exact ⟨st,lv,ats,h1.alloc o ho,h2⟩
theorem Dev.at' (h:Dev T w L q n oth now su c W) {p:Nat × Obj} (hp:p ∈ oth):W.heap[p.1]? = some p.2:=by
  obtain ⟨st,lv,ats,h1,h2⟩:=h.ex
  exact (h1.oth p hp).1
theorem Dev.bel (h:Dev T w L q n oth now su c W):Below T w W:=by
  obtain ⟨st,lv,ats,h1,h2⟩:=h.ex
  exact h1.below
theorem Dev.more (h:Dev T w L q n oth now su c W) {d:Int} (hd:c ≤ d):Dev T w L q n oth now su d W:=by
  obtain ⟨st,lv,ats,h1,h2,h3,h4,h5,h6,h7,h8,h9,h10⟩:=h.ex
  exact ⟨st,lv,ats,h1,h2,h3,h4,h5,h6,h7,h8,by omega,h10⟩
theorem Dev.lts (h:Dev T w L q n oth now su c W):∀ p ∈ oth,p.1 < W.heap.size:=by
  obtain ⟨st,lv,ats,h1,h2⟩:=h.ex
  exact h1.lts
end
theorem rd_now {st:F.St} {ats:Nat → Nat} {now su:Nat → ByteArray} {n:Nat} (hd:F.Dv st ats now su) (hn:st.n = n) (i:Nat) (hi:i < n):F.rd st i = now i:=hd.nw i (by omega)
theorem grp_read {st:F.St} {ats:Nat → Nat} {now su:Nat → ByteArray} {n:Nat} {s:Sg} {t k:Nat} {x:ByteArray} (hd:F.Dv st ats now su) (hn:st.n = n) (hfit:s.b + s.p ≤ n) (hg:Grp now s t k x):(⟨(F.rdsL st (s.b + t + 1) k).toArray⟩:ByteArray) = O.tx (secP x k):=by
  have hy:=ysize x k hg.sz
  have hf:=hg.fit
  have h1:=rdsL_lay st (s.b + t + 1) (O.tx (secP x k)) k hy k (Nat.le_refl _) (fun i hi=>by rw [rd_now hd hn _ (by omega)]; exact hg.pay i hi)
  rw [h1,List.take_of_length_le (by rw [← O.size_list]; omega)]
def Ends (now:Nat → ByteArray) (n:Nat) (s:Sg) (e:Nat):Prop:=e < s.p → ∃ (q:Cm) (er:Int),q.k ≤ 255 ∧ (∀ W,Calls Tryz.prog 131 #[.string (now (s.b + e))] W fun e w'=>e = .returned (.tuple #[.agg q.cs,.int .i64 er]) ∧ Below W.heap.size W w') ∧ ∀ st ats sure,F.Dv st ats now sure → st.n = n → q ≠ s.cm e (zO st s e q.k)
theorem ends_other {now:Nat → ByteArray} {n:Nat} {s:Sg} {e:Nat} (he:1 ≤ e) (hk:Ksec (now (s.b + e))) (h:(now (s.b + e))[0]? ≠ some 67):Ends now n s e:=by
  intro _
  obtain ⟨q,er,hq1,hq2,hq3⟩:=ksec_tells hk
  refine ⟨q,er,hq1,hq3,fun st ats sure _ _ e2=>?_⟩
  rw [hq2 h] at e2
  have:=congrArg Cm.a e2
  have e3:(0:Nat) = e:=this
  omega
theorem ends_out {now:Nat → ByteArray} {n:Nat} {s:Sg} {e:Nat} (he:s.p ≤ e):Ends now n s e:=fun h=>by omega
theorem dev_scan {T:Nat} {w:World} {L:F.Loc} {q:Int} {n:Nat} {oth:List (Nat × Obj)} {now su:Nat → ByteArray} {c:Int} {W:World} {Sb:Nat} (s:Sg) (h:Dev T w L q n ((Sb,.cells s.cs 44) :: oth) now su c W) (hM:(s.M,F.med L.P 1 q) ∈ oth) (h5:∀ p ∈ oth,∀ c fz,p.2 ≠ .cells c 5 fz) (hne:∀ p ∈ oth,p.1 ≠ Sb)
    (hsb:s.c < 18446744073709551616 ∧ s.j < 18446744073709551616 ∧ s.n < 18446744073709551616) (hs:s.b ≤ 10000 ∧ 1 ≤ s.p ∧ s.p ≤ 64) (hfit:s.b + s.p ≤ n) (hn1:n ≤ 1000) (hc:c ≤ 4000000) (hk:∀ i,i < n → Ksec (now i)) {l:List (Nat × ByteArray)} {e:Nat} (hch:Chn now s l e) (he:Ends now n s e) :
    Calls Tryz.prog 59 #[.pointer (some ⟨Sb,0,none⟩)] W fun r W'=>∃ v ol,r = .returned v ∧ Plc v (l.map Prod.fst) ol ∧ Dev T w L q n (ol ++ (Sb,.cells (Sg.cs { s with a:=e }) 44) :: oth) now su (c + 66 * l.length + 66) W' ∧ (∀ p ∈ ol,∀ q ∈ (Sb,.cells s.cs 44) :: oth,p.1 ≠ q.1):=by
  obtain ⟨T1,hx⟩:=Mx.of Sb oth
  obtain ⟨st,lv,ats,ho,hn,hsr,hss,hth,⟨hi1,hi2,hi3⟩,hd,hc0,hc1,hl0⟩:=h.ex
  have hlt:=hch.lt
  have key:∀ t,∃ (q:Cm) (er:Int),1 ≤ t → t < s.p → (q.k ≤ 255 ∧ (∀ W,Calls Tryz.prog 131 #[.string ⟨(F.rdsL st (s.b + t) 1).toArray⟩] W fun e w'=>e = .returned (.tuple #[.agg q.cs,.int .i64 er]) ∧ Below W.heap.size W w') ∧ (∀ x,(t,x) ∈ l → q = s.cm t x) ∧ (t = e → q ≠ s.cm t (zO st s t q.k))):=by
    intro t
    by_cases ht:1 ≤ t ∧ t < s.p
    · have hr:(⟨(F.rdsL st (s.b + t) 1).toArray⟩:ByteArray) = now (s.b + t):=by rw [rds_one,rd_now hd hn _ (by omega)]
      by_cases hx:∃ x,(t,x) ∈ l
      · obtain ⟨x,hx⟩:=hx
        obtain ⟨k,hg⟩:=hch.grp _ hx
        have hg':Grp now s t k x:=hg
        have hcom:=hg'.com
        have hxk:x.size / 63 = k:=by have:=hg'.sz; omega
        have hfit2:=hg'.fit
        have hk1:=hg'.k1
        have hok:(s.cm t x).Ok:=⟨hsb.1,hsb.2.1,hsb.2.2,ht.1,by show 1 ≤ x.size / 63; omega,by show t + x.size / 63 ≤ 63; omega,sm_lt x⟩
        refine ⟨s.cm t x,0,fun _ _=>⟨by show x.size / 63 ≤ 255; omega,fun W=>by rw [hr,hcom]; exact tocommit_back _ hok W,fun x' hx'=>?_,fun hte=>?_⟩⟩
        · have:=hch.one (t,x) hx (t,x') hx' rfl
          injection this with _ e2
          rw [e2]
        · have:=hlt.2 _ hx
          simp only at this
          omega
      · by_cases hte:t = e
        · obtain ⟨q,er,hq1,hq2,hq3⟩:=he (by omega)
          exact ⟨q,er,fun _ _=>⟨hq1,fun W=>by rw [hr,hte]; exact hq2 W,fun x' hx'=>absurd ⟨x',hx'⟩ hx,fun hte=>by rw [hte]; exact hq3 st ats su hd hn⟩⟩
        · obtain ⟨q,er,hq1,hq2,hq3⟩:=ksec_tells (hk (s.b + t) (by omega))
          exact ⟨q,er,fun _ _=>⟨hq1,fun W=>by rw [hr]; exact hq3 W,fun x' hx'=>absurd ⟨x',hx'⟩ hx,fun h=>absurd h hte⟩⟩
    · exact ⟨cm0,0,fun h1 h2=>absurd ⟨h1,h2⟩ ht⟩
  let Q:Nat → Cm:=fun t=>(key t).choose
  let E:Nat → Int:=fun t=>(key t).choose_spec.choose
  have hQE:∀ t,1 ≤ t → t < s.p → _:=fun t=>(key t).choose_spec.choose_spec
  have hsc:=scan_dev ho (by rw [hsr,hss]; exact hM) h5 hx hne hs (by omega) (by omega) hi1 hth hi2 hi3 ⟨hd.ok.1,hd.ok.2⟩ ⟨hc0,by omega⟩ Q E (fun t h1 h2=>⟨(hQE t h1 h2).1,(hQE t h1 h2).2.1⟩)
  have hcnt:∀ p ∈ l,∀ k,Grp now s p.1 k p.2 → cntO st s Q p.1 = k:=by
    intro p hp k hg
    have hq:=(hQE p.1 (hlt.2 p hp).1 (by have:=hg.fit; omega)).2.2.1 p.2 hp
    have hxk:p.2.size / 63 = k:=by have:=hg.sz; omega
    have hqk:(Q p.1).k = k:=by show (key p.1).choose.k = k; rw [hq]; exact hxk
    have hz:zO st s p.1 (Q p.1).k = p.2:=by
      rw [hqk]
      unfold zO
      rw [if_neg (by have:=hg.k1; have:=hg.fit; omega),grp_read hd hn hfit hg,rdp_secP p.2 k hg.sz]
    unfold cntO
    rw [if_pos ⟨by have:=hg.fit; omega,by rw [hz]; exact hq⟩,hqk]
  have hway:∀ {l2:List (Nat × ByteArray)} {e2:Nat},Chn now s l2 e2 → (∀ p ∈ l2,p ∈ l) → Way (cntO st s Q) (l2.map Prod.fst) e2:=by
    intro l2 e2 hc2
    induction hc2 with
    | nil=>intro _; exact Way.nil
    | next h1 h2 ih=>
      rename_i l3 t k x
      intro hsub
      have hck:=hcnt (t,x) (hsub _ (List.mem_append_right _ (List.mem_singleton.2 rfl))) k h2
      have:=Way.next (ih (fun p hp=>hsub p (List.mem_append_left _ hp))) (t:=t) (by rw [hck]; exact h2.k1)
      rw [hck] at this
      rw [List.map_append]
      exact this
  have hend:cntO st s Q e = 0:=by
    unfold cntO
    rw [if_neg]
    rintro ⟨h1,h2⟩
    exact (hQE e hlt.1 h1).2.2.2 rfl h2
  refine hsc.mono ?_
  rintro r W' ⟨ps,t,v,hw1,hz1,rfl,c2,lv2,ol,hpl,ho2,hca,hcb,hra⟩
  obtain ⟨rfl,rfl⟩:=hw1.det (hway hch (fun p hp=>hp)) hz1 hend
  rw [List.length_map] at hcb
  exact ⟨v,ol,rfl,hpl,⟨{ st with count:=c2 },lv2,ats,ho2,hn,hsr,hss,hth,⟨hi1,hi2,hi3⟩,hd.same rfl rfl rfl rfl,by show 0 ≤ c2; omega,by show c2 ≤ _; omega,hl0⟩,SI.apart hx hra⟩
theorem dev_read {T:Nat} {w:World} {L:F.Loc} {q:Int} {n:Nat} {oth:List (Nat × Obj)} {now su:Nat → ByteArray} {c:Int} {W:World} {Sb:Nat} (s:Sg) (h:Dev T w L q n oth now su c W) (hSb:(Sb,.cells s.cs 44) ∈ oth) (hM:(s.M,F.med L.P 1 q) ∈ oth) (h5:∀ p ∈ oth,∀ c fz,p.2 ≠ .cells c 5 fz)
    (hs:s.b ≤ 10000 ∧ s.p ≤ 64) (hfit:s.b + s.p ≤ n) (hn1:n ≤ 1000) (hc:c ≤ 9000000) {t k:Nat} {x:ByteArray} (ht:1 ≤ t) (hg:Grp now s t k x) :
    Calls Tryz.prog 60 #[.pointer (some ⟨Sb,0,none⟩),.int .i64 (t:Nat),.int .i64 (k:Nat)] W fun r W'=>r = .returned (.string x) ∧ Dev T w L q n oth now su (c + k) W':=by
  have hy:=ysize x k hg.sz
  have hf:=hg.fit
  have hx:=rdp_secP x k hg.sz
  have hr:=sread_any s hs Sb t k ht hg.k1 hg.fit (O.tx (secP x k)) hy (Dev T w L q n oth now su c) (Dev T w L q n oth now su (c + k)) W h (fun W W' a b=>a.below b) (fun W W' a b=>a.below b) (fun W a=>a.at' hSb) (fun W a=>a.at' hSb) (fun W hW=>by
    obtain ⟨st,lv,ats,ho,hn,hsr,hss,hth,⟨hi1,hi2,hi3⟩,hd,hc0,hc1,hl0⟩:=hW.ex
    have hm:=ho.mread s.M (by rw [hsr,hss]; exact hM) h5 (s.b + t + 1) k (by omega) (by omega) hi1 hth hi2 hi3 ⟨hd.ok.1,hd.ok.2⟩ ⟨hc0,by omega⟩
    refine hm.mono ?_
    rintro e W' ⟨rfl,lv',ho'⟩
    refine ⟨by rw [grp_read hd hn hfit hg],{ st with count:=st.count + k },lv',ats,ho',hn,hsr,hss,hth,⟨hi1,hi2,hi3⟩,hd.same rfl rfl rfl rfl,by show 0 ≤ st.count + (k:Int); omega,by show st.count + (k:Int) ≤ _; omega,hl0⟩)
  rw [hx] at hr
  exact hr
theorem Dev.guarded {T:Nat} {w:World} {L:F.Loc} {q:Int} {n:Nat} {oth:List (Nat × Obj)} {now su:Nat → ByteArray} {c:Int} {W:World} (h:Dev T w L q n oth now su c W):Dev T w L q n (F.gob W.heap.size oth) now su c (F.G0 W):=by
  obtain ⟨st,lv,ats,h1,h2⟩:=h.ex
  exact ⟨st,lv,ats,h1.guarded,h2⟩
theorem Dev.kt {T:Nat} {w:World} {L:F.Loc} {q:Int} {n:Nat} {oth:List (Nat × Obj)} {now su:Nat → ByteArray} {c:Int} {W W':World} {B:Nat} (h:Dev T w L q n (F.gob B oth) now su c W) (hne:∀ p ∈ oth,p.1 ≠ B ∧ p.1 ≠ B + 1) (k:F.KT B W W'):Dev T w L q n oth now su c W':=by
  obtain ⟨st,lv,ats,h1,h2⟩:=h.ex
  exact ⟨st,lv,ats,h1.kt2 hne k,h2⟩
def RS (T:Nat) (w:World) (L:F.Loc) (q:Int) (n:Nat) (rest:List (Nat × Obj)) (now su:Nat → ByteArray) (T1 Ob:Nat) (xs:List ByteArray) (c:Int) (v:Value) (W:World):Prop:=
  ∃ ol,Txs v xs ol ∧ (∀ p ∈ ol,T1 ≤ p.1) ∧ Dev T w L q n (ol ++ (Ob,.cells #[v] 30) :: rest) now su c W
section
variable {T:Nat} {w:World} {L:F.Loc} {q:Int} {n:Nat} {rest:List (Nat × Obj)} {now su:Nat → ByteArray} {T1 Ob:Nat} {xs:List ByteArray} {c:Int} {v:Value} {W W':World}
theorem RS.below (h:RS T w L q n rest now su T1 Ob xs c v W) (hb:Below W.heap.size W W'):RS T w L q n rest now su T1 Ob xs c v W':=by
  obtain ⟨ol,h1,h2,h3⟩:=h
  exact ⟨ol,h1,h2,h3.below hb⟩
theorem RS.read {Sb:Nat} (s:Sg) (h:RS T w L q n rest now su T1 Ob xs c v W) (hSb:(Sb,.cells s.cs 44) ∈ rest) (hM:(s.M,F.med L.P 1 q) ∈ rest) (h5:∀ p ∈ rest,∀ c fz,p.2 ≠ .cells c 5 fz)
    (hs:s.b ≤ 10000 ∧ s.p ≤ 64) (hfit:s.b + s.p ≤ n) (hn1:n ≤ 1000) (hc:c ≤ 9000000) {t k:Nat} {x:ByteArray} (ht:1 ≤ t) (hg:Grp now s t k x) :
    Calls Tryz.prog 60 #[.pointer (some ⟨Sb,0,none⟩),.int .i64 (t:Nat),.int .i64 (k:Nat)] W fun r W'=>r = .returned (.string x) ∧ RS T w L q n rest now su T1 Ob xs (c + k) v W':=by
  obtain ⟨ol,h1,h2,h3⟩:=h
  refine (dev_read s h3 (List.mem_append_right _ (List.mem_cons_of_mem _ hSb)) (List.mem_append_right _ (List.mem_cons_of_mem _ hM)) ?_ hs hfit hn1 hc ht hg).mono ?_
  · intro p hp cc fz e
    rcases List.mem_append.1 hp with hp | hp
    · rcases h1 with ⟨_,_,rfl⟩ | ⟨g,cap,cur,_,rfl,_⟩
      · cases hp
      · rw [List.mem_singleton.1 hp] at e; injection e with _ e _; exact absurd e (by decide)
    · rcases List.mem_cons.1 hp with rfl | hp
      · injection e with _ e _; exact absurd e (by decide)
      · exact h5 p hp cc fz e
  · rintro e W' ⟨rfl,h4⟩
    exact ⟨rfl,ol,h1,h2,h4⟩
end
end Go.Proofs.YtncfbocbigdhiaaGreat.U

/- Texts of this seat, one behind the other: VA, VB, VC, VE, VD. -/
/- A device that does all, in any of its sessions: JC, JE, JG, JI, JJ once more (made by gva.py). -/
namespace Go.Proofs.YtncfbocbigdhiaaGreat.V
open Go.RowKit
structure Dev (T:Nat) (w:World) (L:F.Loc) (q:Int) (n:Nat) (oth:List (Nat × Obj)) (now:Nat → ByteArray) (c:Int) (W:World):Prop where
  ex:∃ st lv ats,F.One T w L st lv oth W ∧ st.n = n ∧ st.serial = 1 ∧ st.session = q ∧ st.there = true ∧ F.Mode.idle.is st ∧ F.Dv st ats now now ∧ 0 ≤ st.count ∧ st.count ≤ c ∧ st.ln = 0
section
variable {T:Nat} {w:World} {L:F.Loc} {q:Int} {n:Nat} {oth oth':List (Nat × Obj)} {now:Nat → ByteArray} {c:Int} {W W':World}
theorem Dev.below (h:Dev T w L q n oth now c W) (hb:Below W.heap.size W W'):Dev T w L q n oth now c W':=by
  obtain ⟨st,lv,ats,h1,h2⟩:=h.ex
  exact ⟨st,lv,ats,h1.ofBelow hb,h2⟩
theorem Dev.forget (h:Dev T w L q n oth now c W) (hs:∀ p ∈ oth',p ∈ oth):Dev T w L q n oth' now c W:=by
  obtain ⟨st,lv,ats,h1,h2⟩:=h.ex
  exact ⟨st,lv,ats,h1.forget hs,h2⟩
theorem Dev.alloc (h:Dev T w L q n oth now c W) (o:Obj) (ho:F.Obj.apart o):Dev T w L q n ((W.heap.size,o) :: oth) now c (W.alloc o):=by
  obtain ⟨st,lv,ats,h1,h2⟩:=h.ex
  exact ⟨st,lv,ats,h1.alloc o ho,h2⟩
theorem Dev.at' (h:Dev T w L q n oth now c W) {p:Nat × Obj} (hp:p ∈ oth):W.heap[p.1]? = some p.2:=by
  obtain ⟨st,lv,ats,h1,h2⟩:=h.ex
  exact (h1.oth p hp).1
theorem Dev.bel (h:Dev T w L q n oth now c W):Below T w W:=by
  obtain ⟨st,lv,ats,h1,h2⟩:=h.ex
  exact h1.below
theorem Dev.more (h:Dev T w L q n oth now c W) {d:Int} (hd:c ≤ d):Dev T w L q n oth now d W:=by
  obtain ⟨st,lv,ats,h1,h2,h3,h4,h5,h6,h7,h8,h9,h10⟩:=h.ex
  exact ⟨st,lv,ats,h1,h2,h3,h4,h5,h6,h7,h8,by omega,h10⟩
theorem Dev.lts (h:Dev T w L q n oth now c W):∀ p ∈ oth,p.1 < W.heap.size:=by
  obtain ⟨st,lv,ats,h1,h2⟩:=h.ex
  exact h1.lts
end
theorem dev_write {T:Nat} {w:World} {L:F.Loc} {q:Int} {n:Nat} {oth:List (Nat × Obj)} {st:F.St} {lv:Value} {ats:Nat → Nat} {now sure:Nat → ByteArray} {W:World} (h:F.One T w L st lv oth W) (hn:st.n = n) (hs:st.serial = 1) (hq:st.session = q) (ht:st.there = true) (hi:F.Mode.idle.is st) (hd:F.Dv st ats now sure) (hc:0 ≤ st.count ∧ st.count ≤ 70000000) (hn1:n ≤ 1000) (M:Nat) (hM:(M,F.med L.P 1 q) ∈ oth) (frm:Nat) (y:ByteArray) (k:Nat) (hy:y.size = 64 * k) (hk:k ≤ 100) (hf:frm + k ≤ n) :
    Calls Tryz.prog 28 #[.pointer (some ⟨M,0,none⟩),.int .i64 (frm:Nat),.string y] W fun e W'=>e = .returned (.tuple #[]) ∧ ∃ st' lv' ats',F.One T w L st' lv' oth W' ∧ st'.n = n ∧ st'.serial = 1 ∧ st'.session = q ∧ st'.there = true ∧ F.Mode.idle.is st' ∧ F.Dv st' ats' (F.lay now frm y k) sure ∧ st.count ≤ st'.count ∧ st'.count ≤ st.count + k:=by
  have hp:=ypart hy
  refine (h.mwrite_md M (by rw [hs,hq]; exact hM) ht .idle hi (fun e=>by cases e) ⟨hc.1,by omega⟩ hd (by omega) frm y (by omega) (by rw [hp]; omega)).mono ?_
  rintro e W' (⟨rfl,-,st',lv',ho,kp,c0,c1,hm,ats',hd'⟩ | ⟨E,-,⟨j,hj⟩,-⟩)
  · rw [hp] at c1 hm hd'
    rw [idle_iter] at hm
    exact ⟨rfl,st',lv',ats',ho,kp.n.trans hn,kp.serial.trans hs,kp.session.trans hq,kp.there.trans ht,hm,hd',c0,c1⟩
  · rw [idle_iter] at hj
    exact absurd rfl hj
theorem dev_flush {T:Nat} {w:World} {L:F.Loc} {q:Int} {n:Nat} {oth:List (Nat × Obj)} {st:F.St} {lv:Value} {ats:Nat → Nat} {now sure:Nat → ByteArray} {W:World} (h:F.One T w L st lv oth W) (hn:st.n = n) (hs:st.serial = 1) (hq:st.session = q) (ht:st.there = true) (hi:F.Mode.idle.is st) (hd:F.Dv st ats now sure) (hc:0 ≤ st.count ∧ st.count ≤ 70000000) (M:Nat) (hM:(M,F.med L.P 1 q) ∈ oth) :
    Calls Tryz.prog 55 #[.pointer (some ⟨M,0,none⟩)] W fun e W'=>e = .returned (.tuple #[]) ∧ ∃ st' lv' ats',F.One T w L st' lv' oth W' ∧ st'.n = n ∧ st'.serial = 1 ∧ st'.session = q ∧ st'.there = true ∧ F.Mode.idle.is st' ∧ F.Dv st' ats' now now ∧ st.count ≤ st'.count ∧ st'.count ≤ st.count + 1 ∧ st'.ln = 0:=by
  refine (h.mflush M (by rw [hs,hq]; exact hM) hi.1 ht hi.2.1 hi.2.2 ⟨hc.1,by omega⟩).mono ?_
  rintro e W' ⟨rfl,lv',ho⟩
  exact ⟨rfl,_,lv',ats,ho,hn,hs,hq,ht,hi,hd.flushed rfl rfl rfl rfl,by show st.count ≤ st.count + 1; omega,Int.le_refl _,rfl⟩
set_option maxHeartbeats 1000000 in
theorem dev_append {T:Nat} {w:World} {L:F.Loc} {q:Int} {n:Nat} {oth:List (Nat × Obj)} {now:Nat → ByteArray} {c:Int} {W:World} {Sb:Nat} (s:Sg) (h:Dev T w L q n ((Sb,.cells s.cs 44) :: oth) now c W) (hM:(s.M,F.med L.P 1 q) ∈ oth) (hne:∀ p ∈ oth,p.1 ≠ Sb) (hs:s.Ok) (x:ByteArray) (k:Nat) (hk:1 ≤ k) (hroom:s.a + k < s.p) (hx:x.size = 63 * k) (hn:s.b + s.p ≤ n) (hn1:n ≤ 1000) (hc:c ≤ 60000000) :
    Calls Tryz.prog 17 #[.pointer (some ⟨Sb,0,none⟩),.string x] W fun e W'=>e = .returned (.int .i64 (s.a:Nat)) ∧ Dev T w L q n ((Sb,.cells (Sg.cs { s with a:=s.a + 1 + k }) 44) :: oth) (layC now s x k) (c + 100) W':=by
  have hy:=ysize x k hx
  have hp1:=hs.p1
  have hcs:(s.cm s.a x).sec.size = 64 * 1:=Cm.sec_size _
  have hM':(s.M,F.med L.P 1 q) ∈ ((Sb,.cells s.cs 44) :: oth:List (Nat × Obj)):=List.mem_cons_of_mem _ hM
  let St:(Nat → ByteArray) → (Nat → ByteArray) → Int → World → Prop:=fun a b d W=>∃ st lv ats,F.One T w L st lv ((Sb,.cells s.cs 44) :: oth) W ∧ st.n = n ∧ st.serial = 1 ∧ st.session = q ∧ st.there = true ∧ F.Mode.idle.is st ∧ F.Dv st ats a b ∧ 0 ≤ st.count ∧ st.count ≤ d
  let St0:(Nat → ByteArray) → Int → World → Prop:=fun a d W=>∃ st lv ats,F.One T w L st lv ((Sb,.cells s.cs 44) :: oth) W ∧ st.n = n ∧ st.serial = 1 ∧ st.session = q ∧ st.there = true ∧ F.Mode.idle.is st ∧ F.Dv st ats a a ∧ 0 ≤ st.count ∧ st.count ≤ d ∧ st.ln = 0
  let R:Nat → World → Prop:=fun i W=>if i = 0 then St now now c W else if i = 1 then St (layP now s x k) now (c + k) W else if i = 2 then St (layP now s x k) (layP now s x k) (c + k + 1) W else if i = 3 then St (layC now s x k) (layP now s x k) (c + k + 2) W else St0 (layC now s x k) (c + k + 3) W
  have hStB:∀ {a b d W W'},St a b d W → Below W.heap.size W W' → St a b d W':=fun ⟨st,lv,ats,h1,h2⟩ hb=>⟨st,lv,ats,h1.ofBelow hb,h2⟩
  have hStB0:∀ {a d W W'},St0 a d W → Below W.heap.size W W' → St0 a d W':=fun ⟨st,lv,ats,h1,h2⟩ hb=>⟨st,lv,ats,h1.ofBelow hb,h2⟩
  have hStS0:∀ {a d W},St0 a d W → W.heap[Sb]? = some (.cells s.cs 44):=fun ⟨st,lv,ats,h1,h2⟩=>(h1.oth _ (List.mem_cons_self ..)).1
  have hStS:∀ {a b d W},St a b d W → W.heap[Sb]? = some (.cells s.cs 44):=fun ⟨st,lv,ats,h1,h2⟩=>(h1.oth _ (List.mem_cons_self ..)).1
  refine (append_brk 1 (fun _=>False) s hs Sb x k hk hroom hx R W ?_ ?_ (by
    obtain ⟨st,lv,ats,h1,h2,h3,h4,h5,h6,h7,h8,h9,_⟩:=h.ex
    exact ⟨st,lv,ats,h1,h2,h3,h4,h5,h6,h7,h8,h9⟩) ?_ ?_ ?_ ?_).mono ?_
  · intro i W W' hR hb
    show if i = 0 then _ else _
    have hR':(if i = 0 then St now now c W else if i = 1 then St (layP now s x k) now (c + k) W else if i = 2 then St (layP now s x k) (layP now s x k) (c + k + 1) W else if i = 3 then St (layC now s x k) (layP now s x k) (c + k + 2) W else St0 (layC now s x k) (c + k + 3) W):=hR
    repeat' (split at hR' <;> split <;> try contradiction)
    all_goals first | exact hStB hR' hb | exact hStB0 hR' hb
  · intro i W hR
    have hR':(if i = 0 then St now now c W else if i = 1 then St (layP now s x k) now (c + k) W else if i = 2 then St (layP now s x k) (layP now s x k) (c + k + 1) W else if i = 3 then St (layC now s x k) (layP now s x k) (c + k + 2) W else St0 (layC now s x k) (c + k + 3) W):=hR
    repeat' split at hR'
    all_goals first | exact hStS hR' | exact hStS0 hR'
  · rintro W ⟨st,lv,ats,h1,h2,h3,h4,h5,h6,h7,h8,h9⟩
    refine (dev_write h1 h2 h3 h4 h5 h6 h7 ⟨h8,by omega⟩ hn1 s.M hM' (s.b + s.a + 1) (O.tx (secP x k)) k hy (by omega) (by omega)).mono ?_
    rintro e W' ⟨rfl,st',lv',ats',a1,a2,a3,a4,a5,a6,a7,a8,a9⟩
    exact Or.inl ⟨rfl,st',lv',ats',a1,a2,a3,a4,a5,a6,a7,by omega,by omega⟩
  · rintro W ⟨st,lv,ats,h1,h2,h3,h4,h5,h6,h7,h8,h9⟩
    refine (dev_flush h1 h2 h3 h4 h5 h6 h7 ⟨h8,by omega⟩ s.M hM').mono ?_
    rintro e W' ⟨rfl,st',lv',ats',a1,a2,a3,a4,a5,a6,a7,a8,a9,_⟩
    exact Or.inl ⟨rfl,st',lv',ats',a1,a2,a3,a4,a5,a6,a7,by omega,by omega⟩
  · rintro W ⟨st,lv,ats,h1,h2,h3,h4,h5,h6,h7,h8,h9⟩
    refine (dev_write h1 h2 h3 h4 h5 h6 h7 ⟨h8,by omega⟩ hn1 s.M hM' (s.b + s.a) (s.cm s.a x).sec 1 hcs (by decide) (by omega)).mono ?_
    rintro e W' ⟨rfl,st',lv',ats',a1,a2,a3,a4,a5,a6,a7,a8,a9⟩
    exact Or.inl ⟨rfl,st',lv',ats',a1,a2,a3,a4,a5,a6,a7,by omega,by omega⟩
  · rintro W ⟨st,lv,ats,h1,h2,h3,h4,h5,h6,h7,h8,h9⟩
    refine (dev_flush h1 h2 h3 h4 h5 h6 h7 ⟨h8,by omega⟩ s.M hM').mono ?_
    rintro e W' ⟨rfl,st',lv',ats',a1,a2,a3,a4,a5,a6,a7,a8,a9,a10⟩
    exact Or.inl ⟨rfl,st',lv',ats',a1,a2,a3,a4,a5,a6,a7,by omega,by omega,a10⟩
  · rintro e w' (⟨rfl,w2,⟨st,lv,ats,h1,h2,h3,h4,h5,h6,h7,h8,h9,h10⟩,hks,hcs2⟩ | ⟨E,-,hB⟩)
    · exact ⟨rfl,st,lv,ats,h1.other6 hne hks hcs2,h2,h3,h4,h5,h6,h7,h8,by omega,h10⟩
    · exact hB.elim
theorem dev_scan {T:Nat} {w:World} {L:F.Loc} {q:Int} {n:Nat} {oth:List (Nat × Obj)} {now:Nat → ByteArray} {c:Int} {W:World} {Sb:Nat} (s:Sg) (h:Dev T w L q n ((Sb,.cells s.cs 44) :: oth) now c W) (hM:(s.M,F.med L.P 1 q) ∈ oth) (h5:∀ p ∈ oth,∀ c fz,p.2 ≠ .cells c 5 fz) (hne:∀ p ∈ oth,p.1 ≠ Sb)
    (hsb:s.c < 18446744073709551616 ∧ s.j < 18446744073709551616 ∧ s.n < 18446744073709551616) (hs:s.b ≤ 10000 ∧ 1 ≤ s.p ∧ s.p ≤ 64) (hfit:s.b + s.p ≤ n) (hn1:n ≤ 1000) (hc:c ≤ 4000000) (hk:∀ i,i < n → Ksec (now i)) {l:List (Nat × ByteArray)} {e:Nat} (hch:Chn now s l e) (he:e < s.p → (now (s.b + e))[0]? ≠ some 67) :
    Calls Tryz.prog 59 #[.pointer (some ⟨Sb,0,none⟩)] W fun r W'=>∃ v ol,r = .returned v ∧ Plc v (l.map Prod.fst) ol ∧ Dev T w L q n (ol ++ (Sb,.cells (Sg.cs { s with a:=e }) 44) :: oth) now (c + 66 * l.length + 66) W' ∧ (∀ p ∈ ol,∀ q ∈ (Sb,.cells s.cs 44) :: oth,p.1 ≠ q.1):=by
  obtain ⟨T1,hx⟩:=Mx.of Sb oth
  obtain ⟨st,lv,ats,ho,hn,hsr,hss,hth,⟨hi1,hi2,hi3⟩,hd,hc0,hc1,hl0⟩:=h.ex
  have hlt:=hch.lt
  have key:∀ t,∃ (q:Cm) (er:Int),1 ≤ t → t < s.p → (q.k ≤ 255 ∧ (∀ W,Calls Tryz.prog 131 #[.string ⟨(F.rdsL st (s.b + t) 1).toArray⟩] W fun e w'=>e = .returned (.tuple #[.agg q.cs,.int .i64 er]) ∧ Below W.heap.size W w') ∧ (∀ x,(t,x) ∈ l → q = s.cm t x) ∧ (t = e → ∀ z,q ≠ s.cm t z)):=by
    intro t
    by_cases ht:1 ≤ t ∧ t < s.p
    · have hr:(⟨(F.rdsL st (s.b + t) 1).toArray⟩:ByteArray) = now (s.b + t):=by rw [rds_one,rd_now hd hn _ (by omega)]
      by_cases hx:∃ x,(t,x) ∈ l
      · obtain ⟨x,hx⟩:=hx
        obtain ⟨k,hg⟩:=hch.grp _ hx
        have hg':Grp now s t k x:=hg
        have hcom:=hg'.com
        have hxk:x.size / 63 = k:=by have:=hg'.sz; omega
        have hfit2:=hg'.fit
        have hk1:=hg'.k1
        have hok:(s.cm t x).Ok:=⟨hsb.1,hsb.2.1,hsb.2.2,ht.1,by show 1 ≤ x.size / 63; omega,by show t + x.size / 63 ≤ 63; omega,sm_lt x⟩
        refine ⟨s.cm t x,0,fun _ _=>⟨by show x.size / 63 ≤ 255; omega,fun W=>by rw [hr,hcom]; exact tocommit_back _ hok W,fun x' hx'=>?_,fun hte=>?_⟩⟩
        · have:=hch.one (t,x) hx (t,x') hx' rfl
          injection this with _ e2
          rw [e2]
        · have:=hlt.2 _ hx
          simp only at this
          omega
      · obtain ⟨q,er,hq1,hq2,hq3⟩:=ksec_tells (hk (s.b + t) (by omega))
        refine ⟨q,er,fun _ _=>⟨hq1,fun W=>by rw [hr]; exact hq3 W,fun x' hx'=>absurd ⟨x',hx'⟩ hx,fun hte z=>?_⟩⟩
        rw [hq2 (by rw [hte]; exact he (by omega))]
        intro e2
        have:=congrArg Cm.a e2
        have e3:(0:Nat) = t:=this
        omega
    · exact ⟨cm0,0,fun h1 h2=>absurd ⟨h1,h2⟩ ht⟩
  let Q:Nat → Cm:=fun t=>(key t).choose
  let E:Nat → Int:=fun t=>(key t).choose_spec.choose
  have hQE:∀ t,1 ≤ t → t < s.p → _:=fun t=>(key t).choose_spec.choose_spec
  have hsc:=scan_dev ho (by rw [hsr,hss]; exact hM) h5 hx hne hs (by omega) (by omega) hi1 hth hi2 hi3 ⟨hd.ok.1,hd.ok.2⟩ ⟨hc0,by omega⟩ Q E (fun t h1 h2=>⟨(hQE t h1 h2).1,(hQE t h1 h2).2.1⟩)
  have hcnt:∀ p ∈ l,∀ k,Grp now s p.1 k p.2 → cntO st s Q p.1 = k:=by
    intro p hp k hg
    have hq:=(hQE p.1 (hlt.2 p hp).1 (by have:=hg.fit; omega)).2.2.1 p.2 hp
    have hxk:p.2.size / 63 = k:=by have:=hg.sz; omega
    have hqk:(Q p.1).k = k:=by show (key p.1).choose.k = k; rw [hq]; exact hxk
    have hz:zO st s p.1 (Q p.1).k = p.2:=by
      rw [hqk]
      unfold zO
      rw [if_neg (by have:=hg.k1; have:=hg.fit; omega),grp_read hd hn hfit hg,rdp_secP p.2 k hg.sz]
    unfold cntO
    rw [if_pos ⟨by have:=hg.fit; omega,by rw [hz]; exact hq⟩,hqk]
  have hway:∀ {l2:List (Nat × ByteArray)} {e2:Nat},Chn now s l2 e2 → (∀ p ∈ l2,p ∈ l) → Way (cntO st s Q) (l2.map Prod.fst) e2:=by
    intro l2 e2 hc2
    induction hc2 with
    | nil=>intro _; exact Way.nil
    | next h1 h2 ih=>
      rename_i l3 t k x
      intro hsub
      have hck:=hcnt (t,x) (hsub _ (List.mem_append_right _ (List.mem_singleton.2 rfl))) k h2
      have:=Way.next (ih (fun p hp=>hsub p (List.mem_append_left _ hp))) (t:=t) (by rw [hck]; exact h2.k1)
      rw [hck] at this
      rw [List.map_append]
      exact this
  have hend:cntO st s Q e = 0:=by
    unfold cntO
    rw [if_neg]
    rintro ⟨h1,h2⟩
    exact (hQE e hlt.1 h1).2.2.2 rfl _ h2
  refine hsc.mono ?_
  rintro r W' ⟨ps,t,v,hw1,hz1,rfl,c2,lv2,ol,hpl,ho2,hca,hcb,hra⟩
  obtain ⟨rfl,rfl⟩:=hw1.det (hway hch (fun p hp=>hp)) hz1 hend
  rw [List.length_map] at hcb
  exact ⟨v,ol,rfl,hpl,⟨{ st with count:=c2 },lv2,ats,ho2,hn,hsr,hss,hth,⟨hi1,hi2,hi3⟩,hd.same rfl rfl rfl rfl,by show 0 ≤ c2; omega,by show c2 ≤ _; omega,hl0⟩,SI.apart hx hra⟩
theorem dev_read {T:Nat} {w:World} {L:F.Loc} {q:Int} {n:Nat} {oth:List (Nat × Obj)} {now:Nat → ByteArray} {c:Int} {W:World} {Sb:Nat} (s:Sg) (h:Dev T w L q n oth now c W) (hSb:(Sb,.cells s.cs 44) ∈ oth) (hM:(s.M,F.med L.P 1 q) ∈ oth) (h5:∀ p ∈ oth,∀ c fz,p.2 ≠ .cells c 5 fz)
    (hs:s.b ≤ 10000 ∧ s.p ≤ 64) (hfit:s.b + s.p ≤ n) (hn1:n ≤ 1000) (hc:c ≤ 9000000) {t k:Nat} {x:ByteArray} (ht:1 ≤ t) (hg:Grp now s t k x) :
    Calls Tryz.prog 60 #[.pointer (some ⟨Sb,0,none⟩),.int .i64 (t:Nat),.int .i64 (k:Nat)] W fun r W'=>r = .returned (.string x) ∧ Dev T w L q n oth now (c + k) W':=by
  have hy:=ysize x k hg.sz
  have hf:=hg.fit
  have hx:=rdp_secP x k hg.sz
  have hr:=sread_any s hs Sb t k ht hg.k1 hg.fit (O.tx (secP x k)) hy (Dev T w L q n oth now c) (Dev T w L q n oth now (c + k)) W h (fun W W' a b=>a.below b) (fun W W' a b=>a.below b) (fun W a=>a.at' hSb) (fun W a=>a.at' hSb) (fun W hW=>by
    obtain ⟨st,lv,ats,ho,hn,hsr,hss,hth,⟨hi1,hi2,hi3⟩,hd,hc0,hc1,hl0⟩:=hW.ex
    have hm:=ho.mread s.M (by rw [hsr,hss]; exact hM) h5 (s.b + t + 1) k (by omega) (by omega) hi1 hth hi2 hi3 ⟨hd.ok.1,hd.ok.2⟩ ⟨hc0,by omega⟩
    refine hm.mono ?_
    rintro e W' ⟨rfl,lv',ho'⟩
    refine ⟨by rw [grp_read hd hn hfit hg],{ st with count:=st.count + k },lv',ats,ho',hn,hsr,hss,hth,⟨hi1,hi2,hi3⟩,hd.same rfl rfl rfl rfl,by show 0 ≤ st.count + (k:Int); omega,by show st.count + (k:Int) ≤ _; omega,hl0⟩)
  rw [hx] at hr
  exact hr
theorem Dev.guarded {T:Nat} {w:World} {L:F.Loc} {q:Int} {n:Nat} {oth:List (Nat × Obj)} {now:Nat → ByteArray} {c:Int} {W:World} (h:Dev T w L q n oth now c W):Dev T w L q n (F.gob W.heap.size oth) now c (F.G0 W):=by
  obtain ⟨st,lv,ats,h1,h2⟩:=h.ex
  exact ⟨st,lv,ats,h1.guarded,h2⟩
theorem Dev.kt {T:Nat} {w:World} {L:F.Loc} {q:Int} {n:Nat} {oth:List (Nat × Obj)} {now:Nat → ByteArray} {c:Int} {W W':World} {B:Nat} (h:Dev T w L q n (F.gob B oth) now c W) (hne:∀ p ∈ oth,p.1 ≠ B ∧ p.1 ≠ B + 1) (k:F.KT B W W'):Dev T w L q n oth now c W':=by
  obtain ⟨st,lv,ats,h1,h2⟩:=h.ex
  exact ⟨st,lv,ats,h1.kt2 hne k,h2⟩
def RS (T:Nat) (w:World) (L:F.Loc) (q:Int) (n:Nat) (rest:List (Nat × Obj)) (now:Nat → ByteArray) (T1 Ob:Nat) (xs:List ByteArray) (c:Int) (v:Value) (W:World):Prop:=
  ∃ ol,Txs v xs ol ∧ (∀ p ∈ ol,T1 ≤ p.1) ∧ Dev T w L q n (ol ++ (Ob,.cells #[v] 30) :: rest) now c W
section
variable {T:Nat} {w:World} {L:F.Loc} {q:Int} {n:Nat} {rest:List (Nat × Obj)} {now:Nat → ByteArray} {T1 Ob:Nat} {xs:List ByteArray} {c:Int} {v:Value} {W W':World}
theorem RS.below (h:RS T w L q n rest now T1 Ob xs c v W) (hb:Below W.heap.size W W'):RS T w L q n rest now T1 Ob xs c v W':=by
  obtain ⟨ol,h1,h2,h3⟩:=h
  exact ⟨ol,h1,h2,h3.below hb⟩
theorem RS.read {Sb:Nat} (s:Sg) (h:RS T w L q n rest now T1 Ob xs c v W) (hSb:(Sb,.cells s.cs 44) ∈ rest) (hM:(s.M,F.med L.P 1 q) ∈ rest) (h5:∀ p ∈ rest,∀ c fz,p.2 ≠ .cells c 5 fz)
    (hs:s.b ≤ 10000 ∧ s.p ≤ 64) (hfit:s.b + s.p ≤ n) (hn1:n ≤ 1000) (hc:c ≤ 9000000) {t k:Nat} {x:ByteArray} (ht:1 ≤ t) (hg:Grp now s t k x) :
    Calls Tryz.prog 60 #[.pointer (some ⟨Sb,0,none⟩),.int .i64 (t:Nat),.int .i64 (k:Nat)] W fun r W'=>r = .returned (.string x) ∧ RS T w L q n rest now T1 Ob xs (c + k) v W':=by
  obtain ⟨ol,h1,h2,h3⟩:=h
  refine (dev_read s h3 (List.mem_append_right _ (List.mem_cons_of_mem _ hSb)) (List.mem_append_right _ (List.mem_cons_of_mem _ hM)) ?_ hs hfit hn1 hc ht hg).mono ?_
  · intro p hp cc fz e
    rcases List.mem_append.1 hp with hp | hp
    · rcases h1 with ⟨_,_,rfl⟩ | ⟨g,cap,cur,_,rfl,_⟩
      · cases hp
      · rw [List.mem_singleton.1 hp] at e; injection e with _ e _; exact absurd e (by decide)
    · rcases List.mem_cons.1 hp with rfl | hp
      · injection e with _ e _; exact absurd e (by decide)
      · exact h5 p hp cc fz e
  · rintro e W' ⟨rfl,h4⟩
    exact ⟨rfl,ol,h1,h2,h4⟩
end
end Go.Proofs.YtncfbocbigdhiaaGreat.V
/- Halt, and an Append that is halted right behind its first flush. -/
namespace Go.Proofs.YtncfbocbigdhiaaGreat.F
set_option maxRecDepth 100000
open Go.RowKit
section
variable {b0:Nat} {w0:World} {L:Loc} {st:St} {lv:Value} {oth:List (Nat × Obj)} {w:World}
end
end Go.Proofs.YtncfbocbigdhiaaGreat.F
namespace Go.Proofs.YtncfbocbigdhiaaGreat
open Go.RowKit
end Go.Proofs.YtncfbocbigdhiaaGreat
/- What GroupForged hands to Guard, as calls. -/
namespace Go.Proofs.YtncfbocbigdhiaaGreat.V
open Go.RowKit
end Go.Proofs.YtncfbocbigdhiaaGreat.V
/- Guard round the Append that is halted, and the Crash behind it. -/
namespace Go.Proofs.YtncfbocbigdhiaaGreat.V
open Go.RowKit
end Go.Proofs.YtncfbocbigdhiaaGreat.V
/- GroupForged's walk. -/
namespace Go.Proofs.YtncfbocbigdhiaaGreat.V
open Go Go.RowKit
theorem dev0 {T:Nat} {w:World} {L:F.Loc} {n:Nat} {oth:List (Nat × Obj)} {lv:Value} {W:World} (h:F.One T w L (F.st0 1 n) lv oth W):Dev T w L 1 n oth (fun _=>F.pad ⟨#[]⟩) 0 W:=
  ⟨F.st0 1 n,lv,_,h,rfl,rfl,rfl,rfl,⟨rfl,rfl,rfl⟩,F.dv0 1 n,Int.le_refl _,Int.le_refl _,rfl⟩
section
variable {now:Nat → ByteArray} {s:Sg} {x:ByteArray} {k n:Nat}
theorem layP_d (hs:s.Ok) (hx:x.size = 63 * k) (hr:s.a + k < s.p) (j:Nat) (hj:j < k):(layP now s x k (s.b + s.a + 1 + j)).size = 64 ∧ (layP now s x k (s.b + s.a + 1 + j))[0]? = some 68:=by
  have hp:=hs.p1
  unfold layP F.lay
  rw [if_pos (by omega),show s.b + s.a + 1 + j - (s.b + s.a + 1) = j by omega]
  have hy:=ysize x k hx
  have hl:=padc_list (O.tx (secP x k)) j k hy (by omega)
  have hmk:=secP_mk x k j (by omega) (by omega)
  refine ⟨F.pad_size _ (F.chunk_size _ _),?_⟩
  rw [ba_get,← Array.getElem?_toList,hl,List.getElem?_take_of_lt (by decide),List.getElem?_drop,Array.getElem?_toList,Nat.add_zero,← ba_get]
  exact hmk
end
section
variable {A B:World → Prop} {done:Nat → Bool} {f:Nat → Value} {W W':World}
end
def FA (T:Nat) (w:World) (L:F.Loc) (rest:List (Nat × Obj)) (Fb X x5 i:Nat) (f:ByteArray) (W:World):Prop:=
  Dev T w L 1 70 ((Fb,.cells #[.string f] 9) :: (X,.cells #[.int .u64 3,.int .u64 2,.int .u64 5,.int .i64 ((i:Int) + 2),.int .i64 1,.int .u32 (x5:Nat)] 55) :: rest) (fun _=>F.pad ⟨#[]⟩) 0 W
def FB (T:Nat) (w:World) (L:F.Loc) (rest:List (Nat × Obj)) (Fb X x5 i:Nat) (W:World):Prop:=
  ∃ f:ByteArray,f.size = 63 * (i + 1) ∧ FA T w L rest Fb X x5 i f W
section
variable {T:Nat} {w:World} {L:F.Loc} {rest:List (Nat × Obj)} {Fb X x5 i:Nat} {f:ByteArray} {W W':World}
end
end Go.Proofs.YtncfbocbigdhiaaGreat.V

/- What lies in the segment between two rounds, each with an Append that ended, or was broken off, and a Crash. -/
namespace Go.Proofs.YtncfbocbigdhiaaGreat.U
open Go Go.RowKit
theorem Dev.ofV {T:Nat} {w:World} {L:F.Loc} {q:Int} {n:Nat} {oth:List (Nat × Obj)} {now:Nat → ByteArray} {c:Int} {W:World} (h:V.Dev T w L q n oth now c W):Dev T w L q n oth now now c W:=by
  obtain ⟨st,lv,ats,h1,h2,h3,h4,h5,h6,h7,h8,h9,h10⟩:=h.ex
  exact ⟨st,lv,ats,h1,h2,h3,h4,h5,h6,h7,h8,h9,fun _=>h10⟩
section
variable {now now' now2 sure2:Nat → ByteArray} {n:Nat} {s:Sg} {l:List (Nat × ByteArray)} {e k:Nat} {x:ByteArray}
theorem Chn.segM (hc:Chn now s l e) (M a:Nat):Chn now { s with M:=M,a:=a } l e:=by
  induction hc with
  | nil=>exact Chn.nil
  | next h1 h2 ih=>exact Chn.next ih ⟨h2.sz,h2.k1,h2.fit,h2.com,h2.pay⟩
theorem layP_same (i:Nat) (h:i ≠ s.b + s.a):layC now s x k i = layP now s x k i:=by
  unfold layC F.lay
  rw [if_neg (by omega)]
end
end Go.Proofs.YtncfbocbigdhiaaGreat.U

/- A log, as it lies in memory; what only reads of it, as calls. -/
namespace Go.Proofs.YtncfbocbigdhiaaGreat.U
open Go Go.RowKit
structure Lg where
  M:Nat
  c:Nat
  j:Nat
  p:Nat
  G:Nat
  ns:Nat
  pt:Nat → Option Nat
  nu:Nat → Nat
  a:Nat → Nat
  lv:List Nat
  m:Nat
def ptr:Option Nat → Value
  | none=>.pointer none
  | some S=>.pointer (some ⟨S,0,none⟩)
def Lg.cs (l:Lg) (v:Value):Array Value:=#[.pointer (some ⟨l.M,0,none⟩),.int .u64 (l.c:Nat),.int .u64 (l.j:Nat),.int .i64 (l.p:Nat),.slice (some ⟨l.G,0,none⟩) l.ns l.ns,v,.int .u64 (l.m:Nat)]
def Lg.row (l:Lg):Array Value:=((List.range l.ns).map (fun i=>ptr (l.pt i))).toArray
def Lg.sg (l:Lg) (i:Nat):Sg:=⟨l.M,l.c,l.j,l.nu i,1 + i * l.p,l.p,l.a i⟩
theorem Lg.row_get (l:Lg) (i:Nat) (hi:i < l.ns):l.row[i]? = some (ptr (l.pt i)):=by
  unfold Lg.row
  rw [List.getElem?_toArray,List.getElem?_map,List.getElem?_range hi]
  rfl
structure Lg.Ok (l:Lg):Prop where
  p0:8 ≤ l.p
  p1:l.p ≤ 64
  n0:1 ≤ l.ns
  n1:l.ns ≤ 1000
  lt:∀ i ∈ l.lv,i < l.ns
  ln:l.lv.length ≤ l.ns
  at1:∀ i ∈ l.lv,1 ≤ l.a i ∧ l.a i ≤ l.p
  c:l.c < 18446744073709551616
  j:l.j < 18446744073709551616
structure Lz (Lb:Nat) (l:Lg) (v:Value) (W:World):Prop where
  b:W.heap[Lb]? = some (.cells (l.cs v) 128)
  g:W.heap[l.G]? = some (.cells l.row 28)
  v:∃ ao cp g,v = .slice ao l.lv.length cp ∧ (0 < l.lv.length → ao = some ⟨g,0,none⟩) ∧ ∀ k (hk:k < l.lv.length),W.cell? ⟨g,k,none⟩ = some (nv l.lv[k])
  s:∀ i ∈ l.lv,∃ S,l.pt i = some S ∧ W.heap[S]? = some (.cells (l.sg i).cs 44)
section
variable {Lb:Nat} {l:Lg} {v:Value} {W:World}
set_option maxRecDepth 100000 in
theorem base_any (h:W.heap[Lb]? = some (.cells (l.cs v) 128)) (i:Nat) (hi:i ≤ 1000) (hp:l.p ≤ 64) :
    Calls Tryz.prog 120 #[.pointer (some ⟨Lb,0,none⟩),.int .i64 (i:Nat)] W fun e w'=>e = .returned (.int .i64 ((1 + i * l.p:Nat):Int)) ∧ w' = W:=by
  have q3:W.cell? ⟨Lb,3,none⟩ = some (.int .i64 (l.p:Nat)):=F.cell_of h 3
  obtain ⟨k,hk⟩:∃ k,k = i * l.p:=⟨_,rfl⟩
  have hk1:k ≤ 64000:=by rw [hk]; exact Nat.le_trans (Nat.mul_le_mul hi hp) (by decide)
  have hkI:(i:Int) * (l.p:Int) = (k:Int):=by rw [hk]; exact (Int.natCast_mul _ _).symm
  rw [← hk]
  clear hk h hi hp
  go_enter Tryz.func120,Tryz.ntmps120
  go_wp2
  go_returns
  exact ⟨by rw [show ((1 + k:Nat):Int) = 1 + (k:Int) by omega]; rfl,rfl⟩
set_option maxRecDepth 100000 in
theorem current_any (h:Lz Lb l v W) (hl:0 < l.lv.length) (hm:l.lv.length ≤ 1000) :
    Calls Tryz.prog 87 #[.pointer (some ⟨Lb,0,none⟩)] W fun e w'=>e = .returned (.int .i64 (l.lv[l.lv.length - 1]:Nat)) ∧ Below W.heap.size W w':=by
  obtain ⟨ao,cp,g,hv,h2,h3⟩:=h.v
  obtain rfl:=h2 hl
  have q5:∀ z,(W.drewN z).cell? ⟨Lb,5,none⟩ = some (.slice (some ⟨g,0,none⟩) l.lv.length cp):=fun z=>by rw [← hv]; exact F.cell_of (w:=W.drewN z) h.b 5
  have hc:∀ z,(W.drewN z).cell? ⟨g,l.lv.length - 1,none⟩ = some (nv (l.lv[l.lv.length - 1])):=fun z=>h3 (l.lv.length - 1) (by omega)
  obtain ⟨x,hx⟩:∃ x,x = l.lv[l.lv.length - 1]:=⟨_,rfl⟩
  rw [← hx] at hc ⊢
  unfold nv at hc
  clear hx h3 h2
  obtain ⟨k,hk⟩:∃ k,l.lv.length = k + 1:=⟨l.lv.length - 1,by omega⟩
  rw [hk] at q5 hc hm
  have hk1:((k + 1:Nat):Int) - 1 = (k:Int):=by omega
  rw [Nat.add_sub_cancel] at hc
  have hk2:k ≤ 999:=by omega
  clear hl hk hm hv h
  go_enter Tryz.func87,Tryz.ntmps87
  go_wp2_with fail
  go_quiet (fail)
  go_wp2
  go_returns
  exact ⟨rfl,rfl,rfl,rfl,Nat.le_refl _,fun _ _=>rfl⟩
set_option maxRecDepth 100000 in
theorem free_any (h:Lz Lb l v W) (hn:l.ns ≤ 1000) (hm:l.lv.length ≤ l.ns) :
    Calls Tryz.prog 46 #[.pointer (some ⟨Lb,0,none⟩)] W fun e w'=>e = .returned (.int .i64 ((l.ns - l.lv.length:Nat):Int)) ∧ Below W.heap.size W w':=by
  obtain ⟨ao,cp,g,hv,h2,h3⟩:=h.v
  have q5:∀ z,(W.drewN z).cell? ⟨Lb,5,none⟩ = some (.slice ao l.lv.length cp):=fun z=>by rw [← hv]; exact F.cell_of (w:=W.drewN z) h.b 5
  have q4:∀ z,(W.drewN z).cell? ⟨Lb,4,none⟩ = some (.slice (some ⟨l.G,0,none⟩) l.ns l.ns):=fun z=>F.cell_of (w:=W.drewN z) h.b 4
  clear h h2 h3 hv
  generalize l.ns = n at *
  generalize l.lv.length = k at *
  have hk1:(n:Int) - (k:Int) = ((n - k:Nat):Int):=by omega
  go_enter Tryz.func46,Tryz.ntmps46
  go_wp2_with fail
  go_quiet (fail)
  go_wp2
  go_returns
  exact ⟨by first | rfl | rw [hk1],rfl,rfl,rfl,Nat.le_refl _,fun _ _=>rfl⟩
set_option maxRecDepth 100000 in
theorem isnil_any (o:Option Nat) (W:World):Calls Tryz.prog 84 #[ptr o] W fun e w'=>e = .returned (.bool (o.isNone)) ∧ w' = W:=by
  cases o with
  | none=>
    unfold ptr
    go_enter Tryz.func84,Tryz.ntmps84
    go_wp2
    go_returns
    exact ⟨rfl,rfl⟩
  | some S=>
    unfold ptr
    go_enter Tryz.func84,Tryz.ntmps84
    go_wp2
    go_returns
    exact ⟨rfl,rfl⟩
theorem ent84 (args:Array Value) (W:World):(callFunc 84 args).run Tryz.prog W = .ok (.enter 84 args) W:=O.enter_of Tryz.func84 (by kernel_rfl) (by kernel_rfl) args W
set_option maxRecDepth 100000 in
theorem index_any (h:W.heap[l.G]? = some (.cells l.row 28)) (hn:l.ns ≤ 1000) (k:Nat) (hk:k < l.ns) (hf:l.pt k = none) (hlt:∀ i,i < k → l.pt i ≠ none) :
    Calls Tryz.prog 83 #[.slice (some ⟨l.G,0,none⟩) l.ns l.ns,.func (.func 84) #[] #[]] W fun e w'=>e = .returned (.int .i64 (k:Nat)) ∧ w' = W:=by
  have HG:Hid (∀ i,i < l.ns → W.cell? ⟨l.G,i,none⟩ = some (ptr (l.pt i))):=fun i hi=>by rw [F.cell_of h,l.row_get i hi]
  have HL:Hid _:=hlt
  have HF:Hid (l.pt k = none):=hf
  have hent:=ent84
  clear h hlt hf
  generalize l.G = G at *
  generalize l.ns = n at *
  go_enter Tryz.func83,Tryz.ntmps83
  go_wp2
  go_loopw [8] (fun iv wr=>∃ i:Nat,iv = .int .i64 (i:Nat) ∧ i ≤ k ∧ wr = W) (fun iv _=>n - (intOf iv).toNat)
  case atStart=>exact ⟨0,rfl,Nat.zero_le _,rfl⟩
  case round=>
    obtain ⟨i,rfl,hik,rfl⟩:=hrel
    have hin:i < n:=by omega
    have q:=HG.out i hin
    have hc:=isnil_any (l.pt i) wr
    by_cases e:i = k
    · subst e
      rw [HF.out] at q hc
      go_wp2_with fail
      go_call hc as er w1 ⟨rfl,rfl⟩
      clear hc
      go_wp2
      go_returns
      exact ⟨rfl,rfl⟩
    · obtain ⟨S,hS⟩:∃ S,l.pt i = some S:=by
        cases hp:l.pt i with
        | none=>exact absurd hp (HL.out i (by omega))
        | some S=>exact ⟨S,rfl⟩
      rw [hS] at q hc
      go_wp2_with fail
      go_call hc as er w1 ⟨rfl,rfl⟩
      clear hc
      go_wp2
      go_roundw
      case rel=>exact ⟨i + 1,rfl,by omega,trivial⟩
      case measure=>simp only [intOf]; omega
set_option maxRecDepth 100000 in
theorem index_no (h:W.heap[l.G]? = some (.cells l.row 28)) (hn:l.ns ≤ 1000) (hlt:∀ i,i < l.ns → l.pt i ≠ none) :
    Calls Tryz.prog 83 #[.slice (some ⟨l.G,0,none⟩) l.ns l.ns,.func (.func 84) #[] #[]] W fun e w'=>e = .returned (.int .i64 (-1)) ∧ w' = W:=by
  have HG:Hid (∀ i,i < l.ns → W.cell? ⟨l.G,i,none⟩ = some (ptr (l.pt i))):=fun i hi=>by rw [F.cell_of h,l.row_get i hi]
  have HL:Hid _:=hlt
  have hent:=ent84
  clear h hlt
  generalize l.G = G at *
  generalize l.ns = n at *
  go_enter Tryz.func83,Tryz.ntmps83
  go_wp2
  go_loopw [8] (fun iv wr=>∃ i:Nat,iv = .int .i64 (i:Nat) ∧ i ≤ n ∧ wr = W) (fun iv _=>n - (intOf iv).toNat)
  case atStart=>exact ⟨0,rfl,Nat.zero_le _,rfl⟩
  case round=>
    obtain ⟨i,rfl,hik,rfl⟩:=hrel
    rcases Nat.lt_or_ge i n with hin | hin
    · have q:=HG.out i hin
      have hc:=isnil_any (l.pt i) wr
      obtain ⟨S,hS⟩:∃ S,l.pt i = some S:=by
        cases hp:l.pt i with
        | none=>exact absurd hp (HL.out i (by omega))
        | some S=>exact ⟨S,rfl⟩
      rw [hS] at q hc
      go_wp2_with fail
      go_call hc as er w1 ⟨rfl,rfl⟩
      clear hc
      go_wp2
      go_roundw
      case rel=>exact ⟨i + 1,rfl,by omega,trivial⟩
      case measure=>simp only [intOf]; omega
    · go_wp2
      go_returns
      exact ⟨rfl,rfl⟩
end
end Go.Proofs.YtncfbocbigdhiaaGreat.U
