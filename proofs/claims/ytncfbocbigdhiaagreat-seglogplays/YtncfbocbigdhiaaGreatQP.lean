/- Texts of this seat, one behind the other. -/
import Derived.Test.YtncfbocbigdhiaaGreatQJ
import Derived.Test.YtncfbocbigdhiaaGreatQLF
import Derived.Ground.Names2Prog
import Derived.Shelf.Slices.Clone
import Derived.Shelf.Slices.Delete
import Derived.Shelf.Slices.Empties
import Derived.Ground.SlsfProg
import Derived.Shelf.SlSortCmp.Insertion1
import Derived.Test.YtncfbocbigdhiaaGreatProg
/- GroupApart: its first closure, under Guard; the state between two rounds. -/
namespace Go.Proofs.YtncfbocbigdhiaaGreat.V
open Go Go.RowKit
section
variable {T:Nat} {w:World} {L:F.Loc} {rest:List (Nat × Obj)} {per M Sb i a n Ib:Nat} {W W':World}
end
end Go.Proofs.YtncfbocbigdhiaaGreat.V

/- GroupApart: its second closure, which writes a Commit alone, under Guard; where no group is found. -/
namespace Go.Proofs.YtncfbocbigdhiaaGreat.U
open Go Go.RowKit
def fl (su now:Nat → ByteArray):Nat → ByteArray:=fun i=>if i = 5000 then (now 5000).push 0 else su i
theorem fl_ne (su now:Nat → ByteArray):fl su now 5000 ≠ now 5000:=by
  unfold fl
  rw [if_pos rfl]
  intro e
  have:=congrArg ByteArray.size e
  rw [ByteArray.size_push] at this
  omega
theorem Dv_fl {st:F.St} {ats:Nat → Nat} {now su now2:Nat → ByteArray} (h:F.Dv st ats now su) (hn:st.n ≤ 1000):F.Dv st ats now (fl su now2):=by
  have e:∀ i,i < st.n → fl su now2 i = su i:=fun i hi=>if_neg (by omega)
  refine ⟨h.ok,h.lis,h.rise,h.nw,fun k hk=>?_,fun i hi hk=>?_,fun i hi=>?_⟩
  · rw [e _ (h.lis.lt k hk)]; exact h.was k hk
  · rw [e i hi]; exact h.sr i hi hk
  · rw [e i hi]; exact h.sz i hi
theorem Dev.write1 {T:Nat} {w:World} {L:F.Loc} {q:Int} {n:Nat} {oth:List (Nat × Obj)} {now su:Nat → ByteArray} {c:Int} {W:World} (h:Dev T w L q n oth now su c W) (M:Nat) (hM:(M,F.med L.P 1 q) ∈ oth) (frm:Nat) (y:ByteArray) (hy:y.size = 64) (hf:frm < n) (hn1:n ≤ 1000) (hc:c ≤ 60000000) :
    Calls Tryz.prog 28 #[.pointer (some ⟨M,0,none⟩),.int .i64 (frm:Nat),.string y] W fun e W'=>e = .returned (.tuple #[]) ∧ Dev T w L q n oth (F.lay now frm y 1) (fl su (F.lay now frm y 1)) (c + 1) W':=by
  obtain ⟨st,lv,ats,h1,h2,h3,h4,h5,h6,h7,h8,h9,_⟩:=h.ex
  refine (V.dev_write h1 h2 h3 h4 h5 h6 h7 ⟨h8,by omega⟩ hn1 M hM frm y 1 (by omega) (by decide) (by omega)).mono ?_
  rintro e W' ⟨rfl,st',lv',ats',a1,a2,a3,a4,a5,a6,a7,a8,a9⟩
  exact ⟨rfl,st',lv',ats',a1,a2,a3,a4,a5,a6,Dv_fl a7 (by omega),by omega,by omega,fun e=>absurd e (fl_ne _ _)⟩
theorem lay1_ne (now:Nat → ByteArray) (frm:Nat) (y:ByteArray) (i:Nat) (h:i ≠ frm):F.lay now frm y 1 i = now i:=by
  unfold F.lay
  rw [if_neg (by omega)]
theorem lay1_eq (now:Nat → ByteArray) (frm:Nat) (y:ByteArray) (hy:y.size = 64):F.lay now frm y 1 frm = y:=by
  unfold F.lay
  rw [if_pos (by omega),Nat.sub_self]
  exact pad_whole y hy
theorem pad0_ne:¬ (F.pad ⟨#[]⟩)[0]? = some 67:=by rw [pad0]; decide
end Go.Proofs.YtncfbocbigdhiaaGreat.U

/- Flush, and Append, on a device that does all; a Head is written, and flushed, as a call. -/
namespace Go.Proofs.YtncfbocbigdhiaaGreat.U
open Go Go.RowKit
theorem cells_ne2 {a b:Array Value} {s t:TypeId} {fz:Nat × Nat} (h:s ≠ t):(Obj.cells a s) ≠ (Obj.cells b t fz):=fun e=>by
  injection e with _ e _
  exact h e
theorem Dev.flush {T:Nat} {w:World} {L:F.Loc} {q:Int} {n:Nat} {oth:List (Nat × Obj)} {now su:Nat → ByteArray} {c:Int} {W:World} (h:Dev T w L q n oth now su c W) (M:Nat) (hM:(M,F.med L.P 1 q) ∈ oth) (hc:c ≤ 60000000) :
    Calls Tryz.prog 55 #[.pointer (some ⟨M,0,none⟩)] W fun e W'=>e = .returned (.tuple #[]) ∧ Dev T w L q n oth now now (c + 1) W':=by
  obtain ⟨st,lv,ats,h1,h2,h3,h4,h5,h6,h7,h8,h9,_⟩:=h.ex
  refine (V.dev_flush h1 h2 h3 h4 h5 h6 h7 ⟨h8,by omega⟩ M hM).mono ?_
  rintro e W' ⟨rfl,st',lv',ats',a1,a2,a3,a4,a5,a6,a7,a8,a9,a10⟩
  exact ⟨rfl,st',lv',ats',a1,a2,a3,a4,a5,a6,a7,by omega,by omega,fun _=>a10⟩
set_option maxHeartbeats 1000000 in
theorem dev_append {T:Nat} {w:World} {L:F.Loc} {q:Int} {n:Nat} {oth:List (Nat × Obj)} {now:Nat → ByteArray} {c:Int} {W:World} {Sb:Nat} (s:Sg) (h:Dev T w L q n ((Sb,.cells s.cs 44) :: oth) now now c W) (hM:(s.M,F.med L.P 1 q) ∈ oth) (hne:∀ p ∈ oth,p.1 ≠ Sb) (hs:s.Ok) (x:ByteArray) (k:Nat) (hk:1 ≤ k) (hroom:s.a + k < s.p) (hx:x.size = 63 * k) (hn:s.b + s.p ≤ n) (hn1:n ≤ 1000) (hc:c ≤ 60000000) :
    Calls Tryz.prog 17 #[.pointer (some ⟨Sb,0,none⟩),.string x] W fun e W'=>e = .returned (.int .i64 (s.a:Nat)) ∧ Dev T w L q n ((Sb,.cells (Sg.cs { s with a:=s.a + 1 + k }) 44) :: oth) (layC now s x k) (layC now s x k) (c + 100) W':=by
  have hy:=ysize x k hx
  have hp1:=hs.p1
  have hcs:(s.cm s.a x).sec.size = 64 * 1:=Cm.sec_size _
  have hM':(s.M,F.med L.P 1 q) ∈ ((Sb,.cells s.cs 44) :: oth:List (Nat × Obj)):=List.mem_cons_of_mem _ hM
  let St:(Nat → ByteArray) → (Nat → ByteArray) → Int → World → Prop:=fun a b d W=>∃ st lv ats,F.One T w L st lv ((Sb,.cells s.cs 44) :: oth) W ∧ st.n = n ∧ st.serial = 1 ∧ st.session = q ∧ st.there = true ∧ F.Mode.idle.is st ∧ F.Dv st ats a b ∧ 0 ≤ st.count ∧ st.count ≤ d
  let St0:(Nat → ByteArray) → Int → World → Prop:=fun a d W=>∃ st lv ats,F.One T w L st lv ((Sb,.cells s.cs 44) :: oth) W ∧ st.n = n ∧ st.serial = 1 ∧ st.session = q ∧ st.there = true ∧ F.Mode.idle.is st ∧ F.Dv st ats a a ∧ 0 ≤ st.count ∧ st.count ≤ d ∧ st.ln = 0
  let R:Nat → World → Prop:=fun i W=>if i = 0 then St now now c W else if i = 1 then St (layP now s x k) now (c + k) W else if i = 2 then St (layP now s x k) (layP now s x k) (c + k + 1) W else if i = 3 then St (layC now s x k) (layP now s x k) (c + k + 2) W else St0 (layC now s x k) (c + k + 3) W
  have hStB:∀ {a b d W W'},St a b d W → Below W.heap.size W W' → St a b d W':=fun ⟨st,lv,ats,h1,h2⟩ hb=>⟨st,lv,ats,h1.ofBelow hb,h2⟩
  have hStB0:∀ {a d W W'},St0 a d W → Below W.heap.size W W' → St0 a d W':=fun ⟨st,lv,ats,h1,h2⟩ hb=>⟨st,lv,ats,h1.ofBelow hb,h2⟩
  have hStS0:∀ {a d W},St0 a d W → W.heap[Sb]? = some (.cells s.cs 44):=fun ⟨st,lv,ats,h1,h2⟩=>(h1.oth _ (List.mem_cons_self ..)).1
  have hStS:∀ {a b d W},St a b d W → W.heap[Sb]? = some (.cells s.cs 44):=fun ⟨st,lv,ats,h1,h2⟩=>(h1.oth _ (List.mem_cons_self ..)).1
  refine (append_brk 1 (fun _=>False) s hs Sb x k hk hroom hx R W ?_ ?_ (by
    obtain ⟨st,lv,ats,h1,h2,h3,h4,h5,h6,h7,h8,h9,_⟩:=h.ex
    exact ⟨st,lv,ats,h1,h2,h3,h4,h5,h6,h7,h8,h9⟩) ?_ ?_ ?_ ?_).mono ?_
  · intro i W W' hR hb
    show if i = 0 then _ else _
    have hR':(if i = 0 then St now now c W else if i = 1 then St (layP now s x k) now (c + k) W else if i = 2 then St (layP now s x k) (layP now s x k) (c + k + 1) W else if i = 3 then St (layC now s x k) (layP now s x k) (c + k + 2) W else St0 (layC now s x k) (c + k + 3) W):=hR
    repeat' (split at hR' <;> split <;> try contradiction)
    all_goals first | exact hStB hR' hb | exact hStB0 hR' hb
  · intro i W hR
    have hR':(if i = 0 then St now now c W else if i = 1 then St (layP now s x k) now (c + k) W else if i = 2 then St (layP now s x k) (layP now s x k) (c + k + 1) W else if i = 3 then St (layC now s x k) (layP now s x k) (c + k + 2) W else St0 (layC now s x k) (c + k + 3) W):=hR
    repeat' split at hR'
    all_goals first | exact hStS hR' | exact hStS0 hR'
  · rintro W ⟨st,lv,ats,h1,h2,h3,h4,h5,h6,h7,h8,h9⟩
    refine (V.dev_write h1 h2 h3 h4 h5 h6 h7 ⟨h8,by omega⟩ hn1 s.M hM' (s.b + s.a + 1) (O.tx (secP x k)) k hy (by omega) (by omega)).mono ?_
    rintro e W' ⟨rfl,st',lv',ats',a1,a2,a3,a4,a5,a6,a7,a8,a9⟩
    exact Or.inl ⟨rfl,st',lv',ats',a1,a2,a3,a4,a5,a6,a7,by omega,by omega⟩
  · rintro W ⟨st,lv,ats,h1,h2,h3,h4,h5,h6,h7,h8,h9⟩
    refine (V.dev_flush h1 h2 h3 h4 h5 h6 h7 ⟨h8,by omega⟩ s.M hM').mono ?_
    rintro e W' ⟨rfl,st',lv',ats',a1,a2,a3,a4,a5,a6,a7,a8,a9,_⟩
    exact Or.inl ⟨rfl,st',lv',ats',a1,a2,a3,a4,a5,a6,a7,by omega,by omega⟩
  · rintro W ⟨st,lv,ats,h1,h2,h3,h4,h5,h6,h7,h8,h9⟩
    refine (V.dev_write h1 h2 h3 h4 h5 h6 h7 ⟨h8,by omega⟩ hn1 s.M hM' (s.b + s.a) (s.cm s.a x).sec 1 hcs (by decide) (by omega)).mono ?_
    rintro e W' ⟨rfl,st',lv',ats',a1,a2,a3,a4,a5,a6,a7,a8,a9⟩
    exact Or.inl ⟨rfl,st',lv',ats',a1,a2,a3,a4,a5,a6,a7,by omega,by omega⟩
  · rintro W ⟨st,lv,ats,h1,h2,h3,h4,h5,h6,h7,h8,h9⟩
    refine (V.dev_flush h1 h2 h3 h4 h5 h6 h7 ⟨h8,by omega⟩ s.M hM').mono ?_
    rintro e W' ⟨rfl,st',lv',ats',a1,a2,a3,a4,a5,a6,a7,a8,a9,a10⟩
    exact Or.inl ⟨rfl,st',lv',ats',a1,a2,a3,a4,a5,a6,a7,by omega,by omega,a10⟩
  · rintro e w' (⟨rfl,w2,⟨st,lv,ats,h1,h2,h3,h4,h5,h6,h7,h8,h9,h10⟩,hks,hcs2⟩ | ⟨E,-,hB⟩)
    · exact ⟨rfl,st,lv,ats,h1.other6 hne hks hcs2,h2,h3,h4,h5,h6,h7,h8,by omega,fun _=>h10⟩
    · exact hB.elim
section
variable {T:Nat} {w:World} {L:F.Loc} {q:Int} {n Lb:Nat} {l:Lg} {v:Value} {ol rest:List (Nat × Obj)} {now su:Nat → ByteArray} {c:Int} {W W':World}
theorem LgI.hold (h:LgI T w L q n Lb l v ol rest now su c W) (o:Obj) (ho:F.Obj.apart o) (h5:∀ c fz,o ≠ .cells c 5 fz):LgI T w L q n Lb l v ol ((W.heap.size,o) :: rest) now su c (W.alloc o):=by
  refine ⟨h.ok,h.pl,(h.dv.alloc o ho).forget ?_,List.mem_cons_of_mem _ h.md,h.pn,h.nd,h.inj,fun p hp r hr=>?_,fun p hp=>?_⟩
  · intro p hp
    simp only [List.mem_cons,List.mem_append] at hp ⊢
    rcases hp with hp | hp | hp | hp | hp | hp <;> simp [hp]
  · rcases List.mem_cons.1 hr with rfl | hr
    · have:=h.dv.lts p (by
        simp only [List.mem_cons,List.mem_append] at hp ⊢
        rcases hp with hp | hp | hp | hp <;> simp [hp])
      show p.1 ≠ W.heap.size; omega
    · exact h.ap p hp r hr
  · rcases List.mem_cons.1 hp with rfl | hp
    · exact h5
    · exact h.h5 p hp
theorem LgI.drop {rest':List (Nat × Obj)} (h:LgI T w L q n Lb l v ol rest now su c W) (hm:(l.M,F.med L.P 1 q) ∈ rest') (hs:∀ p ∈ rest',p ∈ rest):LgI T w L q n Lb l v ol rest' now su c W:=by
  refine ⟨h.ok,h.pl,h.dv.forget ?_,hm,h.pn,h.nd,h.inj,fun p hp r hr=>h.ap p hp r (hs r hr),fun p hp=>h.h5 p (hs p hp)⟩
  intro p hp
  simp only [List.mem_cons,List.mem_append] at hp ⊢
  rcases hp with hp | hp | hp | hp | hp
  · simp [hp]
  · simp [hp]
  · simp [hp]
  · simp [hp]
  · simp [hs p hp]
theorem LgI.flush (h:LgI T w L q n Lb l v ol rest now su c W) (hc:c ≤ 60000000):Calls Tryz.prog 55 #[.pointer (some ⟨l.M,0,none⟩)] W fun e W'=>e = .returned (.tuple #[]) ∧ LgI T w L q n Lb l v ol rest now now (c + 1) W':=by
  refine (h.dv.flush l.M (by simp [h.md]) hc).mono ?_
  rintro e W' ⟨rfl,hd⟩
  exact ⟨rfl,h.ok,h.pl,hd,h.md,h.pn,h.nd,h.inj,h.ap,h.h5⟩
theorem LgI.write1 (h:LgI T w L q n Lb l v ol rest now su c W) (frm:Nat) (y:ByteArray) (hy:y.size = 64) (hf:frm < n) (hn1:n ≤ 1000) (hc:c ≤ 60000000):Calls Tryz.prog 28 #[.pointer (some ⟨l.M,0,none⟩),.int .i64 (frm:Nat),.string y] W fun e W'=>e = .returned (.tuple #[]) ∧ LgI T w L q n Lb l v ol rest (F.lay now frm y 1) (fl su (F.lay now frm y 1)) (c + 1) W':=by
  refine (h.dv.write1 l.M (by simp [h.md]) frm y hy hf hn1 hc).mono ?_
  rintro e W' ⟨rfl,hd⟩
  exact ⟨rfl,h.ok,h.pl,hd,h.md,h.pn,h.nd,h.inj,h.ap,h.h5⟩
end
def V85a (Lb i nu:Nat) (b:Bool) (l:Lg) (w8:World):Nat → Value → Prop
  | 0,v=>v = .pointer (some ⟨Lb,0,none⟩)
  | 1,v=>v = .pointer (some ⟨Lb,0,none⟩)
  | 2,v=>v = .pointer (some ⟨Lb,1,none⟩)
  | 3,v=>v = .int .u64 (l.c:Nat)
  | 4,v=>v = .pointer (some ⟨Lb,0,none⟩)
  | 5,v=>v = .pointer (some ⟨Lb,0,none⟩)
  | 6,v=>v = .pointer (some ⟨Lb,2,none⟩)
  | 7,v=>v = .int .u64 (l.j:Nat)
  | 8,v=>v = .int .u64 (nu:Nat)
  | 9,v=>v = .bool b
  | 10,v=>v = .agg #[.int .u64 (l.c:Nat),.int .u64 (l.j:Nat),.int .u64 (nu:Nat),.bool b]
  | 11,v=>v = .pointer (some ⟨w8.heap.size,0,none⟩)
  | _,_=>True
def V85b (Lb X i nu:Nat) (b:Bool) (l:Lg):Nat → Value → Prop
  | 0,v=>v = .pointer (some ⟨Lb,0,none⟩)
  | 1,v=>v = .pointer (some ⟨Lb,0,none⟩)
  | 2,v=>v = .pointer (some ⟨Lb,0,none⟩)
  | 3,v=>v = .pointer (some ⟨l.M,0,none⟩)
  | 4,v=>v = .pointer (some ⟨Lb,0,none⟩)
  | 5,v=>v = .int .i64 (i:Nat)
  | 6,v=>v = .int .i64 ((1 + i * l.p:Nat):Int)
  | 7,v=>v = .agg #[.int .u64 (l.c:Nat),.int .u64 (l.j:Nat),.int .u64 (nu:Nat),.bool b]
  | 8,v=>v = .string (Hd.mk l.c l.j nu b).sec
  | _,_=>True
set_option maxHeartbeats 4000000 in
set_option maxRecDepth 100000 in
theorem write_any {T:Nat} {w:World} {L:F.Loc} {q:Int} {n Lb:Nat} {l:Lg} {v:Value} {ol rest:List (Nat × Obj)} {now su:Nat → ByteArray} {c:Int} {W0:World} (h:LgI T w L q n Lb l v ol rest now su c W0) (i nu:Nat) (b:Bool) (hi:i < l.ns) (hok:(Hd.mk l.c l.j nu b).Ok) (hf:1 + i * l.p < n) (hn1:n ≤ 1000) (hc:c ≤ 50000000) :
    Calls Tryz.prog 85 #[.pointer (some ⟨Lb,0,none⟩),.int .i64 (i:Nat),.int .u64 (nu:Nat),.bool b] W0 fun e w'=>e = .returned (.tuple #[]) ∧ LgI T w L q n Lb l v ol rest (F.lay now (1 + i * l.p) (Hd.mk l.c l.j nu b).sec 1) (F.lay now (1 + i * l.p) (Hd.mk l.c l.j nu b).sec 1) (c + 2) w':=by
  obtain ⟨w8,hw8⟩:∃ w8,w8 = W0.drew:=⟨_,rfl⟩
  have h8:LgI T w L q n Lb l v ol rest now su c w8:=by rw [hw8]; exact h.below (Below.refl _ _).drew
  have HW8:Hid (w8 = W0.drew):=hw8
  have HI:Hid (i ≤ 1000 ∧ l.p ≤ 64 ∧ i < l.ns ∧ l.ns ≤ 1000 ∧ c ≤ 50000000):=⟨by have:=h.ok.n1; omega,h.ok.p1,hi,h.ok.n1,hc⟩
  have HMD:Hid ((l.M,F.med L.P 1 q) ∈ rest):=h.md
  have HB8:Hid (w8.heap[Lb]? = some (.cells (l.cs v) 128)):=h8.lz.b
  have HB9:Hid ((w8.alloc (.cells #[.int .u64 0,.int .u64 0,.int .u64 0,.bool false] 166)).heap[Lb]? = some (.cells (l.cs v) 128)):=(h8.dv.alloc (.cells #[.int .u64 0,.int .u64 0,.int .u64 0,.bool false] 166) (F.apart_of (by decide))).at' (p:=(Lb,.cells (l.cs v) 128)) (by simp)
  have h9:=h8.hold (.cells #[.int .u64 (l.c:Nat),.int .u64 (l.j:Nat),.int .u64 (nu:Nat),.bool b] 166) (F.apart_of (by decide)) (fun _ _=>cells_ne2 (by decide))
  have HBA:Hid ((w8.alloc (.cells #[.int .u64 (l.c:Nat),.int .u64 (l.j:Nat),.int .u64 (nu:Nat),.bool b] 166)).heap[Lb]? = some (.cells (l.cs v) 128)):=h9.lz.b
  have H9:Hid (LgI T w L q n Lb l v ol ((w8.heap.size,(.cells #[.int .u64 (l.c:Nat),.int .u64 (l.j:Nat),.int .u64 (nu:Nat),.bool b] 166)) :: rest) now su c (w8.alloc (.cells #[.int .u64 (l.c:Nat),.int .u64 (l.j:Nat),.int .u64 (nu:Nat),.bool b] 166))):=h9
  have HPK:Hid (∀ W,Calls Tryz.prog 121 #[.agg #[.int .u64 (l.c:Nat),.int .u64 (l.j:Nat),.int .u64 (nu:Nat),.bool b]] W fun e w'=>e = .returned (.string (Hd.mk l.c l.j nu b).sec) ∧ Below W.heap.size W w'):=fun W=>hpack_any (Hd.mk l.c l.j nu b) hok W
  have HWR:Hid (∀ X W,LgI T w L q n Lb l v ol ((X,(.cells #[.int .u64 (l.c:Nat),.int .u64 (l.j:Nat),.int .u64 (nu:Nat),.bool b] 166)) :: rest) now su c W → Calls Tryz.prog 28 #[.pointer (some ⟨l.M,0,none⟩),.int .i64 ((1 + i * l.p:Nat):Int),.string (Hd.mk l.c l.j nu b).sec] W fun e W'=>e = .returned (.tuple #[]) ∧ LgI T w L q n Lb l v ol ((X,(.cells #[.int .u64 (l.c:Nat),.int .u64 (l.j:Nat),.int .u64 (nu:Nat),.bool b] 166)) :: rest) (F.lay now (1 + i * l.p) (Hd.mk l.c l.j nu b).sec 1) (fl su (F.lay now (1 + i * l.p) (Hd.mk l.c l.j nu b).sec 1)) (c + 1) W'):=fun X W hW=>hW.write1 (1 + i * l.p) _ (Hd.sec_size _) hf hn1 (by omega)
  clear h h8 h9 hw8 hi hok hf hn1
  go_enter Tryz.func85,Tryz.ntmps85
  go_wp2
  refine F.wp_region_pb (fun f=>⟨#[.pointer (some ⟨Lb,0,none⟩),.int .i64 (i:Nat),.int .u64 (nu:Nat),.bool b,undef,undef,undef,undef,f 11,f 0,f 1,f 2,f 3,f 4,f 5,f 6,f 7,f 8,f 9,f 10,undef,undef,undef,undef,undef,undef,undef,undef,undef,undef,undef,undef,undef,undef,undef],[]⟩) (V85a Lb i nu b l w8) (Ph3 11 12 (fun W=>W = w8) (fun W=>W = w8.alloc (.cells #[.int .u64 0,.int .u64 0,.int .u64 0,.bool false] 166)) (fun W=>W = w8.alloc (.cells #[.int .u64 (l.c:Nat),.int .u64 (l.j:Nat),.int .u64 (nu:Nat),.bool b] 166))) (fun i=>[undef,undef,undef,undef,undef,undef,undef,undef,undef,undef,undef,undef,undef].getD i undef) (by kernel_rfl) rfl rfl ?hIa ?hputa ?stepa ?fina
  case hIa=>exact Ph3.start HW8.out.symm
  case fina=>
    intro f W hP hV
    have v0:f 0 = .pointer (some ⟨Lb,0,none⟩):=hV 0 (by decide)
    have v1:f 1 = .pointer (some ⟨Lb,0,none⟩):=hV 1 (by decide)
    have v2:f 2 = .pointer (some ⟨Lb,1,none⟩):=hV 2 (by decide)
    have v3:f 3 = .int .u64 (l.c:Nat):=hV 3 (by decide)
    have v4:f 4 = .pointer (some ⟨Lb,0,none⟩):=hV 4 (by decide)
    have v5:f 5 = .pointer (some ⟨Lb,0,none⟩):=hV 5 (by decide)
    have v6:f 6 = .pointer (some ⟨Lb,2,none⟩):=hV 6 (by decide)
    have v7:f 7 = .int .u64 (l.j:Nat):=hV 7 (by decide)
    have v8:f 8 = .int .u64 (nu:Nat):=hV 8 (by decide)
    have v9:f 9 = .bool b:=hV 9 (by decide)
    have v10:f 10 = .agg #[.int .u64 (l.c:Nat),.int .u64 (l.j:Nat),.int .u64 (nu:Nat),.bool b]:=hV 10 (by decide)
    have v11:f 11 = .pointer (some ⟨w8.heap.size,0,none⟩):=hV 11 (by decide)
    clear hV
    have HC:Hid (W = _):=hP.c rfl rfl
    clear hP
    generalize f 0 = z0 at *
    subst v0
    generalize f 1 = z1 at *
    subst v1
    generalize f 2 = z2 at *
    subst v2
    generalize f 3 = z3 at *
    subst v3
    generalize f 4 = z4 at *
    subst v4
    generalize f 5 = z5 at *
    subst v5
    generalize f 6 = z6 at *
    subst v6
    generalize f 7 = z7 at *
    subst v7
    generalize f 8 = z8 at *
    subst v8
    generalize f 9 = z9 at *
    subst v9
    generalize f 10 = z10 at *
    subst v10
    generalize f 11 = z11 at *
    subst v11
    obtain rfl:=HC.out
    clear HC HB8 HB9 HBA HW8 f
    generalize w8.alloc (.cells #[.int .u64 (l.c:Nat),.int .u64 (l.j:Nat),.int .u64 (nu:Nat),.bool b] 166) = w9 at *
    generalize w8.heap.size = X at *
    go_wp2
    refine F.wp_region_pb (fun f=>⟨#[.pointer (some ⟨Lb,0,none⟩),.int .i64 (i:Nat),.int .u64 (nu:Nat),.bool b,undef,undef,undef,undef,.pointer (some ⟨X,0,none⟩),.pointer (some ⟨Lb,0,none⟩),.pointer (some ⟨Lb,0,none⟩),.pointer (some ⟨Lb,1,none⟩),.int .u64 (l.c:Nat),.pointer (some ⟨Lb,0,none⟩),.pointer (some ⟨Lb,0,none⟩),.pointer (some ⟨Lb,2,none⟩),.int .u64 (l.j:Nat),.int .u64 (nu:Nat),.bool b,.agg #[.int .u64 (l.c:Nat),.int .u64 (l.j:Nat),.int .u64 (nu:Nat),.bool b],f 0,f 1,f 2,f 3,f 4,f 5,f 6,f 7,f 8,f 9,undef,undef,undef,undef,undef],[]⟩) (V85b Lb X i nu b l) (F.Two 9 (fun W=>LgI T w L q n Lb l v ol ((X,(.cells #[.int .u64 (l.c:Nat),.int .u64 (l.j:Nat),.int .u64 (nu:Nat),.bool b] 166)) :: rest) now su c W) (fun W=>LgI T w L q n Lb l v ol ((X,(.cells #[.int .u64 (l.c:Nat),.int .u64 (l.j:Nat),.int .u64 (nu:Nat),.bool b] 166)) :: rest) (F.lay now (1 + i * l.p) (Hd.mk l.c l.j nu b).sec 1) (fl su (F.lay now (1 + i * l.p) (Hd.mk l.c l.j nu b).sec 1)) (c + 1) W)) (fun i=>[undef,undef,undef,undef,undef,undef,undef,undef,undef,undef].getD i undef) (by kernel_rfl) rfl rfl ?hIb ?hputb ?stepb ?finb
    case hIb=>exact F_two_start (H9.out.below (Below.refl _ _).drew)
    case finb=>
      intro f W hP hV
      have h2:=hP.b rfl
      have H2:Hid (LgI T w L q n Lb l v ol ((X,(.cells #[.int .u64 (l.c:Nat),.int .u64 (l.j:Nat),.int .u64 (nu:Nat),.bool b] 166)) :: rest) (F.lay now (1 + i * l.p) (Hd.mk l.c l.j nu b).sec 1) (fl su (F.lay now (1 + i * l.p) (Hd.mk l.c l.j nu b).sec 1)) (c + 1) W):=h2
      clear hP hV h2 HWR HPK
      have qb:W.heap[Lb]? = some (.cells (l.cs v) 128):=H2.out.lz.b
      have q0:W.cell? ⟨Lb,0,none⟩ = some (.pointer (some ⟨l.M,0,none⟩)):=F.cell_of qb 0
      have hfl:=H2.out.flush (by have:=HI.out.2.2.2.2; omega)
      generalize f 0 = z0 at *
      generalize f 1 = z1 at *
      generalize f 2 = z2 at *
      generalize f 3 = z3 at *
      generalize f 4 = z4 at *
      generalize f 5 = z5 at *
      generalize f 6 = z6 at *
      generalize f 7 = z7 at *
      generalize f 8 = z8 at *
      generalize f 9 = z9 at *
      go_wp2_with fail
      go_call hfl as e w4 ⟨rfl,h4⟩
      have H4:Hid (LgI T w L q n Lb l v ol rest (F.lay now (1 + i * l.p) (Hd.mk l.c l.j nu b).sec 1) (F.lay now (1 + i * l.p) (Hd.mk l.c l.j nu b).sec 1) (c + 2) w4):=(h4.drop HMD.out (fun p hp=>List.mem_cons_of_mem _ hp)).more (by omega)
      clear hfl h4 qb q0 H2
      go_wp2
      go_returns
      exact ⟨rfl,H4.out⟩
    case hputb=>
      repeat (refine ⟨fun f v=>rfl,?_⟩)
      trivial
    case stepb=>
      refine ⟨?_,?_⟩
      · intro done f W hP hdn hd K hK
        clear hd
        go_simp
        exact hK _ _ rfl (hP.pure _ (by decide) _)
      refine ⟨?_,?_⟩
      · intro done f W hP hdn hd K hK
        have d0:=(hd.1 rfl).2
        have e0:done 0 = true:=(hd.1 rfl).1
        clear hd
        replace d0:f 0 = .pointer (some ⟨Lb,0,none⟩):=d0
        generalize f 0 = x0 at *
        subst d0
        clear e0
        go_simp
        exact hK _ _ rfl (hP.pure _ (by decide) _)
      refine ⟨?_,?_⟩
      · intro done f W hP hdn hd K hK
        have d1:=(hd.1 rfl).2
        have e1:done 1 = true:=(hd.1 rfl).1
        clear hd
        replace d1:f 1 = .pointer (some ⟨Lb,0,none⟩):=d1
        generalize f 1 = x1 at *
        subst d1
        clear e1
        go_simp
        exact hK _ _ rfl (hP.pure _ (by decide) _)
      refine ⟨?_,?_⟩
      · intro done f W hP hdn hd K hK
        have d2:=(hd.1 rfl).2
        have e2:done 2 = true:=(hd.1 rfl).1
        clear hd
        replace d2:f 2 = .pointer (some ⟨Lb,0,none⟩):=d2
        generalize f 2 = x2 at *
        subst d2
        clear e2
        have qb:W.heap[Lb]? = some (.cells (l.cs v) 128):=F.Two.any (R:=fun W=>W.heap[Lb]? = some (.cells (l.cs v) 128)) (fun W h=>h.lz.b) (fun W h=>h.lz.b) hP
        have q:W.cell? ⟨Lb,0,none⟩ = some (.pointer (some ⟨l.M,0,none⟩)):=F.cell_of qb 0
        go_simp
        exact hK _ _ rfl (hP.pure _ (by decide) _)
      refine ⟨?_,?_⟩
      · intro done f W hP hdn hd K hK
        clear hd
        go_simp
        exact hK _ _ rfl (hP.pure _ (by decide) _)
      refine ⟨?_,?_⟩
      · intro done f W hP hdn hd K hK
        clear hd
        go_simp
        exact hK _ _ rfl (hP.pure _ (by decide) _)
      refine ⟨?_,?_⟩
      · intro done f W hP hdn hd K hK
        have d4:=(hd.1 rfl).2
        have e4:done 4 = true:=(hd.1 rfl).1
        have d5:=(hd.2.1 rfl).2
        have e5:done 5 = true:=(hd.2.1 rfl).1
        clear hd
        replace d4:f 4 = .pointer (some ⟨Lb,0,none⟩):=d4
        replace d5:f 5 = .int .i64 (i:Nat):=d5
        generalize f 4 = x4 at *
        subst d4
        clear e4
        generalize f 5 = x5 at *
        subst d5
        clear e5
        have qb:W.heap[Lb]? = some (.cells (l.cs v) 128):=F.Two.any (R:=fun W=>W.heap[Lb]? = some (.cells (l.cs v) 128)) (fun W h=>h.lz.b) (fun W h=>h.lz.b) hP
        have hba:=base_any qb i HI.out.1 HI.out.2.1
        go_simp
        refine Calls.mono hba ?_
        rintro er W' ⟨rfl,rfl⟩
        exact hK _ _ rfl (hP.pure _ (by decide) _)
      refine ⟨?_,?_⟩
      · intro done f W hP hdn hd K hK
        clear hd
        have qx:W.heap[X]? = some (.cells #[.int .u64 (l.c:Nat),.int .u64 (l.j:Nat),.int .u64 (nu:Nat),.bool b] 166):=F.Two.any (R:=fun W=>W.heap[X]? = some (.cells #[.int .u64 (l.c:Nat),.int .u64 (l.j:Nat),.int .u64 (nu:Nat),.bool b] 166)) (fun W h=>h.dv.at' (p:=(X,(.cells #[.int .u64 (l.c:Nat),.int .u64 (l.j:Nat),.int .u64 (nu:Nat),.bool b] 166))) (by simp)) (fun W h=>h.dv.at' (p:=(X,(.cells #[.int .u64 (l.c:Nat),.int .u64 (l.j:Nat),.int .u64 (nu:Nat),.bool b] 166))) (by simp)) hP
        have q0:=F.cell_of qx 0
        replace q0:W.cell? ⟨X,0,none⟩ = some (.int .u64 (l.c:Nat)):=q0
        have q1:=F.cell_of qx 1
        replace q1:W.cell? ⟨X,1,none⟩ = some (.int .u64 (l.j:Nat)):=q1
        have q2:=F.cell_of qx 2
        replace q2:W.cell? ⟨X,2,none⟩ = some (.int .u64 (nu:Nat)):=q2
        have q3:=F.cell_of qx 3
        replace q3:W.cell? ⟨X,3,none⟩ = some (.bool b):=q3
        go_simp
        exact hK _ _ rfl (hP.pure _ (by decide) _)
      refine ⟨?_,?_⟩
      · intro done f W hP hdn hd K hK
        have d7:=(hd.1 rfl).2
        have e7:done 7 = true:=(hd.1 rfl).1
        clear hd
        replace d7:f 7 = .agg #[.int .u64 (l.c:Nat),.int .u64 (l.j:Nat),.int .u64 (nu:Nat),.bool b]:=d7
        generalize f 7 = x7 at *
        subst d7
        clear e7
        have hpk:=HPK.out W
        go_simp
        refine Calls.mono hpk ?_
        rintro er W' ⟨rfl,hb⟩
        exact hK _ _ rfl (hP.below (by decide) (fun h=>h.below hb) (fun h=>h.below hb) _)
      refine ⟨?_,?_⟩
      · intro done f W hP hdn hd K hK
        have d3:=(hd.1 rfl).2
        have e3:done 3 = true:=(hd.1 rfl).1
        have d6:=(hd.2.1 rfl).2
        have e6:done 6 = true:=(hd.2.1 rfl).1
        have d8:=(hd.2.2.1 rfl).2
        have e8:done 8 = true:=(hd.2.2.1 rfl).1
        clear hd
        replace d3:f 3 = .pointer (some ⟨l.M,0,none⟩):=d3
        replace d6:f 6 = .int .i64 ((1 + i * l.p:Nat):Int):=d6
        replace d8:f 8 = .string (Hd.mk l.c l.j nu b).sec:=d8
        generalize f 3 = x3 at *
        subst d3
        clear e3
        generalize f 6 = x6 at *
        subst d6
        clear e6
        generalize f 8 = x8 at *
        subst d8
        clear e8
        have hap:=HWR.out X W (hP.a hdn)
        go_simp
        refine Calls.mono hap ?_
        rintro er W' ⟨rfl,hB⟩
        exact hK _ _ trivial (hP.turn hB _)
      trivial
  case hputa=>
    repeat (refine ⟨fun f v=>rfl,?_⟩)
    trivial
  case stepa=>
    refine ⟨?_,?_⟩
    · intro done f W hP hdn hd K hK
      clear hd
      go_simp
      exact hK _ _ rfl (hP.pure (by decide) (by decide))
    refine ⟨?_,?_⟩
    · intro done f W hP hdn hd K hK
      have d0:=(hd.1 rfl).2
      have e0:done 0 = true:=(hd.1 rfl).1
      clear hd
      replace d0:f 0 = .pointer (some ⟨Lb,0,none⟩):=d0
      generalize f 0 = x0 at *
      subst d0
      clear e0
      go_simp
      exact hK _ _ rfl (hP.pure (by decide) (by decide))
    refine ⟨?_,?_⟩
    · intro done f W hP hdn hd K hK
      have d1:=(hd.1 rfl).2
      have e1:done 1 = true:=(hd.1 rfl).1
      clear hd
      replace d1:f 1 = .pointer (some ⟨Lb,0,none⟩):=d1
      generalize f 1 = x1 at *
      subst d1
      clear e1
      go_simp
      exact hK _ _ rfl (hP.pure (by decide) (by decide))
    refine ⟨?_,?_⟩
    · intro done f W hP hdn hd K hK
      have d2:=(hd.1 rfl).2
      have e2:done 2 = true:=(hd.1 rfl).1
      clear hd
      replace d2:f 2 = .pointer (some ⟨Lb,1,none⟩):=d2
      generalize f 2 = x2 at *
      subst d2
      clear e2
      have qb:W.heap[Lb]? = some (.cells (l.cs v) 128):=hP.any (D:=fun W=>W.heap[Lb]? = some (.cells (l.cs v) 128)) (fun e=>by rw [e]; exact HB8.out) (fun e=>by rw [e]; exact HB9.out) (fun e=>by rw [e]; exact HBA.out)
      have q:W.cell? ⟨Lb,1,none⟩ = some (.int .u64 (l.c:Nat)):=F.cell_of qb 1
      go_simp
      exact hK _ _ rfl (hP.pure (by decide) (by decide))
    refine ⟨?_,?_⟩
    · intro done f W hP hdn hd K hK
      clear hd
      go_simp
      exact hK _ _ rfl (hP.pure (by decide) (by decide))
    refine ⟨?_,?_⟩
    · intro done f W hP hdn hd K hK
      have d4:=(hd.1 rfl).2
      have e4:done 4 = true:=(hd.1 rfl).1
      clear hd
      replace d4:f 4 = .pointer (some ⟨Lb,0,none⟩):=d4
      generalize f 4 = x4 at *
      subst d4
      clear e4
      go_simp
      exact hK _ _ rfl (hP.pure (by decide) (by decide))
    refine ⟨?_,?_⟩
    · intro done f W hP hdn hd K hK
      have d5:=(hd.1 rfl).2
      have e5:done 5 = true:=(hd.1 rfl).1
      clear hd
      replace d5:f 5 = .pointer (some ⟨Lb,0,none⟩):=d5
      generalize f 5 = x5 at *
      subst d5
      clear e5
      go_simp
      exact hK _ _ rfl (hP.pure (by decide) (by decide))
    refine ⟨?_,?_⟩
    · intro done f W hP hdn hd K hK
      have d6:=(hd.1 rfl).2
      have e6:done 6 = true:=(hd.1 rfl).1
      clear hd
      replace d6:f 6 = .pointer (some ⟨Lb,2,none⟩):=d6
      generalize f 6 = x6 at *
      subst d6
      clear e6
      have qb:W.heap[Lb]? = some (.cells (l.cs v) 128):=hP.any (D:=fun W=>W.heap[Lb]? = some (.cells (l.cs v) 128)) (fun e=>by rw [e]; exact HB8.out) (fun e=>by rw [e]; exact HB9.out) (fun e=>by rw [e]; exact HBA.out)
      have q:W.cell? ⟨Lb,2,none⟩ = some (.int .u64 (l.j:Nat)):=F.cell_of qb 2
      go_simp
      exact hK _ _ rfl (hP.pure (by decide) (by decide))
    refine ⟨?_,?_⟩
    · intro done f W hP hdn hd K hK
      clear hd
      go_simp
      exact hK _ _ rfl (hP.pure (by decide) (by decide))
    refine ⟨?_,?_⟩
    · intro done f W hP hdn hd K hK
      clear hd
      go_simp
      exact hK _ _ rfl (hP.pure (by decide) (by decide))
    refine ⟨?_,?_⟩
    · intro done f W hP hdn hd K hK
      have d3:=(hd.1 rfl).2
      have e3:done 3 = true:=(hd.1 rfl).1
      have d7:=(hd.2.1 rfl).2
      have e7:done 7 = true:=(hd.2.1 rfl).1
      have d8:=(hd.2.2.1 rfl).2
      have e8:done 8 = true:=(hd.2.2.1 rfl).1
      have d9:=(hd.2.2.2.1 rfl).2
      have e9:done 9 = true:=(hd.2.2.2.1 rfl).1
      clear hd
      replace d3:f 3 = .int .u64 (l.c:Nat):=d3
      replace d7:f 7 = .int .u64 (l.j:Nat):=d7
      replace d8:f 8 = .int .u64 (nu:Nat):=d8
      replace d9:f 9 = .bool b:=d9
      generalize f 3 = x3 at *
      subst d3
      clear e3
      generalize f 7 = x7 at *
      subst d7
      clear e7
      generalize f 8 = x8 at *
      subst d8
      clear e8
      generalize f 9 = x9 at *
      subst d9
      clear e9
      go_simp
      exact hK _ _ rfl (hP.pure (by decide) (by decide))
    refine ⟨?_,?_⟩
    · intro done f W hP hdn hd K hK
      clear hd
      have hA:=hP.a hdn
      have hB:=hP.one (g:=F.upd f 11 (.pointer (some ⟨w8.heap.size,0,none⟩))) (W':=w8.alloc (.cells #[.int .u64 0,.int .u64 0,.int .u64 0,.bool false] 166)) (by decide) hdn rfl
      subst hA
      go_simp
      exact hK _ _ rfl hB
    refine ⟨?_,?_⟩
    · intro done f W hP hdn hd K hK
      have d11:=(hd.1 rfl).2
      have e11:done 11 = true:=(hd.1 rfl).1
      have d10:=(hd.2.1 rfl).2
      have e10:done 10 = true:=(hd.2.1 rfl).1
      clear hd
      replace d11:f 11 = .pointer (some ⟨w8.heap.size,0,none⟩):=d11
      replace d10:f 10 = .agg #[.int .u64 (l.c:Nat),.int .u64 (l.j:Nat),.int .u64 (nu:Nat),.bool b]:=d10
      generalize f 11 = x11 at *
      subst d11
      generalize f 10 = x10 at *
      subst d10
      clear e10
      have e11:done 11 = true:=e11
      have hB:=hP.b e11 hdn
      have hC:=hP.two (g:=F.upd f 12 (.bool false)) (W':=w8.alloc (.cells #[.int .u64 (l.c:Nat),.int .u64 (l.j:Nat),.int .u64 (nu:Nat),.bool b] 166)) (by decide) e11 rfl
      subst hB
      go_simp
      exact hK (.bool false) _ trivial hC
    trivial
end Go.Proofs.YtncfbocbigdhiaaGreat.U

/- Start, and Append, of a log, as calls. -/
namespace Go.Proofs.YtncfbocbigdhiaaGreat.U
open Go Go.RowKit
section
variable {T:Nat} {w:World} {L:F.Loc} {q:Int} {n Lb:Nat} {l:Lg} {v:Value} {ol rest:List (Nat × Obj)} {now su:Nat → ByteArray} {c:Int} {W W':World}
set_option maxRecDepth 100000 in
theorem start_no (h:LgI T w L q n Lb l v ol rest now su c W) (hf:∀ i,i < l.ns → l.pt i ≠ none) :
    Calls Tryz.prog 43 #[.pointer (some ⟨Lb,0,none⟩)] W fun e w'=>e = .returned (.bool false) ∧ w' = W:=by
  have q4:W.cell? ⟨Lb,4,none⟩ = some (.slice (some ⟨l.G,0,none⟩) l.ns l.ns):=F.cell_of h.lz.b 4
  have hx:=index_no h.lz.g h.ok.n1 hf
  clear h hf
  go_enter Tryz.func43,Tryz.ntmps43
  go_wp2_with fail
  go_call hx as e w1 ⟨rfl,rfl⟩
  clear hx
  go_wp2
  go_returns
  exact ⟨rfl,rfl⟩
set_option maxHeartbeats 1000000 in
set_option maxRecDepth 100000 in
theorem start_yes (h:LgI T w L q n Lb l v ol rest now su c W) (k:Nat) (hk:k < l.ns) (hf:l.pt k = none) (hlt:∀ i,i < k → l.pt i ≠ none) (hm:l.m + 1 < 18446744073709551616) (hfit:1 + k * l.p < n) (hn1:n ≤ 1000) (hc:c ≤ 50000000) :
    Calls Tryz.prog 43 #[.pointer (some ⟨Lb,0,none⟩)] W fun e w'=>e = .returned (.bool true) ∧ ∃ S v' ol',LgI T w L q n Lb (l.up k S (l.m + 1)) v' ol' rest (F.lay now (1 + k * l.p) (Hd.mk l.c l.j (l.m + 1) false).sec 1) (F.lay now (1 + k * l.p) (Hd.mk l.c l.j (l.m + 1) false).sec 1) (c + 2) w':=by
  have q4:W.cell? ⟨Lb,4,none⟩ = some (.slice (some ⟨l.G,0,none⟩) l.ns l.ns):=F.cell_of h.lz.b 4
  have q6:W.cell? ⟨Lb,6,none⟩ = some (.int .u64 (l.m:Nat)):=F.cell_of h.lz.b 6
  have hx:=index_any h.lz.g h.ok.n1 k hk hf hlt
  have hw:=write_any h k (l.m + 1) false hk ⟨h.ok.c,h.ok.j,by show 1 ≤ l.m + 1; omega,hm⟩ hfit hn1 hc
  have hn1000:=h.ok.n1
  have HH:Hid (k < l.ns ∧ l.pt k = none ∧ l.m + 1 < 18446744073709551616):=⟨hk,hf,hm⟩
  have hkI:¬ (k:Int) < 0:=by omega
  have hmI:((l.m + 1:Nat):Int) = (l.m:Int) + 1:=by omega
  rw [hmI] at hw
  clear h hf hlt hfit hn1 hc
  go_enter Tryz.func43,Tryz.ntmps43
  go_wp2_with fail
  go_call hx as e w1 ⟨rfl,rfl⟩
  clear hx
  go_wp2_with fail
  go_call hw as e w2 ⟨rfl,h2⟩
  have he:=enter_any h2 k (l.m + 1) HH.out.1 HH.out.2.1 HH.out.2.2 (by have:=HH.out.2.2; omega)
  rw [hmI] at he
  clear hw h2 q4 q6
  go_wp2_with fail
  go_call he as e w3 ⟨rfl,h3⟩
  have H3:Hid _:=h3
  clear he h3
  go_wp2
  go_returns
  exact ⟨rfl,H3.out⟩
def Lg.to (l:Lg) (i a:Nat):Lg:={ l with a:=fun k=>if k = i then a else l.a k }
theorem Lg.to_mem {l:Lg} {i a:Nat} {p:Nat × Obj} (hp:p ∈ (l.to i a).objs):p = ((l.pt i).getD 0,.cells (Sg.cs { l.sg i with a:=a }) 44) ∨ ∃ k ∈ l.lv,k ≠ i ∧ p = ((l.pt k).getD 0,.cells (l.sg k).cs 44):=by
  unfold Lg.objs at hp
  obtain ⟨k,hk,rfl⟩:=List.mem_map.1 hp
  show ((l.pt k).getD 0,Obj.cells (Sg.cs ⟨l.M,l.c,l.j,l.nu k,1 + k * l.p,l.p,if k = i then a else l.a k⟩) 44) = _ ∨ _
  by_cases e:k = i
  · subst e
    left
    rw [if_pos rfl]
    rfl
  · right
    refine ⟨k,hk,e,?_⟩
    show ((l.pt k).getD 0,Obj.cells (Sg.cs ⟨l.M,l.c,l.j,l.nu k,1 + k * l.p,l.p,if k = i then a else l.a k⟩) 44) = _
    rw [if_neg e]
    rfl
theorem LgI.append (h:LgI T w L q n Lb l v ol rest now now c W) (i S:Nat) (hi:i ∈ l.lv) (hS:l.pt i = some S) (x:ByteArray) (k:Nat) (hk:1 ≤ k) (hroom:l.a i + k < l.p) (hx:x.size = 63 * k) (hfit:1 + i * l.p + l.p ≤ n) (hn1:n ≤ 1000) (hnu:l.nu i < 18446744073709551616) (hc:c ≤ 50000000) :
    Calls Tryz.prog 17 #[.pointer (some ⟨S,0,none⟩),.string x] W fun e w'=>e = .returned (.int .i64 (l.a i:Nat)) ∧ LgI T w L q n Lb (l.to i (l.a i + 1 + k)) v ol rest (layC now (l.sg i) x k) (layC now (l.sg i) x k) (c + 100) w':=by
  obtain ⟨oth,hoth⟩:∃ oth,oth = (Lb,Obj.cells (l.cs v) 128) :: (l.G,Obj.cells l.row 28) :: (ol ++ ((l.lv.filter (fun k=>decide (k ≠ i))).map (fun k=>((l.pt k).getD 0,Obj.cells (l.sg k).cs 44)) ++ rest)):=⟨_,rfl⟩
  have hSm:(S,Obj.cells (l.sg i).cs 44) ∈ l.objs:=by
    unfold Lg.objs
    exact List.mem_map.2 ⟨i,hi,by rw [hS]; rfl⟩
  have hsub:∀ p ∈ oth,p ∈ (Lb,Obj.cells (l.cs v) 128) :: (l.G,Obj.cells l.row 28) :: (ol ++ (l.objs ++ rest)):=by
    intro p hp
    rw [hoth] at hp
    simp only [List.mem_cons,List.mem_append] at hp ⊢
    rcases hp with hp | hp | hp | hp | hp
    · simp [hp]
    · simp [hp]
    · simp [hp]
    · obtain ⟨k2,h1,h2⟩:=List.mem_map.1 hp
      have:=(List.mem_filter.1 h1).1
      right; right; right; left
      unfold Lg.objs
      exact List.mem_map.2 ⟨k2,this,h2⟩
    · simp [hp]
  have hSall:(S,Obj.cells (l.sg i).cs 44) ∈ (Lb,Obj.cells (l.cs v) 128) :: (l.G,Obj.cells l.row 28) :: (ol ++ (l.objs ++ rest)):=by simp [hSm]
  have hne:∀ p ∈ oth,p.1 ≠ S:=by
    intro p hp
    have hp2:=hsub p hp
    rw [hoth] at hp
    simp only [List.mem_cons,List.mem_append] at hp
    rcases hp with rfl | rfl | hp | hp | hp
    · exact h.dv.ne hp2 hSall (cells_ne (by decide))
    · exact h.dv.ne hp2 hSall (cells_ne (by decide))
    · obtain ⟨c',hc'⟩:=Plc.ty h.pl p hp
      exact h.dv.ne hp2 hSall (by rw [hc']; exact cells_ne (by decide))
    · obtain ⟨k2,h1,rfl⟩:=List.mem_map.1 hp
      obtain ⟨h3,h4⟩:=List.mem_filter.1 h1
      have h5:k2 ≠ i:=by simpa using h4
      obtain ⟨S2,s1,_⟩:=h.lz.s k2 h3
      show (l.pt k2).getD 0 ≠ S
      rw [s1]
      intro e
      exact h5 (h.inj k2 h3 i hi (by rw [s1,hS]; exact congrArg some e))
    · exact fun e=>h.ap (S,Obj.cells (l.sg i).cs 44) (by simp [hSm]) p hp e.symm
  have hd:=h.dv.forget (oth':=(S,.cells (l.sg i).cs 44) :: oth) (by
    intro p hp
    rcases List.mem_cons.1 hp with rfl | hp
    · exact hSall
    · exact hsub p hp)
  have hil:=h.ok.lt i hi
  have hat:=h.ok.at1 i hi
  have hb:1 + i * l.p ≤ 10000:=by omega
  refine (dev_append (l.sg i) hd (by rw [hoth]; simp [Lg.sg,h.md]) hne ⟨h.ok.c,h.ok.j,hnu,hb,h.ok.p0,h.ok.p1,hat.1,hat.2⟩ x k hk hroom hx hfit hn1 (by omega)).mono ?_
  rintro e w' ⟨rfl,hd2⟩
  refine ⟨rfl,⟨h.ok.p0,h.ok.p1,h.ok.n0,h.ok.n1,h.ok.lt,h.ok.ln,fun k2 hk2=>?_,h.ok.c,h.ok.j⟩,h.pl,hd2.forget ?_,h.md,h.pn,h.nd,h.inj,?_,h.h5⟩
  · show 1 ≤ (if k2 = i then l.a i + 1 + k else l.a k2) ∧ (if k2 = i then l.a i + 1 + k else l.a k2) ≤ l.p
    by_cases e:k2 = i
    · rw [if_pos e]; omega
    · rw [if_neg e]; exact h.ok.at1 k2 hk2
  · intro p hp
    rw [hoth]
    simp only [List.mem_cons,List.mem_append] at hp ⊢
    rcases hp with hp | hp | hp | hp | hp
    · right; left; exact hp
    · right; right; left; exact hp
    · simp [hp]
    · rcases Lg.to_mem hp with rfl | ⟨k2,h1,h2,rfl⟩
      · left
        rw [hS]; rfl
      · right; right; right; right; left
        exact List.mem_map.2 ⟨k2,List.mem_filter.2 ⟨h1,by simpa using h2⟩,rfl⟩
    · simp [hp]
  · intro p hp r hr
    simp only [List.mem_cons,List.mem_append] at hp
    rcases hp with rfl | rfl | hp | hp
    · exact h.ap (Lb,Obj.cells (l.cs v) 128) (by simp) r hr
    · exact h.ap (l.G,Obj.cells l.row 28) (by simp) r hr
    · exact h.ap p (by simp [hp]) r hr
    · rcases Lg.to_mem hp with rfl | ⟨k2,h1,h2,rfl⟩
      · show (l.pt i).getD 0 ≠ r.1
        rw [hS]
        exact h.ap (S,Obj.cells (l.sg i).cs 44) (by simp [hSm]) r hr
      · refine h.ap ((l.pt k2).getD 0,Obj.cells (l.sg k2).cs 44) ?_ r hr
        simp only [List.mem_cons,List.mem_append]
        right; right; right
        unfold Lg.objs
        exact List.mem_map.2 ⟨k2,h1,rfl⟩
theorem LgI.off {B:Nat} {o o':Obj} (h:LgI T w L q n Lb l v ol ((B,o) :: rest) now su c W) (hne:∀ p ∈ rest,p.1 ≠ B) (hm:(l.M,F.med L.P 1 q) ∈ rest) (k:Off B W W') (hb:W'.heap[B]? = some o') (ho:F.Obj.apart o') (h5:∀ c fz,o' ≠ .cells c 5 fz):LgI T w L q n Lb l v ol ((B,o') :: rest) now su c W':=by
  have hd:=(h.dv.forget (oth':=(B,o) :: ((Lb,.cells (l.cs v) 128) :: (l.G,.cells l.row 28) :: (ol ++ (l.objs ++ rest)))) (by
    intro p hp
    simp only [List.mem_cons,List.mem_append] at hp ⊢
    rcases hp with hp | hp | hp | hp | hp | hp <;> simp [hp])).off (by
    intro p hp
    simp only [List.mem_cons,List.mem_append] at hp
    rcases hp with rfl | rfl | hp | hp | hp
    · exact h.ap (Lb,Obj.cells (l.cs v) 128) (by simp) (B,o) (by simp)
    · exact h.ap (l.G,Obj.cells l.row 28) (by simp) (B,o) (by simp)
    · exact h.ap p (by simp [hp]) (B,o) (by simp)
    · exact h.ap p (by simp [hp]) (B,o) (by simp)
    · exact hne p hp) k hb ho
  refine ⟨h.ok,h.pl,hd.forget ?_,List.mem_cons_of_mem _ hm,h.pn,h.nd,h.inj,fun p hp r hr=>?_,fun p hp=>?_⟩
  · intro p hp
    simp only [List.mem_cons,List.mem_append] at hp ⊢
    rcases hp with hp | hp | hp | hp | hp | hp <;> simp [hp]
  · rcases List.mem_cons.1 hr with rfl | hr
    · exact h.ap p hp (B,o) (by simp)
    · exact h.ap p hp r (by simp [hr])
  · rcases List.mem_cons.1 hp with rfl | hp
    · exact h5
    · exact h.h5 p (by simp [hp])
theorem size77:(Tryz.prog.info? 77).map (·.size) = some 3:=by kernel_rfl
set_option maxHeartbeats 1000000 in
set_option maxRecDepth 100000 in
theorem append_any (h:LgI T w L q n Lb l v ol rest now now c W) (i:Nat) (hl:0 < l.lv.length) (hi:l.lv[l.lv.length - 1] = i) (x:ByteArray) (k:Nat) (hk:1 ≤ k) (hroom:l.a i + k < l.p) (hx:x.size = 63 * k) (hfit:1 + i * l.p + l.p ≤ n) (hn1:n ≤ 1000) (hnu:l.nu i < 18446744073709551616) (hc:c ≤ 50000000) :
    Calls Tryz.prog 45 #[.pointer (some ⟨Lb,0,none⟩),.string x] W fun e w'=>e = .returned (.agg #[.int .i64 (i:Nat),.int .i64 (l.a i:Nat),.int .i64 (k:Nat)]) ∧ LgI T w L q n Lb (l.to i (l.a i + 1 + k)) v ol rest (layC now (l.sg i) x k) (layC now (l.sg i) x k) (c + 100) w':=by
  have him:i ∈ l.lv:=by rw [← hi]; exact List.getElem_mem _
  obtain ⟨S,hS,_⟩:=h.lz.s i him
  have hil:=h.ok.lt i him
  have hn1000:=h.ok.n1
  obtain ⟨ao,cp,hv⟩:=h.pl.len
  have hal:=h.hold (.cells #[.int .i64 0,.int .i64 0,.int .i64 0] 77) (F.apart_of (by decide)) (fun _ _=>cells_ne2 (by decide))
  have q5:(W.alloc (.cells #[.int .i64 0,.int .i64 0,.int .i64 0] 77)).cell? ⟨Lb,5,none⟩ = some (.slice ao l.lv.length cp):=by rw [← hv]; exact F.cell_of hal.lz.b 5
  have hcu:=current_any hal.lz hl (by have:=h.ok.ln; omega)
  rw [hi] at hcu
  have hlI:¬ (l.lv.length:Int) = 0:=by omega
  have HH:Hid (i ∈ l.lv ∧ l.pt i = some S ∧ l.a i + k < l.p ∧ x.size = 63 * k ∧ 1 + i * l.p + l.p ≤ n ∧ n ≤ 1000 ∧ l.nu i < 18446744073709551616 ∧ c ≤ 50000000 ∧ 1 ≤ k):=⟨him,hS,hroom,hx,hfit,hn1,hnu,hc,hk⟩
  have hat:=h.ok.at1 i him
  have hp1:=h.ok.p1
  have hxs:((x.size:Nat):Int) / 63 = (k:Int):=by omega
  have hx2:x.size ≤ 100000:=by omega
  have hsr:=l.row_get i hil
  rw [hS] at hsr
  have HSR:Hid (l.row[i]? = some (.pointer (some ⟨S,0,none⟩))):=hsr
  have HAL:Hid (LgI T w L q n Lb l v ol ((W.heap.size,.cells #[.int .i64 0,.int .i64 0,.int .i64 0] 77) :: rest) now now c (W.alloc (.cells #[.int .i64 0,.int .i64 0,.int .i64 0] 77))):=hal
  have HMD:Hid ((l.M,F.med L.P 1 q) ∈ rest):=h.md
  have HLT:Hid (∀ p ∈ rest,p.1 < W.heap.size):=fun p hp=>h.dv.lts p (by simp [hp])
  have hai:l.a i ≠ 0:=by omega
  have haI:¬ (l.a i:Int) = 0:=by omega
  have hilI:(i:Int) < (l.ns:Int):=by omega
  clear h hal hi hroom hx hfit hn1 hnu hc hS hsr
  go_enter Tryz.func45,Tryz.ntmps45
  go_wp2_with fail
  go_call hcu as e w1 ⟨rfl,hb1⟩
  have h1:=HAL.out.below hb1
  have q4:w1.cell? ⟨Lb,4,none⟩ = some (.slice (some ⟨l.G,0,none⟩) l.ns l.ns):=F.cell_of h1.lz.b 4
  have qg:w1.cell? ⟨l.G,i,none⟩ = some (.pointer (some ⟨S,0,none⟩)):=by rw [F.cell_of h1.lz.g i]; exact HSR.out
  have hap:=h1.append i S HH.out.1 HH.out.2.1 x k HH.out.2.2.2.2.2.2.2.2 HH.out.2.2.1 HH.out.2.2.2.1 HH.out.2.2.2.2.1 HH.out.2.2.2.2.2.1 HH.out.2.2.2.2.2.2.1 HH.out.2.2.2.2.2.2.2.1
  clear hcu hb1 h1 q5
  go_wp2_with fail
  go_call hap as e w2 ⟨rfl,h2⟩
  have hx3:=h2.dv.at' (p:=(W.heap.size,.cells #[.int .i64 0,.int .i64 0,.int .i64 0] 77)) (by simp)
  replace hx3:w2.heap[W.heap.size]? = some (.cells #[.int .i64 0,.int .i64 0,.int .i64 0] 77):=hx3
  have c0:w2.cell? ⟨W.heap.size,0,none⟩ = some (.int .i64 0):=F.cell_of hx3 0
  have c1:w2.cell? ⟨W.heap.size,1,none⟩ = some (.int .i64 0):=F.cell_of hx3 1
  have c2:w2.cell? ⟨W.heap.size,2,none⟩ = some (.int .i64 0):=F.cell_of hx3 2
  have f0:=F.frz_of hx3 0
  have f1:=F.frz_of hx3 1
  have f2:=F.frz_of hx3 2
  have H2:Hid (LgI T w L q n Lb (l.to i (l.a i + 1 + k)) v ol ((W.heap.size,.cells #[.int .i64 0,.int .i64 0,.int .i64 0] 77) :: rest) (layC now (l.sg i) x k) (layC now (l.sg i) x k) (c + 100) w2):=h2
  clear hap h2 q4 qg
  go_wp2
  have s0:=F.block_set (i:=0) hx3 (.int .i64 (i:Nat))
  have s1:=F.block_set (i:=1) s0 (.int .i64 (l.a i:Nat))
  have s2:=F.block_set (i:=2) s1 (.int .i64 (k:Nat))
  have h3:=(H2.out.off (fun p hp=>by have:=HLT.out p hp; omega) HMD.out (((Off.refl W.heap.size w2).set 0 (.int .i64 (i:Nat))).set 1 (.int .i64 (l.a i:Nat)) |>.set 2 (.int .i64 (k:Nat))) s2 (F.apart_of (by decide)) (fun _ _=>cells_ne2 (by decide))).drop HMD.out (fun p hp=>List.mem_cons_of_mem _ hp)
  refine bodyPost_ret (results_cell_row Tryz.results45 _ _ W.heap.size 77 #[.int .i64 (i:Nat),.int .i64 (l.a i:Nat),.int .i64 (k:Nat)] (0,0) _ rfl s2 Tryz.underlying77 rfl (by rw [size77]; rfl)) rfl ⟨rfl,h3⟩
end
end Go.Proofs.YtncfbocbigdhiaaGreat.U

/- That the library's text of slices.Delete, Clone and of the insertion sort by a comparison stands in this program, with which numbers. -/
namespace Go.Proofs
open Go.Shelf
def Tryz.laysNm215_ren:Go.Shelf.Ren:=⟨fun | 15=>90 | n=>n,fun | 22=>31 | 3=>3 | 4=>4 | n=>n,fun | n=>n⟩
theorem Tryz.laysNm215:Go.Proofs.Lays2.n15 Tryz.prog Tryz.laysNm215_ren:={
  mixed:=by kernel_rfl
  f15:=Tryz.func90.trans (congrArg some (by kernel_rfl))
  t3:=Tryz.underlying3
  a3:=Tryz.isAgg3
  z3:=Tryz.sizeOf3
  v3:=Tryz.zeroValue3
  t4:=Tryz.underlying4
  a4:=Tryz.isAgg4
  z4:=Tryz.sizeOf4
  v4:=Tryz.zeroValue4
  t22:=Tryz.underlying31
  a22:=Tryz.isAgg31
  z22:=Tryz.sizeOf31
  v22:=Tryz.zeroValue31
  i3:=by kernel_rfl }
open Go.RowKit Go.Lib in
theorem Tryz.slices_Clone_int (b off n c:Nat) (zs:List Int) (w:World) (hz:n ≤ zs.length) (hbig:n * 8 ≤ 140737488355328) (hc:∀ j,j < zs.length → w.cell? ⟨b,off + j,none⟩ = some (.int .i64 (zs.getD j 0))) :
    Calls Tryz.prog 90 #[.slice (some ⟨b,off,none⟩) n c] w fun e w'=>∃ v',e = .returned v' ∧ w'.ownsRow w.heap.size 3 1 v' n ((zs.take n).map (Value.int .i64)) ∧ v' ≠ .slice none 0 0 ∧ Below w.heap.size w w':=Any.slices_Clone_int Tryz.laysNm215 b off n c zs w hz hbig hc
open Go.RowKit Go.Lib in
theorem Tryz.slices_Clone_int_nil (n c:Nat) (w:World) :
    Calls Tryz.prog 90 #[.slice none n c] w fun e w'=>e = .returned (.slice none 0 0) ∧ w' = w:=Any.slices_Clone_int_nil Tryz.laysNm215 n c w
def Tryz.laysNm223_ren:Go.Shelf.Ren:=⟨fun | 23=>89 | n=>n,fun | 22=>31 | 3=>3 | 4=>4 | 0=>0 | n=>n,fun | n=>n⟩
theorem Tryz.laysNm223:Go.Proofs.Lays2.n23 Tryz.prog Tryz.laysNm223_ren:={
  mixed:=by kernel_rfl
  f23:=Tryz.func89.trans (congrArg some (by kernel_rfl))
  t0:=Tryz.underlying0
  a0:=Tryz.isAgg0
  z0:=Tryz.sizeOf0
  v0:=Tryz.zeroValue0
  t3:=Tryz.underlying3
  a3:=Tryz.isAgg3
  z3:=Tryz.sizeOf3
  v3:=Tryz.zeroValue3
  t4:=Tryz.underlying4
  a4:=Tryz.isAgg4
  z4:=Tryz.sizeOf4
  v4:=Tryz.zeroValue4
  t22:=Tryz.underlying31
  a22:=Tryz.isAgg31
  z22:=Tryz.sizeOf31
  v22:=Tryz.zeroValue31
  i3:=by kernel_rfl }
open Go.RowKit Go.Lib Go.Sort in
theorem Tryz.slices_Delete_int (blk off cap i j:Nat) (zs:List Int) (w:World) (hH:Holds (Value.int .i64) w blk off zs.toArray) (hcap:zs.length ≤ cap) (hm:cap ≤ 9223372036854775807) (hij:i ≤ j) (hj:j ≤ zs.length) :
    Calls Tryz.prog 89 #[.slice (some ⟨blk,off,none⟩) zs.length cap,.int .i64 i,.int .i64 j] w fun e w'=>e = .returned (.slice (some ⟨blk,off,none⟩) (zs.length - (j - i)) cap) ∧ ∃ q,w' = putRow (Value.int .i64) (Sort.ahead w q) blk off (zs.take i ++ zs.drop j ++ List.replicate (j - i) 0).toArray:=Any.slices_Delete_int Tryz.laysNm223 blk off cap i j zs w hH hcap hm hij hj
def Tryz.laysSlF20_f166_ren:Go.Shelf.Ren:=⟨fun | 20=>166 | n=>n,fun | 24=>3 | 22=>31 | 3=>3 | 25=>162 | 4=>4 | 0=>0 | n=>n,fun | n=>n⟩
theorem Tryz.laysSlF20_f166:Go.Proofs.SlLaysF.n20 Tryz.prog Tryz.laysSlF20_f166_ren:={
  mixed:=by kernel_rfl
  f20:=⟨Tryz.f166.name,by decide,Tryz.func166.trans (congrArg some (by kernel_rfl))⟩
  t0:=Tryz.underlying0
  a0:=Tryz.isAgg0
  z0:=Tryz.sizeOf0
  v0:=Tryz.zeroValue0
  t3:=Tryz.underlying3
  a3:=Tryz.isAgg3
  z3:=Tryz.sizeOf3
  v3:=Tryz.zeroValue3
  t4:=Tryz.underlying4
  a4:=Tryz.isAgg4
  z4:=Tryz.sizeOf4
  v4:=Tryz.zeroValue4
  t22:=Tryz.underlying31
  a22:=Tryz.isAgg31
  z22:=Tryz.sizeOf31
  v22:=Tryz.zeroValue31
  a24:=Tryz.isAgg3
  z24:=Tryz.sizeOf3
  t25:=Tryz.underlying162
  a25:=Tryz.isAgg162
  z25:=Tryz.sizeOf162
  v25:=Tryz.zeroValue162 }
open Go.RowKit Go.Lib Go.Sort in
theorem Tryz.insertionSortCmpFunc_one {α:Type} [Inhabited α] (enc:α → Value) (hO:OneCell enc) (cf:α → α → Int) (g:Nat) (cb:Array Value) (blk off cap a b:Nat) (d:Array α) (w:World) (eg:∀ args w,(callFunc g args).run Tryz.prog w = .ok (.enter g args) w) (hcmp:CmpReads Tryz.prog g cb enc cf blk off d.size w) (hH:Holds enc w blk off d) (hab:a ≤ b) (hb:b ≤ d.size) (hsz:d.size < 4611686018427387904) :
    Calls Tryz.prog 166 #[.slice (some ⟨blk,off,none⟩) d.size cap,.int .i64 a,.int .i64 b,.func (.func g) #[] cb] w fun e w'=>
      e = .returned (.tuple #[]) ∧ ∃ n,w' = (putRow enc w blk off (Sort.insertionSort (ltOf cf) d a b)).drewN n:=Any.insertionSortCmpFunc_one Tryz.laysSlF20_f166 enc hO cf g cb blk off cap a b d w eg hcmp hH hab hb hsz
end Go.Proofs
namespace Go.Proofs.YtncfbocbigdhiaaGreat.U
open Go Go.RowKit Go.Sort
theorem delete_any (blk cap j:Nat) (zs:List Int) (w:World) (hH:Holds (Value.int .i64) w blk 0 zs.toArray) (hcap:zs.length ≤ cap) (hm:cap ≤ 9223372036854775807) (hj:j + 1 ≤ zs.length) :
    Calls Tryz.prog 89 #[.slice (some ⟨blk,0,none⟩) zs.length cap,.int .i64 (j:Nat),.int .i64 ((j + 1:Nat):Int)] w fun e w'=>e = .returned (.slice (some ⟨blk,0,none⟩) (zs.length - 1) cap) ∧ ∃ q,w' = putRow (Value.int .i64) (Sort.ahead w q) blk 0 (zs.take j ++ zs.drop (j + 1) ++ [0]).toArray:=by
  have:=Tryz.slices_Delete_int blk 0 cap j (j + 1) zs w hH hcap hm (Nat.le_succ j) hj
  have e:j + 1 - j = 1:=by omega
  rw [e] at this
  exact this
end Go.Proofs.YtncfbocbigdhiaaGreat.U

/- Reclaim of a log, as a call. -/
namespace Go.Proofs.YtncfbocbigdhiaaGreat.U
open Go Go.RowKit Go.Sort
theorem erase_at:∀ (l:List Nat) (j:Nat) (h:j < l.length),l.Nodup → l.erase l[j] = l.take j ++ l.drop (j + 1)
  | [],j,h,_=>absurd h (Nat.not_lt_zero _)
  | a :: r,0,_,_=>by simp
  | a :: r,j + 1,h,hd=>by
    have hj:j < r.length:=by simpa using h
    have hne:a ≠ r[j]:=fun e=>(List.nodup_cons.1 hd).1 (e ▸ List.getElem_mem hj)
    have ih:=erase_at r j hj (List.nodup_cons.1 hd).2
    show (a :: r).erase r[j] = _
    rw [List.erase_cons_tail (by simpa using hne),ih]
    simp
def Lg.rm (l:Lg) (i:Nat):Lg:={ l with pt:=fun k=>if k = i then none else l.pt k,lv:=l.lv.erase i }
theorem Lg.rm_row (l:Lg) (i:Nat) (hi:i < l.ns):l.row.setIfInBounds i (.pointer none) = (l.rm i).row:=by
  apply Array.ext'
  unfold Lg.row
  rw [Array.toList_setIfInBounds]
  simp only [List.toList_toArray]
  apply List.ext_getElem?
  intro k
  rw [List.getElem?_set]
  show _ = ((List.range l.ns).map fun k=>ptr (if k = i then none else l.pt k))[k]?
  by_cases e:i = k
  · subst e
    rw [if_pos rfl,if_pos (by simp; exact hi),List.getElem?_map,List.getElem?_range hi]
    show _ = some (ptr (if i = i then none else l.pt i))
    rw [if_pos rfl]; rfl
  · rw [if_neg e,List.getElem?_map,List.getElem?_map]
    cases hk:(List.range l.ns)[k]? with
    | none=>rfl
    | some x=>
      have hx:x = k:=by
        obtain ⟨h1,h2⟩:=List.getElem?_eq_some_iff.1 hk
        rw [List.getElem_range] at h2
        exact h2.symm
      subst hx
      show some _ = some (ptr (if x = i then none else l.pt x))
      rw [if_neg (fun h=>e h.symm)]
theorem Lg.rm_objs {l:Lg} {i:Nat} (nd:l.lv.Nodup) {p:Nat × Obj} (hp:p ∈ (l.rm i).objs):p ∈ l.objs:=by
  unfold Lg.objs at hp ⊢
  obtain ⟨k,hk,rfl⟩:=List.mem_map.1 hp
  replace hk:k ∈ l.lv.erase i:=hk
  obtain ⟨h1,h2⟩:=(nd.mem_erase_iff).1 hk
  refine List.mem_map.2 ⟨k,h2,?_⟩
  show _ = ((if k = i then none else l.pt k).getD 0,_)
  rw [if_neg h1]
  rfl
section
variable {T:Nat} {w:World} {L:F.Loc} {q:Int} {n Lb:Nat} {l:Lg} {v:Value} {ol rest:List (Nat × Obj)} {now su:Nat → ByteArray} {c:Int} {W W':World}
set_option maxRecDepth 100000 in
theorem index88 (g cp j i:Nat) (xs:List Nat) (hx:xs.length ≤ 1000) (hc:∀ k (hk:k < xs.length),W.cell? ⟨g,k,none⟩ = some (nv xs[k])) (hj:j < xs.length) (hi:xs[j] = i) (hlt:∀ k (hk:k < j),xs[k]'(by omega) ≠ i) :
    Calls Tryz.prog 88 #[.slice (some ⟨g,0,none⟩) xs.length cp,.int .i64 (i:Nat)] W fun e w'=>e = .returned (.int .i64 (j:Nat)) ∧ w' = W:=by
  have HC:Hid _:=hc
  have HL:Hid _:=hlt
  have HI:Hid _:=hi
  clear hc hlt hi
  obtain ⟨m,hm⟩:∃ m,m = xs.length:=⟨_,rfl⟩
  have HM:Hid _:=hm
  rw [← hm] at hx hj ⊢
  clear hm
  go_enter Tryz.func88,Tryz.ntmps88
  go_wp2
  go_loopw [8] (fun iv wr=>∃ k:Nat,iv = .int .i64 (k:Nat) ∧ k ≤ j ∧ wr = W) (fun iv _=>m - (intOf iv).toNat)
  case atStart=>exact ⟨0,rfl,Nat.zero_le _,rfl⟩
  case round=>
    obtain ⟨k,rfl,hkj,rfl⟩:=hrel
    have hkm:k < m:=by omega
    have hq:=HC.out k (by rw [← HM.out]; exact hkm)
    obtain ⟨x,hx2⟩:∃ x,x = xs[k]'(by rw [← HM.out]; exact hkm):=⟨_,rfl⟩
    rw [← hx2] at hq
    unfold nv at hq
    by_cases e:k = j
    · have hxi:x = i:=by rw [hx2,← HI.out]; congr 1
      subst hxi
      subst e
      clear hx2
      go_wp2
      go_returns
      exact ⟨rfl,rfl⟩
    · have hxi:¬ (i:Int) = (x:Int):=by
        have:=HL.out k (by omega)
        rw [← hx2] at this
        omega
      clear hx2
      go_wp2
      go_roundw
      case rel=>exact ⟨k + 1,rfl,by omega,trivial⟩
      case measure=>simp only [intOf]; omega
end
end Go.Proofs.YtncfbocbigdhiaaGreat.U
