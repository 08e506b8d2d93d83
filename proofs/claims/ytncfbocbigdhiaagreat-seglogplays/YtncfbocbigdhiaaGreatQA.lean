/- Texts of this seat, one behind the other. -/
import Derived.Test.YtncfbocbigdhiaaGreatRows
import Derived.WalkKit
import Derived.WalkSpells
import Derived.WalkLawsBesides
import Derived.Handy
import Derived.Deep.AppendSrc
import Derived.Orders
import Derived.Laws.BitsAllLaws
import Derived.Deep.MidRow
/- A law on bytes that are appended to a slice that the call itself made: of another slice's bytes, of a string's, of noughts; what the slice then owns, and that nothing else was written; the condition is that there is room for them on a machine. -/
namespace Go.Proofs.YtncfbocbigdhiaaGreat.O
set_option maxRecDepth 100000
set_option maxRecDepth 100000
open Go.RowKit
theorem info5:(Tryz.prog.info? 5).map (fun i=>(i.zero,i.size,i.bytes)) = some (some (.int .u8 0),1,1):=by kernel_rfl
structure Sc (tx ty:TypeId) (x:Value) (m:Nat) (news:List Value) (w:World):Prop where
  len:news.length = m
  room:∀ (g sLen cap:Nat) (cur:Array Value),w.heap[g]? = some (.cells cur 5 (0,0)) → sLen + m ≤ cap → sLen + news.length ≤ cur.size →
    (Builtin.append_ #[75,tx] ty #[.slice (some ⟨g,0,none⟩) sLen cap,x]).run Tryz.prog w = .ok (.slice (some ⟨g,0,none⟩) (sLen + m) cap) (w.setRow g (cur.toList.take sLen ++ news ++ cur.toList.drop (sLen + news.length)).toArray)
  grow:∀ (b:Option Addr) (sLen cap:Nat) (olds:List Value),(Builtin.firstCells 1 sLen (.slice b sLen cap)).run Tryz.prog w.drew = .ok olds.toArray w.drew → cap < sLen + m → sLen + m ≤ 1000000 →
    (Builtin.append_ #[75,tx] ty #[.slice b sLen cap,x]).run Tryz.prog w = .ok (.slice (some ⟨w.heap.size,0,none⟩) (sLen + m) (grownCap w (sLen + m) cap 5))
        (w.drew.alloc (.cells ((olds ++ news).toArray ++ Builtin.zeroCells (Value.int .u8 0).cells (grownCap w (sLen + m) cap 5 - (sLen + m))) 5))
  none:m = 0 → (Builtin.append_ #[75,tx] ty #[.slice none 0 0,x]).run Tryz.prog w = .ok (.slice none 0 0) w
theorem Sc.ofSrc {tx ty:TypeId} {x:Value} {m:Nat} {news:List Value} {w:World} (hs:Src Tryz.prog 1 tx x m news w):Sc tx ty x m news w:=by
  obtain ⟨i,hi,hz,hsz,hby⟩:=info_parts info5
  have hl:news.length = m:=by rw [hs.newsLen,Nat.mul_one]
  refine ⟨hl,fun g sLen cap cur hg hroom hfit=>?_,fun b sLen cap olds hold hc hsm=>?_,fun hm=>?_⟩
  · have hst:=run_storeCells_at Tryz.prog g sLen 5 news 0 cur w hg (by simpa using hfit) hs.one
    simp only [Nat.add_zero] at hst
    rcases hs.kind with ⟨e',hk⟩ | hk <;> simp [Builtin.append_,run_underlying Tryz.underlying75,run_underlying hk,sizeOf,typeInfo,hi,hsz,hs.len,hroom,hs.cells,Addr.add_lit,hst]
  · have:=run_append_grow_src (P:=Tryz.prog) w 75 tx ty 5 i (.int .u8 0) Tryz.underlying75 hi hz b sLen cap olds (by rw [hsz]; exact hold) x m news (by rw [hsz]; exact hs) hc (by omega)
      (by rw [hby]; exact growslice_fits hc (by omega))
    exact this
  · subst hm
    have hn:news = []:=List.eq_nil_of_length_eq_zero hl
    have hc:=hs.cells
    subst hn
    rcases hs.kind with ⟨e',hk⟩ | hk <;> simp [Builtin.append_,run_underlying Tryz.underlying75,run_underlying hk,sizeOf,typeInfo,hi,hsz,hs.len,hc]
set_option maxRecDepth 100000 in
theorem Sc.ofZeros {ty:TypeId} {m:Nat} {w:World} (hpos:0 < m) (hm:m ≤ 1000000):Sc 3 ty (.int .i64 (m:Int)) m (List.replicate m (.int .u8 0)) w:=by
  obtain ⟨i,hi,hz,hsz,hby⟩:=info_parts info5
  have hw:IntKind.i64.wrap (m:Int) = (m:Int):=by
    rw [IntKind.wrap_i64]; omega
  have hzc:Builtin.zeroCells (Value.int .u8 0).cells m = (List.replicate m (Value.int .u8 0)).toArray:=by
    apply Array.ext'
    simp only [Builtin.zeroCells,Value.cells]
    apply List.ext_getElem?
    intro j
    simp [List.getElem?_replicate,Nat.mod_one]
    split <;> simp_all
  have h48:¬ ((281474976710656:Int) < (m:Int)):=by omega
  have hai:∀ w',(asIntOf (Value.int .i64 (m:Int))).run Tryz.prog w' = .ok (.i64,(m:Int)) w':=fun _=>rfl
  have h1:¬ ((m:Int) < 0):=by omega
  refine ⟨by simp,fun g sLen cap cur hg hroom hfit=>?_,fun b sLen cap olds hold hc hsm=>?_,fun hm=>?_⟩
  · have hst:=run_storeCells_at Tryz.prog g sLen 5 (List.replicate m (.int .u8 0)) 0 cur w hg (by simpa using hfit) (by intro u hu; rw [List.mem_replicate] at hu; rw [hu.2]; rfl)
    simp only [Nat.add_zero] at hst
    have h0:¬ m = 0:=by omega
    simp [Builtin.append_,run_underlying Tryz.underlying75,run_underlying Tryz.underlying3,sizeOf,typeInfo,hi,hsz,hby,asInt,hai,h1,hw,hroom,Addr.add_lit,hst,h48,zeroValue,hz,hzc,h0]
  · have h0:¬ m = 0:=by omega
    have hn:¬ (sLen + m ≤ cap):=by omega
    have h63':¬ (9223372036854775807 < ((sLen:Int) + (m:Int))):=by omega
    have hgf:=growslice_fits (bytes:=1) hc (by omega)
    have h48':¬ (281474976710656 < Builtin.nextslicecap (sLen + m) cap):=by omega
    simp [Builtin.append_,run_underlying Tryz.underlying75,run_underlying Tryz.underlying3,sizeOf,typeInfo,hi,hsz,hby,asInt,hai,h1,hw,hn,h63',h48',h48,zeroValue,hz,hzc,h0,Question.forced,hold,newRow,grownCap]
    congr 2
    apply Array.ext'
    simp [List.append_assoc]
  · omega
theorem app_own {tx ty:TypeId} {x:Value} {m:Nat} {news:List Value} {w:World} (hs:Sc tx ty x m news w) (base:Nat) (v:Value) (n:Nat) (xs:List Value) (hown:w.ownsRow base 5 1 v n xs)
    (h63:n + m ≤ 1000000) (hbase:base ≤ w.heap.size) :
    ∃ v' w',(Builtin.append_ #[75,tx] ty #[v,x]).run Tryz.prog w = .ok v' w' ∧ w'.ownsRow base 5 1 v' (n + m) (xs ++ news) ∧ w.grownBy w' v.ownBlock ∧
      (v'.ownBlock = v.ownBlock ∨ ∃ k,v'.ownBlock = some k ∧ w.heap.size ≤ k):=by
  have hml:n + m ≤ maxLen:=by unfold maxLen; omega
  have hl:=hs.len
  have hxl:xs.length = n:=by have:=hown.1; omega
  have hlen:(xs ++ news).length = (n + m) * 1:=by rw [List.length_append,hxl,hl,Nat.mul_one]
  have grown:∀ (old:Nat),old < n + m → ∀ (row:Option Nat),
      (w.drew.alloc (.cells ((xs ++ news).toArray ++ Builtin.zeroCells (Value.int .u8 0).cells (grownCap w (n + m) old 5 - (n + m))) 5)).ownsRow base 5 1
        (.slice (some ⟨w.heap.size,0,none⟩) (n + m) (grownCap w (n + m) old 5)) (n + m) (xs ++ news) ∧
      w.grownBy (w.drew.alloc (.cells ((xs ++ news).toArray ++ Builtin.zeroCells (Value.int .u8 0).cells (grownCap w (n + m) old 5 - (n + m))) 5)) row:=by
    intro old ho row
    have hge:=grownCap_ge w (n + m) old 5
    have hcm:grownCap w (n + m) old 5 ≤ maxLen:=grownCap_le_maxLen w (n + m) old 5 hml
    refine ⟨⟨hlen,.inr ⟨w.heap.size,_,_,rfl,hbase,heap_alloc_new w.drew _,hge,hcm,?_,?_⟩⟩,⟨rfl,rfl,rfl,by simp,fun k hk _=>Below.heap_alloc w.drew _ k hk⟩⟩
    · simp only [Array.size_append,List.size_toArray,size_zeroCells,hlen,Value.cells]
      simp
      omega
    · simp only [Array.toList_append]
      rw [← hlen]
      exact List.take_left
  rcases hown.2 with ⟨rfl,rfl⟩ | ⟨g,cap,cur,rfl,hbg,hg,hnc,hcm,hcs,htake⟩
  · have hx:xs = []:=List.eq_nil_of_length_eq_zero hxl
    subst hx
    by_cases hm:m = 0
    · have hr:=hs.none hm
      subst hm
      have hn:news = []:=List.eq_nil_of_length_eq_zero hl
      subst hn
      exact ⟨.slice none 0 0,w,hr,World.ownsRow_nil w base 5 1,⟨rfl,rfl,rfl,Nat.le_refl _,fun _ _ _=>rfl⟩,Or.inl rfl⟩
    · have hr:=hs.grow none 0 0 [] (run_firstCells_none w.drew 1 0 0 0) (by omega) (by omega)
      have hgr:=grown 0 (by omega) (Value.ownBlock (.slice none 0 0))
      exact ⟨_,_,hr,hgr.1,hgr.2,Or.inr ⟨w.heap.size,rfl,Nat.le_refl _⟩⟩
  · by_cases hroom:n + m ≤ cap
    · have hfit:n + news.length ≤ cur.size:=by omega
      have hr:=hs.room g n cap cur hg hroom hfit
      refine ⟨_,_,hr,⟨hlen,.inr ⟨g,cap,_,rfl,hbg,setRow_heap w g cur _ 5 _ hg,hroom,hcm,?_,?_⟩⟩,⟨rfl,rfl,rfl,by simp,fun k _ hk=>setRow_other w g k _ (fun e=>hk (by simp [Value.ownBlock,e]))⟩,Or.inl rfl⟩
      · simp only [List.size_toArray,List.length_append,List.length_take,List.length_drop,Array.length_toList]
        omega
      · rw [Nat.mul_one] at htake
        rw [htake,← hlen]
        exact List.take_left
    · have holds:∀ j u,xs[j]? = some u → w.cell? ((⟨g,0,none⟩:Addr).add j) = some u:=hown.cells (g:=g) rfl
      have hr:=hs.grow (some ⟨g,0,none⟩) n cap xs (run_firstCells_some w.drew 1 n ⟨g,0,none⟩ n cap xs (by omega) (by simpa using holds)) (by omega) (by omega)
      have hgr:=grown cap (by omega) (Value.ownBlock (.slice (some ⟨g,0,none⟩) n cap))
      exact ⟨_,_,hr,hgr.1,hgr.2,Or.inr ⟨w.heap.size,rfl,Nat.le_refl _⟩⟩
end Go.Proofs.YtncfbocbigdhiaaGreat.O

/- A rule for a statement whose operations may come in any order that its edges allow: where each operation keeps one invariant of memory, and yields a value of which a stable fact is known, the statement ends with all those facts; no program in sight. -/
namespace Go.Proofs.YtncfbocbigdhiaaGreat.O
set_option maxRecDepth 100000
set_option maxRecDepth 100000
def AllOps (φ:Nat → Oper → Prop):Nat → List Oper → Prop
  | _,[]=>True
  | k,o :: l=>φ k o ∧ AllOps φ (k + 1) l
theorem AllOps.get {φ:Nat → Oper → Prop}:∀ {k:Nat} {l:List Oper},AllOps φ k l → ∀ (i:Nat) (o:Oper),l[i]? = some o → φ (k + i) o
  | _,[],_,_,_,h=>by simp at h
  | k,o :: l,h,i,o',hi=>by
    cases i with
    | zero=>simp at hi; subst hi; exact h.1
    | succ i=>have:=AllOps.get h.2 i o' (by simpa using hi); rwa [Nat.add_assoc,Nat.add_comm 1 i] at this
def Deps (V:Nat → Value → World → Prop) (f:Nat → Value) (w:World):List Edge → Prop
  | []=>True
  | e :: l=>(Region.binds .any e = true → V e.on (f e.on) w) ∧ Deps V f w l
def upd (f:Nat → Value) (i:Nat) (v:Value):Nat → Value:=fun k=>if k = i then v else f k
def lexOk:Nat → List Oper → Bool
  | _,[]=>true
  | k,o :: l=>o.after.toList.all (fun e=>e.on < k) && lexOk (k + 1) l
theorem lexOk.get:∀ {k:Nat} {l:List Oper},lexOk k l = true → ∀ (i:Nat) (o:Oper),l[i]? = some o → ∀ e ∈ o.after,e.on < k + i
  | _,[],_,_,_,h=>by simp at h
  | k,o :: l,h,i,o',hi=>by
    simp only [lexOk,Bool.and_eq_true,List.all_eq_true,decide_eq_true_eq] at h
    cases i with
    | zero=>simp at hi; subst hi; exact fun e he=>h.1 e (by simpa using he)
    | succ i=>have:=lexOk.get h.2 i o' (by simpa using hi); intro e he; have:=this e he; omega
section
variable {P:Program} {ops:Array Oper} {Q:Exit → Act → World → Prop}
theorem wpAny_inv (J:Array Bool → Act → World → Prop)
    (step:∀ (listed:Array Bool) (a:Act) (w:World) (i:Nat),J listed a w → listed.size = ops.size → i ∈ Region.ready .any ops listed → wpOp P ops Q i (fun a' w'=>J (listed.setIfInBounds i true) a' w') a w)
    (fin:∀ (listed:Array Bool) (a:Act) (w:World),J listed a w → listed.size = ops.size → Region.ready .any ops listed = [] → Q .normal a w) :
    ∀ (fuel:Nat) (listed:Array Bool) (a:Act) (w:World),listed.count false ≤ fuel → listed.size = ops.size → J listed a w → wpAny P .any ops Q fuel listed a w:=by
  intro fuel
  induction fuel with
  | zero=>
    intro listed a w hc hs hJ
    have hr:Region.ready .any ops listed = []:=by
      apply List.eq_nil_iff_forall_not_mem.2
      intro i hi
      obtain ⟨h1,o,ho,_⟩:=mem_ready.1 hi
      have hlt:i < listed.size:=by
        rw [hs]; exact (Array.getElem?_eq_some_iff.1 ho).1
      have h2:listed[i] = false:=by simpa [Array.getD,hlt] using h1
      have:0 < listed.count false:=Array.count_pos_iff.2 (by rw [← h2]; exact Array.getElem_mem hlt)
      omega
    exact ⟨hr,fin listed a w hJ hs hr⟩
  | succ fuel ih=>
    intro listed a w hc hs hJ
    refine ⟨fin listed a w hJ hs,fun i hi=>?_⟩
    refine wpOp_mono (fun a' w' h'=>ih _ a' w' ?_ (by simpa using hs) h') (step listed a w i hJ hs hi)
    obtain ⟨h1,o,ho,_⟩:=mem_ready.1 hi
    have hlt:i < listed.size:=by
      rw [hs]; exact (Array.getElem?_eq_some_iff.1 ho).1
    have h2:listed[i] = false:=by simpa [Array.getD,hlt] using h1
    have hpos:0 < listed.count false:=Array.count_pos_iff.2 (by rw [← h2]; exact Array.getElem_mem hlt)
    have:(listed.setIfInBounds i true).count false = listed.count false - 1:=by
      rw [Array.setIfInBounds_def,dif_pos hlt,Array.count_set]
      simp [h2]
    omega
def updB (f:Nat → Bool) (i:Nat):Nat → Bool:=fun k=>if k = i then true else f k
def DepsP (V:Nat → Value → Prop) (done:Nat → Bool) (f:Nat → Value):List Edge → Prop
  | []=>True
  | e :: l=>(Region.binds .any e = true → done e.on = true ∧ V e.on (f e.on)) ∧ DepsP V done f l
theorem DepsP.of_all {V:Nat → Value → Prop} {done:Nat → Bool} {f:Nat → Value}:∀ (l:List Edge),(∀ e ∈ l,Region.binds .any e = true → done e.on = true ∧ V e.on (f e.on)) → DepsP V done f l
  | [],_=>trivial
  | e :: l,h=>⟨h e (by simp),DepsP.of_all l (fun e' he=>h e' (by simp [he]))⟩
theorem wp_region_ph {id:Nat} {a:Act} {w:World} (A:(Nat → Value) → Act) (V:Nat → Value → Prop) (Ph:(Nat → Bool) → (Nat → Value) → World → Prop) (f0:Nat → Value)
    (hm:P.follows .mixedOrders = true) (hlex:lexOk 0 ops.toList = true) (ha:a = A f0) (hI:Ph (fun _=>false) f0 w.drew)
    (hput:AllOps (fun i o=>∀ f v,(A f).put o.dst v = A (upd f i v)) 0 ops.toList)
    (step:AllOps (fun i o=>∀ (done:Nat → Bool) (f:Nat → Value) (w:World),Ph done f w → done i = false → DepsP V done f o.after.toList → ∀ K:Act → World → Prop,(∀ v w',V i v → Ph (updB done i) (upd f i v) w' → K ((A f).put o.dst v) w') →
      if Region.wanted o (yielded ops (A f).tmps) = true then Oper.wp P o (A f) w K Q else K ((A f).put o.dst undef) w) 0 ops.toList)
    (fin:∀ (f:Nat → Value) (w:World),Ph (fun i=>decide (i < ops.size)) f w → (∀ i,i < ops.size → V i (f i)) → Q .normal (A f) w) :
    (Code.region id ops true).wp P Q a w:=by
  refine wp_region_any hm ?_
  refine wpAny_inv (fun listed b w=>∃ f,b = A f ∧ Ph (fun i=>listed.getD i false) f w ∧ ∀ i,listed.getD i false = true → V i (f i)) ?_ ?_ ops.size _ a _ (by simp) (by simp) ⟨f0,ha,?_,fun i hi=>?_⟩
  · rintro listed b w i ⟨f,rfl,hP,hV⟩ hs hi
    obtain ⟨h1,o,ho,hdep⟩:=mem_ready.1 hi
    have ho':ops.toList[i]? = some o:=by simpa using ho
    have hst:=AllOps.get step i o ho'
    rw [Nat.zero_add] at hst
    have hlt:i < listed.size:=by
      rw [hs]; exact (Array.getElem?_eq_some_iff.1 ho).1
    have hd:DepsP V (fun i=>listed.getD i false) f o.after.toList:=DepsP.of_all _ (fun e he hb=>by
      have:=hdep e (by simpa using he) hb
      exact ⟨this,hV e.on this⟩)
    have hset:(fun j=>(listed.setIfInBounds i true).getD j false) = updB (fun j=>listed.getD j false) i:=by
      funext j
      unfold updB
      by_cases hji:j = i
      · subst hji; simp [hlt]
      · simp [Array.getD_eq_getD_getElem?,Ne.symm hji,hji]
    have h1':listed.getD i false = false:=by
      have:listed[i] = false:=by simpa [Array.getD,hlt] using h1
      simp [Array.getD,hlt,this]
    have hK:=hst (fun i=>listed.getD i false) f w hP h1' hd (fun b' w'=>∃ f,b' = A f ∧ Ph (fun j=>(listed.setIfInBounds i true).getD j false) f w' ∧ ∀ j,(listed.setIfInBounds i true).getD j false = true → V j (f j)) (fun v w' hv hP'=>by
      refine ⟨upd f i v,by have:=AllOps.get hput i o ho' f v; rwa [Nat.zero_add] at this,by rw [hset]; exact hP',fun j hj=>?_⟩
      by_cases hji:j = i
      · subst hji; simpa [upd] using hv
      · rw [show upd f i v j = f j from if_neg hji]
        refine hV j ?_
        simpa [Array.getD_eq_getD_getElem?,Array.getElem?_setIfInBounds,Ne.symm hji] using hj)
    unfold wpOp
    simp only [ho]
    split
    · rename_i hw
      rw [if_pos hw] at hK
      exact Or.inl hK
    · rename_i hw
      rw [if_neg hw] at hK
      exact hK
  · rintro listed b w ⟨f,rfl,hP,hV⟩ hs hr
    have key:∀ n i,i < n → i < ops.size → listed.getD i false = true:=by
      intro n
      induction n with
      | zero=>intro i h; omega
      | succ n ih=>
        intro i hin hio
        by_cases hl:listed.getD i false = true
        · exact hl
        · exfalso
          have ho:ops[i]? = some ops[i]:=Array.getElem?_eq_getElem hio
          have hlt:i < listed.size:=by omega
          have:i ∈ Region.ready .any ops listed:=mem_ready.2 ⟨by
            have:listed[i] = false:=by simpa [Array.getD,hlt] using hl
            simp [Array.getD,hlt,this],ops[i],ho,fun e he hb=>by
            have:=lexOk.get hlex i ops[i] (by simp) e he
            exact ih e.on (by omega) (by omega)⟩
          rw [hr] at this
          cases this
    have hall:(fun i=>listed.getD i false) = fun i=>decide (i < ops.size):=by
      funext i
      by_cases h:i < ops.size
      · rw [key (i + 1) i (by omega) h,decide_eq_true h]
      · rw [decide_eq_false h]
        simp [Array.getD,show ¬ i < listed.size by omega]
    refine fin f w (by rw [← hall]; exact hP) (fun i hi=>hV i (key (i + 1) i (by omega) hi))
  · have:(fun i=>(Array.replicate ops.size false).getD i false) = fun _=>false:=by
      funext i
      simp [Array.getD_eq_getD_getElem?,Array.getElem?_replicate]
      split <;> simp
    rw [this]; exact hI
  · simp [Array.getD_eq_getD_getElem?,Array.getElem?_replicate] at hi
    split at hi <;> simp at hi
end
end Go.Proofs.YtncfbocbigdhiaaGreat.O

/- What is written into an Out, as calls: of bytes as they are, of a number's lowest bytes, of a text with its length, of noughts to a multiple, and all of it as a text; the condition is that an Out of the call's own lies in memory, and that all of it stays below a million bytes. -/
namespace Go.Proofs.YtncfbocbigdhiaaGreat.O
set_option maxRecDepth 100000
set_option maxRecDepth 100000
set_option maxRecDepth 100000
open Go.RowKit
def bcs (l:List UInt8):List Value:=l.map fun b=>Value.int .u8 (b.toNat:Int)
theorem bcs_append (a b:List UInt8):bcs (a ++ b) = bcs a ++ bcs b:=List.map_append ..
structure OutIs (w:World) (B:Nat) (v:Value) (l:List UInt8):Prop where
  cell:w.cell? ⟨B,0,none⟩ = some v
  frz:w.frozen? ⟨B,0,none⟩ = false
  own:w.ownsRow (B + 1) 5 1 v l.length (bcs l)
structure Kp (B:Nat) (v:Value) (w w':World):Prop where
  os:w'.os = w.os
  tape:w'.tape = w.tape
  output:w'.output = w.output
  size:w.heap.size ≤ w'.heap.size
  block:∀ k,k < w.heap.size → k ≠ B → v.ownBlock ≠ some k → w'.heap[k]? = w.heap[k]?
structure Wr (B:Nat) (v:Value) (l new:List UInt8) (w:World) (v':Value) (w':World):Prop where
  out:OutIs w' B v' (l ++ new)
  kp:Kp B v w w'
  fr:v'.ownBlock = v.ownBlock ∨ ∃ k,v'.ownBlock = some k ∧ w.heap.size ≤ k
theorem OutIs.lt {w:World} {B:Nat} {v:Value} {l:List UInt8} (h:OutIs w B v l):B < w.heap.size:=World.block_lt_of_cell? w _ h.cell
theorem Kp.refl (B:Nat) (v:Value) (w:World):Kp B v w w:=⟨rfl,rfl,rfl,Nat.le_refl _,fun _ _ _ _=>rfl⟩
theorem Wr.refl {B:Nat} {v:Value} {l:List UInt8} {w:World} (h:OutIs w B v l):Wr B v l [] w v w:=⟨by rw [List.append_nil]; exact h,Kp.refl _ _ _,Or.inl rfl⟩
theorem Wr.trans {B:Nat} {v v' v'':Value} {l n1 n2:List UInt8} {w w' w'':World} (h:Wr B v l n1 w v' w') (k:Wr B v' (l ++ n1) n2 w' v'' w''):Wr B v l (n1 ++ n2) w v'' w'':=by
  refine ⟨by rw [← List.append_assoc]; exact k.out,⟨k.kp.os.trans h.kp.os,k.kp.tape.trans h.kp.tape,k.kp.output.trans h.kp.output,Nat.le_trans h.kp.size k.kp.size,fun j hj h1 h2=>?_⟩,?_⟩
  · refine (k.kp.block j (Nat.lt_of_lt_of_le hj h.kp.size) h1 ?_).trans (h.kp.block j hj h1 h2)
    rcases h.fr with e | ⟨q,e,hq⟩
    · rw [e]; exact h2
    · rw [e]; intro e2; injection e2 with e2; omega
  · rcases k.fr with e | ⟨q,e,hq⟩
    · rw [e]; exact h.fr
    · exact Or.inr ⟨q,e,Nat.le_trans h.kp.size hq⟩
theorem Wr.below {B:Nat} {v v':Value} {l n:List UInt8} {w w':World} (h:Wr B v l n w v' w') (ho:OutIs w B v l):Below B w w':=by
  refine ⟨h.kp.os,h.kp.tape,h.kp.output,h.kp.size,fun k hk=>h.kp.block k (by have:=ho.lt; omega) (by omega) ?_⟩
  intro e
  have:=(ho.own.lt k e).1
  omega
theorem own_slice {w:World} {base:Nat} {v:Value} {n:Nat} {xs:List Value} (h:w.ownsRow base 5 1 v n xs):∃ ao cap,v = .slice ao n cap:=by
  rcases h.2 with ⟨rfl,rfl⟩ | ⟨g,cap,_,rfl,_⟩
  · exact ⟨none,0,rfl⟩
  · exact ⟨_,cap,rfl⟩
theorem wr_store {B:Nat} {v v':Value} {l new:List UInt8} {w w1 w2:World} (ho:OutIs w B v l) (hb:Below w.heap.size w w1) (hown:w2.ownsRow (B + 1) 5 1 v' (l.length + new.length) (bcs l ++ bcs new)) (hg:w1.grownBy w2 v.ownBlock)
    (hf:v'.ownBlock = v.ownBlock ∨ ∃ k,v'.ownBlock = some k ∧ w1.heap.size ≤ k):Wr B v l new w v' (w2.setCell ⟨B,0,none⟩ v'):=by
  have hBlt:=ho.lt
  have hne:v.ownBlock ≠ some B:=by intro e; have:=(ho.own.lt B e).1; omega
  have c1:w1.cell? ⟨B,0,none⟩ = some v:=(hb.cell (by exact hBlt)).trans ho.cell
  have c2:w2.cell? ⟨B,0,none⟩ = some v:=hg.cell c1 (by intro e; exact hne e.symm)
  have f2:w2.frozen? ⟨B,0,none⟩ = false:=by
    rw [World.frozen?_of_block (hg.block B (World.block_lt_of_cell? w1 _ c1) (by intro e; exact hne e.symm)),hb.frozen (by exact hBlt)]
    exact ho.frz
  refine ⟨⟨World.cell?_setCell_same w2 _ _ c2,by rw [World.frozen?_setCell]; exact f2,?_⟩,⟨hg.os.trans hb.os,hg.tape.trans hb.tape,hg.output.trans hb.output,?_,fun k hk h1 h2=>?_⟩,?_⟩
  · rw [List.length_append,bcs_append]
    exact ownsRow_setCell_below hown (by show B < B + 1; omega) _
  · have:=hb.size; have:=hg.size; simp [World.setCell]; omega
  · rw [Below.heap_setCell _ _ _ _ (by exact h1),hg.block k (by have:=hb.size; omega) (by intro e; exact h2 e.symm),hb.block k hk]
  · rcases hf with e | ⟨k,e,hk⟩
    · exact Or.inl e
    · exact Or.inr ⟨k,e,Nat.le_trans hb.size hk⟩
theorem wpList_app {w:World} {ops:Array Oper} {rest:List Oper} {o:Oper} {a:Act} {Q:Exit → Act → World → Prop} (hgd:o.guard = none) (s x:Operand) (tx:TypeId)
    (ho:o.op = .call { callee:=.builtin .append,args:=#[s,x],argTypes:=#[75,tx] }) (xv:Value) (m:Nat) (news:List Value) (hs:Sc tx o.type xv m news w)
    (base:Nat) (v:Value) (n:Nat) (xs:List Value) (hs1:a.eval s = v) (hx:a.eval x = xv) (hown:w.ownsRow base 5 1 v n xs) (h63:n + m ≤ 1000000) (hbase:base ≤ w.heap.size)
    (h:∀ ao cap w',w'.ownsRow base 5 1 (.slice ao (n + m) cap) (n + m) (xs ++ news) → w.grownBy w' v.ownBlock → (Value.ownBlock (.slice ao (n + m) cap) = v.ownBlock ∨ ∃ k,Value.ownBlock (.slice ao (n + m) cap) = some k ∧ w.heap.size ≤ k) → wpList Tryz.prog ops Q rest (a.put o.dst (.slice ao (n + m) cap)) w') :
    wpList Tryz.prog ops Q (o :: rest) a w:=
  wpList_plain hgd fun _ hK=>by
    obtain ⟨v',w',hr,h2,h3,h4⟩:=app_own hs base v n xs hown h63 hbase
    obtain ⟨ao,cap,rfl⟩:=own_slice h2
    unfold Oper.wp execOp
    simp only [ho,resolve,invoke,builtin,Sem.run_bind,Sem.run_pure,Result.andThen_ok,List.map_toArray,List.map_cons,List.map_nil,hs1,hx,hr]
    exact hK _ _ (h ao cap w' h2 h3 h4)
theorem size_list (s:ByteArray):s.size = s.data.toList.length:=by rw [Array.length_toList]; rfl
theorem conv_out {w:World} {B:Nat} {v:Value} {l:List UInt8} (ho:OutIs w B v l):(convert 75 9 v).run Tryz.prog w = .ok (.string ⟨l.toArray⟩) w:=by
  rcases ho.own.2 with ⟨rfl,h0⟩ | ⟨g,cap,cur,rfl,_⟩
  · have:l = []:=List.eq_nil_of_length_eq_zero h0
    subst this
    rfl
  · refine run_convert_bytes_back (P:=Tryz.prog) w 75 9 5 ⟨g,0,none⟩ cap l Tryz.underlying75 Tryz.underlying5 Tryz.underlying9 (fun j hj=>?_)
    exact ho.own.cells (g:=g) rfl j _ (by simp [bcs,hj])
theorem bytes_any (B:Nat) (v:Value) (l:List UInt8) (w:World) (ho:OutIs w B v l) :
    Calls Tryz.prog 110 #[.pointer (some ⟨B,0,none⟩)] w fun e w'=>e = .returned (.string ⟨l.toArray⟩) ∧ w' = w:=by
  have hcv:=conv_out ho
  obtain ⟨ao0,cap0,rfl⟩:=own_slice ho.own
  have hc:=ho.cell
  go_enter Tryz.func110,Tryz.ntmps110
  go_wp2
  go_ret
  exact ⟨rfl,rfl⟩
def fillN (len n:Nat):Nat:=if len % n = 0 then 0 else n - len % n
theorem fill_any (B:Nat) (v:Value) (l:List UInt8) (n:Nat) (w:World) (ho:OutIs w B v l) (hn:n ≤ 1000) (hl:l.length ≤ 100000) :
    Calls Tryz.prog 109 #[.pointer (some ⟨B,0,none⟩),.int .i64 (n:Int)] w fun e w'=>e = .returned (.pointer (some ⟨B,0,none⟩)) ∧ ∃ v',Wr B v l (List.replicate (fillN l.length n) 0) w v' w':=by
  obtain ⟨ao0,cap0,rfl⟩:=own_slice ho.own
  have hc:=ho.cell
  by_cases h1:n < 1
  · have h1':(n:Int) < 1:=by omega
    have hf:fillN l.length n = 0:=by
      obtain rfl:n = 0:=by omega
      unfold fillN; split
      · rfl
      · rename_i h; omega
    rw [hf]
    go_enter Tryz.func109,Tryz.ntmps109
    go_wp2
    go_ret
    exact ⟨rfl,_,Wr.refl ho⟩
  · have h1':¬ (n:Int) < 1:=by omega
    have hlt:l.length % n < n:=Nat.mod_lt _ (by omega)
    have hmod:((l.length:Nat):Int).tmod (n:Int) = ((l.length % n:Nat):Int):=by
      rw [Int.tmod_eq_emod_of_nonneg (by omega)]; rfl
    have hnz:¬ ((n:Int) = 0):=by omega
    by_cases h2:l.length % n = 0
    · have hf:fillN l.length n = 0:=by unfold fillN; rw [if_pos h2]
      rw [h2] at hmod
      rw [hf]
      go_enter Tryz.func109,Tryz.ntmps109
      go_wp2
      go_ret
      exact ⟨rfl,_,Wr.refl ho⟩
    · have hf:fillN l.length n = n - l.length % n:=by unfold fillN; rw [if_neg h2]
      have hrep:List.replicate (n - l.length % n) (Value.int .u8 0) = bcs (List.replicate (n - l.length % n) 0):=by simp [bcs]
      generalize hr:l.length % n = r at *
      obtain ⟨d,hd⟩:∃ d,n - r = d:=⟨_,rfl⟩
      have hdi:(n:Int) - (r:Int) = (d:Int):=by omega
      rw [hf,hd]
      rw [hd] at hrep
      have hd0:0 < d:=by omega
      have hdl:d ≤ 1000:=by omega
      have hrp:(0:Int) < (r:Int):=by omega
      have HR:Hid _:=hrep
      clear hf hr hd hrep
      go_enter Tryz.func109,Tryz.ntmps109
      go_wp2_with (at_builtin; refine wpList_app rfl (.tmp 22) (.tmp 25) 3 rfl (.int .i64 (d:Int)) d (bcs (List.replicate d 0)) (by rw [← HR.out]; exact Sc.ofZeros hd0 (by omega)) (B + 1) _ _ _ rfl rfl ho.own (by omega) ho.lt ?_)
      intro ao cap w2 hown hg hf
      have hw:=wr_store (new:=List.replicate d 0) ho (Below.refl _ _) (by rw [List.length_replicate]; exact hown) hg hf
      have c2:w2.cell? ⟨B,0,none⟩ = some (.slice ao0 l.length cap0):=hg.cell hc (by intro e; have:=(ho.own.lt B e.symm).1; omega)
      have f2:w2.frozen? ⟨B,0,none⟩ = false:=by
        have:=hw.out.frz
        rwa [World.frozen?_setCell] at this
      have HW:Hid _:=hw
      clear hw hown hg hf hc
      go_wp2
      go_ret
      exact ⟨rfl,_,by have:=HW.out; simpa using this⟩
theorem ownsRow_below {w W:World} {base:Nat} {v:Value} {n:Nat} {xs:List Value} (h:w.ownsRow base 5 1 v n xs) (hb:Below w.heap.size w W):W.ownsRow base 5 1 v n xs:=by
  refine ⟨h.1,?_⟩
  rcases h.2 with h2 | ⟨g,cap,cur,e,hbg,hg,r⟩
  · exact Or.inl h2
  · have hlt:g < w.heap.size:=(Array.getElem?_eq_some_iff.1 hg).1
    exact Or.inr ⟨g,cap,cur,e,hbg,(hb.block g hlt).trans hg,r⟩
theorem wp_app {w:World} {o:Oper} {a:Act} {K:Act → World → Prop} {Q:Exit → Act → World → Prop} (s x:Operand) (tx:TypeId)
    (ho:o.op = .call { callee:=.builtin .append,args:=#[s,x],argTypes:=#[75,tx] }) (xv:Value) (m:Nat) (news:List Value) (hs:Sc tx o.type xv m news w)
    (base:Nat) (v:Value) (n:Nat) (xs:List Value) (hs1:a.eval s = v) (hx:a.eval x = xv) (hown:w.ownsRow base 5 1 v n xs) (h63:n + m ≤ 1000000) (hbase:base ≤ w.heap.size)
    (h:∀ ao cap w',w'.ownsRow base 5 1 (.slice ao (n + m) cap) (n + m) (xs ++ news) → w.grownBy w' v.ownBlock → (Value.ownBlock (.slice ao (n + m) cap) = v.ownBlock ∨ ∃ k,Value.ownBlock (.slice ao (n + m) cap) = some k ∧ w.heap.size ≤ k) → K (a.put o.dst (.slice ao (n + m) cap)) w') :
    Oper.wp Tryz.prog o a w K Q:=by
  obtain ⟨v',w',hr,h2,h3,h4⟩:=app_own hs base v n xs hown h63 hbase
  obtain ⟨ao,cap,rfl⟩:=own_slice h2
  unfold Oper.wp execOp
  simp only [ho,resolve,invoke,builtin,Sem.run_bind,Sem.run_pure,Result.andThen_ok,List.map_toArray,List.map_cons,List.map_nil,hs1,hx,hr]
  exact h ao cap w' h2 h3 h4
structure NPh (B:Nat) (v0:Value) (l:List UInt8) (by1:UInt8) (w:World) (done:Nat → Bool) (f:Nat → Value) (W:World):Prop where
  no4:done 4 = false → done 12 = false
  no11:done 11 = false → done 12 = false
  no12:done 12 = false → done 15 = false
  before:done 12 = false → W.cell? ⟨B,0,none⟩ = some v0 ∧ Below w.heap.size w W ∧ (done 11 = true → ∃ k,f 11 = .slice (some ⟨k,0,none⟩) 1 1 ∧ w.heap.size ≤ k ∧ W.cell? ⟨k,0,none⟩ = some (.int .u8 (by1.toNat:Nat)))
  after:done 12 = true → done 15 = false → ∃ ao cap,f 12 = .slice ao (l.length + 1) cap ∧ W.cell? ⟨B,0,none⟩ = some v0 ∧ W.frozen? ⟨B,0,none⟩ = false ∧ Wr B v0 l [by1] w (.slice ao (l.length + 1) cap) (W.setCell ⟨B,0,none⟩ (.slice ao (l.length + 1) cap))
  fin:done 15 = true → ∃ v',Wr B v0 l [by1] w v' W
theorem NPh.pure {B:Nat} {v0:Value} {l:List UInt8} {by1:UInt8} {w:World} {done:Nat → Bool} {f:Nat → Value} {W:World} (h:NPh B v0 l by1 w done f W) (i:Nat) (hi:i ≠ 11 ∧ i ≠ 12 ∧ i ≠ 15) (v:Value) :
    NPh B v0 l by1 w (updB done i) (upd f i v) W:=by
  have a11:updB done i 11 = done 11:=if_neg (Ne.symm hi.1)
  have a12:updB done i 12 = done 12:=if_neg (Ne.symm hi.2.1)
  have a15:updB done i 15 = done 15:=if_neg (Ne.symm hi.2.2)
  have b11:upd f i v 11 = f 11:=if_neg (Ne.symm hi.1)
  have b12:upd f i v 12 = f 12:=if_neg (Ne.symm hi.2.1)
  refine ⟨fun e=>?_,?_,?_,?_,?_,?_⟩
  · rw [a12]
    refine h.no4 ?_
    unfold updB at e
    split at e
    · cases e
    · exact e
  · rw [a11,a12]; exact h.no11
  · rw [a12,a15]; exact h.no12
  · rw [a12,a11,b11]; exact h.before
  · rw [a12,a15,b12]; exact h.after
  · rw [a15]; exact h.fin
theorem NPh.built {B:Nat} {v0:Value} {l:List UInt8} {by1:UInt8} {w:World} {done:Nat → Bool} {f:Nat → Value} {W:World} (h:NPh B v0 l by1 w done f W) (h12:done 12 = false) :
    NPh B v0 l by1 w (updB done 11) (upd f 11 (.slice (some ⟨W.heap.size,0,none⟩) 1 1)) (W.alloc (.cells #[.int .u8 (by1.toNat:Nat)] 5)):=by
  obtain ⟨a,b,_⟩:=h.before h12
  have h15:=h.no12 h12
  refine ⟨h.no4,fun e=>(by cases e),h.no12,fun _=>⟨?_,?_,fun _=>⟨W.heap.size,rfl,b.size,by simp [go_sem]⟩⟩,fun e=>?_,fun e=>?_⟩
  · rw [World.cell?_alloc_past _ _ _ (World.block_lt_of_cell? W _ a)]; exact a
  · exact Below.alloc b b.size _
  · exact absurd (show done 12 = true from e) (by rw [h12]; decide)
  · exact absurd (show done 15 = true from e) (by rw [h15]; decide)
theorem NPh.appended {B:Nat} {v0:Value} {l:List UInt8} {by1:UInt8} {w:World} {done:Nat → Bool} {f:Nat → Value} {W W':World} (h:NPh B v0 l by1 w done f W) (ho:OutIs w B v0 l) (e4:done 4 = true) (e11:done 11 = true) (h12:done 12 = false)
    {ao:Option Addr} {cap:Nat} (h1:W'.ownsRow (B + 1) 5 1 (.slice ao (l.length + 1) cap) (l.length + 1) (bcs l ++ [.int .u8 (by1.toNat:Nat)])) (h2:W.grownBy W' v0.ownBlock) (h3:Value.ownBlock (.slice ao (l.length + 1) cap) = v0.ownBlock ∨ ∃ k,Value.ownBlock (.slice ao (l.length + 1) cap) = some k ∧ W.heap.size ≤ k) :
    NPh B v0 l by1 w (updB done 12) (upd f 12 (.slice ao (l.length + 1) cap)) W':=by
  obtain ⟨a,b,_⟩:=h.before h12
  have h15:=h.no12 h12
  have hw:=wr_store (new:=[by1]) ho b h1 h2 h3
  refine ⟨fun e=>absurd (show done 4 = false from e) (by rw [e4]; decide),fun e=>absurd (show done 11 = false from e) (by rw [e11]; decide),fun e=>(by cases e),fun e=>(by cases e),fun _ _=>⟨ao,cap,rfl,?_,?_,hw⟩,fun e=>?_⟩
  · exact h2.cell a (by intro e; have:=(ho.own.lt B e.symm).1; omega)
  · have:=hw.out.frz
    rwa [World.frozen?_setCell] at this
  · exact absurd (show done 15 = true from e) (by rw [h15]; decide)
theorem NPh.stored {B:Nat} {v0:Value} {l:List UInt8} {by1:UInt8} {w:World} {done:Nat → Bool} {f:Nat → Value} {W W':World} {v':Value} (h:NPh B v0 l by1 w done f W) (e12:done 12 = true) (hw:Wr B v0 l [by1] w v' W') :
    NPh B v0 l by1 w (updB done 15) (upd f 15 undef) W':=
  ⟨h.no4,h.no11,fun e=>absurd (show done 12 = false from e) (by rw [e12]; decide),fun e=>absurd (show done 12 = false from e) (by rw [e12]; decide),fun _ e=>(by cases e),fun _=>⟨v',hw⟩⟩
def wd (n:Int):Nat:=(max 0 (min n 8)).toNat
theorem wd_le (n:Int):wd n ≤ 8:=by unfold wd; omega
theorem width_any (n:Int) (w:World):Calls Tryz.prog 112 #[.int .i64 n] w fun e w'=>e = .returned (.int .i64 (wd n:Nat)) ∧ w' = w:=by
  go_enter Tryz.func112,Tryz.ntmps112
  go_wp2
  all_goals go_ret
  all_goals (refine ⟨congrArg (fun z=>Ending.returned (Value.int IntKind.i64 z)) ?_,rfl⟩; unfold wd; omega)
def numB (x:Nat):Nat → List UInt8
  | 0=>[]
  | k + 1=>UInt8.ofNat (x / 256 ^ k) :: numB x k
theorem numB_length (x k:Nat):(numB x k).length = k:=by induction k with
  | zero=>rfl
  | succ k ih=>simp [numB,ih]
def NV (B x c sh by1:Nat) (L:List UInt8) (ao0:Option Addr) (cap0:Nat):Nat → Value → Prop
  | 0,v=>v = .pointer (some ⟨B,0,none⟩)
  | 1,v=>v = .pointer (some ⟨B,0,none⟩)
  | 2,v=>v = .pointer (some ⟨B,0,none⟩)
  | 3,v=>v = .pointer (some ⟨B,0,none⟩)
  | 4,v=>v = .slice ao0 L.length cap0
  | 5,v=>v = .int .u64 (x:Int)
  | 6,v=>v = .int .i64 ((c + 1:Nat):Int)
  | 7,v=>v = .int .i64 (c:Int)
  | 8,v=>v = .int .i64 (8 * (c:Int))
  | 9,v=>v = .int .u64 (sh:Nat)
  | 10,v=>v = .int .u8 (by1:Nat)
  | 11,_=>True
  | 12,_=>True
  | 13,v=>v = .pointer (some ⟨B,0,none⟩)
  | 14,v=>v = .pointer (some ⟨B,0,none⟩)
  | 15,_=>True
  | _,_=>True
set_option maxHeartbeats 800000 in
theorem num_any (B:Nat) (v:Value) (l:List UInt8) (x:Nat) (n:Int) (w:World) (ho:OutIs w B v l) (_hx:x < 18446744073709551616) (hl:l.length ≤ 100000) :
    Calls Tryz.prog 68 #[.pointer (some ⟨B,0,none⟩),.int .u64 (x:Int),.int .i64 n] w fun e w'=>e = .returned (.pointer (some ⟨B,0,none⟩)) ∧ ∃ v',Wr B v l (numB x (wd n)) w v' w':=by
  have hw8:=wd_le n
  have hwc:=width_any n w
  generalize wd n = k at *
  go_enter Tryz.func68,Tryz.ntmps68
  go_wp2_with fail
  go_call hwc as e w1 ⟨rfl,rfl⟩
  clear hwc
  go_wp2_with fail
  go_loopw [7] (fun i wr=>∃ (c:Nat) (new:List UInt8) (v':Value),c ≤ k ∧ new.length + c = k ∧ new ++ numB x c = numB x k ∧ i = .int .i64 (c:Nat) ∧ Hid (Wr B v l new w1 v' wr))
    (fun i _=>(intOf i).toNat)
  case atStart=>exact ⟨k,[],v,Nat.le_refl _,by simp,rfl,rfl,Wr.refl ho⟩
  case round=>
    obtain ⟨c,new,v',hc,hnk,hnew,rfl,hre⟩:=hrel
    clear ho
    cases c with
    | zero=>
      have hnn:new = numB x k:=by simpa [numB] using hnew
      subst hnn
      clear hnew
      go_wp2
      go_ret
      exact ⟨rfl,v',hre.out⟩
    | succ c=>
      have hw2:=hre.out
      clear hre
      obtain ⟨L,hL⟩:∃ L,l ++ new = L:=⟨_,rfl⟩
      have ho2:OutIs wr B v' L:=by rw [← hL]; exact hw2.out
      have hLl:L.length ≤ 100008:=by rw [← hL,List.length_append]; omega
      obtain ⟨ao0,cap0,rfl⟩:=own_slice ho2.own
      obtain ⟨by1,hby⟩:∃ b:UInt8,UInt8.ofNat (x / 256 ^ c) = b:=⟨_,rfl⟩
      obtain ⟨sh,hsh⟩:∃ q:Nat,x / 256 ^ c = q:=⟨_,rfl⟩
      have hc0:=ho2.cell
      have HB:Hid (UInt8.ofNat (x / 256 ^ c) = by1 ∧ x / 256 ^ c = sh):=⟨hby,hsh⟩
      have HW:Hid (l ++ new = L ∧ Wr B v l new w1 (.slice ao0 L.length cap0) wr ∧ new ++ numB x (c + 1) = numB x k):=⟨hL,hw2,hnew⟩
      clear hby hsh hL hw2 hnew
      go_wp2
      have hq1:IntKind.i64.wrap (c:Int) = (c:Int):=by rw [IntKind.wrap_i64]; omega
      have hq2:IntKind.i64.wrap (8 * (c:Int)) = 8 * (c:Int):=by rw [IntKind.wrap_i64]; omega
      have hq3:(x:Int) / 2 ^ (8 * (c:Int)).toNat = ((sh:Nat):Int):=by
        have e1:(8 * (c:Int)).toNat = 8 * c:=by omega
        have e2:(2:Int) ^ (8 * c) = ((256 ^ c:Nat):Int):=by
          rw [show (256:Nat) ^ c = 2 ^ (8 * c) by rw [Nat.pow_mul],Int.natCast_pow]; rfl
        rw [e1,e2,← HB.out.2]; rfl
      have hq4:IntKind.u8.wrap ((sh:Nat):Int) = ((by1.toNat:Nat):Int):=by
        rw [IntKind.wrap_u8,← HB.out.1,HB.out.2]; simp
      refine wp_region_ph (fun f=>⟨#[Value.pointer (some ⟨B,0,none⟩),Value.int IntKind.u64 (x:Int),Value.int IntKind.i64 n,undef,undef,undef,Value.pointer none,Value.int IntKind.i64 ((c + 1:Nat):Int),Value.int IntKind.i64 n,Value.int IntKind.i64 (k:Int),Value.int IntKind.i64 ((c + 1:Nat):Int),Value.bool true,u12,u13,f 0,f 1,f 2,f 3,f 4,f 5,f 6,f 7,f 8,f 9,f 10,f 11,f 12,f 13,f 14,undef],[]⟩) (NV B x c sh by1.toNat L ao0 cap0) (NPh B (.slice ao0 L.length cap0) L by1 wr) (fun i=>[u14,u15,u16,u17,u18,u19,u20,u21,u22,u23,u24,u25,u26,u27,u28].getD i undef) (by kernel_rfl) rfl rfl ?hI ?hput ?step ?fin
      case hI=>exact ⟨fun _=>rfl,fun _=>rfl,fun _=>rfl,fun _=>⟨hc0,Below.drew (Below.refl _ _),fun e=>by cases e⟩,fun e=>(by cases e),fun e=>(by cases e)⟩
      case fin=>
        intro f W hP hV
        obtain ⟨v2,hw3⟩:=hP.fin rfl
        obtain ⟨e1,e2,e3⟩:=HW.out
        have hw4:Hid (Wr B v l (new ++ [by1]) w1 v2 W):=Wr.trans e2 (by rw [e1]; exact hw3)
        have hnew2:(new ++ [by1]) ++ numB x c = numB x k:=by rw [← e3,← HB.out.1]; simp [numB]
        clear hP hV hw3 e1 e2 e3 HW ho2 hc0
        go_wp2
        go_roundw
        case rel=>exact ⟨c,new ++ [by1],v2,by omega,by simp; omega,hnew2,by go_num,hw4⟩
        case measure=>simp only [intOf]; omega
      case hput=>
        repeat (refine ⟨fun f v=>rfl,?_⟩)
        trivial
      case step=>
        refine ⟨?_,?_⟩
        · intro done f W hP hdn hd K hK
          clear hd
          go_simp
          exact hK _ _ rfl (hP.pure _ (by decide) _)
        refine ⟨?_,?_⟩
        · intro done f W hP hdn hd K hK
          clear hd
          go_simp
          exact hK _ _ rfl (hP.pure _ (by decide) _)
        refine ⟨?_,?_⟩
        · intro done f W hP hdn hd K hK
          have d1:=(hd.1 rfl).2
          have e1:=(hd.1 rfl).1
          clear hd
          replace d1:f 1 = .pointer (some ⟨B,0,none⟩):=d1
          generalize f 1 = x1 at *
          subst d1
          clear e1
          go_simp
          exact hK _ _ rfl (hP.pure _ (by decide) _)
        refine ⟨?_,?_⟩
        · intro done f W hP hdn hd K hK
          have d2:=(hd.1 rfl).2
          have e2:=(hd.1 rfl).1
          clear hd
          replace d2:f 2 = .pointer (some ⟨B,0,none⟩):=d2
          generalize f 2 = x2 at *
          subst d2
          clear e2
          go_simp
          exact hK _ _ rfl (hP.pure _ (by decide) _)
        refine ⟨?_,?_⟩
        · intro done f W hP hdn hd K hK
          have d3:=(hd.1 rfl).2
          have e3:=(hd.1 rfl).1
          clear hd
          replace d3:f 3 = .pointer (some ⟨B,0,none⟩):=d3
          generalize f 3 = x3 at *
          subst d3
          clear e3
          have hcW:=(hP.before (hP.no4 hdn)).1
          go_simp
          exact hK _ _ rfl (hP.pure _ (by decide) _)
        refine ⟨?_,?_⟩
        · intro done f W hP hdn hd K hK
          clear hd
          go_simp
          exact hK _ _ rfl (hP.pure _ (by decide) _)
        refine ⟨?_,?_⟩
        · intro done f W hP hdn hd K hK
          clear hd
          go_simp
          exact hK _ _ rfl (hP.pure _ (by decide) _)
        refine ⟨?_,?_⟩
        · intro done f W hP hdn hd K hK
          have d6:=(hd.1 rfl).2
          have e6:=(hd.1 rfl).1
          clear hd
          replace d6:f 6 = .int .i64 ((c + 1:Nat):Int):=d6
          generalize f 6 = x6 at *
          subst d6
          clear e6
          go_simp
          exact hK _ _ rfl (hP.pure _ (by decide) _)
        refine ⟨?_,?_⟩
        · intro done f W hP hdn hd K hK
          have d7:=(hd.1 rfl).2
          have e7:=(hd.1 rfl).1
          clear hd
          replace d7:f 7 = .int .i64 (c:Int):=d7
          generalize f 7 = x7 at *
          subst d7
          clear e7
          go_simp
          exact hK _ _ rfl (hP.pure _ (by decide) _)
        refine ⟨?_,?_⟩
        · intro done f W hP hdn hd K hK
          have d5:=(hd.1 rfl).2
          have d8:=(hd.2.1 rfl).2
          have e5:=(hd.1 rfl).1
          have e8:=(hd.2.1 rfl).1
          clear hd
          replace d5:f 5 = .int .u64 (x:Int):=d5
          replace d8:f 8 = .int .i64 (8 * (c:Int)):=d8
          generalize f 5 = x5 at *
          subst d5
          clear e5
          generalize f 8 = x8 at *
          subst d8
          clear e8
          go_simp
          exact hK _ _ rfl (hP.pure _ (by decide) _)
        refine ⟨?_,?_⟩
        · intro done f W hP hdn hd K hK
          have d9:=(hd.1 rfl).2
          have e9:=(hd.1 rfl).1
          clear hd
          replace d9:f 9 = .int .u64 (sh:Nat):=d9
          generalize f 9 = x9 at *
          subst d9
          clear e9
          go_simp
          exact hK _ _ rfl (hP.pure _ (by decide) _)
        refine ⟨?_,?_⟩
        · intro done f W hP hdn hd K hK
          have d10:=(hd.1 rfl).2
          have e10:=(hd.1 rfl).1
          clear hd
          replace d10:f 10 = .int .u8 (by1.toNat:Nat):=d10
          generalize f 10 = x10 at *
          subst d10
          clear e10
          have h12:=hP.no11 hdn
          go_simp
          exact hK (.slice (some ⟨W.heap.size,0,none⟩) 1 1) (W.alloc (.cells #[.int .u8 (by1.toNat:Nat)] 5)) trivial (hP.built h12)
        refine ⟨?_,?_⟩
        · intro done f W hP hdn hd K hK
          have d4:=(hd.1 rfl).2
          have d11:=(hd.2.1 rfl).2
          have e4:=(hd.1 rfl).1
          have e11:=(hd.2.1 rfl).1
          clear hd
          replace d4:f 4 = .slice ao0 L.length cap0:=d4
          obtain ⟨hcW,hbW,hbl⟩:=hP.before hdn
          obtain ⟨kk,e11',hkk,hck⟩:=hbl e11
          generalize f 11 = x11 at *
          subst e11'
          generalize f 4 = x4 at *
          subst d4
          rw [if_pos (show Region.wanted _ _ = true from rfl)]
          refine wp_app (.tmp 18) (.tmp 25) 75 rfl (.slice (some ⟨kk,0,none⟩) 1 1) 1 [.int .u8 (by1.toNat:Nat)] (Sc.ofSrc (Src.ofSlice _ Tryz.underlying75 ⟨kk,0,none⟩ 1 1 _ rfl (fun j u hj=>?_) (fun u hu=>?_))) (B + 1) _ _ _ rfl rfl (ownsRow_below ho2.own hbW) (by omega) (by have:=hbW.size; have:=ho2.lt; omega) (fun ao cap w' h1 h2 h3=>?_)
          · match j,hj with
            | 0,hj=>simp at hj; subst hj; simpa [Addr.add] using hck
          · simp at hu; subst hu; rfl
          · exact hK _ _ trivial (hP.appended ho2 e4 e11 hdn h1 h2 h3)
        refine ⟨?_,?_⟩
        · intro done f W hP hdn hd K hK
          have d0:=(hd.1 rfl).2
          have e0:=(hd.1 rfl).1
          clear hd
          replace d0:f 0 = .pointer (some ⟨B,0,none⟩):=d0
          generalize f 0 = x0 at *
          subst d0
          clear e0
          go_simp
          exact hK _ _ rfl (hP.pure _ (by decide) _)
        refine ⟨?_,?_⟩
        · intro done f W hP hdn hd K hK
          have d13:=(hd.1 rfl).2
          have e13:=(hd.1 rfl).1
          clear hd
          replace d13:f 13 = .pointer (some ⟨B,0,none⟩):=d13
          generalize f 13 = x13 at *
          subst d13
          clear e13
          go_simp
          exact hK _ _ rfl (hP.pure _ (by decide) _)
        refine ⟨?_,?_⟩
        · intro done f W hP hdn hd K hK
          have d14:=(hd.1 rfl).2
          have d12:=(hd.2.1 rfl).2
          have e14:=(hd.1 rfl).1
          have e12:=(hd.2.1 rfl).1
          clear hd
          replace d14:f 14 = .pointer (some ⟨B,0,none⟩):=d14
          obtain ⟨ao,cap,e12',hc2,hf2,hwr⟩:=hP.after e12 hdn
          generalize f 12 = x12 at *
          subst e12'
          generalize f 14 = x14 at *
          subst d14
          clear e14
          go_simp
          exact hK undef (W.setCell ⟨B,0,none⟩ (.slice ao (L.length + 1) cap)) trivial (hP.stored e12 hwr)
        trivial
theorem extract_all (s:ByteArray):s.extract 0 s.size = s:=by
  apply ByteArray.ext
  simp
theorem out_new (w:World):OutIs (w.alloc (.cells #[.slice none 0 0] 158)) w.heap.size (.slice none 0 0) []:=by
  have h0:(w.alloc (.cells #[.slice none 0 0] 158)).heap[w.heap.size]? = some (.cells #[.slice none 0 0] 158):=by
    show (w.heap.push _)[w.heap.size]? = _
    rw [Array.getElem?_push,if_pos rfl]
  refine ⟨by simp [go_sem],?_,World.ownsRow_nil _ _ _ _⟩
  simp only [World.frozen?,h0]
  simp
end Go.Proofs.YtncfbocbigdhiaaGreat.O

/- What Hex and Unhex answer, as calls: two digits for each byte, and back; for every text shorter than 100000 bytes. -/
namespace Go.Proofs.YtncfbocbigdhiaaGreat.O
set_option maxRecDepth 100000
set_option maxRecDepth 100000
set_option maxRecDepth 100000
open Go.RowKit
def bn (s:ByteArray) (k:Nat):Nat:=if h:k < s.size then (s[k]'h).toNat else 0
theorem get_bn (s:ByteArray):∀ (n:Nat) (h:n < s.size),((s[n]'h).toNat:Int) = (bn s n:Int):=fun n h=>by unfold bn; rw [dif_pos h]
theorem bn_lt (s:ByteArray) (k:Nat):bn s k < 256:=by
  unfold bn; split
  · exact (s[k]).toNat_lt
  · omega
theorem conv_string (d:ByteArray) (w:World):∃ (W0:World) (cap:Nat),(convert 9 75 (.string d)).run Tryz.prog w = .ok (.slice (some ⟨w.heap.size,0,none⟩) d.size cap) W0 ∧
    (∀ j,j < d.size → W0.cell? ⟨w.heap.size,j,none⟩ = some (.int .u8 (bn d j:Int))) ∧ Below w.heap.size w W0 ∧ w.heap.size < W0.heap.size:=by
  refine ⟨_,_,run_bytes_of_string w 9 75 5 d Tryz.underlying9 Tryz.underlying75 Tryz.underlying5,?_,?_,?_⟩
  · intro j hj
    generalize grownCap w d.size 0 5 = cap
    have h1:(w.drew.alloc (.cells (bytesRow d cap) 5 ((bytesRow d cap).size,(bytesRow d cap).size + 1))).heap[w.heap.size]? = some (.cells (bytesRow d cap) 5 ((bytesRow d cap).size,(bytesRow d cap).size + 1)):=by
      show (w.heap.push _)[w.heap.size]? = _
      simp
    simp only [World.cell?,h1]
    have h2:(bytesRow d cap)[j]? = some (.int .u8 (bn d j:Int)):=by
      unfold bytesRow
      rw [Array.getElem?_append_left (by simpa using hj)]
      have hj2:j < d.data.size:=hj
      simp only [Array.getElem?_map,Array.getElem?_eq_getElem hj2,Option.map_some]
      unfold bn
      rw [dif_pos hj]
      rfl
    simp [h2]
  · exact Below.alloc (Below.drew (Below.refl _ _)) (Nat.le_refl _) _
  · show w.heap.size < (w.heap.push _).size
    simp
def hxd (k:Nat):Nat:=if k < 10 then 48 + k else 87 + k
def hx (k:Nat):UInt8:=UInt8.ofNat (hxd k)
def HV (b p q:Nat) (l:List UInt8) (ao0:Option Addr) (cap0:Nat):Nat → Value → Prop
  | 0,v=>v = .slice ao0 l.length cap0
  | 1,v=>v = .int .u8 (b:Nat)
  | 2,v=>v = .int .u8 (p:Nat)
  | 3,v=>v = .int .u8 (hxd (p):Nat)
  | 4,v=>v = .int .u8 (b:Nat)
  | 5,v=>v = .int .u8 (q:Nat)
  | 6,v=>v = .int .u8 (hxd (q):Nat)
  | 7,_=>True
  | 8,_=>True
  | 9,_=>True
  | _,_=>True
end Go.Proofs.YtncfbocbigdhiaaGreat.O

/- The law OctetHex as a call: for any two texts it returns true, and nothing that was in memory is changed. -/
namespace Go.Proofs.YtncfbocbigdhiaaGreat.O
set_option maxRecDepth 100000
set_option maxRecDepth 100000
set_option maxRecDepth 100000
open Go.RowKit
def tx (l:List UInt8):ByteArray:=⟨l.toArray⟩
theorem tx_size (l:List UInt8):(tx l).size = l.length:=by
  show l.toArray.size = _
  simp
theorem tx_toList (s:ByteArray):tx s.data.toList = s:=by
  unfold tx; cases s; simp
theorem bn_tx (l:List UInt8) (k:Nat):bn (tx l) k = ((l[k]?).map UInt8.toNat).getD 0:=by
  unfold bn
  by_cases h:k < (tx l).size
  · rw [dif_pos h]
    rw [tx_size] at h
    rw [List.getElem?_eq_getElem h]
    simp [tx]
    rfl
  · rw [dif_neg h]
    rw [tx_size] at h
    rw [List.getElem?_eq_none (by omega)]
    rfl
end Go.Proofs.YtncfbocbigdhiaaGreat.O
