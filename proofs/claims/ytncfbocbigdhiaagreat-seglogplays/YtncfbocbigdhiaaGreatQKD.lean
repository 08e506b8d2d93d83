/- Texts of this seat, one behind the other: FW1, FR2, FW2, FV1, FY1, FY2, FZ1, FZ2, FX1, FX2. -/
import Derived.Test.YtncfbocbigdhiaaGreatQKC
import Derived.Test.YtncfbocbigdhiaaGreatQKB
/- The Builder, as a call; medium's Read: under way. -/
namespace Go.Proofs.YtncfbocbigdhiaaGreat.F
set_option maxRecDepth 100000
set_option maxRecDepth 100000
open Go.RowKit
def Bld (b:Nat) (l:List UInt8) (w:World):Prop:=Lib.IsBuilderF 141 5 b b (Lib.byteCells l) w
theorem bld_new (w:World):Bld w.heap.size [] (w.alloc (.cells #[.pointer none,.slice none 0 0] 141)):=
  Or.inl ⟨Nat.le_refl _,.slice none 0 0,heap_new _ _,⟨rfl,Or.inl ⟨rfl,rfl⟩⟩,by intro e; cases e⟩
theorem bld_write (b:Nat) (l:List UInt8) (s:ByteArray) (w:World) (h:Bld b l w) (hl:l.length + s.size ≤ 1000000) :
    Calls Tryz.prog 95 #[.pointer (some ⟨b,0,none⟩),.string s] w fun e w'=>e = .returned (.tuple #[.int .i64 (s.size:Nat),.nilIface]) ∧ Bld b (l ++ s.data.toList) w' ∧ Lib.OthersKept 5 (some b) w w' ∧ Below b w w':=by
  have hb:b ≤ w.heap.size:=by
    rcases h with ⟨_,v,h1,_⟩ | ⟨_,v,h1,_⟩ <;> exact Nat.le_of_lt (getElem?_lt h1)
  have hlen:(Lib.byteCells l).length = l.length:=by rw [Lib.byteCells_length]
  refine (Any.Builder_WriteString_k { Tryz.lays105 with } Tryz.extra105 b b (Lib.byteCells l) s w h (by rw [hlen]; omega) hb).mono ?_
  rintro e w' ⟨he,h1,h2,h3⟩
  refine ⟨he,Or.inr ?_,h3,h2⟩
  have e2:Lib.byteCells l ++ Lib.strCells s = Lib.byteCells (l ++ s.data.toList):=by
    unfold Lib.byteCells Lib.strCells
    rw [List.map_append]
  rw [e2] at h1
  exact h1
theorem bld_string (b:Nat) (l:List UInt8) (w:World) (h:Bld b l w) :
    Calls Tryz.prog 96 #[.pointer (some ⟨b,0,none⟩)] w fun e w'=>e = .returned (.string ⟨l.toArray⟩) ∧ Lib.OthersKept 5 (some b) w w' ∧ Below b w w':=by
  have hb:b ≤ w.heap.size:=by
    rcases h with ⟨_,v,h1,_⟩ | ⟨_,v,h1,_⟩ <;> exact Nat.le_of_lt (getElem?_lt h1)
  refine (Any.Builder_String_any_k { Tryz.lays105 with } Tryz.extra105 b b l w h hb).mono ?_
  rintro e w' ⟨he,_,h2,h3⟩
  exact ⟨he,h3,h2⟩
theorem Bld.of_blocks {b:Nat} {l:List UInt8} {w w':World} (h:Bld b l w) (hk:∀ k o,w.heap[k]? = some o → (k = b ∨ ∃ c fz,o = .cells c 5 fz) → w'.heap[k]? = some o):Bld b l w':=by
  have one:∀ p,Lib.BuilderAtF 141 5 b b p (Lib.byteCells l) w → Lib.BuilderAtF 141 5 b b p (Lib.byteCells l) w':=by
    rintro p ⟨h0,v,h1,h2,h3⟩
    refine ⟨h0,v,hk b _ h1 (Or.inl rfl),⟨h2.1,?_⟩,h3⟩
    rcases h2.2 with q | ⟨g,cap,cur,fz,q1,q2,q3,q4⟩
    · exact Or.inl q
    · exact Or.inr ⟨g,cap,cur,fz,q1,q2,hk g _ q3 (Or.inr ⟨cur,fz,rfl⟩),q4⟩
  rcases h with h | h
  · exact Or.inl (one _ h)
  · exact Or.inr (one _ h)
section
variable {b0:Nat} {w0:World} {L:Loc} {st:St} {lv:Value} {oth:List (Nat × Obj)} {w:World}
theorem One.with_ty (h:One b0 w0 L st lv oth w) {k:Nat} {c:Array Value} {t:TypeId} {fr:Nat × Nat} (hk:w.heap[k]? = some (.cells c t fr)) (ht:t ≠ 101 ∧ t ≠ 90 ∧ t ≠ 97 ∧ t ≠ 150 ∧ t ≠ 152) (hb:b0 ≤ k):One b0 w0 L st lv ((k,.cells c t fr) :: oth) w:=by
  have ne:∀ {j:Nat} {c':Array Value} {t':TypeId},w.heap[j]? = some (.cells c' t') → t ≠ t' → k ≠ j:=by
    intro j c' t' hj htt e
    rw [← e,hk] at hj
    injection hj with hj
    injection hj with _ hj _
    exact htt hj
  refine { h with oth:=?_ }
  intro p hp
  rcases List.mem_cons.1 hp with rfl | hp
  · exact ⟨hk,⟨ne h.pool ht.1,ne h.rowb ht.2.1,ne h.dev ht.2.2.1,ne h.sec ht.2.2.2.1⟩,fun c' e=>by injection e with _ e _; exact ht.2.2.2.2 e,hb⟩
  · exact h.oth p hp
theorem One.others {w':World} {b:Nat} {cb:Array Value} (h:One b0 w0 L st lv oth w) (hk:Lib.OthersKept 5 (some b) w w') (hbl:Below b w w') (hb0:b0 ≤ b) (hnb:w.heap[b]? = some (.cells cb 141)) (ho:∀ p ∈ oth,p.1 ≠ b ∧ ∀ c fz,p.2 ≠ .cells c 5 fz):One b0 w0 L st lv oth w':=by
  have same:∀ {j:Nat} {c:Array Value} {t:TypeId},w.heap[j]? = some (.cells c t) → t ≠ 5 → t ≠ 141 → w'.heap[j]? = some (.cells c t):=by
    intro j c t hj h5 h127
    refine hk j _ hj ?_ (fun c' fz e=>by injection e with _ e _; exact h5 e)
    intro e
    injection e with e
    rw [e,hnb] at hj
    injection hj with hj
    injection hj with _ hj _
    exact h127 hj.symm
  refine ⟨?_,h.bP,h.bR,h.bD,h.bS,same h.pool (by decide) (by decide),same h.rowb (by decide) (by decide),h.rc0,same h.dev (by decide) (by decide),same h.sec (by decide) (by decide),⟨h.own.1,?_⟩,?_⟩
  · exact h.below.trans (hbl.mono hb0)
  · rcases h.own.2 with q | ⟨g,cap,cur,q1,q2,q3,q4⟩
    · exact Or.inl q
    · exact Or.inr ⟨g,cap,cur,q1,q2,same q3 (by decide) (by decide),q4⟩
  · intro p hp
    obtain ⟨o1,o2,o3,o4⟩:=h.oth p hp
    obtain ⟨q1,q2⟩:=ho p hp
    exact ⟨hk p.1 _ o1 (fun e=>q1 (Option.some.inj e)) q2,o2,o3,o4⟩
def rdsL (st:St) (frm:Nat):Nat → List UInt8
  | 0=>[]
  | k + 1=>rdsL st frm k ++ rdB st (frm + k)
def RS (b0:Nat) (w0:World) (L:Loc) (st:St) (oth:List (Nat × Obj)) (b frm k c:Nat) (w:World):Prop:=∃ lv,One b0 w0 L { st with count:=st.count + (c:Int) } lv oth w ∧ Bld b (rdsL st frm k) w
theorem RS.below {b frm k c:Nat} {w':World} (h:RS b0 w0 L st oth b frm k c w) (hb:Below w.heap.size w w'):RS b0 w0 L st oth b frm k c w':=by
  obtain ⟨lv,h1,h2⟩:=h
  exact ⟨lv,h1.ofBelow hb,h2.of_blocks (fun j o hj _=>(hb.block j (getElem?_lt hj)).trans hj)⟩
theorem RS.read {b frm k:Nat} (h:RS b0 w0 L st oth b frm k k w) (hb0:b0 ≤ b) (hdn:st.down = false) (ht:st.there = true) (haw:st.aw = false) (hhw:st.hw = false) (hi:frm + k < st.n) (hs8:SecOk st) (hnb:st.n ≤ 9223372036854775807) (hc:0 ≤ st.count + (k:Int) ∧ st.count + (k:Int) ≤ 100000000) :
    Calls Tryz.prog 132 #[.pointer (some ⟨L.P,0,none⟩),hnd st.serial st.session,.int .i64 ((frm + k:Nat):Int)] w fun e w'=>e = .returned (.tuple #[.string (rd st (frm + k)),.int .i64 0]) ∧ RS b0 w0 L st oth b frm k (k + 1) w':=by
  obtain ⟨lv,h1,h2⟩:=h
  have key:∃ oth2,One b0 w0 L { st with count:=st.count + (k:Int) } lv oth2 w ∧ (∀ p ∈ oth,p ∈ oth2) ∧ ∀ w',(∀ p ∈ oth2,w'.heap[p.1]? = some p.2) → Bld b (rdsL st frm k) w':=by
    have one:∀ p,Lib.BuilderAtF 141 5 b b p (Lib.byteCells (rdsL st frm k)) w → ∃ oth2,One b0 w0 L { st with count:=st.count + (k:Int) } lv oth2 w ∧ (∀ p ∈ oth,p ∈ oth2) ∧ ∀ w',(∀ p ∈ oth2,w'.heap[p.1]? = some p.2) → Lib.BuilderAtF 141 5 b b p (Lib.byteCells (rdsL st frm k)) w':=by
      rintro p ⟨q0,v,q1,q2,q3⟩
      have o1:=h1.with_ty q1 (by decide) hb0
      rcases q2.2 with ⟨r1,r2⟩ | ⟨g,cap,cur,fz,r1,r2,r3,r4⟩
      · refine ⟨_,o1,fun p hp=>List.mem_cons_of_mem _ hp,fun w' hw=>⟨q0,v,hw _ (List.mem_cons_self ..),⟨q2.1,Or.inl ⟨r1,r2⟩⟩,q3⟩⟩
      · refine ⟨_,o1.with_ty r3 (by decide) (Nat.le_trans hb0 r2),fun p hp=>List.mem_cons_of_mem _ (List.mem_cons_of_mem _ hp),fun w' hw=>⟨q0,v,hw _ (List.mem_cons_of_mem _ (List.mem_cons_self ..)),⟨q2.1,Or.inr ⟨g,cap,cur,fz,r1,r2,hw _ (List.mem_cons_self ..),r4⟩⟩,q3⟩⟩
    rcases h2 with h2 | h2
    · obtain ⟨oth2,a1,a2,a3⟩:=one _ h2
      exact ⟨oth2,a1,a2,fun w' hw=>Or.inl (a3 w' hw)⟩
    · obtain ⟨oth2,a1,a2,a3⟩:=one _ h2
      exact ⟨oth2,a1,a2,fun w' hw=>Or.inr (a3 w' hw)⟩
  obtain ⟨oth2,a1,a2,a3⟩:=key
  refine (a1.pread_ok (frm + k) hdn ht haw hhw hi ⟨hs8.size,hs8.bytes⟩ hnb hc).mono ?_
  rintro e w' ⟨rfl,lv',h'⟩
  refine ⟨rfl,lv',?_,a3 w' (fun p hp=>(h'.oth p hp).1)⟩
  have e:({ ({ st with count:=st.count + (k:Int) }:St) with count:=({ st with count:=st.count + (k:Int) }:St).count + 1 }:St) = { st with count:=st.count + ((k + 1:Nat):Int) }:=by
    show ({ st with count:=st.count + (k:Int) + 1 }:St) = _
    congr 1; omega
  rw [e] at h'
  exact h'.forget a2
end
end Go.Proofs.YtncfbocbigdhiaaGreat.F
/- The rule for statements that draw their order, by phases, where an edge that is of one compiler alone may lead to a later operation. -/
namespace Go.Proofs.YtncfbocbigdhiaaGreat.F
set_option maxRecDepth 100000
def lexOkB:Nat → List Oper → Bool
  | _,[]=>true
  | k,o :: l=>o.after.toList.all (fun e=>!(Region.binds .any e) || decide (e.on < k)) && lexOkB (k + 1) l
theorem lexOkB.get:∀ {k:Nat} {l:List Oper},lexOkB k l = true → ∀ (i:Nat) (o:Oper),l[i]? = some o → ∀ e ∈ o.after,Region.binds .any e = true → e.on < k + i
  | _,[],_,_,_,h=>by simp at h
  | k,o :: l,h,i,o',hi=>by
    simp only [lexOkB,Bool.and_eq_true,List.all_eq_true] at h
    cases i with
    | zero=>
      simp at hi; subst hi
      intro e he hb
      have:=h.1 e (by simpa using he)
      rw [hb] at this
      simpa using this
    | succ i=>have:=lexOkB.get h.2 i o' (by simpa using hi); intro e he hb; have:=this e he hb; omega
section
variable {P:Program} {ops:Array Oper} {Q:Exit → Act → World → Prop}
theorem wp_region_pb {id:Nat} {a:Act} {w:World} (A:(Nat → Value) → Act) (V:Nat → Value → Prop) (Ph:(Nat → Bool) → (Nat → Value) → World → Prop) (f0:Nat → Value)
    (hm:P.follows .mixedOrders = true) (hlex:lexOkB 0 ops.toList = true) (ha:a = A f0) (hI:Ph (fun _=>false) f0 w.drew)
    (hput:AllOps (fun i o=>∀ f v,(A f).put o.dst v = A (upd f i v)) 0 ops.toList)
    (step:AllOps (fun i o=>∀ (done:Nat → Bool) (f:Nat → Value) (w:World),Ph done f w → done i = false → DepsP V done f o.after.toList → ∀ K:Act → World → Prop,(∀ v w',V i v → Ph (updB done i) (upd f i v) w' → K ((A f).put o.dst v) w') →
      if Region.wanted o (yielded ops (A f).tmps) = true then Oper.wp P o (A f) w K Q else K ((A f).put o.dst undef) w) 0 ops.toList)
    (fin:∀ (f:Nat → Value) (w:World),Ph (fun i=>decide (i < ops.size)) f w → (∀ i,i < ops.size → V i (f i)) → Q .normal (A f) w) :
    (Code.region id ops true).wp P Q a w:=by
  refine wp_region_any hm ?_
  refine wpAny_inv (fun listed b w=>∃ f,b = A f ∧ Ph (fun i=>listed.getD i false) f w ∧ ∀ i,listed.getD i false = true → V i (f i)) ?_ ?_ ops.size _ a _ (by simp) (by simp) ⟨f0,ha,?_,fun i hi=>?_⟩
  · rintro listed b w i ⟨f,rfl,hP,hV⟩ hs hi
    obtain ⟨h1,o,ho,hdep⟩:=mem_ready.1 hi
    have ho':ops.toList[i]? = some o:=by simpa using ho
    have hst:=AllOps.get step i o ho'
    rw [Nat.zero_add] at hst
    have hlt:i < listed.size:=by
      rw [hs]; exact (Array.getElem?_eq_some_iff.1 ho).1
    have hd:DepsP V (fun i=>listed.getD i false) f o.after.toList:=DepsP.of_all _ (fun e he hb=>by
      have:=hdep e (by simpa using he) hb
      exact ⟨this,hV e.on this⟩)
    have hset:(fun j=>(listed.setIfInBounds i true).getD j false) = updB (fun j=>listed.getD j false) i:=by
      funext j
      unfold updB
      by_cases hji:j = i
      · subst hji; simp [hlt]
      · simp [Array.getD_eq_getD_getElem?,Ne.symm hji,hji]
    have h1':listed.getD i false = false:=by
      have:listed[i] = false:=by simpa [Array.getD,hlt] using h1
      simp [Array.getD,hlt,this]
    have hK:=hst (fun i=>listed.getD i false) f w hP h1' hd (fun b' w'=>∃ f,b' = A f ∧ Ph (fun j=>(listed.setIfInBounds i true).getD j false) f w' ∧ ∀ j,(listed.setIfInBounds i true).getD j false = true → V j (f j)) (fun v w' hv hP'=>by
      refine ⟨upd f i v,by have:=AllOps.get hput i o ho' f v; rwa [Nat.zero_add] at this,by rw [hset]; exact hP',fun j hj=>?_⟩
      by_cases hji:j = i
      · subst hji; simpa [upd] using hv
      · rw [show upd f i v j = f j from if_neg hji]
        refine hV j ?_
        simpa [Array.getD_eq_getD_getElem?,Array.getElem?_setIfInBounds,Ne.symm hji] using hj)
    unfold wpOp
    simp only [ho]
    split
    · rename_i hw
      rw [if_pos hw] at hK
      exact Or.inl hK
    · rename_i hw
      rw [if_neg hw] at hK
      exact hK
  · rintro listed b w ⟨f,rfl,hP,hV⟩ hs hr
    have key:∀ n i,i < n → i < ops.size → listed.getD i false = true:=by
      intro n
      induction n with
      | zero=>intro i h; omega
      | succ n ih=>
        intro i hin hio
        by_cases hl:listed.getD i false = true
        · exact hl
        · exfalso
          have ho:ops[i]? = some ops[i]:=Array.getElem?_eq_getElem hio
          have hlt:i < listed.size:=by omega
          have:i ∈ Region.ready .any ops listed:=mem_ready.2 ⟨by
            have:listed[i] = false:=by simpa [Array.getD,hlt] using hl
            simp [Array.getD,hlt,this],ops[i],ho,fun e he hb=>by
            have:=lexOkB.get hlex i ops[i] (by simp) e he hb
            exact ih e.on (by omega) (by omega)⟩
          rw [hr] at this
          cases this
    have hall:(fun i=>listed.getD i false) = fun i=>decide (i < ops.size):=by
      funext i
      by_cases h:i < ops.size
      · rw [key (i + 1) i (by omega) h,decide_eq_true h]
      · rw [decide_eq_false h]
        simp [Array.getD,show ¬ i < listed.size by omega]
    refine fin f w (by rw [← hall]; exact hP) (fun i hi=>hV i (key (i + 1) i (by omega) hi))
  · have:(fun i=>(Array.replicate ops.size false).getD i false) = fun _=>false:=by
      funext i
      simp [Array.getD_eq_getD_getElem?,Array.getElem?_replicate]
      split <;> simp
    rw [this]; exact hI
  · simp [Array.getD_eq_getD_getElem?,Array.getElem?_replicate] at hi
    split at hi <;> simp at hi
end
end Go.Proofs.YtncfbocbigdhiaaGreat.F
/- medium's Read of sectors that are there, as a call. -/
namespace Go.Proofs.YtncfbocbigdhiaaGreat.F
set_option maxRecDepth 100000
open Go.RowKit
def RV (L:Loc) (st:St) (M frm k:Nat):Nat → Value → Prop
  | 0,v=>v = .pointer (some ⟨M,0,none⟩)
  | 1,v=>v = .pointer (some ⟨M,0,none⟩)
  | 2,v=>v = .pointer (some ⟨M,0,none⟩)
  | 3,v=>v = .pointer (some ⟨L.P,0,none⟩)
  | 4,v=>v = .pointer (some ⟨M,0,none⟩)
  | 5,v=>v = .pointer (some ⟨M,0,none⟩)
  | 6,v=>v = .pointer (some ⟨M,1,none⟩)
  | 7,v=>v = hnd st.serial st.session
  | 8,v=>v = .int .i64 (frm:Nat)
  | 9,v=>v = .int .i64 (k:Nat)
  | 10,v=>v = .int .i64 ((frm + k:Nat):Int)
  | 11,v=>v = .tuple #[.string (rd st (frm + k)),.int .i64 0]
  | 12,v=>v = .tuple #[.string (rd st (frm + k)),.int .i64 0]
  | 13,v=>v = .string (rd st (frm + k))
  | 14,v=>v = .int .i64 0
  | 15,v=>v = .string (rd st (frm + k))
  | 16,v=>v = .int .i64 0
  | _,_=>True
structure RPh (b0:Nat) (w0:World) (L:Loc) (st:St) (oth:List (Nat × Obj)) (b frm k:Nat) (done:Nat → Bool) (f:Nat → Value) (W:World):Prop where
  a:done 11 = false → RS b0 w0 L st oth b frm k k W
  b:done 11 = true → RS b0 w0 L st oth b frm k (k + 1) W
section
variable {b0:Nat} {w0:World} {L:Loc} {st:St} {lv:Value} {oth:List (Nat × Obj)} {w:World} {b frm k:Nat} {done:Nat → Bool} {f:Nat → Value} {W:World}
theorem RPh.pure (h:RPh b0 w0 L st oth b frm k done f W) (i:Nat) (hi:i ≠ 11) (v:Value):RPh b0 w0 L st oth b frm k (updB done i) (upd f i v) W:=by
  have a11:updB done i 11 = done 11:=if_neg (Ne.symm hi)
  exact ⟨by rw [a11]; exact h.a,by rw [a11]; exact h.b⟩
theorem RPh.read {W':World} (_:RPh b0 w0 L st oth b frm k done f W) (hx:RS b0 w0 L st oth b frm k (k + 1) W') (v:Value):RPh b0 w0 L st oth b frm k (updB done 11) (upd f 11 v) W':=by
  have a11:updB done 11 11 = true:=if_pos rfl
  exact ⟨by rw [a11]; exact (fun e=>by cases e),fun _=>hx⟩
theorem RS.med {M c:Nat} (h:RS b0 w0 L st oth b frm k c W) (hm:(M,med L.P st.serial st.session) ∈ oth):W.cell? ⟨M,0,none⟩ = some (.pointer (some ⟨L.P,0,none⟩)) ∧ W.cell? ⟨M,1,none⟩ = some (.int .i64 st.serial) ∧ W.cell? ⟨M,2,none⟩ = some (.int .i64 st.session):=by
  obtain ⟨lv,h1,_⟩:=h
  have e:=(h1.oth _ hm).1
  exact ⟨cell_of e 0,cell_of e 1,cell_of e 2⟩
theorem RPh.cells {M:Nat} (h:RPh b0 w0 L st oth b frm k done f W) (hm:(M,med L.P st.serial st.session) ∈ oth):W.cell? ⟨M,0,none⟩ = some (.pointer (some ⟨L.P,0,none⟩)) ∧ W.cell? ⟨M,1,none⟩ = some (.int .i64 st.serial) ∧ W.cell? ⟨M,2,none⟩ = some (.int .i64 st.session):=by
  cases hd:done 11 with
  | false=>exact (h.a hd).med hm
  | true=>exact (h.b hd).med hm
theorem rdsL_length (st:St) (frm:Nat) (hs:SecOk st):∀ k,frm + k ≤ st.n → (rdsL st frm k).length = 64 * k
  | 0,_=>rfl
  | k + 1,h=>by
    show (rdsL st frm k ++ rdB st (frm + k)).length = _
    rw [List.length_append,rdsL_length st frm hs k (by omega)]
    unfold rdB
    rw [List.length_map,sec_length hs (by omega)]; omega
set_option maxHeartbeats 1000000 in
theorem One.mread (h:One b0 w0 L st lv oth w) (M:Nat) (hm:(M,med L.P st.serial st.session) ∈ oth) (h5:∀ p ∈ oth,∀ c fz,p.2 ≠ .cells c 5 fz) (frm n:Nat) (hfit:frm + n ≤ st.n) (hn8:st.n ≤ 1000) (hdn:st.down = false) (ht:st.there = true) (haw:st.aw = false) (hhw:st.hw = false) (hs8:SecOk st) (hc:0 ≤ st.count ∧ st.count ≤ 10000000) :
    Calls Tryz.prog 101 #[.pointer (some ⟨M,0,none⟩),.int .i64 (frm:Nat),.int .i64 (n:Nat)] w fun e w'=>e = .returned (.string ⟨(rdsL st frm n).toArray⟩) ∧ ∃ lv',One b0 w0 L { st with count:=st.count + (n:Int) } lv' oth w':=by
  have hlt:=h.lts
  have H0:Hid (RS b0 w0 L st oth w.heap.size frm 0 0 (w.alloc (.cells #[.pointer none,.slice none 0 0] 141))):=by
    refine ⟨lv,?_,bld_new w⟩
    have:=h.laid (.cells #[.pointer none,.slice none 0 0] 141)
    have e:({ st with count:=st.count + ((0:Nat):Int) }:St) = st:=by cases st; simp
    rw [e]; exact this
  have hb0:b0 ≤ w.heap.size:=by have:=getElem?_lt h.pool; have:=h.bP; omega
  clear h
  generalize hb:w.heap.size = b at *
  have HLT:Hid (∀ p ∈ oth,p.1 < b):=hlt
  have H5:Hid (∀ p ∈ oth,∀ c fz,p.2 ≠ .cells c 5 fz):=h5
  have HM:Hid ((M,med L.P st.serial st.session) ∈ oth):=hm
  have HC:Hid (st.down = false ∧ st.there = true ∧ st.aw = false ∧ st.hw = false ∧ SecOk st ∧ 0 ≤ st.count ∧ st.count ≤ 10000000):=⟨hdn,ht,haw,hhw,hs8,hc⟩
  clear hlt h5 hm hdn ht haw hhw hs8 hc
  go_enter Tryz.func101,Tryz.ntmps101
  go_wp2
  go_loopw [12] (fun i wr=>∃ k:Nat,k ≤ n ∧ i = .int .i64 (k:Nat) ∧ Hid (RS b0 w0 L st oth b frm k k wr)) (fun i _=>n - (intOf i).toNat)
  case atStart=>exact ⟨0,by omega,rfl,H0⟩
  case round=>
    obtain ⟨k,hk,rfl,hR0⟩:=hrel
    clear H0
    rcases Nat.lt_or_ge k n with hltn | hge
    · have hrd:Hid (∀ W,RS b0 w0 L st oth b frm k k W → Calls Tryz.prog 132 #[.pointer (some ⟨L.P,0,none⟩),hnd st.serial st.session,.int .i64 ((frm + k:Nat):Int)] W fun e w'=>e = .returned (.tuple #[.string (rd st (frm + k)),.int .i64 0]) ∧ RS b0 w0 L st oth b frm k (k + 1) w'):=by
        obtain ⟨q1,q2,q3,q4,q5,q6,q7⟩:=HC.out
        exact fun W hW=>hW.read hb0 q1 q2 q3 q4 (by omega) q5 (by omega) (by omega)
      go_wp2_with fail
      refine wp_region_pb (fun f=>⟨#[.pointer (some ⟨M,0,none⟩),.int .i64 (frm:Nat),.int .i64 (n:Nat),undef,undef,undef,.string ⟨#[]⟩,.pointer (some ⟨b,0,none⟩),.int .i64 (k:Nat),f 15,f 16,.int .i64 (n:Nat),.int .i64 (k:Nat),.bool true,.int .i64 (k:Nat),f 12,f 0,f 1,f 2,f 3,f 4,f 5,f 6,f 7,f 8,f 9,f 10,f 11,f 13,f 14,u30,u31,u32,u33,u34,u35,u36,undef],[]⟩) (RV L st M frm k) (RPh b0 w0 L st oth b frm k) (fun i=>[u16,u17,u18,u19,u20,u21,u22,u23,u24,u25,u26,u27,u15,u28,u29,u9,u10].getD i undef) (by kernel_rfl) rfl rfl ?hI ?hput ?step ?fin
      case hI=>exact ⟨fun _=>hR0.out.below ⟨rfl,rfl,rfl,Nat.le_refl _,fun _ _=>rfl⟩,fun e=>by cases e⟩
      case fin=>
        intro f W hP hV
        have h1:RS b0 w0 L st oth b frm k (k + 1) W:=hP.b rfl
        have v15:f 15 = .string (rd st (frm + k)):=hV 15 (by decide)
        have v16:f 16 = .int .i64 0:=hV 16 (by decide)
        obtain ⟨lv1,o1,bl1⟩:=h1
        have c1:W.cell? ⟨M,1,none⟩ = some (.int .i64 st.serial):=cell_of (o1.oth _ HM.out).1 1
        have hrl:=rdsL_length st frm HC.out.2.2.2.2.1 k (by omega)
        have hr64:(rd st (frm + k)).size = 64:=by show (rdB st (frm + k)).toArray.size = 64; simp [rdB,sec_length HC.out.2.2.2.2.1 (show frm + k < st.n by omega)]
        have hbw:=bld_write b (rdsL st frm k) (rd st (frm + k)) W bl1 (by omega)
        have O1:Hid (∃ lv,One b0 w0 L { st with count:=st.count + ((k + 1:Nat):Int) } lv oth W ∧ Bld b (rdsL st frm k) W):=⟨lv1,o1,bl1⟩
        clear hP hV o1 bl1 hrl
        generalize f 15 = x15 at *
        subst v15
        generalize f 16 = x16 at *
        subst v16
        generalize hrr:rd st (frm + k) = r at *
        go_wp2_with fail
        go_call (serial_any M st.serial W c1) as e W1 ⟨rfl,hW1⟩
        rw [← hW1] at hbw O1
        clear hW1 c1
        go_wp2_with fail
        go_call (fail_ok st.serial W1) as e W2 ⟨rfl,hW2⟩
        rw [← hW2] at hbw O1
        clear hW2
        go_wp2_with fail
        go_call hbw as e W3 ⟨rfl,bl3,ok3,be3⟩
        have H3:Hid (RS b0 w0 L st oth b frm (k + 1) (k + 1) W3):=by
          obtain ⟨lv1,o1,bl1⟩:=O1.out
          obtain ⟨cb,hcb⟩:∃ cb,W2.heap[b]? = some (.cells cb 141):=by
            rcases bl1 with ⟨_,v,q,_⟩ | ⟨_,v,q,_⟩ <;> exact ⟨_,q⟩
          refine ⟨lv1,o1.others ok3 be3 hb0 hcb (fun p hp=>⟨by have:=HLT.out p hp; omega,H5.out p hp⟩),?_⟩
          have e:r.data.toList = rdB st (frm + k):=by rw [← hrr]; rfl
          show Bld b (rdsL st frm k ++ rdB st (frm + k)) W3
          rw [← e]; exact bl3
        clear hbw bl3 ok3 be3 O1
        go_wp2
        go_roundw
        case rel=>exact ⟨k + 1,by omega,by simp,H3⟩
        case measure=>simp only [intOf]; omega
      case hput=>
        repeat (refine ⟨fun f v=>rfl,?_⟩)
        trivial
      case step=>
        refine ⟨?_,?_⟩
        · intro done f W hP hdn hd K hK
          clear hd
          go_simp
          exact hK _ _ rfl (hP.pure _ (by decide) _)
        refine ⟨?_,?_⟩
        · intro done f W hP hdn hd K hK
          have d0:=(hd.1 rfl).2
          have e0:=(hd.1 rfl).1
          clear hd
          replace d0:f 0 = .pointer (some ⟨M,0,none⟩):=d0
          generalize f 0 = x0 at *
          subst d0
          clear e0
          go_simp
          exact hK _ _ rfl (hP.pure _ (by decide) _)
        refine ⟨?_,?_⟩
        · intro done f W hP hdn hd K hK
          have d1:=(hd.1 rfl).2
          have e1:=(hd.1 rfl).1
          clear hd
          replace d1:f 1 = .pointer (some ⟨M,0,none⟩):=d1
          generalize f 1 = x1 at *
          subst d1
          clear e1
          go_simp
          exact hK _ _ rfl (hP.pure _ (by decide) _)
        refine ⟨?_,?_⟩
        · intro done f W hP hdn hd K hK
          have d2:=(hd.1 rfl).2
          have e2:=(hd.1 rfl).1
          clear hd
          replace d2:f 2 = .pointer (some ⟨M,0,none⟩):=d2
          generalize f 2 = x2 at *
          subst d2
          clear e2
          have hm:=(hP.cells HM.out).1
          go_simp
          exact hK _ _ rfl (hP.pure _ (by decide) _)
        refine ⟨?_,?_⟩
        · intro done f W hP hdn hd K hK
          clear hd
          go_simp
          exact hK _ _ rfl (hP.pure _ (by decide) _)
        refine ⟨?_,?_⟩
        · intro done f W hP hdn hd K hK
          have d4:=(hd.1 rfl).2
          have e4:=(hd.1 rfl).1
          clear hd
          replace d4:f 4 = .pointer (some ⟨M,0,none⟩):=d4
          generalize f 4 = x4 at *
          subst d4
          clear e4
          go_simp
          exact hK _ _ rfl (hP.pure _ (by decide) _)
        refine ⟨?_,?_⟩
        · intro done f W hP hdn hd K hK
          have d5:=(hd.1 rfl).2
          have e5:=(hd.1 rfl).1
          clear hd
          replace d5:f 5 = .pointer (some ⟨M,0,none⟩):=d5
          generalize f 5 = x5 at *
          subst d5
          clear e5
          go_simp
          exact hK _ _ rfl (hP.pure _ (by decide) _)
        refine ⟨?_,?_⟩
        · intro done f W hP hdn hd K hK
          have d6:=(hd.1 rfl).2
          have e6:=(hd.1 rfl).1
          clear hd
          replace d6:f 6 = .pointer (some ⟨M,1,none⟩):=d6
          generalize f 6 = x6 at *
          subst d6
          clear e6
          have hm1:=(hP.cells HM.out).2.1
          have hm2:=(hP.cells HM.out).2.2
          go_simp
          exact hK _ _ rfl (hP.pure _ (by decide) _)
        refine ⟨?_,?_⟩
        · intro done f W hP hdn hd K hK
          clear hd
          go_simp
          exact hK _ _ rfl (hP.pure _ (by decide) _)
        refine ⟨?_,?_⟩
        · intro done f W hP hdn hd K hK
          clear hd
          go_simp
          exact hK _ _ rfl (hP.pure _ (by decide) _)
        refine ⟨?_,?_⟩
        · intro done f W hP hdn hd K hK
          have d8:=(hd.1 rfl).2
          have d9:=(hd.2.1 rfl).2
          have e8:=(hd.1 rfl).1
          have e9:=(hd.2.1 rfl).1
          clear hd
          replace d8:f 8 = .int .i64 (frm:Nat):=d8
          replace d9:f 9 = .int .i64 (k:Nat):=d9
          generalize f 8 = x8 at *
          subst d8
          clear e8
          generalize f 9 = x9 at *
          subst d9
          clear e9
          go_simp
          exact hK _ _ (by show Value.int _ _ = Value.int _ _; first | rfl | (congr 1; rw [IntKind.wrap_i64]; omega) | (congr 1; omega)) (hP.pure _ (by decide) _)
        refine ⟨?_,?_⟩
        · intro done f W hP hdn hd K hK
          have d3:=(hd.1 rfl).2
          have d7:=(hd.2.1 rfl).2
          have d10:=(hd.2.2.1 rfl).2
          have e3:=(hd.1 rfl).1
          have e7:=(hd.2.1 rfl).1
          have e10:=(hd.2.2.1 rfl).1
          clear hd
          replace d3:f 3 = .pointer (some ⟨L.P,0,none⟩):=d3
          replace d7:f 7 = hnd st.serial st.session:=d7
          replace d10:f 10 = .int .i64 ((frm + k:Nat):Int):=d10
          have hdn11:done 11 = false:=hdn
          have hx0:=hP.a hdn11
          generalize f 3 = x3 at *
          subst d3
          clear e3
          generalize f 7 = x7 at *
          subst d7
          clear e7
          generalize f 10 = x10 at *
          subst d10
          clear e10
          go_simp
          refine Calls.mono (hrd.out W hx0) ?_
          rintro e W' ⟨rfl,hx1⟩
          exact hK _ _ rfl (hP.read hx1 _)
        refine ⟨?_,?_⟩
        · intro done f W hP hdn hd K hK
          have d11:=(hd.1 rfl).2
          have e11:=(hd.1 rfl).1
          clear hd
          replace d11:f 11 = .tuple #[.string (rd st (frm + k)),.int .i64 0]:=d11
          generalize f 11 = x11 at *
          subst d11
          clear e11
          go_simp
          exact hK _ _ rfl (hP.pure _ (by decide) _)
        refine ⟨?_,?_⟩
        · intro done f W hP hdn hd K hK
          have d12:=(hd.1 rfl).2
          have e12:=(hd.1 rfl).1
          clear hd
          replace d12:f 12 = .tuple #[.string (rd st (frm + k)),.int .i64 0]:=d12
          generalize f 12 = x12 at *
          subst d12
          clear e12
          go_simp
          exact hK _ _ rfl (hP.pure _ (by decide) _)
        refine ⟨?_,?_⟩
        · intro done f W hP hdn hd K hK
          have d12:=(hd.1 rfl).2
          have e12:=(hd.1 rfl).1
          clear hd
          replace d12:f 12 = .tuple #[.string (rd st (frm + k)),.int .i64 0]:=d12
          generalize f 12 = x12 at *
          subst d12
          clear e12
          go_simp
          exact hK _ _ rfl (hP.pure _ (by decide) _)
        refine ⟨?_,?_⟩
        · intro done f W hP hdn hd K hK
          have d13:=(hd.1 rfl).2
          have e13:=(hd.1 rfl).1
          clear hd
          replace d13:f 13 = .string (rd st (frm + k)):=d13
          generalize f 13 = x13 at *
          subst d13
          clear e13
          go_simp
          exact hK _ _ rfl (hP.pure _ (by decide) _)
        refine ⟨?_,?_⟩
        · intro done f W hP hdn hd K hK
          have d14:=(hd.1 rfl).2
          have e14:=(hd.1 rfl).1
          clear hd
          replace d14:f 14 = .int .i64 0:=d14
          generalize f 14 = x14 at *
          subst d14
          clear e14
          go_simp
          exact hK _ _ rfl (hP.pure _ (by decide) _)
        trivial
    · obtain rfl:k = n:=by omega
      obtain ⟨lv1,o1,bl1⟩:=hR0.out
      have hbs:=bld_string b (rdsL st frm k) wr bl1
      obtain ⟨cb,hcb⟩:∃ cb,wr.heap[b]? = some (.cells cb 141):=by
        rcases bl1 with ⟨_,v,q,_⟩ | ⟨_,v,q,_⟩ <;> exact ⟨_,q⟩
      have O1:Hid (∀ W,Lib.OthersKept 5 (some b) wr W → Below b wr W → One b0 w0 L { st with count:=st.count + (k:Int) } lv1 oth W):=fun W h1 h2=>o1.others h1 h2 hb0 hcb (fun p hp=>⟨by have:=HLT.out p hp; omega,H5.out p hp⟩)
      clear hR0 o1 bl1 hcb
      go_wp2_with fail
      go_call hbs as e W2 ⟨rfl,ok2,be2⟩
      have HF:Hid _:=O1.out W2 ok2 be2
      clear hbs ok2 be2
      go_wp2
      go_returns
      exact ⟨rfl,lv1,HF.out⟩
end
end Go.Proofs.YtncfbocbigdhiaaGreat.F
/- What MediumBreaks hands to Guard, as calls. -/
namespace Go.Proofs.YtncfbocbigdhiaaGreat.F
set_option maxRecDepth 100000
open Go.RowKit
theorem pad_size (s:ByteArray) (h:s.size ≤ 64):(pad s).size = 64:=by
  unfold pad
  rw [ByteArray.size_append]
  have:(⟨(List.replicate (64 - s.size) (0:UInt8)).toArray⟩:ByteArray).size = 64 - s.size:=by show Array.size _ = _; simp
  rw [this]; omega
theorem chunk_size (s:ByteArray) (k:Nat):(chunk s k).size ≤ 64:=by
  unfold chunk; rw [ByteArray.size_extract]; omega
theorem st0_ok (serial:Int) (n:Nat):SecOk (st0 serial n):=by
  refine ⟨by show (secs0 n).size = n * 64; simp [secs0],fun u hu=>?_⟩
  have hu':u ∈ (secs0 n).toList:=hu
  unfold secs0 at hu'
  rw [Array.toList_replicate] at hu'
  exact ⟨0,(List.mem_replicate.1 hu').2⟩
end Go.Proofs.YtncfbocbigdhiaaGreat.F
/- Fill; settle with one that stays; Crash; the fixed fact that each statement on flash begins with. -/
namespace Go.Proofs.YtncfbocbigdhiaaGreat.F
set_option maxRecDepth 100000
open Go.RowKit
theorem info5:(Tryz.prog.info? 5).map (fun i=>(i.zero,i.size,i.bytes)) = some (some (.int .u8 0),1,1):=by kernel_rfl
theorem byteCells_rep (n:Nat):Lib.byteCells (List.replicate n (0:UInt8)) = List.replicate n (.int .u8 0):=by
  unfold Lib.byteCells; simp
theorem setCells_below (b:Nat):∀ (vs:List Value) (o:Nat) (w:World),Below b w (w.setCells b o vs)
  | [],_,w=>Below.refl _ _
  | v :: r,o,w=>by
    rw [World.setCells]
    have h1:Below b w (w.setCell ⟨b,o,none⟩ v):=⟨rfl,rfl,rfl,by simp [World.setCell],fun k hk=>Below.heap_setCell _ _ _ _ (by show k ≠ b; omega)⟩
    exact h1.trans (setCells_below b r (o + 1) _)
section
variable {b0:Nat} {w0:World} {L:Loc} {st:St} {lv:Value} {oth:List (Nat × Obj)} {w:World}
end
end Go.Proofs.YtncfbocbigdhiaaGreat.F
/- The fixed fact that each statement on flash begins with. -/
namespace Go.Proofs.YtncfbocbigdhiaaGreat.F
set_option maxRecDepth 100000
open Go.RowKit
theorem rd_wrote (st:St) (i:Nat) (s:ByteArray) (h:SecOk st) (hi:i < st.n) (hs:s.size = 64):rd (wrote st i s) i = s:=by
  have hm:(i + 1) * 64 ≤ st.n * 64:=Nat.mul_le_mul_right _ hi
  have hl:st.secs.toList.length = st.n * 64:=by rw [Array.length_toList]; exact h.size
  have hb:(Lib.byteCells s.data.toList).length = 64:=by rw [Lib.byteCells_length,Array.length_toList]; exact hs
  have e:secl (wrote st i s) i = Lib.byteCells s.data.toList:=by
    show ((st.secs.toList.take (i * 64) ++ Lib.byteCells s.data.toList ++ st.secs.toList.drop (i * 64 + 64)).drop (i * 64)).take 64 = _
    rw [List.append_assoc,List.drop_left' (by rw [List.length_take,hl]; omega),List.take_left' hb]
  have e2:rdB (wrote st i s) i = s.data.toList:=by
    unfold rdB
    rw [e]
    unfold Lib.byteCells
    rw [List.map_map]
    conv=>rhs; rw [← List.map_id s.data.toList]
    apply List.map_congr_left
    intro b _
    exact byteOf_byte b
  unfold rd
  rw [e2]
end Go.Proofs.YtncfbocbigdhiaaGreat.F
/- What medium.Write lays where nothing is armed, and what lies there behind it. -/
namespace Go.Proofs.YtncfbocbigdhiaaGreat.F
set_option maxRecDepth 100000
open Go.RowKit
theorem secl_other (st:St) (i j:Nat) (s:ByteArray) (h:SecOk st) (hi:i < st.n) (_hj:j < st.n) (hij:¬ j = i) (hs:s.size = 64):secl (wrote st i s) j = secl st j:=by
  have hm:(i + 1) * 64 ≤ st.n * 64:=Nat.mul_le_mul_right _ hi
  have hl:st.secs.toList.length = st.n * 64:=by rw [Array.length_toList]; exact h.size
  have hb:(Lib.byteCells s.data.toList).length = 64:=by rw [Lib.byteCells_length,Array.length_toList]; exact hs
  show ((st.secs.toList.take (i * 64) ++ Lib.byteCells s.data.toList ++ st.secs.toList.drop (i * 64 + 64)).drop (j * 64)).take 64 = (st.secs.toList.drop (j * 64)).take 64
  generalize st.secs.toList = l at *
  generalize Lib.byteCells s.data.toList = b at *
  apply List.ext_getElem?
  intro m
  by_cases hm64:m < 64
  · rw [List.getElem?_take_of_lt hm64,List.getElem?_take_of_lt hm64,List.getElem?_drop,List.getElem?_drop]
    rcases Nat.lt_or_gt_of_ne hij with hlt | hgt
    · have:(j + 1) * 64 ≤ i * 64:=Nat.mul_le_mul_right _ hlt
      rw [List.append_assoc,List.getElem?_append_left (by rw [List.length_take,hl]; omega),List.getElem?_take_of_lt (by omega)]
    · have:(i + 1) * 64 ≤ j * 64:=Nat.mul_le_mul_right _ hgt
      rw [List.getElem?_append_right (by rw [List.length_append,List.length_take,hl,hb]; omega),List.getElem?_drop]
      congr 1
      rw [List.length_append,List.length_take,hl,hb]; omega
  · rw [List.getElem?_take_eq_none (by omega),List.getElem?_take_eq_none (by omega)]
theorem rd_other (st:St) (i j:Nat) (s:ByteArray) (h:SecOk st) (hi:i < st.n) (hj:j < st.n) (hij:¬ j = i) (hs:s.size = 64):rd (wrote st i s) j = rd st j:=by
  unfold rd rdB
  rw [secl_other st i j s h hi hj hij hs]
structure PutInv (sr:Int) (nn frm:Nat) (s:ByteArray) (k:Nat) (st:St):Prop where
  serial:st.serial = sr
  session:st.session = 1
  there:st.there = true
  down:st.down = false
  hw:st.hw = false
  aw:st.aw = false
  n:st.n = nn
  ok:SecOk st
  le:LooseEnd st (frm + k)
  ln:st.ln = k
  count:st.count = (k:Int)
  cont:∀ j,j < k → rd st (frm + j) = pad (chunk s j)
end Go.Proofs.YtncfbocbigdhiaaGreat.F
/- What MediumParts hands to Guard, as a call. -/
namespace Go.Proofs.YtncfbocbigdhiaaGreat.F
set_option maxRecDepth 100000
open Go.RowKit
structure Two (i:Nat) (X0 X1:World → Prop) (done:Nat → Bool) (f:Nat → Value) (W:World):Prop where
  a:done i = false → X0 W
  b:done i = true → X1 W
theorem Two.pure {i:Nat} {X0 X1:World → Prop} {done:Nat → Bool} {f:Nat → Value} {W:World} (h:Two i X0 X1 done f W) (k:Nat) (hk:k ≠ i) (v:Value):Two i X0 X1 (updB done k) (upd f k v) W:=by
  have e:updB done k i = done i:=if_neg (Ne.symm hk)
  exact ⟨by rw [e]; exact h.a,by rw [e]; exact h.b⟩
theorem Two.turn {i:Nat} {X0 X1:World → Prop} {done:Nat → Bool} {f:Nat → Value} {W W':World} (_:Two i X0 X1 done f W) (hx:X1 W') (v:Value):Two i X0 X1 (updB done i) (upd f i v) W':=by
  have e:updB done i i = true:=if_pos rfl
  exact ⟨by rw [e]; exact (fun e=>by cases e),fun _=>hx⟩
theorem Two.any {i:Nat} {X0 X1:World → Prop} {R:World → Prop} {done:Nat → Bool} {f:Nat → Value} {W:World} (h0:∀ W,X0 W → R W) (h1:∀ W,X1 W → R W) (h:Two i X0 X1 done f W):R W:=by
  cases hd:done i with
  | false=>exact h0 W (h.a hd)
  | true=>exact h1 W (h.b hd)
def oAB (A B:Nat) (r1 r2:ByteArray) (oth:List (Nat × Obj)):List (Nat × Obj):=(A,.cells #[.string r1] 9) :: (B,.cells #[.string r2] 9) :: oth
def X0 (b0:Nat) (w0:World) (L:Loc) (A B:Nat) (oth:List (Nat × Obj)) (s:ByteArray) (W:World):Prop:=∃ st lv,One b0 w0 L st lv (oAB A B ⟨#[]⟩ ⟨#[]⟩ oth) W ∧ PutInv 3 6 0 (s.extract 0 384) 0 st
def X1 (b0:Nat) (w0:World) (L:Loc) (A B:Nat) (oth:List (Nat × Obj)) (s:ByteArray) (W:World):Prop:=∃ st lv,One b0 w0 L st lv (oAB A B ⟨#[]⟩ ⟨#[]⟩ oth) W ∧ PutInv 3 6 0 (s.extract 0 384) (parts (s.extract 0 384)) st
section
variable {b0:Nat} {w0:World} {L:Loc} {st:St} {lv:Value} {oth:List (Nat × Obj)} {A B M C T F N:Nat} {s r r1 r2:ByteArray} {frm n k c:Nat} {done:Nat → Bool} {f:Nat → Value} {W:World}
theorem rdsL_count (st:St) (x:Int) (frm:Nat):∀ k,rdsL { st with count:=x } frm k = rdsL st frm k
  | 0=>rfl
  | k + 1=>by
    show rdsL { st with count:=x } frm k ++ rdB st (frm + k) = rdsL st frm k ++ rdB st (frm + k)
    rw [rdsL_count st x frm k]
end
end Go.Proofs.YtncfbocbigdhiaaGreat.F
/- Flush, of the pool and of the medium; Size. -/
namespace Go.Proofs.YtncfbocbigdhiaaGreat.F
set_option maxRecDepth 100000
open Go.RowKit
def FV (L:Loc) (st:St) (M:Nat):Nat → Value → Prop
  | 0,v=>v = .pointer (some ⟨M,0,none⟩)
  | 1,v=>v = .int .i64 st.serial
  | 2,v=>v = .pointer (some ⟨M,0,none⟩)
  | 3,v=>v = .pointer (some ⟨M,0,none⟩)
  | 4,v=>v = .pointer (some ⟨M,0,none⟩)
  | 5,v=>v = .pointer (some ⟨L.P,0,none⟩)
  | 6,v=>v = .pointer (some ⟨M,0,none⟩)
  | 7,v=>v = .pointer (some ⟨M,0,none⟩)
  | 8,v=>v = .pointer (some ⟨M,1,none⟩)
  | 9,v=>v = hnd st.serial st.session
  | 10,v=>v = .int .i64 0
  | 11,v=>v = .tuple #[]
  | _,_=>True
section
variable {b0:Nat} {w0:World} {L:Loc} {st:St} {lv:Value} {oth:List (Nat × Obj)} {w:World}
theorem wrong71 (D:Nat) (w:World):Calls Tryz.prog 128 #[.pointer (some ⟨D,0,none⟩)] w fun e w'=>e = .returned (.int .i64 0) ∧ w' = w:=by
  go_enter Tryz.func128,Tryz.ntmps128
  go_wp2
  go_returns
  exact ⟨rfl,rfl⟩
theorem One.do72 (h:One b0 w0 L st lv oth w):Calls Tryz.prog 129 #[.pointer (some ⟨L.D,0,none⟩)] w fun e w'=>e = .returned (.tuple #[]) ∧ ∃ lv',One b0 w0 L { st with ln:=0,loose:=[] } lv' oth w':=by
  have hf:=h.flush
  clear h
  go_enter Tryz.func129,Tryz.ntmps129
  go_wp2_with fail
  go_call hf as e w1 ⟨rfl,h1⟩
  have H1:Hid _:=h1
  clear hf h1
  go_wp2
  go_returns
  exact ⟨rfl,_,H1.out⟩
theorem One.pflush (h:One b0 w0 L st lv oth w) (hdn:st.down = false) (ht:st.there = true) (haw:st.aw = false) (hhw:st.hw = false) (hc:0 ≤ st.count ∧ st.count ≤ 100000000) :
    Calls Tryz.prog 97 #[.pointer (some ⟨L.P,0,none⟩),hnd st.serial st.session] w fun e w'=>e = .returned (.int .i64 0) ∧ ∃ lv',One b0 w0 L { st with ln:=0,loose:=[],count:=st.count + 1 } lv' oth w':=by
  have ho:=(h.laid (.cells #[.int .i64 st.serial,.int .i64 st.session] 105)).operate_ok hdn ht haw hhw 128 #[] 129 #[] ent71 ent72 (fun W _=>wrong71 L.D W) { st with ln:=0,loose:=[] } oth ⟨hhw,hc⟩ (fun W hW=>hW.do72)
  clear h
  unfold hnd at *
  go_enter Tryz.func97,Tryz.ntmps97
  go_wp2_with fail
  go_call ho as e w1 ⟨rfl,lv',h1⟩
  have H1:Hid _:=h1
  clear ho h1
  go_wp2
  go_returns
  exact ⟨rfl,lv',H1.out⟩
theorem One.mcells {M:Nat} (h:One b0 w0 L st lv oth w) (hm:(M,med L.P st.serial st.session) ∈ oth):w.cell? ⟨M,0,none⟩ = some (.pointer (some ⟨L.P,0,none⟩)) ∧ w.cell? ⟨M,1,none⟩ = some (.int .i64 st.serial) ∧ w.cell? ⟨M,2,none⟩ = some (.int .i64 st.session):=by
  have e:=(h.oth _ hm).1
  exact ⟨cell_of e 0,cell_of e 1,cell_of e 2⟩
theorem One.mflush (h:One b0 w0 L st lv oth w) (M:Nat) (hm:(M,med L.P st.serial st.session) ∈ oth) (hdn:st.down = false) (ht:st.there = true) (haw:st.aw = false) (hhw:st.hw = false) (hc:0 ≤ st.count ∧ st.count ≤ 100000000) :
    Calls Tryz.prog 55 #[.pointer (some ⟨M,0,none⟩)] w fun e w'=>e = .returned (.tuple #[]) ∧ ∃ lv',One b0 w0 L { st with ln:=0,loose:=[],count:=st.count + 1 } lv' oth w':=by
  have H0:Hid _:=h
  have HFl:Hid (∀ W,One b0 w0 L st lv oth W → Calls Tryz.prog 97 #[.pointer (some ⟨L.P,0,none⟩),hnd st.serial st.session] W fun e w'=>e = .returned (.int .i64 0) ∧ ∃ lv',One b0 w0 L { st with ln:=0,loose:=[],count:=st.count + 1 } lv' oth w'):=fun W hW=>hW.pflush hdn ht haw hhw hc
  have HC0:Hid (∀ W,One b0 w0 L st lv oth W → W.cell? ⟨M,0,none⟩ = some (.pointer (some ⟨L.P,0,none⟩)) ∧ W.cell? ⟨M,1,none⟩ = some (.int .i64 st.serial) ∧ W.cell? ⟨M,2,none⟩ = some (.int .i64 st.session)):=fun W hW=>hW.mcells hm
  have HC1:Hid (∀ W,(∃ lv,One b0 w0 L { st with ln:=0,loose:=[],count:=st.count + 1 } lv oth W) → W.cell? ⟨M,0,none⟩ = some (.pointer (some ⟨L.P,0,none⟩)) ∧ W.cell? ⟨M,1,none⟩ = some (.int .i64 st.serial) ∧ W.cell? ⟨M,2,none⟩ = some (.int .i64 st.session)):=fun W ⟨lv,hW⟩=>hW.mcells hm
  clear h hdn ht haw hhw hc hm
  go_enter Tryz.func55,Tryz.ntmps55
  go_wp2_with fail
  refine wp_region_pb (fun f=>⟨#[.pointer (some ⟨M,0,none⟩),undef,f 0,f 1,f 2,f 3,f 4,f 5,f 6,f 7,f 8,f 9,f 10,f 11],[]⟩) (FV L st M) (Two 10 (fun W=>One b0 w0 L st lv oth W) (fun W=>∃ lv,One b0 w0 L { st with ln:=0,loose:=[],count:=st.count + 1 } lv oth W)) (fun i=>[undef,undef,undef,undef,undef,undef,undef,undef,undef,undef,undef,undef].getD i undef) (by kernel_rfl) rfl rfl ?hI ?hput ?step ?fin
  case hI=>exact ⟨fun _=>H0.out.ofBelow ⟨rfl,rfl,rfl,Nat.le_refl _,fun _ _=>rfl⟩,(fun e=>by cases e)⟩
  case fin=>
    intro f W hP hV
    have H1:Hid _:=hP.b rfl
    clear hP hV HFl HC0 HC1
    go_wp2
    go_returns
    exact ⟨rfl,H1.out⟩
  case hput=>
    repeat (refine ⟨fun f v=>rfl,?_⟩)
    trivial
  case step=>
    refine ⟨?_,?_⟩
    · intro done f W hP hdn hd K hK
      clear hd
      go_simp
      exact hK _ _ rfl (hP.pure _ (by decide) _)
    refine ⟨?_,?_⟩
    · intro done f W hP hdn hd K hK
      have d0:=(hd.1 rfl).2
      have e0:done 0 = true:=(hd.1 rfl).1
      clear hd
      replace d0:f 0 = .pointer (some ⟨M,0,none⟩):=d0
      generalize f 0 = x0 at *
      subst d0
      clear e0
      have q:=Two.any (R:=fun W=>W.cell? ⟨M,0,none⟩ = some (.pointer (some ⟨L.P,0,none⟩)) ∧ W.cell? ⟨M,1,none⟩ = some (.int .i64 st.serial) ∧ W.cell? ⟨M,2,none⟩ = some (.int .i64 st.session)) HC0.out HC1.out hP
      have q0:=q.1
      have q1:=q.2.1
      have q2:=q.2.2
      clear q
      go_simp
      refine Calls.mono (serial_any M st.serial W q1) ?_
      rintro e W' ⟨rfl,rfl⟩
      exact hK _ _ rfl (hP.pure _ (by decide) _)
    refine ⟨?_,?_⟩
    · intro done f W hP hdn hd K hK
      clear hd
      go_simp
      exact hK _ _ rfl (hP.pure _ (by decide) _)
    refine ⟨?_,?_⟩
    · intro done f W hP hdn hd K hK
      have d2:=(hd.1 rfl).2
      have e2:done 2 = true:=(hd.1 rfl).1
      clear hd
      replace d2:f 2 = .pointer (some ⟨M,0,none⟩):=d2
      generalize f 2 = x2 at *
      subst d2
      clear e2
      go_simp
      exact hK _ _ rfl (hP.pure _ (by decide) _)
    refine ⟨?_,?_⟩
    · intro done f W hP hdn hd K hK
      have d3:=(hd.1 rfl).2
      have e3:done 3 = true:=(hd.1 rfl).1
      clear hd
      replace d3:f 3 = .pointer (some ⟨M,0,none⟩):=d3
      generalize f 3 = x3 at *
      subst d3
      clear e3
      go_simp
      exact hK _ _ rfl (hP.pure _ (by decide) _)
    refine ⟨?_,?_⟩
    · intro done f W hP hdn hd K hK
      have d4:=(hd.1 rfl).2
      have e4:done 4 = true:=(hd.1 rfl).1
      clear hd
      replace d4:f 4 = .pointer (some ⟨M,0,none⟩):=d4
      generalize f 4 = x4 at *
      subst d4
      clear e4
      have q:=Two.any (R:=fun W=>W.cell? ⟨M,0,none⟩ = some (.pointer (some ⟨L.P,0,none⟩)) ∧ W.cell? ⟨M,1,none⟩ = some (.int .i64 st.serial) ∧ W.cell? ⟨M,2,none⟩ = some (.int .i64 st.session)) HC0.out HC1.out hP
      have q0:=q.1
      have q1:=q.2.1
      have q2:=q.2.2
      clear q
      go_simp
      exact hK _ _ rfl (hP.pure _ (by decide) _)
    refine ⟨?_,?_⟩
    · intro done f W hP hdn hd K hK
      clear hd
      go_simp
      exact hK _ _ rfl (hP.pure _ (by decide) _)
    refine ⟨?_,?_⟩
    · intro done f W hP hdn hd K hK
      have d6:=(hd.1 rfl).2
      have e6:done 6 = true:=(hd.1 rfl).1
      clear hd
      replace d6:f 6 = .pointer (some ⟨M,0,none⟩):=d6
      generalize f 6 = x6 at *
      subst d6
      clear e6
      go_simp
      exact hK _ _ rfl (hP.pure _ (by decide) _)
    refine ⟨?_,?_⟩
    · intro done f W hP hdn hd K hK
      have d7:=(hd.1 rfl).2
      have e7:done 7 = true:=(hd.1 rfl).1
      clear hd
      replace d7:f 7 = .pointer (some ⟨M,0,none⟩):=d7
      generalize f 7 = x7 at *
      subst d7
      clear e7
      go_simp
      exact hK _ _ rfl (hP.pure _ (by decide) _)
    refine ⟨?_,?_⟩
    · intro done f W hP hdn hd K hK
      have d8:=(hd.1 rfl).2
      have e8:done 8 = true:=(hd.1 rfl).1
      clear hd
      replace d8:f 8 = .pointer (some ⟨M,1,none⟩):=d8
      generalize f 8 = x8 at *
      subst d8
      clear e8
      have q:=Two.any (R:=fun W=>W.cell? ⟨M,0,none⟩ = some (.pointer (some ⟨L.P,0,none⟩)) ∧ W.cell? ⟨M,1,none⟩ = some (.int .i64 st.serial) ∧ W.cell? ⟨M,2,none⟩ = some (.int .i64 st.session)) HC0.out HC1.out hP
      have q0:=q.1
      have q1:=q.2.1
      have q2:=q.2.2
      clear q
      go_simp
      exact hK _ _ rfl (hP.pure _ (by decide) _)
    refine ⟨?_,?_⟩
    · intro done f W hP hdn hd K hK
      have d5:=(hd.1 rfl).2
      have e5:done 5 = true:=(hd.1 rfl).1
      have d9:=(hd.2.1 rfl).2
      have e9:done 9 = true:=(hd.2.1 rfl).1
      clear hd
      replace d5:f 5 = .pointer (some ⟨L.P,0,none⟩):=d5
      replace d9:f 9 = hnd st.serial st.session:=d9
      generalize f 5 = x5 at *
      subst d5
      clear e5
      generalize f 9 = x9 at *
      subst d9
      clear e9
      have hx0:=hP.a hdn
      go_simp
      refine Calls.mono (HFl.out W hx0) ?_
      rintro e W' ⟨rfl,hx1⟩
      exact hK _ _ rfl (hP.turn hx1 _)
    refine ⟨?_,?_⟩
    · intro done f W hP hdn hd K hK
      have d1:=(hd.1 rfl).2
      have e1:done 1 = true:=(hd.1 rfl).1
      have d10:=(hd.2.1 rfl).2
      have e10:done 10 = true:=(hd.2.1 rfl).1
      clear hd
      replace d1:f 1 = .int .i64 st.serial:=d1
      replace d10:f 10 = .int .i64 0:=d10
      generalize f 1 = x1 at *
      subst d1
      clear e1
      generalize f 10 = x10 at *
      subst d10
      clear e10
      go_simp
      refine Calls.mono (fail_ok st.serial W) ?_
      rintro e W' ⟨rfl,rfl⟩
      exact hK _ _ rfl (hP.pure _ (by decide) _)
    trivial
end
end Go.Proofs.YtncfbocbigdhiaaGreat.F
/- medium's Size; medium's Read of nothing, and beyond the end. -/
namespace Go.Proofs.YtncfbocbigdhiaaGreat.F
set_option maxRecDepth 100000
open Go.RowKit
section
variable {b0:Nat} {w0:World} {L:Loc} {st:St} {lv:Value} {oth:List (Nat × Obj)} {w:World}
end
end Go.Proofs.YtncfbocbigdhiaaGreat.F
