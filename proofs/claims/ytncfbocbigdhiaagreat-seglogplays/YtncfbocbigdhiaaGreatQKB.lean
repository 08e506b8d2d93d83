/- Texts of this seat, one behind the other: FS, FJ, FR, FK, FM, FP1, FP2, FT1, FP3. -/
import Derived.Shelf.Strings.Repeat
import Derived.Shelf.Strings.BuilderK
import Derived.Test.YtncfbocbigdhiaaGreatProg
import Derived.Test.YtncfbocbigdhiaaGreatQKA
import Derived.Orders
import Derived.WalkKit
import Derived.Lib.Strings
import Derived.Deep.MidRow
import Derived.Laws.Tables
import Derived.Lib.BufferWrite
/- That the library's text of strings.Repeat, and of the Builder that it uses, stands in this program, with which numbers (a table of numbers, and a fact a field), and so what it answers; no condition. -/
namespace Go.Proofs
set_option maxRecDepth 100000
set_option maxRecDepth 100000
open Go.Shelf
def Tryz.lays105_ren:Go.Shelf.Ren:=⟨fun | 105=>108 | 212=>138 | 99=>139 | 165=>140 | 166=>95 | 170=>141 | 169=>96 | 263=>159 | 264=>160 | 206=>161 | 240=>127 | 241=>162 | 276=>148 | 277=>175 | n=>n,fun | 9=>9 | 3=>3 | 4=>4 | 20=>20 | 0=>0 | 46=>180 | 109=>181 | 5=>5 | 72=>141 | 76=>145 | 51=>53 | 146=>200 | 53=>42 | 148=>202 | 70=>139 | 37=>75 | 75=>143 | 127=>171 | 164=>188 | 80=>57 | n=>n,fun | n=>n⟩
theorem Tryz.lays105:Go.Proofs.Lays.n105 Tryz.prog Tryz.lays105_ren:={
  mixed:=by kernel_rfl
  f99:=Tryz.func139.trans (congrArg some (by kernel_rfl))
  f105:=Tryz.func108.trans (congrArg some (by kernel_rfl))
  f165:=Tryz.func140.trans (congrArg some (by kernel_rfl))
  f166:=Tryz.func95.trans (congrArg some (by kernel_rfl))
  f169:=Tryz.func96.trans (congrArg some (by kernel_rfl))
  f170:=Tryz.func141.trans (congrArg some (by kernel_rfl))
  f206:=Tryz.func161.trans (congrArg some (by kernel_rfl))
  f212:=Tryz.func138.trans (congrArg some (by kernel_rfl))
  f240:=Tryz.func127.trans (congrArg some (by kernel_rfl))
  f241:=Tryz.func162.trans (congrArg some (by kernel_rfl))
  f263:=Tryz.func159.trans (congrArg some (by kernel_rfl))
  f264:=Tryz.func160.trans (congrArg some (by kernel_rfl))
  f276:=Tryz.func148.trans (congrArg some (by kernel_rfl))
  f277:=Tryz.func175.trans (congrArg some (by kernel_rfl))
  t0:=Tryz.underlying0
  a0:=Tryz.isAgg0
  z0:=Tryz.sizeOf0
  v0:=Tryz.zeroValue0
  t3:=Tryz.underlying3
  a3:=Tryz.isAgg3
  z3:=Tryz.sizeOf3
  v3:=Tryz.zeroValue3
  t4:=Tryz.underlying4
  a4:=Tryz.isAgg4
  z4:=Tryz.sizeOf4
  v4:=Tryz.zeroValue4
  t5:=Tryz.underlying5
  a5:=Tryz.isAgg5
  z5:=Tryz.sizeOf5
  v5:=Tryz.zeroValue5
  t9:=Tryz.underlying9
  a9:=Tryz.isAgg9
  z9:=Tryz.sizeOf9
  v9:=Tryz.zeroValue9
  t20:=Tryz.underlying20
  a20:=Tryz.isAgg20
  z20:=Tryz.sizeOf20
  v20:=Tryz.zeroValue20
  t37:=Tryz.underlying75
  a37:=Tryz.isAgg75
  z37:=Tryz.sizeOf75
  v37:=Tryz.zeroValue75
  t46:=Tryz.underlying180
  a46:=Tryz.isAgg180
  z46:=Tryz.sizeOf180
  v46:=Tryz.zeroValue180
  t51:=Tryz.underlying53
  a51:=Tryz.isAgg53
  z51:=Tryz.sizeOf53
  v51:=Tryz.zeroValue53
  t53:=Tryz.underlying42
  a53:=Tryz.isAgg42
  z53:=Tryz.sizeOf42
  v53:=Tryz.zeroValue42
  t70:=Tryz.underlying139
  a70:=Tryz.isAgg139
  z70:=Tryz.sizeOf139
  v70:=Tryz.zeroValue139
  t72:=Tryz.underlying141
  a72:=Tryz.isAgg141
  z72:=Tryz.sizeOf141
  v72:=Tryz.zeroValue141
  t75:=Tryz.underlying143
  a75:=Tryz.isAgg143
  z75:=Tryz.sizeOf143
  v75:=Tryz.zeroValue143
  t76:=Tryz.underlying145
  a76:=Tryz.isAgg145
  z76:=Tryz.sizeOf145
  v76:=Tryz.zeroValue145
  t109:=Tryz.underlying181
  a109:=Tryz.isAgg181
  z109:=Tryz.sizeOf181
  v109:=Tryz.zeroValue181
  t127:=Tryz.underlying171
  a127:=Tryz.isAgg171
  z127:=Tryz.sizeOf171
  v127:=Tryz.zeroValue171
  t146:=Tryz.underlying200
  a146:=Tryz.isAgg200
  z146:=Tryz.sizeOf200
  v146:=Tryz.zeroValue200
  t148:=Tryz.underlying202
  a148:=Tryz.isAgg202
  z148:=Tryz.sizeOf202
  v148:=Tryz.zeroValue202
  t164:=Tryz.underlying188
  a164:=Tryz.isAgg188
  z164:=Tryz.sizeOf188
  v164:=Tryz.zeroValue188 }
theorem Tryz.extra105:Builder.Extra Tryz.prog Tryz.lays105_ren:={
  sizeBuilder:=by kernel_rfl
  liesBuilder:=by kernel_rfl
  t5:=Tryz.underlying5
  a5:=Tryz.isAgg5
  z5:=Tryz.sizeOf5
  v5:=Tryz.zeroValue5
  infoByte:=by kernel_rfl
  cellsByte:=by kernel_rfl
  sizeByte:=by kernel_rfl
  neB5:=by decide }
theorem Tryz.repeat_any (s:ByteArray) (c:Nat) (w:World) (hc:c ≤ 9223372036854775807) (hlen:s.size * c ≤ 140737488355328) :
    Calls Tryz.prog 108 #[.string s,.int .i64 c] w fun e w'=>e = .returned (.string ⟨(Lib.repeatL s.data.toList c).toArray⟩) ∧ Go.RowKit.Below w.heap.size w w':=Any.strings_Repeat Tryz.lays105 Tryz.extra105 s c w hc hlen
end Go.Proofs
/- An operation on a device that is gone; filled; Of; as calls. -/
namespace Go.Proofs.YtncfbocbigdhiaaGreat.F
set_option maxRecDepth 100000
open Go.RowKit
def hnd (s q:Int):Value:=.agg #[.int .i64 s,.int .i64 q]
section
variable {b0:Nat} {w0:World} {L:Loc} {st:St} {lv:Value} {oth:List (Nat × Obj)} {w:World}
theorem One.drewN (h:One b0 w0 L st lv oth w) (n:Nat):One b0 w0 L st lv oth (w.drewN n):=h.ofBelow ⟨rfl,rfl,rfl,Nat.le_refl _,fun _ _=>rfl⟩
end
end Go.Proofs.YtncfbocbigdhiaaGreat.F
/- A rule for a statement whose operations may come in any order that its edges allow: where each operation keeps one invariant of memory, and yields a value of which a stable fact is known, the statement ends with all those facts; no program in sight. -/
namespace Go.Proofs.YtncfbocbigdhiaaGreat.F
set_option maxRecDepth 100000
def AllOps (φ:Nat → Oper → Prop):Nat → List Oper → Prop
  | _,[]=>True
  | k,o :: l=>φ k o ∧ AllOps φ (k + 1) l
theorem AllOps.get {φ:Nat → Oper → Prop}:∀ {k:Nat} {l:List Oper},AllOps φ k l → ∀ (i:Nat) (o:Oper),l[i]? = some o → φ (k + i) o
  | _,[],_,_,_,h=>by simp at h
  | k,o :: l,h,i,o',hi=>by
    cases i with
    | zero=>simp at hi; subst hi; exact h.1
    | succ i=>have:=AllOps.get h.2 i o' (by simpa using hi); rwa [Nat.add_assoc,Nat.add_comm 1 i] at this
def Deps (V:Nat → Value → World → Prop) (f:Nat → Value) (w:World):List Edge → Prop
  | []=>True
  | e :: l=>(Region.binds .any e = true → V e.on (f e.on) w) ∧ Deps V f w l
def upd (f:Nat → Value) (i:Nat) (v:Value):Nat → Value:=fun k=>if k = i then v else f k
def lexOk:Nat → List Oper → Bool
  | _,[]=>true
  | k,o :: l=>o.after.toList.all (fun e=>e.on < k) && lexOk (k + 1) l
theorem lexOk.get:∀ {k:Nat} {l:List Oper},lexOk k l = true → ∀ (i:Nat) (o:Oper),l[i]? = some o → ∀ e ∈ o.after,e.on < k + i
  | _,[],_,_,_,h=>by simp at h
  | k,o :: l,h,i,o',hi=>by
    simp only [lexOk,Bool.and_eq_true,List.all_eq_true,decide_eq_true_eq] at h
    cases i with
    | zero=>simp at hi; subst hi; exact fun e he=>h.1 e (by simpa using he)
    | succ i=>have:=lexOk.get h.2 i o' (by simpa using hi); intro e he; have:=this e he; omega
section
variable {P:Program} {ops:Array Oper} {Q:Exit → Act → World → Prop}
theorem wpAny_inv (J:Array Bool → Act → World → Prop)
    (step:∀ (listed:Array Bool) (a:Act) (w:World) (i:Nat),J listed a w → listed.size = ops.size → i ∈ Region.ready .any ops listed → wpOp P ops Q i (fun a' w'=>J (listed.setIfInBounds i true) a' w') a w)
    (fin:∀ (listed:Array Bool) (a:Act) (w:World),J listed a w → listed.size = ops.size → Region.ready .any ops listed = [] → Q .normal a w) :
    ∀ (fuel:Nat) (listed:Array Bool) (a:Act) (w:World),listed.count false ≤ fuel → listed.size = ops.size → J listed a w → wpAny P .any ops Q fuel listed a w:=by
  intro fuel
  induction fuel with
  | zero=>
    intro listed a w hc hs hJ
    have hr:Region.ready .any ops listed = []:=by
      apply List.eq_nil_iff_forall_not_mem.2
      intro i hi
      obtain ⟨h1,o,ho,_⟩:=mem_ready.1 hi
      have hlt:i < listed.size:=by
        rw [hs]; exact (Array.getElem?_eq_some_iff.1 ho).1
      have h2:listed[i] = false:=by simpa [Array.getD,hlt] using h1
      have:0 < listed.count false:=Array.count_pos_iff.2 (by rw [← h2]; exact Array.getElem_mem hlt)
      omega
    exact ⟨hr,fin listed a w hJ hs hr⟩
  | succ fuel ih=>
    intro listed a w hc hs hJ
    refine ⟨fin listed a w hJ hs,fun i hi=>?_⟩
    refine wpOp_mono (fun a' w' h'=>ih _ a' w' ?_ (by simpa using hs) h') (step listed a w i hJ hs hi)
    obtain ⟨h1,o,ho,_⟩:=mem_ready.1 hi
    have hlt:i < listed.size:=by
      rw [hs]; exact (Array.getElem?_eq_some_iff.1 ho).1
    have h2:listed[i] = false:=by simpa [Array.getD,hlt] using h1
    have hpos:0 < listed.count false:=Array.count_pos_iff.2 (by rw [← h2]; exact Array.getElem_mem hlt)
    have:(listed.setIfInBounds i true).count false = listed.count false - 1:=by
      rw [Array.setIfInBounds_def,dif_pos hlt,Array.count_set]
      simp [h2]
    omega
def updB (f:Nat → Bool) (i:Nat):Nat → Bool:=fun k=>if k = i then true else f k
def DepsP (V:Nat → Value → Prop) (done:Nat → Bool) (f:Nat → Value):List Edge → Prop
  | []=>True
  | e :: l=>(Region.binds .any e = true → done e.on = true ∧ V e.on (f e.on)) ∧ DepsP V done f l
theorem DepsP.of_all {V:Nat → Value → Prop} {done:Nat → Bool} {f:Nat → Value}:∀ (l:List Edge),(∀ e ∈ l,Region.binds .any e = true → done e.on = true ∧ V e.on (f e.on)) → DepsP V done f l
  | [],_=>trivial
  | e :: l,h=>⟨h e (by simp),DepsP.of_all l (fun e' he=>h e' (by simp [he]))⟩
theorem wp_region_ph {id:Nat} {a:Act} {w:World} (A:(Nat → Value) → Act) (V:Nat → Value → Prop) (Ph:(Nat → Bool) → (Nat → Value) → World → Prop) (f0:Nat → Value)
    (hm:P.follows .mixedOrders = true) (hlex:lexOk 0 ops.toList = true) (ha:a = A f0) (hI:Ph (fun _=>false) f0 w.drew)
    (hput:AllOps (fun i o=>∀ f v,(A f).put o.dst v = A (upd f i v)) 0 ops.toList)
    (step:AllOps (fun i o=>∀ (done:Nat → Bool) (f:Nat → Value) (w:World),Ph done f w → done i = false → DepsP V done f o.after.toList → ∀ K:Act → World → Prop,(∀ v w',V i v → Ph (updB done i) (upd f i v) w' → K ((A f).put o.dst v) w') →
      if Region.wanted o (yielded ops (A f).tmps) = true then Oper.wp P o (A f) w K Q else K ((A f).put o.dst undef) w) 0 ops.toList)
    (fin:∀ (f:Nat → Value) (w:World),Ph (fun i=>decide (i < ops.size)) f w → (∀ i,i < ops.size → V i (f i)) → Q .normal (A f) w) :
    (Code.region id ops true).wp P Q a w:=by
  refine wp_region_any hm ?_
  refine wpAny_inv (fun listed b w=>∃ f,b = A f ∧ Ph (fun i=>listed.getD i false) f w ∧ ∀ i,listed.getD i false = true → V i (f i)) ?_ ?_ ops.size _ a _ (by simp) (by simp) ⟨f0,ha,?_,fun i hi=>?_⟩
  · rintro listed b w i ⟨f,rfl,hP,hV⟩ hs hi
    obtain ⟨h1,o,ho,hdep⟩:=mem_ready.1 hi
    have ho':ops.toList[i]? = some o:=by simpa using ho
    have hst:=AllOps.get step i o ho'
    rw [Nat.zero_add] at hst
    have hlt:i < listed.size:=by
      rw [hs]; exact (Array.getElem?_eq_some_iff.1 ho).1
    have hd:DepsP V (fun i=>listed.getD i false) f o.after.toList:=DepsP.of_all _ (fun e he hb=>by
      have:=hdep e (by simpa using he) hb
      exact ⟨this,hV e.on this⟩)
    have hset:(fun j=>(listed.setIfInBounds i true).getD j false) = updB (fun j=>listed.getD j false) i:=by
      funext j
      unfold updB
      by_cases hji:j = i
      · subst hji; simp [hlt]
      · simp [Array.getD_eq_getD_getElem?,Ne.symm hji,hji]
    have h1':listed.getD i false = false:=by
      have:listed[i] = false:=by simpa [Array.getD,hlt] using h1
      simp [Array.getD,hlt,this]
    have hK:=hst (fun i=>listed.getD i false) f w hP h1' hd (fun b' w'=>∃ f,b' = A f ∧ Ph (fun j=>(listed.setIfInBounds i true).getD j false) f w' ∧ ∀ j,(listed.setIfInBounds i true).getD j false = true → V j (f j)) (fun v w' hv hP'=>by
      refine ⟨upd f i v,by have:=AllOps.get hput i o ho' f v; rwa [Nat.zero_add] at this,by rw [hset]; exact hP',fun j hj=>?_⟩
      by_cases hji:j = i
      · subst hji; simpa [upd] using hv
      · rw [show upd f i v j = f j from if_neg hji]
        refine hV j ?_
        simpa [Array.getD_eq_getD_getElem?,Array.getElem?_setIfInBounds,Ne.symm hji] using hj)
    unfold wpOp
    simp only [ho]
    split
    · rename_i hw
      rw [if_pos hw] at hK
      exact Or.inl hK
    · rename_i hw
      rw [if_neg hw] at hK
      exact hK
  · rintro listed b w ⟨f,rfl,hP,hV⟩ hs hr
    have key:∀ n i,i < n → i < ops.size → listed.getD i false = true:=by
      intro n
      induction n with
      | zero=>intro i h; omega
      | succ n ih=>
        intro i hin hio
        by_cases hl:listed.getD i false = true
        · exact hl
        · exfalso
          have ho:ops[i]? = some ops[i]:=Array.getElem?_eq_getElem hio
          have hlt:i < listed.size:=by omega
          have:i ∈ Region.ready .any ops listed:=mem_ready.2 ⟨by
            have:listed[i] = false:=by simpa [Array.getD,hlt] using hl
            simp [Array.getD,hlt,this],ops[i],ho,fun e he hb=>by
            have:=lexOk.get hlex i ops[i] (by simp) e he
            exact ih e.on (by omega) (by omega)⟩
          rw [hr] at this
          cases this
    have hall:(fun i=>listed.getD i false) = fun i=>decide (i < ops.size):=by
      funext i
      by_cases h:i < ops.size
      · rw [key (i + 1) i (by omega) h,decide_eq_true h]
      · rw [decide_eq_false h]
        simp [Array.getD,show ¬ i < listed.size by omega]
    refine fin f w (by rw [← hall]; exact hP) (fun i hi=>hV i (key (i + 1) i (by omega) hi))
  · have:(fun i=>(Array.replicate ops.size false).getD i false) = fun _=>false:=by
      funext i
      simp [Array.getD_eq_getD_getElem?,Array.getElem?_replicate]
      split <;> simp
    rw [this]; exact hI
  · simp [Array.getD_eq_getD_getElem?,Array.getElem?_replicate] at hi
    split at hi <;> simp at hi
end
end Go.Proofs.YtncfbocbigdhiaaGreat.F
/- filled, Serial, and Write of medium, sector by sector, as calls; what the pool's Write does is a premise. -/
namespace Go.Proofs.YtncfbocbigdhiaaGreat.F
set_option maxRecDepth 100000
open Go.RowKit
def pad (s:ByteArray):ByteArray:=s ++ ⟨(List.replicate (64 - s.size) (0:UInt8)).toArray⟩
theorem repeat_zero (c:Nat):Lib.repeatL [(0:UInt8)] c = List.replicate c 0:=by
  induction c with
  | zero=>rfl
  | succ c ih=>simpa [Lib.repeatL,List.replicate_succ] using ih
theorem filled_any (s:ByteArray) (hs:s.size ≤ 64) (w:World):Calls Tryz.prog 65 #[.string s] w fun e w'=>e = .returned (.string (pad s)) ∧ Below w.heap.size w w':=by
  have hr:=Tryz.repeat_any ⟨#[0]⟩ (64 - s.size) w (by omega) (by show 1 * _ ≤ _; omega)
  have e:(⟨#[0]⟩:ByteArray).data.toList = [0]:=rfl
  rw [e,repeat_zero] at hr
  have hp:s ++ ⟨(List.replicate (64 - s.size) (0:UInt8)).toArray⟩ = pad s:=rfl
  have hz:(⟨(List.replicate (64 - s.size) (0:UInt8)).toArray⟩:ByteArray).size = 64 - s.size:=by show Array.size _ = _; simp
  generalize (⟨(List.replicate (64 - s.size) (0:UInt8)).toArray⟩:ByteArray) = z at *
  have hc:((64 - s.size:Nat):Int) = 64 - (s.size:Int):=by omega
  rw [hc] at hr
  go_enter Tryz.func65,Tryz.ntmps65
  go_wp2_with fail
  go_call hr as e w1 ⟨rfl,hb⟩
  have HB:Hid _:=hb
  clear hr hb
  go_wp2
  go_returns
  exact ⟨by rw [← hp]; rfl,HB.out⟩
theorem serial_any (M:Nat) (s:Int) (w:World) (h:w.cell? ⟨M,1,none⟩ = some (.int .i64 s)):Calls Tryz.prog 63 #[.pointer (some ⟨M,0,none⟩)] w fun e w'=>e = .returned (.int .i64 s) ∧ w' = w:=by
  go_enter Tryz.func63,Tryz.ntmps63
  go_wp2
  go_returns
  exact ⟨rfl,rfl⟩
def part (s:ByteArray) (k:Nat):ByteArray:=s.extract (64 * k) s.size
def chunk (s:ByteArray) (k:Nat):ByteArray:=(part s k).extract 0 (min 64 (part s k).size)
def parts (s:ByteArray):Nat:=(s.size + 63) / 64
theorem part_size (s:ByteArray) (k:Nat):(part s k).size = s.size - 64 * k:=by unfold part; simp [ByteArray.size_extract]
theorem part_zero (s:ByteArray):part s 0 = s:=by
  unfold part
  apply ByteArray.ext
  simp
theorem part_next (s:ByteArray) (k:Nat):(part s k).extract 64 (part s k).size = part s (k + 1):=by
  unfold part
  apply ByteArray.ext
  simp only [ByteArray.data_extract,ByteArray.size_extract,Array.extract_extract]
  have h1:s.size = s.data.size:=rfl
  congr 1 <;> omega
def MV (M P:Nat) (serial q frm:Int) (s:ByteArray) (er:Nat → Int) (k c:Nat) (t:ByteArray):Nat → Value → Prop
  | 0,v=>v = .pointer (some ⟨M,0,none⟩)
  | 1,v=>v = .int .i64 serial
  | 2,v=>v = .pointer (some ⟨M,0,none⟩)
  | 3,v=>v = .pointer (some ⟨M,0,none⟩)
  | 4,v=>v = .pointer (some ⟨M,0,none⟩)
  | 5,v=>v = .pointer (some ⟨P,0,none⟩)
  | 6,v=>v = .pointer (some ⟨M,0,none⟩)
  | 7,v=>v = .pointer (some ⟨M,0,none⟩)
  | 8,v=>v = .pointer (some ⟨M,1,none⟩)
  | 9,v=>v = hnd serial q
  | 10,v=>v = .int .i64 (frm + (k:Nat))
  | 11,v=>v = .string t
  | 12,v=>v = .int .i64 (c:Nat)
  | 13,v=>v = .string (chunk s k)
  | 14,v=>v = .string (pad (chunk s k))
  | 15,v=>v = .int .i64 (er k)
  | _,_=>True
def MW (M P:Nat) (serial q frm:Int) (s:ByteArray) (er:Nat → Int) (k c:Nat) (t:ByteArray):Nat → Value → Prop
  | 0,v=>v = .pointer (some ⟨M,0,none⟩)
  | 1,v=>v = .int .i64 serial
  | 2,v=>v = .pointer (some ⟨M,0,none⟩)
  | 3,v=>v = .pointer (some ⟨M,0,none⟩)
  | 4,v=>v = .pointer (some ⟨M,0,none⟩)
  | 5,v=>v = .pointer (some ⟨P,0,none⟩)
  | 6,v=>v = .pointer (some ⟨M,0,none⟩)
  | 7,v=>v = .pointer (some ⟨M,0,none⟩)
  | 8,v=>v = .pointer (some ⟨M,1,none⟩)
  | 9,v=>v = hnd serial q
  | 10,v=>v = .int .i64 (frm + (k:Nat))
  | 11,v=>v = .string t
  | 12,v=>v = .int .i64 (c:Nat)
  | 13,v=>v = .string (chunk s k)
  | 14,v=>v = .string (pad (chunk s k))
  | 15,v=>v = .int .i64 (er k)
  | 16,_=>False
  | _,_=>True
structure MPh (X:Nat → World → Prop) (k:Nat) (w:World) (done:Nat → Bool) (f:Nat → Value) (W:World):Prop where
  a:done 15 = false → X k W
  b:done 15 = true → X (k + 1) W
theorem MPh.pure {X:Nat → World → Prop} {k:Nat} {w:World} {done:Nat → Bool} {f:Nat → Value} {W:World} (h:MPh X k w done f W) (i:Nat) (hi:i ≠ 15) (v:Value):MPh X k w (updB done i) (upd f i v) W:=by
  have a15:updB done i 15 = done 15:=if_neg (Ne.symm hi)
  exact ⟨by rw [a15]; exact h.a,by rw [a15]; exact h.b⟩
theorem MPh.below {X:Nat → World → Prop} {k:Nat} {w:World} {done:Nat → Bool} {f:Nat → Value} {W W':World} (h:MPh X k w done f W) (hX:∀ k W W',X k W → Below W.heap.size W W' → X k W') (_hdn:done 14 = false) (hb:Below W.heap.size W W') (v:Value):MPh X k w (updB done 14) (upd f 14 v) W':=by
  have a15:updB done 14 15 = done 15:=if_neg (by decide)
  exact ⟨by rw [a15]; exact fun e=>hX _ _ _ (h.a e) hb,by rw [a15]; exact fun e=>hX _ _ _ (h.b e) hb⟩
theorem MPh.wrote {X:Nat → World → Prop} {k:Nat} {w:World} {done:Nat → Bool} {f:Nat → Value} {W W':World} (_:MPh X k w done f W) (_:done 15 = false) (hx:X (k + 1) W') (v:Value):MPh X k w (updB done 15) (upd f 15 v) W':=by
  have a15:updB done 15 15 = true:=if_pos rfl
  exact ⟨by rw [a15]; exact (fun e=>by cases e),fun _=>hx⟩
theorem MPh.cells {X:Nat → World → Prop} {k:Nat} {w:World} {done:Nat → Bool} {f:Nat → Value} {W:World} {M P:Nat} {serial q:Int} (h:MPh X k w done f W) (hM:∀ k W,X k W → W.heap[M]? = some (.cells #[.pointer (some ⟨P,0,none⟩),.int .i64 serial,.int .i64 q] 107)) :
    W.cell? ⟨M,0,none⟩ = some (.pointer (some ⟨P,0,none⟩)) ∧ W.cell? ⟨M,1,none⟩ = some (.int .i64 serial) ∧ W.cell? ⟨M,2,none⟩ = some (.int .i64 q):=by
  have e:W.heap[M]? = some (.cells #[.pointer (some ⟨P,0,none⟩),.int .i64 serial,.int .i64 q] 107):=by
    cases hd:done 15 with
    | false=>exact hM _ _ (h.a hd)
    | true=>exact hM _ _ (h.b hd)
  exact ⟨cell_of e 0,cell_of e 1,cell_of e 2⟩
set_option maxHeartbeats 1000000 in
theorem mwrite_any (M P:Nat) (serial q frm:Int) (s:ByteArray) (hs:s.size ≤ 10000) (hf:-1000 ≤ frm ∧ frm ≤ 1000) (X:Nat → World → Prop) (er:Nat → Int)
    (hX:∀ k W W',X k W → Below W.heap.size W W' → X k W') (hM:∀ k W,X k W → W.heap[M]? = some (.cells #[.pointer (some ⟨P,0,none⟩),.int .i64 serial,.int .i64 q] 107))
    (hw:∀ k W,k < parts s → (∀ j,j < k → er j = 0) → X k W → Calls Tryz.prog 64 #[.pointer (some ⟨P,0,none⟩),hnd serial q,.int .i64 (frm + (k:Nat)),.string (pad (chunk s k))] W fun e W'=>e = .returned (.int .i64 (er k)) ∧ X (k + 1) W')
    (w:World) (h0:X 0 w) :
    Calls Tryz.prog 28 #[.pointer (some ⟨M,0,none⟩),.int .i64 frm,.string s] w fun e w'=>(∃ k,k < parts s ∧ (∀ j,j < k → er j = 0) ∧ ¬ er k = 0 ∧ e = .panicked [fl serial (er k)] ∧ X (k + 1) w') ∨ ((∀ j,j < parts s → er j = 0) ∧ e = .returned (.tuple #[]) ∧ X (parts s) w'):=by
  have H0:Hid (X 0 w):=h0
  have HX:Hid (∀ k W W',X k W → Below W.heap.size W W' → X k W'):=hX
  have HM:Hid (∀ k W,X k W → W.heap[M]? = some (.cells #[.pointer (some ⟨P,0,none⟩),.int .i64 serial,.int .i64 q] 107)):=hM
  have HW:Hid _:=hw
  clear h0 hX hM hw
  go_enter Tryz.func28,Tryz.ntmps28
  go_wp2
  go_loopw [2,6] (fun t i wr=>∃ k:Nat,k ≤ parts s ∧ t = .string (part s k) ∧ i = .int .i64 (frm + (k:Nat)) ∧ Hid (∀ j,j < k → er j = 0) ∧ Hid (X k wr))
    (fun t _ _=>match t with | .string b=>b.size | _=>0)
  case atStart=>exact ⟨0,by omega,by rw [part_zero],by simp,(fun j hj=>absurd hj (Nat.not_lt_zero _):∀ j,j < 0 → er j = 0),H0⟩
  case round=>
    obtain ⟨k,hk,rfl,rfl,hz,hx⟩:=hrel
    have hps:=part_size s k
    have hp2:parts s ≤ 200:=by unfold parts; omega
    clear H0
    rcases Nat.lt_or_ge k (parts s) with hlt | hge
    · obtain ⟨t,ht⟩:∃ t,t = part s k:=⟨_,rfl⟩
      have hn0:0 < t.size:=by rw [ht,hps]; unfold parts at hlt; omega
      have hts:t.size ≤ 10000:=by rw [ht,hps]; omega
      rw [← ht]
      rw [← ht] at hps
      have HT:Hid (t = part s k):=ht
      have hne:t.toList.isEmpty = false:=by
        rw [Lib.toList_data]
        have:t.data.toList.length = t.size:=by rw [Array.length_toList]; rfl
        cases hd:t.data.toList with
        | nil=>rw [hd] at this; simp at this; omega
        | cons _ _=>rfl
      obtain ⟨c,hc⟩:∃ c,c = min t.size 64:=⟨_,rfl⟩
      have hc1:c ≤ t.size:=by omega
      have hc2:c ≤ 64:=by omega
      have hcz:min (t.size:Int) 64 = (c:Int):=by omega
      have HPS:Hid (t.size = s.size - 64 * k):=hps
      have hch:Hid (t.extract 0 c = chunk s k):=by
        show t.extract 0 c = chunk s k
        rw [ht]; unfold chunk; rw [hc,ht,Nat.min_comm]
      have hcs:Hid ((chunk s k).size ≤ 64):=by
        show (chunk s k).size ≤ 64
        unfold chunk; rw [ByteArray.size_extract]; omega
      have hnx:Hid (t.extract c t.size = part s (k + 1)):=by
        show t.extract c t.size = part s (k + 1)
        rw [ht,hc,ht]
        rcases Nat.lt_or_ge (part s k).size 64 with h64 | h64
        · rw [Nat.min_eq_left (by omega)]
          have h1:=part_size s k
          unfold part at h1 h64 ⊢
          apply ByteArray.ext
          simp only [ByteArray.data_extract,ByteArray.size_extract,Array.extract_extract]
          have h2:s.size = s.data.size:=rfl
          rw [Array.extract_empty_of_stop_le_start (by omega),Array.extract_empty_of_stop_le_start (by omega)]
        · rw [Nat.min_eq_right h64]
          exact part_next s k
      have hc0:0 < c:=by omega
      clear ht hc hps
      by_cases hz0:er k = 0
      · have HZ:Hid (er k = 0):=hz0
        clear hz0
        go_wp2_with fail
        refine wp_region_ph (fun f=>⟨#[.pointer (some ⟨M,0,none⟩),.int .i64 frm,.string t,undef,undef,undef,.int .i64 (frm + (k:Nat)),.int .i64 (c:Nat),.int .i64 frm,.string t,.bool true,u11,u12,.string t,.int .i64 (t.size:Nat),.int .i64 (c:Nat),f 0,f 1,f 2,f 3,f 4,f 5,f 6,f 7,f 8,f 9,f 10,f 11,f 12,f 13,f 14,f 15,f 16,u33,u34,u35],[]⟩) (MV M P serial q frm s er k c t) (MPh X k wr) (fun i=>[u16,u17,u18,u19,u20,u21,u22,u23,u24,u25,u26,u27,u28,u29,u30,u31,u32].getD i undef) (by kernel_rfl) rfl rfl ?hI ?hput ?step ?fin
        case hI=>exact ⟨fun _=>HX.out k wr _ hx.out ⟨rfl,rfl,rfl,Nat.le_refl _,fun _ _=>rfl⟩,fun e=>by cases e⟩
        case fin=>
          intro f W hP hV
          have h1:Hid (X (k + 1) W):=hP.b rfl
          have HN:Hid (∀ j,j < k + 1 → er j = 0):=fun j hj=>by
            rcases Nat.lt_or_ge j k with h | h
            · exact hz.out j h
            · obtain rfl:j = k:=by omega
              exact HZ.out
          have hpn:Hid (t.extract c t.size = part s (k + 1)):=hnx
          have hsz:(t.extract c t.size).size < t.size:=by rw [ByteArray.size_extract]; omega
          clear hP hV
          go_wp2
          go_roundw
          case rel=>exact ⟨k + 1,hlt,by rw [hpn.out],by congr 1; omega,HN,h1⟩
          case measure=>exact hsz
        case hput=>
          repeat (refine ⟨fun f v=>rfl,?_⟩)
          trivial
        case step=>
          refine ⟨?_,?_⟩
          · intro done f W hP hdn hd K hK
            clear hd
            go_simp
            exact hK _ _ rfl (hP.pure _ (by decide) _)
          refine ⟨?_,?_⟩
          · intro done f W hP hdn hd K hK
            have d0:=(hd.1 rfl).2
            have e0:=(hd.1 rfl).1
            clear hd
            replace d0:f 0 = .pointer (some ⟨M,0,none⟩):=d0
            generalize f 0 = x0 at *
            subst d0
            clear e0
            have hm:=(hP.cells HM.out).2.1
            go_simp
            refine Calls.mono (serial_any M serial W hm) ?_
            rintro e W' ⟨rfl,rfl⟩
            exact hK _ _ rfl (hP.pure _ (by decide) _)
          refine ⟨?_,?_⟩
          · intro done f W hP hdn hd K hK
            clear hd
            go_simp
            exact hK _ _ rfl (hP.pure _ (by decide) _)
          refine ⟨?_,?_⟩
          · intro done f W hP hdn hd K hK
            have d2:=(hd.1 rfl).2
            have e2:=(hd.1 rfl).1
            clear hd
            replace d2:f 2 = .pointer (some ⟨M,0,none⟩):=d2
            generalize f 2 = x2 at *
            subst d2
            clear e2
            go_simp
            exact hK _ _ rfl (hP.pure _ (by decide) _)
          refine ⟨?_,?_⟩
          · intro done f W hP hdn hd K hK
            have d3:=(hd.1 rfl).2
            have e3:=(hd.1 rfl).1
            clear hd
            replace d3:f 3 = .pointer (some ⟨M,0,none⟩):=d3
            generalize f 3 = x3 at *
            subst d3
            clear e3
            go_simp
            exact hK _ _ rfl (hP.pure _ (by decide) _)
          refine ⟨?_,?_⟩
          · intro done f W hP hdn hd K hK
            have d4:=(hd.1 rfl).2
            have e4:=(hd.1 rfl).1
            clear hd
            replace d4:f 4 = .pointer (some ⟨M,0,none⟩):=d4
            generalize f 4 = x4 at *
            subst d4
            clear e4
            have hm:=(hP.cells HM.out).1
            go_simp
            exact hK _ _ rfl (hP.pure _ (by decide) _)
          refine ⟨?_,?_⟩
          · intro done f W hP hdn hd K hK
            clear hd
            go_simp
            exact hK _ _ rfl (hP.pure _ (by decide) _)
          refine ⟨?_,?_⟩
          · intro done f W hP hdn hd K hK
            have d6:=(hd.1 rfl).2
            have e6:=(hd.1 rfl).1
            clear hd
            replace d6:f 6 = .pointer (some ⟨M,0,none⟩):=d6
            generalize f 6 = x6 at *
            subst d6
            clear e6
            go_simp
            exact hK _ _ rfl (hP.pure _ (by decide) _)
          refine ⟨?_,?_⟩
          · intro done f W hP hdn hd K hK
            have d7:=(hd.1 rfl).2
            have e7:=(hd.1 rfl).1
            clear hd
            replace d7:f 7 = .pointer (some ⟨M,0,none⟩):=d7
            generalize f 7 = x7 at *
            subst d7
            clear e7
            go_simp
            exact hK _ _ rfl (hP.pure _ (by decide) _)
          refine ⟨?_,?_⟩
          · intro done f W hP hdn hd K hK
            have d8:=(hd.1 rfl).2
            have e8:=(hd.1 rfl).1
            clear hd
            replace d8:f 8 = .pointer (some ⟨M,1,none⟩):=d8
            generalize f 8 = x8 at *
            subst d8
            clear e8
            have hm1:=(hP.cells HM.out).2.1
            have hm2:=(hP.cells HM.out).2.2
            go_simp
            exact hK _ _ rfl (hP.pure _ (by decide) _)
          refine ⟨?_,?_⟩
          · intro done f W hP hdn hd K hK
            clear hd
            go_simp
            exact hK _ _ rfl (hP.pure _ (by decide) _)
          refine ⟨?_,?_⟩
          · intro done f W hP hdn hd K hK
            clear hd
            go_simp
            exact hK _ _ rfl (hP.pure _ (by decide) _)
          refine ⟨?_,?_⟩
          · intro done f W hP hdn hd K hK
            clear hd
            go_simp
            exact hK _ _ rfl (hP.pure _ (by decide) _)
          refine ⟨?_,?_⟩
          · intro done f W hP hdn hd K hK
            have d11:=(hd.1 rfl).2
            have d12:=(hd.2.1 rfl).2
            have e11:=(hd.1 rfl).1
            have e12:=(hd.2.1 rfl).1
            clear hd
            replace d11:f 11 = .string t:=d11
            replace d12:f 12 = .int .i64 (c:Nat):=d12
            generalize f 11 = x11 at *
            subst d11
            clear e11
            generalize f 12 = x12 at *
            subst d12
            clear e12
            go_simp
            exact hK _ _ (by show Value.string _ = _; rw [hch.out]) (hP.pure _ (by decide) _)
          refine ⟨?_,?_⟩
          · intro done f W hP hdn hd K hK
            have d13:=(hd.1 rfl).2
            have e13:=(hd.1 rfl).1
            clear hd
            replace d13:f 13 = .string (chunk s k):=d13
            generalize f 13 = x13 at *
            subst d13
            clear e13
            go_simp
            refine Calls.mono (filled_any (chunk s k) hcs.out W) ?_
            rintro e W' ⟨rfl,hb⟩
            exact hK _ _ rfl (hP.below HX.out hdn hb _)
          refine ⟨?_,?_⟩
          · intro done f W hP hdn hd K hK
            have d5:=(hd.1 rfl).2
            have d9:=(hd.2.1 rfl).2
            have d10:=(hd.2.2.1 rfl).2
            have d14:=(hd.2.2.2.1 rfl).2
            have e5:=(hd.1 rfl).1
            have e9:=(hd.2.1 rfl).1
            have e10:=(hd.2.2.1 rfl).1
            have e14:=(hd.2.2.2.1 rfl).1
            clear hd
            replace d5:f 5 = .pointer (some ⟨P,0,none⟩):=d5
            replace d9:f 9 = hnd serial q:=d9
            replace d10:f 10 = .int .i64 (frm + (k:Nat)):=d10
            replace d14:f 14 = .string (pad (chunk s k)):=d14
            have hdn15:done 15 = false:=hdn
            have hx0:=hP.a hdn15
            generalize f 5 = x5 at *
            subst d5
            clear e5
            generalize f 9 = x9 at *
            subst d9
            clear e9
            generalize f 10 = x10 at *
            subst d10
            clear e10
            generalize f 14 = x14 at *
            subst d14
            clear e14
            go_simp
            refine Calls.mono (HW.out k W hlt hz.out hx0) ?_
            rintro e W' ⟨rfl,hx1⟩
            exact hK _ _ rfl (hP.wrote hdn15 hx1 _)
          refine ⟨?_,?_⟩
          · intro done f W hP hdn hd K hK
            have d1:=(hd.1 rfl).2
            have d15:=(hd.2.1 rfl).2
            have e1:=(hd.1 rfl).1
            have e15:=(hd.2.1 rfl).1
            clear hd
            replace d1:f 1 = .int .i64 serial:=d1
            replace d15:f 15 = .int .i64 (er k):=d15
            have hx1:=hP.b e15
            generalize f 1 = x1 at *
            subst d1
            clear e1
            generalize f 15 = x15 at *
            subst d15
            go_simp
            refine Calls.mono (show Calls Tryz.prog 62 #[.int .i64 serial,.int .i64 (er k)] W fun e w'=>e = .returned (.tuple #[]) ∧ w' = W by rw [HZ.out]; exact fail_ok serial W) ?_
            rintro e W' ⟨rfl,rfl⟩
            exact hK _ _ trivial (hP.pure _ (by decide) _)
          trivial
      · have HZ:Hid (¬ er k = 0):=hz0
        clear hz0
        go_wp2_with fail
        refine wp_region_ph (fun f=>⟨#[.pointer (some ⟨M,0,none⟩),.int .i64 frm,.string t,undef,undef,undef,.int .i64 (frm + (k:Nat)),.int .i64 (c:Nat),.int .i64 frm,.string t,.bool true,u11,u12,.string t,.int .i64 (t.size:Nat),.int .i64 (c:Nat),f 0,f 1,f 2,f 3,f 4,f 5,f 6,f 7,f 8,f 9,f 10,f 11,f 12,f 13,f 14,f 15,f 16,u33,u34,u35],[]⟩) (MW M P serial q frm s er k c t) (MPh X k wr) (fun i=>[u16,u17,u18,u19,u20,u21,u22,u23,u24,u25,u26,u27,u28,u29,u30,u31,u32].getD i undef) (by kernel_rfl) rfl rfl ?hI ?hput ?step ?fin
        case hI=>exact ⟨fun _=>HX.out k wr _ hx.out ⟨rfl,rfl,rfl,Nat.le_refl _,fun _ _=>rfl⟩,fun e=>by cases e⟩
        case fin=>
          intro f W hP hV
          exact (hV 16 (by decide)).elim
        case hput=>
          repeat (refine ⟨fun f v=>rfl,?_⟩)
          trivial
        case step=>
          refine ⟨?_,?_⟩
          · intro done f W hP hdn hd K hK
            clear hd
            go_simp
            exact hK _ _ rfl (hP.pure _ (by decide) _)
          refine ⟨?_,?_⟩
          · intro done f W hP hdn hd K hK
            have d0:=(hd.1 rfl).2
            have e0:=(hd.1 rfl).1
            clear hd
            replace d0:f 0 = .pointer (some ⟨M,0,none⟩):=d0
            generalize f 0 = x0 at *
            subst d0
            clear e0
            have hm:=(hP.cells HM.out).2.1
            go_simp
            refine Calls.mono (serial_any M serial W hm) ?_
            rintro e W' ⟨rfl,rfl⟩
            exact hK _ _ rfl (hP.pure _ (by decide) _)
          refine ⟨?_,?_⟩
          · intro done f W hP hdn hd K hK
            clear hd
            go_simp
            exact hK _ _ rfl (hP.pure _ (by decide) _)
          refine ⟨?_,?_⟩
          · intro done f W hP hdn hd K hK
            have d2:=(hd.1 rfl).2
            have e2:=(hd.1 rfl).1
            clear hd
            replace d2:f 2 = .pointer (some ⟨M,0,none⟩):=d2
            generalize f 2 = x2 at *
            subst d2
            clear e2
            go_simp
            exact hK _ _ rfl (hP.pure _ (by decide) _)
          refine ⟨?_,?_⟩
          · intro done f W hP hdn hd K hK
            have d3:=(hd.1 rfl).2
            have e3:=(hd.1 rfl).1
            clear hd
            replace d3:f 3 = .pointer (some ⟨M,0,none⟩):=d3
            generalize f 3 = x3 at *
            subst d3
            clear e3
            go_simp
            exact hK _ _ rfl (hP.pure _ (by decide) _)
          refine ⟨?_,?_⟩
          · intro done f W hP hdn hd K hK
            have d4:=(hd.1 rfl).2
            have e4:=(hd.1 rfl).1
            clear hd
            replace d4:f 4 = .pointer (some ⟨M,0,none⟩):=d4
            generalize f 4 = x4 at *
            subst d4
            clear e4
            have hm:=(hP.cells HM.out).1
            go_simp
            exact hK _ _ rfl (hP.pure _ (by decide) _)
          refine ⟨?_,?_⟩
          · intro done f W hP hdn hd K hK
            clear hd
            go_simp
            exact hK _ _ rfl (hP.pure _ (by decide) _)
          refine ⟨?_,?_⟩
          · intro done f W hP hdn hd K hK
            have d6:=(hd.1 rfl).2
            have e6:=(hd.1 rfl).1
            clear hd
            replace d6:f 6 = .pointer (some ⟨M,0,none⟩):=d6
            generalize f 6 = x6 at *
            subst d6
            clear e6
            go_simp
            exact hK _ _ rfl (hP.pure _ (by decide) _)
          refine ⟨?_,?_⟩
          · intro done f W hP hdn hd K hK
            have d7:=(hd.1 rfl).2
            have e7:=(hd.1 rfl).1
            clear hd
            replace d7:f 7 = .pointer (some ⟨M,0,none⟩):=d7
            generalize f 7 = x7 at *
            subst d7
            clear e7
            go_simp
            exact hK _ _ rfl (hP.pure _ (by decide) _)
          refine ⟨?_,?_⟩
          · intro done f W hP hdn hd K hK
            have d8:=(hd.1 rfl).2
            have e8:=(hd.1 rfl).1
            clear hd
            replace d8:f 8 = .pointer (some ⟨M,1,none⟩):=d8
            generalize f 8 = x8 at *
            subst d8
            clear e8
            have hm1:=(hP.cells HM.out).2.1
            have hm2:=(hP.cells HM.out).2.2
            go_simp
            exact hK _ _ rfl (hP.pure _ (by decide) _)
          refine ⟨?_,?_⟩
          · intro done f W hP hdn hd K hK
            clear hd
            go_simp
            exact hK _ _ rfl (hP.pure _ (by decide) _)
          refine ⟨?_,?_⟩
          · intro done f W hP hdn hd K hK
            clear hd
            go_simp
            exact hK _ _ rfl (hP.pure _ (by decide) _)
          refine ⟨?_,?_⟩
          · intro done f W hP hdn hd K hK
            clear hd
            go_simp
            exact hK _ _ rfl (hP.pure _ (by decide) _)
          refine ⟨?_,?_⟩
          · intro done f W hP hdn hd K hK
            have d11:=(hd.1 rfl).2
            have d12:=(hd.2.1 rfl).2
            have e11:=(hd.1 rfl).1
            have e12:=(hd.2.1 rfl).1
            clear hd
            replace d11:f 11 = .string t:=d11
            replace d12:f 12 = .int .i64 (c:Nat):=d12
            generalize f 11 = x11 at *
            subst d11
            clear e11
            generalize f 12 = x12 at *
            subst d12
            clear e12
            go_simp
            exact hK _ _ (by show Value.string _ = _; rw [hch.out]) (hP.pure _ (by decide) _)
          refine ⟨?_,?_⟩
          · intro done f W hP hdn hd K hK
            have d13:=(hd.1 rfl).2
            have e13:=(hd.1 rfl).1
            clear hd
            replace d13:f 13 = .string (chunk s k):=d13
            generalize f 13 = x13 at *
            subst d13
            clear e13
            go_simp
            refine Calls.mono (filled_any (chunk s k) hcs.out W) ?_
            rintro e W' ⟨rfl,hb⟩
            exact hK _ _ rfl (hP.below HX.out hdn hb _)
          refine ⟨?_,?_⟩
          · intro done f W hP hdn hd K hK
            have d5:=(hd.1 rfl).2
            have d9:=(hd.2.1 rfl).2
            have d10:=(hd.2.2.1 rfl).2
            have d14:=(hd.2.2.2.1 rfl).2
            have e5:=(hd.1 rfl).1
            have e9:=(hd.2.1 rfl).1
            have e10:=(hd.2.2.1 rfl).1
            have e14:=(hd.2.2.2.1 rfl).1
            clear hd
            replace d5:f 5 = .pointer (some ⟨P,0,none⟩):=d5
            replace d9:f 9 = hnd serial q:=d9
            replace d10:f 10 = .int .i64 (frm + (k:Nat)):=d10
            replace d14:f 14 = .string (pad (chunk s k)):=d14
            have hdn15:done 15 = false:=hdn
            have hx0:=hP.a hdn15
            generalize f 5 = x5 at *
            subst d5
            clear e5
            generalize f 9 = x9 at *
            subst d9
            clear e9
            generalize f 10 = x10 at *
            subst d10
            clear e10
            generalize f 14 = x14 at *
            subst d14
            clear e14
            go_simp
            refine Calls.mono (HW.out k W hlt hz.out hx0) ?_
            rintro e W' ⟨rfl,hx1⟩
            exact hK _ _ rfl (hP.wrote hdn15 hx1 _)
          refine ⟨?_,?_⟩
          · intro done f W hP hdn hd K hK
            have d1:=(hd.1 rfl).2
            have d15:=(hd.2.1 rfl).2
            have e1:=(hd.1 rfl).1
            have e15:=(hd.2.1 rfl).1
            clear hd
            replace d1:f 1 = .int .i64 serial:=d1
            replace d15:f 15 = .int .i64 (er k):=d15
            have hx1:=hP.b e15
            generalize f 1 = x1 at *
            subst d1
            clear e1
            generalize f 15 = x15 at *
            subst d15
            go_simp
            refine Calls.mono (fail_any serial (er k) HZ.out W) ?_
            rintro e W' ⟨rfl,rfl⟩
            exact ⟨rfl,Or.inl ⟨k,hlt,hz.out,HZ.out,rfl,hx1⟩⟩
          trivial
    · have hk2:k = parts s:=by omega
      have hemp:(part s k).toList.isEmpty = true:=by
        rw [Lib.toList_data]
        have h1:(part s k).data.toList.length = (part s k).size:=by rw [Array.length_toList]; rfl
        have h2:(part s k).size = 0:=by rw [hps]; unfold parts at hk2; omega
        rw [h2] at h1
        rw [List.eq_nil_of_length_eq_zero h1]; rfl
      clear hps
      generalize part s k = t at *
      subst hk2
      go_wp2
      go_returns
      exact Or.inr ⟨hz.out,rfl,hx.out⟩
end Go.Proofs.YtncfbocbigdhiaaGreat.F
/- Of; Detach with nothing loose; a Write to a device that is gone; the fixed fact that each statement on medium begins with. -/
namespace Go.Proofs.YtncfbocbigdhiaaGreat.F
set_option maxRecDepth 100000
open Go.RowKit
def med (P:Nat) (s q:Int):Obj:=.cells #[.pointer (some ⟨P,0,none⟩),.int .i64 s,.int .i64 q] 107
section
variable {b0:Nat} {w0:World} {L:Loc} {st:St} {lv:Value} {oth:List (Nat × Obj)} {w:World}
theorem One.of_any (h:One b0 w0 L st lv oth w) (ht:st.there = true):Calls Tryz.prog 52 #[.pointer (some ⟨L.P,0,none⟩),.int .i64 st.serial] w fun e w'=>∃ M,e = .returned (.tuple #[.pointer (some ⟨M,0,none⟩),.int .i64 0]) ∧ One b0 w0 L st lv ((M,med L.P st.serial st.session) :: oth) w':=by
  have ho:=h.open_ok ht
  clear h
  go_enter Tryz.func52,Tryz.ntmps52
  go_wp2_with fail
  go_call ho as e w1 ⟨rfl,h1⟩
  have HF:Hid (∀ o,One b0 w0 L st lv (((w1.alloc o).heap.size,med L.P st.serial st.session) :: oth) ((w1.alloc o).alloc (med L.P st.serial st.session))):=fun o=>(h1.laid o).alloc _ (apart_of (by decide))
  clear h1 ho
  go_wp2
  go_returns
  exact ⟨w1.heap.size + 1,rfl,by have:=HF.out (.cells #[.int .i64 st.serial,.int .i64 st.session] 105); simpa [med] using this⟩
end
end Go.Proofs.YtncfbocbigdhiaaGreat.F
/- Where a sector stands among those that are loose, as a call. -/
namespace Go.Proofs.YtncfbocbigdhiaaGreat.F
set_option maxRecDepth 100000
open Go.RowKit
theorem ent108 (args:Array Value) (W:World):(callFunc 136 args).run Tryz.prog W = .ok (.enter 136 args) W:=enter_of Tryz.func136 (by kernel_rfl) (by kernel_rfl) args W
theorem size149:(Tryz.prog.info? 152).map (·.size) = some 65:=by kernel_rfl
theorem size147:(Tryz.prog.info? 150).map (·.size) = some 64:=by kernel_rfl
theorem pless_any (c:List Value) (a t:Int) (hc:c[0]? = some (.int .i64 a)) (w:World) :
    Calls Tryz.prog 136 #[.agg c.toArray,.int .i64 t] w fun e w'=>e = .returned (.int .i64 (sg a t)) ∧ Below w.heap.size w w':=by
  have h0:(w.alloc (.cells c.toArray 152)).cell? ⟨w.heap.size,0,none⟩ = some (.int .i64 a):=by
    rw [cell_of (heap_new _ _) 0]; simpa using hc
  have HB:Hid (Below w.heap.size w (w.alloc (.cells c.toArray 152))):=Below.alloc (Below.refl _ _) (Nat.le_refl _) _
  generalize hA:c.toArray = A at *
  go_enter Tryz.func136,Tryz.ntmps136
  go_wp2_with fail
  go_call (cmp_any a t _) as e w1 ⟨rfl,rfl⟩
  go_wp2
  go_returns
  exact ⟨rfl,HB.out⟩
theorem psearch_nil (t:Int) (w:World) :
    Calls Tryz.prog 135 #[.slice none 0 0,.int .i64 t,.func (.func 136) #[] #[]] w fun e w'=>e = .returned (.tuple #[.int .i64 0,.bool false]) ∧ w' = w:=by
  go_enter Tryz.func135,Tryz.ntmps135
  go_wp2
  go_loop [9,10] (fun lo hi=>lo = .int .i64 0 ∧ hi = .int .i64 0) (fun _ _=>0)
  case atStart=>exact ⟨rfl,rfl⟩
  case round=>
    obtain ⟨rfl,rfl⟩:=hrel
    go_wp2
    go_returns
    exact ⟨rfl,rfl⟩
structure Pasts (w:World) (g n:Nat) (ss:Nat → Int) (el:Nat → List Value):Prop where
  len:∀ j,j < n → (el j).length = 65
  at0:∀ j,j < n → (el j)[0]? = some (.int .i64 (ss j))
  lies:∀ j,j < n → w.rangeAt g (j * 65) (el j)
  lt:g < w.heap.size
theorem Pasts.below {w w':World} {g n:Nat} {ss:Nat → Int} {el:Nat → List Value} (h:Pasts w g n ss el) (hb:Below w.heap.size w w'):Pasts w' g n ss el:=
  ⟨h.len,h.at0,fun j hj k v e=>by rw [hb.cell (by exact h.lt)]; exact h.lies j hj k v e,Nat.lt_of_lt_of_le h.lt hb.size⟩
end Go.Proofs.YtncfbocbigdhiaaGreat.F
/- A past put behind the last one; what a device writes where that is so. -/
namespace Go.Proofs.YtncfbocbigdhiaaGreat.F
set_option maxRecDepth 100000
open Go.RowKit
def zpast:Value:=.agg (#[.int .i64 0] ++ Array.replicate 64 (.int .u8 0))
theorem info149:(Tryz.prog.info? 152).map (fun i=>(i.zero,i.size,i.bytes)) = some (some zpast,65,72):=by kernel_rfl
set_option maxRecDepth 100000 in
theorem pinsert_end (b0:Nat) (w:World) (v:Value) (n:Nat) (xs c:List Value) (hown:w.ownsRow b0 152 65 v n xs) (hn:n ≤ 5000) (vb:Nat) (hc:c.length = 65) (h1:∀ u ∈ c,u.oneCell' = true) (hvb:w.rangeAt vb 0 c) (hb:b0 ≤ w.heap.size) :
    Calls Tryz.prog 137 #[v,.int .i64 (n:Nat),.slice (some ⟨vb,0,none⟩) 1 1] w fun e w'=>∃ v',e = .returned v' ∧ w'.ownsRow b0 152 65 v' (n + 1) (xs ++ c) ∧ w.grownBy w' v.ownBlock:=by
  obtain ⟨i,hi,hz,hs,hby⟩:=info_parts info149
  obtain ⟨ao,cap,rfl,hnc,hm⟩:∃ ao cap,v = .slice ao n cap ∧ n ≤ cap ∧ cap ≤ maxLen:=by
    rcases hown.2 with ⟨rfl,rfl⟩ | ⟨g,cap,cur,rfl,_,_,h3,h4,_⟩
    · exact ⟨none,0,rfl,Nat.le_refl _,by unfold maxLen; omega⟩
    · exact ⟨_,cap,rfl,h3,h4⟩
  have hm2:cap ≤ 9223372036854775807:=hm
  rcases Nat.eq_or_lt_of_le hnc with rfl | hlt
  · go_enter Tryz.func137,Tryz.ntmps137
    go_wp2_with (at_builtin; refine wpList_append_own _ rfl _ _ 93 rfl b0 152 i zpast 65 72 Tryz.underlying93 hi hz hs hby (by kernel_rfl) (by decide) _ n xs rfl hown ⟨vb,0,none⟩ 1 1 c rfl (by rw [hc]) ?c1 h1 (by unfold maxLen; omega) (by omega) hb ?c3)
    case c1=>
      intro j u hj
      have:=hvb j u hj
      rw [Addr.add_mid]; simpa using this
    case c3=>
      intro v' w' h1 h2 h3
      have H:Hid _:=And.intro h1 h2
      clear h1 h2 h3
      go_wp2
      go_returns
      exact ⟨v',rfl,H.out.1,H.out.2⟩
  · go_enter Tryz.func137,Tryz.ntmps137
    go_wp2_with (at_builtin; refine wpList_append_own _ rfl _ _ 93 rfl b0 152 i zpast 65 72 Tryz.underlying93 hi hz hs hby (by kernel_rfl) (by decide) _ n xs rfl hown ⟨vb,0,none⟩ 1 1 c rfl (by rw [hc]) ?c1 h1 (by unfold maxLen; omega) (by omega) hb ?c3)
    case c1=>
      intro j u hj
      have:=hvb j u hj
      rw [Addr.add_mid]; simpa using this
    case c3=>
      intro v' w' h1 h2 h3
      have H:Hid _:=And.intro h1 h2
      clear h1 h2 h3
      go_wp2
      go_returns
      exact ⟨v',rfl,H.out.1,H.out.2⟩
section
variable {b0:Nat} {w0:World} {L:Loc} {st:St} {lv:Value} {oth:List (Nat × Obj)} {w:World}
end
end Go.Proofs.YtncfbocbigdhiaaGreat.F
/- A struct whose second field is a row of 64 cells, built; a slice of one such. -/
namespace Go.Proofs.YtncfbocbigdhiaaGreat.F
set_option maxRecDepth 100000
open Go.RowKit
theorem fold_set (off:Nat):∀ (l:List Value) (k:Nat) (B:Array Value),off + k + l.length ≤ B.size →
    (l.zipIdx k).foldl (fun cs (x:Value × Nat)=>cs.setIfInBounds (off + x.2) x.1) B = (B.toList.take (off + k) ++ l ++ B.toList.drop (off + k + l.length)).toArray
  | [],k,B,_=>by simp
  | c :: l,k,B,h=>by
    simp only [List.length_cons] at h
    rw [List.zipIdx_cons,List.foldl_cons,fold_set off l (k + 1) _ (by simp; omega)]
    congr 1
    have e:(B.setIfInBounds (off + k) c).toList = B.toList.set (off + k) c:=by simp
    show List.take (off + (k + 1)) (B.setIfInBounds (off + k) c).toList ++ l ++ List.drop (off + (k + 1) + l.length) (B.setIfInBounds (off + k) c).toList = _
    rw [e]
    have hl:B.toList.length = B.size:=by simp
    have t1:List.take (off + (k + 1)) (B.toList.set (off + k) c) = B.toList.take (off + k) ++ [c]:=by
      apply List.ext_getElem?
      intro j
      rw [List.getElem?_take]
      by_cases h1:j < off + (k + 1)
      · rw [if_pos h1,List.getElem?_set]
        by_cases h2:off + k = j
        · rw [if_pos h2,if_pos (by omega),List.getElem?_append_right (by rw [List.length_take]; omega),List.length_take,h2,Nat.min_eq_left (by omega)]; simp
        · rw [if_neg h2,List.getElem?_append_left (by rw [List.length_take]; omega),List.getElem?_take,if_pos (by omega)]
      · rw [if_neg h1,List.getElem?_eq_none (by rw [List.length_append,List.length_take]; simp; omega)]
    rw [t1,List.drop_set_of_lt (by omega)]
    simp [Nat.add_assoc,Nat.add_comm,Nat.add_left_comm]
theorem fill_one (B A:Array Value) (off:Nat) (h:off + A.size ≤ B.size) :
    A.zipIdx.foldl (fun cs (x:Value × Nat)=>cs.setIfInBounds (off + x.2) x.1) B = (B.toList.take off ++ A.toList ++ B.toList.drop (off + A.size)).toArray:=by
  rw [← Array.foldl_toList,Array.toList_zipIdx]
  have:=fold_set off A.toList 0 B (by simpa using h)
  simpa using this
theorem fill_cons (pl:Nat → Option (Nat × Nat)) (B:Array Value) (i:Nat) (v:Value) (rest:List (Nat × Value)) (off size:Nat) (hp:pl i = some (off,size)) (hs:v.cells.size = size) (hb:off + size ≤ B.size) :
    Instr.fill pl B ((i,v) :: rest) = Instr.fill pl (B.toList.take off ++ v.cells.toList ++ B.toList.drop (off + size)).toArray rest:=by
  rw [Instr.fill,hp]
  subst hs
  simp only [ne_eq,not_true_eq_false,decide_false,Bool.false_or,decide_eq_true_eq]
  rw [if_neg (by omega),fill_one B v.cells off hb]
theorem past_built (i:Int) (A:Array Value) (hA:A.size = 64) (w:World):(Instr.build 152 #[(0,.int .i64 i),(1,.agg A)]).run Tryz.prog w = .ok (.agg (.int .i64 i :: A.toList).toArray) w:=by
  refine run_build w 152 _ _ ?_
  have h1:Tryz.prog.built 152 [(0,.int .i64 i),(1,.agg A)] = Instr.fill (#[(0,1),(1,64)][·]?) zpast.cells [(0,.int .i64 i),(1,.agg A)]:=by kernel_rfl
  rw [h1]
  have hz:zpast.cells.size = 65:=by kernel_rfl
  generalize zpast.cells = B at *
  have e1:(Value.int .i64 i).cells = #[.int .i64 i]:=rfl
  have e2:(Value.agg A).cells = A:=rfl
  rw [fill_cons _ B 0 _ _ 0 1 rfl (by rw [e1]; rfl) (by omega),fill_cons _ _ 1 _ _ 1 64 rfl (by rw [e2]; exact hA) (by simp [e1]; omega),e1,e2]
  have hd:B.toList.length = 65:=by simpa using hz
  rw [Instr.fill]
  refine congrArg some (congrArg List.toArray ?_)
  rw [List.take_zero,List.nil_append]
  show List.take 1 ([Value.int .i64 i] ++ List.drop 1 B.toList) ++ A.toList ++ List.drop 65 ([Value.int .i64 i] ++ List.drop 1 B.toList) = _
  have hx:List.drop 65 ([Value.int .i64 i] ++ List.drop 1 B.toList) = []:=List.drop_eq_nil_of_le (by rw [List.length_append,List.length_drop,hd]; simp)
  rw [hx]
  simp
theorem past_slice (c:List Value) (hc:c.length = 65) (w:World):(Instr.buildSlice 93 1 #[(0,.agg c.toArray)]).run Tryz.prog w = .ok (.slice (some ⟨w.heap.size,0,none⟩) 1 1) (w.alloc (.cells c.toArray 152)):=by
  obtain ⟨it,hi,hz,hs,hby⟩:=info_parts info149
  have e2:(Value.agg c.toArray).cells = c.toArray:=rfl
  have hf:∀ B:Array Value,B.size = 65 → Instr.fill (fun i=>some (i * 65,65)) B [(0,.agg c.toArray)] = some c.toArray:=by
    intro B hB
    rw [fill_cons _ B 0 _ _ 0 65 rfl (by rw [e2]; simpa using hc) (by omega),e2]
    rw [Instr.fill]
    refine congrArg some ?_
    have hl:B.toList.length = 65:=by simpa using hB
    rw [List.drop_eq_nil_of_le (by omega),List.append_nil,List.take_zero,List.nil_append]
  have hsz:((Array.range 65).map (zpast.cells[· % zpast.cells.size]!)).size = 65:=by simp
  have:=hf _ hsz
  simp [Instr.buildSlice,run_underlying Tryz.underlying93,sizeOf,typeInfo,zeroValue,hi,hs,hz,newRow]
  rw [this]
  simp [newObj]
  rfl
end Go.Proofs.YtncfbocbigdhiaaGreat.F
/- What a device writes into a sector that is behind all loose ones, as a call. -/
namespace Go.Proofs.YtncfbocbigdhiaaGreat.F
set_option maxRecDepth 100000
open Go.RowKit
theorem wp_build_run {o:Oper} {a:Act} {w:World} {K:Act → World → Prop} {Q:Exit → Act → World → Prop} (t:TypeId) (parts:Array (Nat × Operand)) (ho:o.op = .build t parts) {v:Value} (vs:Array (Nat × Value)) (hvs:(parts.map fun (i,x)=>(i,a.eval x)) = vs)
    (hr:(Instr.build t vs).run Tryz.prog w = .ok v w) (h:K (a.put o.dst v) w):o.wp Tryz.prog a w K Q:=by
  unfold Oper.wp execOp
  simp only [ho,Sem.run_bind,hvs,hr,Result.andThen_ok]
  exact h
theorem wp_buildSlice_run {o:Oper} {a:Act} {w w':World} {K:Act → World → Prop} {Q:Exit → Act → World → Prop} (t:TypeId) (n:Nat) (parts:Array (Nat × Operand)) (ho:o.op = .buildSlice t n parts) {v:Value} (vs:Array (Nat × Value)) (hvs:(parts.map fun (i,x)=>(i,a.eval x)) = vs)
    (hr:(Instr.buildSlice t n vs).run Tryz.prog w = .ok v w') (h:K (a.put o.dst v) w'):o.wp Tryz.prog a w K Q:=by
  unfold Oper.wp execOp
  simp only [ho,Sem.run_bind,hvs,hr,Result.andThen_ok]
  exact h
def secl (st:St) (i:Nat):List Value:=(st.secs.toList.drop (i * 64)).take 64
def ent (st:St) (i:Nat):List Value:=.int .i64 (i:Nat) :: secl st i
def lsd (st:St) (i:Nat):St:={ st with ln:=st.ln + 1,loose:=st.loose ++ ent st i }
structure SecOk (st:St):Prop where
  size:st.secs.size = st.n * 64
  bytes:∀ u ∈ st.secs.toList,∃ b:UInt8,u = .int .u8 (b.toNat:Nat)
theorem sec_length {st:St} {i:Nat} (h:SecOk st) (hi:i < st.n):(secl st i).length = 64:=by
  unfold secl
  rw [List.length_take,List.length_drop,Array.length_toList,h.size]
  have:(i + 1) * 64 ≤ st.n * 64:=Nat.mul_le_mul_right _ hi
  omega
theorem sec_range {st:St} {i S:Nat} {W:World} (h:W.heap[S]? = some (.cells st.secs 150)):W.rangeAt S (i * 64) (secl st i):=by
  intro j v hj
  rw [cell_of h]
  unfold secl at hj
  rw [List.getElem?_take] at hj
  split at hj
  · rw [List.getElem?_drop,Array.getElem?_toList] at hj; exact hj
  · cases hj
theorem ent_one {st:St} {i:Nat} (h:SecOk st):∀ u ∈ ent st i,u.oneCell' = true:=by
  intro u hu
  rcases List.mem_cons.1 hu with rfl | hu
  · rfl
  · obtain ⟨b,rfl⟩:=h.bytes u (List.mem_of_mem_drop (List.mem_of_mem_take hu))
    rfl
def setSec (secs:Array Value) (i:Nat) (s:ByteArray):Array Value:=(secs.toList.take (i * 64) ++ Lib.byteCells s.data.toList ++ secs.toList.drop (i * 64 + 64)).toArray
def wrote (st:St) (i:Nat) (s:ByteArray):St:={ lsd st i with secs:=setSec st.secs i s }
theorem size5:(Tryz.prog.info? 5).map (·.size) = some 1:=by kernel_rfl
structure Sm (w W:World):Prop where
  heap:W.heap = w.heap
  os:W.os = w.os
  tape:W.tape = w.tape
  output:W.output = w.output
section
variable {b0:Nat} {w0:World} {L:Loc} {st:St} {lv:Value} {oth:List (Nat × Obj)} {w:World} {i:Nat}
theorem Sm.below {o:Obj} {W:World} (h:Sm (w.alloc o) W):Below w.heap.size w W:=by
  have b:Below w.heap.size w (w.alloc o):=Below.alloc (Below.refl _ _) (Nat.le_refl _) _
  exact ⟨h.os.trans b.os,h.tape.trans b.tape,h.output.trans b.output,by rw [h.heap]; exact b.size,fun k hk=>by rw [h.heap]; exact b.block k hk⟩
theorem own_same (h:One b0 w0 L st lv oth w) {o:Obj} {W:World} (hs:Sm (w.alloc o) W):W.ownsRow b0 152 65 lv st.ln st.loose:=(h.ofBelow hs.below).own
theorem ent_base (h:One b0 w0 L st lv oth w) {o:Obj} {W:World} (hs:Sm (w.alloc o) W):b0 ≤ W.heap.size:=by
  have:=hs.below.size; have:=getElem?_lt h.pool; have:=h.bP; omega
structure WPh (b0:Nat) (w0:World) (L:Loc) (st:St) (lv:Value) (oth:List (Nat × Obj)) (i:Nat) (w:World) (done:Nat → Bool) (f:Nat → Value) (W:World):Prop where
  c3:W.cell? ⟨L.D,3,none⟩ = some (.slice (some ⟨L.S,0,none⟩) st.n st.n)
  cS:W.heap[L.S]? = some (.cells st.secs 150)
  c4:done 19 = false → W.cell? ⟨L.D,4,none⟩ = some lv ∧ W.frozen? ⟨L.D,4,none⟩ = false
  o4:done 4 = false → done 16 = false
  o16:done 16 = false → done 19 = false
  o15:done 15 = false → done 16 = false
  a:done 15 = false → Sm w W
  b:done 15 = true → done 16 = false → Sm (w.alloc (.cells (ent st i).toArray 152)) W
  c:done 16 = true → done 19 = false → W.ownsRow b0 152 65 (f 16) (st.ln + 1) (st.loose ++ ent st i) ∧ KO L lv w W ∧ W.heap[L.P]? = w.heap[L.P]? ∧ W.heap[L.D]? = w.heap[L.D]?
  d:done 19 = true → ∃ v',One b0 w0 L (lsd st i) v' oth W
variable {done:Nat → Bool} {f:Nat → Value} {W:World}
theorem WPh.pure (h:WPh b0 w0 L st lv oth i w done f W) (k:Nat) (hk:k ≠ 4 ∧ k ≠ 15 ∧ k ≠ 16 ∧ k ≠ 19) (v:Value):WPh b0 w0 L st lv oth i w (updB done k) (upd f k v) W:=by
  have a4:updB done k 4 = done 4:=if_neg (Ne.symm hk.1)
  have a15:updB done k 15 = done 15:=if_neg (Ne.symm hk.2.1)
  have a16:updB done k 16 = done 16:=if_neg (Ne.symm hk.2.2.1)
  have a19:updB done k 19 = done 19:=if_neg (Ne.symm hk.2.2.2)
  have f16:upd f k v 16 = f 16:=if_neg (Ne.symm hk.2.2.1)
  exact ⟨h.c3,h.cS,by rw [a19]; exact h.c4,by rw [a4,a16]; exact h.o4,by rw [a16,a19]; exact h.o16,by rw [a15,a16]; exact h.o15,by rw [a15]; exact h.a,by rw [a15,a16]; exact h.b,by rw [a16,a19,f16]; exact h.c,by rw [a19]; exact h.d⟩
theorem One.setS (h:One b0 w0 L st lv oth w) (ss:Array Value):One b0 w0 L { st with secs:=ss } lv oth (w.setRow L.S ss):=by
  obtain ⟨t1,t2,t3⟩:=h.tne
  have ho:∀ k,k ≠ L.S → (w.setRow L.S ss).heap[k]? = w.heap[k]?:=fun k hk=>setRow_other w L.S k ss (by omega)
  refine h.upd ⟨rfl,rfl,rfl,by simp [World.setRow],fun k _ _ _ h3 _=>ho k h3⟩ ?_ ?_ ?_ ⟨h.own.1,?_⟩
  · rw [ho _ t3]; exact h.pool
  · rw [ho _ t2]; exact h.dev
  · exact setRow_heap w L.S _ ss 150 _ h.sec
  · rcases h.own.2 with h1 | ⟨g,cap,cur,e,h2,h3,h4⟩
    · exact Or.inl h1
    · refine Or.inr ⟨g,cap,cur,e,h2,?_,h4⟩
      rw [ho g (by intro e2; have:=h.sec; rw [← e2,h3] at this; injection this with this; injection this with _ t _; exact absurd t (by decide))]
      exact h3
end
end Go.Proofs.YtncfbocbigdhiaaGreat.F
