/- Texts of this seat, one behind the other: FIL, FAA, FAC, FAD, FAE, FPI, FPM, FPN, FPO, FFA. -/
import Derived.WalkKit
import Derived.Test.YtncfbocbigdhiaaGreatQKD
import Derived.Lib.Overlaps
import Derived.Lib.AppendZerosOnto
import Derived.Lib.JoinLaws
import Derived.Shelf.RegionOpenPlain
import Derived.Laws.Externs
import Derived.Laws.NewBlocks
/- Lists: what is put in the middle of a row, in place and anew. -/
namespace Go.Proofs.YtncfbocbigdhiaaGreat.F
set_option maxRecDepth 100000
set_option maxRecDepth 100000
theorem ins_row {α:Type} (cur xs c:List α) (a s m:Nat) (ha:a ≤ m) (hm:m + s ≤ cur.length) (hx:cur.take m = xs) (hc:c.length = s) (A1 A2:List α)
    (h1:A1 = cur.take (a + s) ++ xs.drop a ++ cur.drop (a + s + (m - a))) (h2:A2 = A1.take a ++ c ++ A1.drop (a + s)) :
    A2.take (m + s) = xs.take a ++ c ++ xs.drop a ∧ A1.length = cur.length ∧ A2.length = cur.length:=by
  have hxl:xs.length = m:=by rw [← hx,List.length_take]; omega
  have hxd:(xs.drop a).length = m - a:=by rw [List.length_drop,hxl]
  have hl1:A1.length = cur.length:=by
    rw [h1,List.length_append,List.length_append,List.length_take,hxd,List.length_drop]; omega
  have t1:A1.take a = xs.take a:=by
    rw [h1,List.append_assoc,List.take_append_of_le_length (by rw [List.length_take]; omega),List.take_take,← hx,List.take_take]
    congr 1; omega
  have t2:A1.drop (a + s) = xs.drop a ++ cur.drop (a + s + (m - a)):=by
    have e:(cur.take (a + s)).length = a + s:=by rw [List.length_take]; omega
    rw [h1,List.append_assoc,List.drop_append_of_le_length (by omega),List.drop_eq_nil_of_le (by omega),List.nil_append]
  have hl2:A2.length = cur.length:=by
    rw [h2,List.length_append,List.length_append,List.length_take,List.length_drop,hc,hl1]; omega
  refine ⟨?_,hl1,hl2⟩
  have e3:(xs.take a ++ c ++ xs.drop a).length = m + s:=by rw [List.length_append,List.length_append,List.length_take,hxd,hxl,hc]; omega
  rw [h2,t1,t2,← List.append_assoc,List.take_append_of_le_length (by omega),List.take_of_length_le (by omega)]
theorem ins_new {α:Type} (xs c Z:List α) (a s m G:Nat) (ha:a ≤ m) (hxl:xs.length = m) (hc:c.length = s) (hZ:Z.length = G - a) (hG:m + s ≤ G) (R A1 A2:List α)
    (hR:R = xs.take a ++ Z) (h1:A1 = R.take a ++ c ++ R.drop (a + s)) (h2:A2 = A1.take (a + s) ++ xs.drop a ++ A1.drop (a + s + (m - a))) :
    A2.take (m + s) = xs.take a ++ c ++ xs.drop a ∧ R.length = G ∧ A1.length = G ∧ A2.length = G:=by
  have hxt:(xs.take a).length = a:=by rw [List.length_take,hxl]; omega
  have hxd:(xs.drop a).length = m - a:=by rw [List.length_drop,hxl]
  have hRl:R.length = G:=by rw [hR,List.length_append,hxt,hZ]; omega
  have hl1:A1.length = G:=by
    rw [h1,List.length_append,List.length_append,List.length_take,hc,List.length_drop,hRl]; omega
  have hl2:A2.length = G:=by
    rw [h2,List.length_append,List.length_append,List.length_take,hxd,List.length_drop,hl1]; omega
  have t0:R.take a = xs.take a:=by
    rw [hR,List.take_append_of_le_length (by omega),List.take_of_length_le (by omega)]
  have e1:(xs.take a ++ c).length = a + s:=by rw [List.length_append,hxt,hc]
  have t1:A1.take (a + s) = xs.take a ++ c:=by
    rw [h1,t0,List.take_append_of_le_length (by omega),List.take_of_length_le (by omega)]
  refine ⟨?_,hRl,hl1,hl2⟩
  have e3:(xs.take a ++ c ++ xs.drop a).length = m + s:=by rw [List.length_append,e1,hxd]; omega
  rw [h2,t1,List.take_append_of_le_length (by omega),List.take_of_length_le (by omega)]
end Go.Proofs.YtncfbocbigdhiaaGreat.F
/- Where a sector stands, or would stand, among those that are loose, as a call. -/
namespace Go.Proofs.YtncfbocbigdhiaaGreat.F
set_option maxRecDepth 100000
open Go.RowKit
theorem wpList_load_guard {P:Program} {ops:Array Oper} {rest:List Oper} {op:Oper} {a:Act} {w:World} {Q:Exit → Act → World → Prop} (hw:Region.wanted op (yielded ops a.tmps) = true) (ty:TypeId) (x:Operand) (ho:op.op = .load ty x)
    (b o:Nat) (hx:a.eval x = .pointer (some ⟨b,o,none⟩)) (cs:List Value) (d:TypeDesc) (hc:w.rangeAt b o cs)
    (hu:P.underlying ty = some d) (hd:d.isRow = true) (hi:(P.info? ty).map (·.size) = some cs.length)
    (h:wpList P ops Q rest (a.put op.dst (.agg cs.toArray)) w):wpList P ops Q (op :: rest) a w:=
  wpList_step fun K hK=>by
    rw [if_pos hw]
    exact wp_load_mid ty x ho b o hx cs d hc hu hd hi (hK _ _ h)
set_option maxRecDepth 100000 in
theorem psearch_any (g cap n:Nat) (ss:Nat → Int) (el:Nat → List Value) (t:Int) (i:Nat) (hi:i ≤ n) (hn:n ≤ 5000) (w:World) (hP:Pasts w g n ss el) (h1:∀ j,j < i → ss j < t) (h2:∀ j,i ≤ j → j < n → t ≤ ss j) :
    Calls Tryz.prog 135 #[.slice (some ⟨g,0,none⟩) n cap,.int .i64 t,.func (.func 136) #[] #[]] w fun e w'=>e = .returned (.tuple #[.int .i64 (i:Nat),.bool (decide (i < n ∧ ss i = t))]) ∧ Below w.heap.size w w':=by
  have HP:Hid (Pasts w g n ss el):=hP
  have HB:Hid (Below w.heap.size w w):=Below.refl _ _
  have H1:Hid (∀ j,j < i → ss j < t):=h1
  have H2:Hid (∀ j,i ≤ j → j < n → t ≤ ss j):=h2
  obtain ⟨r,hr⟩:∃ r,r = decide (i < n ∧ ss i = t):=⟨_,rfl⟩
  rw [← hr]
  have HR:Hid _:=hr
  clear hP h1 h2 hr
  go_enter Tryz.func135,Tryz.ntmps135
  go_wp2
  go_loopw [9,10] (fun lo hi wr=>∃ a b:Nat,lo = .int .i64 (a:Nat) ∧ hi = .int .i64 (b:Nat) ∧ a ≤ i ∧ i ≤ b ∧ b ≤ n ∧ Hid (Below w.heap.size w wr)) (fun lo hi _=>(intOf hi).toNat - (intOf lo).toNat)
  case atStart=>exact ⟨0,n,rfl,rfl,by omega,hi,Nat.le_refl _,HB⟩
  case round=>
    obtain ⟨a,b,rfl,rfl,ha,hib,hbn,hbl⟩:=hrel
    clear HB
    have HPr:Hid (Pasts wr g n ss el):=HP.out.below hbl.out
    have hent:=ent108
    by_cases hab:a < b
    · obtain ⟨m,hm⟩:∃ m,m = (a + b) / 2:=⟨_,rfl⟩
      have hmn:m < n:=by omega
      have hma:a ≤ m:=by omega
      have hmb:m < b:=by omega
      have hlr:=HPr.out.lies m hmn
      have hl65:(Tryz.prog.info? 152).map (·.size) = some (el m).length:=by rw [size149,HPr.out.len m hmn]
      have hl:=pless_any (el m) (ss m) t (HPr.out.at0 m hmn) wr
      have hmz:((a:Int) + (b:Int)) / 2 = (m:Int):=by omega
      obtain ⟨x,hx⟩:∃ x,x = sg (ss m) t:=⟨_,rfl⟩
      rw [← hx] at hl
      clear hm
      by_cases hmi:m < i
      · have hs:x < 0:=by have:=H1.out m hmi; rw [hx]; unfold sg; rw [if_pos this]; decide
        clear hx
        go_wp2_with (refine wpList_load_mid rfl 152 _ rfl g (m * 65) rfl (el m) _ hlr Tryz.underlying152 rfl hl65 ?_)
        go_call hl as e w2 ⟨rfl,hb2⟩
        have HB2:Hid (Below w.heap.size w w2):=hbl.out.trans (hb2.mono hbl.out.size)
        clear hl hb2 hlr
        go_wp2
        go_roundw
        case rel=>exact ⟨m + 1,b,rfl,rfl,by omega,hib,hbn,HB2⟩
        case measure=>simp only [intOf]; omega
      · have hs:¬ x < 0:=by
          have:=H2.out m (by omega) hmn
          rw [hx]; unfold sg; rw [if_neg (by omega)]; split <;> decide
        clear hx
        go_wp2_with (refine wpList_load_mid rfl 152 _ rfl g (m * 65) rfl (el m) _ hlr Tryz.underlying152 rfl hl65 ?_)
        go_call hl as e w2 ⟨rfl,hb2⟩
        have HB2:Hid (Below w.heap.size w w2):=hbl.out.trans (hb2.mono hbl.out.size)
        clear hl hb2 hlr
        go_wp2
        go_roundw
        case rel=>exact ⟨a,m,rfl,rfl,ha,by omega,by omega,HB2⟩
        case measure=>simp only [intOf]; omega
    · obtain rfl:i = a:=by omega
      obtain rfl:i = b:=by omega
      rcases Nat.lt_or_ge i n with hin | hin
      · have hlr:=HPr.out.lies i hin
        have hl65:(Tryz.prog.info? 152).map (·.size) = some (el i).length:=by rw [size149,HPr.out.len i hin]
        have hl:=pless_any (el i) (ss i) t (HPr.out.at0 i hin) wr
        obtain ⟨x,hx⟩:∃ x,x = sg (ss i) t:=⟨_,rfl⟩
        rw [← hx] at hl
        have hxr:(x == 0) = r:=by
          have:=H2.out i (Nat.le_refl _) hin
          rw [HR.out,hx]
          unfold sg
          rw [if_neg (by omega)]
          by_cases e:ss i = t
          · rw [if_neg (by omega)]; simp [hin,e]
          · rw [if_pos (by omega)]; simp [e]
        clear hx
        go_wp2_with (refine wpList_load_guard rfl 152 _ rfl g (i * 65) rfl (el i) _ hlr Tryz.underlying152 rfl hl65 ?_)
        go_call hl as e w2 ⟨rfl,hb2⟩
        have HB2:Hid (Below w.heap.size w w2):=hbl.out.trans (hb2.mono hbl.out.size)
        clear hl hb2 hlr
        go_wp2
        go_returns
        exact ⟨rfl,HB2.out⟩
      · have hrf:r = false:=by rw [HR.out]; exact decide_eq_false (fun h=>absurd h.1 (by omega))
        subst hrf
        obtain rfl:i = n:=by omega
        go_wp2
        go_returns
        exact ⟨rfl,hbl.out⟩
end Go.Proofs.YtncfbocbigdhiaaGreat.F
/- settle, of any number of loose sectors and any choices, as a call. -/
namespace Go.Proofs.YtncfbocbigdhiaaGreat.F
set_option maxRecDepth 100000
open Go.RowKit
def lent (st:St) (k:Nat):List Value:=(st.loose.drop (k * 65)).take 65
def lwas (st:St) (k:Nat):List Value:=(lent st k).drop 1
structure LIs (st:St) (ats:Nat → Nat):Prop where
  len:st.loose.length = st.ln * 65
  few:st.ln ≤ 5000
  at0:∀ k,k < st.ln → st.loose[k * 65]? = some (.int .i64 (ats k:Nat))
  lt:∀ k,k < st.ln → ats k < st.n
  one:∀ u ∈ st.loose,u.oneCell' = true
def setL (secs:Array Value) (i:Nat) (c:List Value):Array Value:=(secs.toList.take (i * 64) ++ c ++ secs.toList.drop (i * 64 + c.length)).toArray
def stays (N:Nat) (ch:Nat → Int) (k:Nat):Bool:=decide (k < N) && ((ch k).tmod 2 != 0)
def secsK (st:St) (ats:Nat → Nat) (N:Nat) (ch:Nat → Int):Nat → Array Value
  | 0=>st.secs
  | k + 1=>if stays N ch k then secsK st ats N ch k else setL (secsK st ats N ch k) (ats k) (lwas st k)
theorem lent_length {st:St} {ats:Nat → Nat} (h:LIs st ats) (k:Nat) (hk:k < st.ln):(lent st k).length = 65:=by
  unfold lent
  rw [List.length_take,List.length_drop,h.len]
  have:(k + 1) * 65 ≤ st.ln * 65:=Nat.mul_le_mul_right _ hk
  omega
theorem lwas_length {st:St} {ats:Nat → Nat} (h:LIs st ats) (k:Nat) (hk:k < st.ln):(lwas st k).length = 64:=by
  unfold lwas; rw [List.length_drop,lent_length h k hk]
theorem lent_zero {st:St} {ats:Nat → Nat} (h:LIs st ats) (k:Nat) (hk:k < st.ln):(lent st k)[0]? = some (.int .i64 (ats k:Nat)):=by
  unfold lent
  rw [List.getElem?_take_of_lt (by decide),List.getElem?_drop,Nat.add_zero]
  exact h.at0 k hk
theorem lent_one {st:St} {ats:Nat → Nat} (h:LIs st ats) (k:Nat):∀ u ∈ lent st k,u.oneCell' = true:=fun u hu=>h.one u (List.mem_of_mem_drop (List.mem_of_mem_take hu))
theorem setL_size (secs:Array Value) (i:Nat) (c:List Value) (h:i * 64 + c.length ≤ secs.size):(setL secs i c).size = secs.size:=by
  unfold setL
  rw [List.size_toArray,List.length_append,List.length_append,List.length_take,List.length_drop,Array.length_toList]; omega
theorem secsK_size {st:St} {ats:Nat → Nat} (h:LIs st ats) (hs:st.secs.size = st.n * 64) (N:Nat) (ch:Nat → Int):∀ k,k ≤ st.ln → (secsK st ats N ch k).size = st.n * 64
  | 0,_=>hs
  | k + 1,hk=>by
    have ih:=secsK_size h hs N ch k (by omega)
    show (if stays N ch k then secsK st ats N ch k else setL (secsK st ats N ch k) (ats k) (lwas st k)).size = _
    split
    · exact ih
    · have h1:=h.lt k (by omega)
      have:(ats k + 1) * 64 ≤ st.n * 64:=Nat.mul_le_mul_right _ h1
      rw [setL_size _ _ _ (by rw [lwas_length h k (by omega),ih]; omega),ih]
theorem setCells_setRow (g:Nat) (t:TypeId):∀ (vs:List Value) (o:Nat) (cur:Array Value) (w:World),w.heap[g]? = some (.cells cur t (0,0)) → o + vs.length ≤ cur.size →
    w.setCells g o vs = w.setRow g (cur.toList.take o ++ vs ++ cur.toList.drop (o + vs.length)).toArray
  | [],o,cur,w,hg,_=>by
    rw [World.setCells,List.append_nil,List.length_nil,Nat.add_zero,List.take_append_drop,Array.toArray_toList,setRow_self w g cur t (0,0) hg]
  | v :: r,o,cur,w,hg,hl=>by
    simp only [List.length_cons] at hl
    rw [World.setCells,setCell_eq_setRow w g o cur t (0,0) v hg]
    rw [setCells_setRow g t r (o + 1) (cur.setIfInBounds o v) _ (setRow_heap w g cur _ t _ hg) (by rw [Array.size_setIfInBounds]; omega),setRow_setRow]
    have e:=list_seg_step cur.toList o v r (by rw [Array.length_toList]; omega)
    rw [Array.toList_setIfInBounds,e]; rfl
section
variable {b0:Nat} {w0:World} {L:Loc} {st:St} {lv:Value} {oth:List (Nat × Obj)} {w:World}
theorem One.storeS (h:One b0 w0 L st lv oth w) (i:Nat) (c:List Value) (hf:i * 64 + c.length ≤ st.secs.size):One b0 w0 L { st with secs:=setL st.secs i c } lv oth (w.setCells L.S (i * 64) c):=by
  rw [setCells_setRow L.S 150 c (i * 64) st.secs w h.sec hf]
  exact h.setS _
theorem One.lrange {ats:Nat → Nat} (h:One b0 w0 L st lv oth w) (_hl:LIs st ats) {g cap:Nat} (hv:lv = .slice (some ⟨g,0,none⟩) st.ln cap) (k:Nat) (hk:k < st.ln):w.rangeAt g (k * 65) (lent st k):=by
  rcases h.own.2 with ⟨_,h1⟩ | ⟨g',cap',cur,h1,h2,h3,h4,h5,h6,h7⟩
  · omega
  · rw [hv] at h1
    injection h1 with h1 _ _
    injection h1 with h1
    injection h1 with h1 _ _
    subst h1
    intro j v hj
    rw [cell_of h3]
    unfold lent at hj
    rw [List.getElem?_take] at hj
    split at hj
    · rename_i hj65
      rw [List.getElem?_drop,← h7,List.getElem?_take_of_lt (by have:(k + 1) * 65 ≤ st.ln * 65:=Nat.mul_le_mul_right _ hk; omega),Array.getElem?_toList] at hj
      exact hj
    · cases hj
end
def SV9 (L:Loc) (st:St) (ats:Nat → Nat) (lc k:Nat):Nat → Value → Prop
  | 0,v=>v = .pointer (some ⟨L.D,0,none⟩)
  | 1,v=>v = .pointer (some ⟨L.D,0,none⟩)
  | 2,v=>v = .pointer (some ⟨L.D,3,none⟩)
  | 3,v=>v = .slice (some ⟨L.S,0,none⟩) st.n st.n
  | 4,v=>v = .pointer (some ⟨lc,0,none⟩)
  | 5,v=>v = .int .i64 (ats k:Nat)
  | 6,v=>v = .pointer (some ⟨lc,1,none⟩)
  | 7,v=>v = .agg (lwas st k).toArray
  | 8,v=>v = .pointer (some ⟨L.S,ats k * 64,none⟩)
  | _,_=>True
structure SPh (b0:Nat) (w0:World) (L:Loc) (st:St) (lv:Value) (oth:List (Nat × Obj)) (ats:Nat → Nat) (N:Nat) (ch:Nat → Int) (lc k:Nat) (done:Nat → Bool) (f:Nat → Value) (W:World):Prop where
  o5:done 5 = false → done 9 = false
  o7:done 7 = false → done 9 = false
  a:done 9 = false → One b0 w0 L { st with secs:=secsK st ats N ch k } lv oth W ∧ W.rangeAt lc 0 (lent st k) ∧ lc ≠ L.S
  b:done 9 = true → One b0 w0 L { st with secs:=setL (secsK st ats N ch k) (ats k) (lwas st k) } lv oth W
section
variable {b0:Nat} {w0:World} {L:Loc} {st:St} {lv:Value} {oth:List (Nat × Obj)} {ats:Nat → Nat} {N:Nat} {ch:Nat → Int} {lc k:Nat} {done:Nat → Bool} {f:Nat → Value} {W:World}
theorem SPh.pure (h:SPh b0 w0 L st lv oth ats N ch lc k done f W) (i:Nat) (hi:i ≠ 9) (v:Value):SPh b0 w0 L st lv oth ats N ch lc k (updB done i) (upd f i v) W:=by
  have e9:updB done i 9 = done 9:=if_neg (Ne.symm hi)
  refine ⟨fun h0=>?_,fun h0=>?_,by rw [e9]; exact h.a,by rw [e9]; exact h.b⟩
  · rw [e9]
    by_cases hi0:(5:Nat) = i
    · rw [show updB done i 5 = true from if_pos hi0] at h0; cases h0
    · rw [show updB done i 5 = done 5 from if_neg hi0] at h0; exact h.o5 h0
  · rw [e9]
    by_cases hi0:(7:Nat) = i
    · rw [show updB done i 7 = true from if_pos hi0] at h0; cases h0
    · rw [show updB done i 7 = done 7 from if_neg hi0] at h0; exact h.o7 h0
theorem SPh.one (h:SPh b0 w0 L st lv oth ats N ch lc k done f W) (_:LIs st ats ∧ k < st.ln ∧ st.secs.size = st.n * 64):True ∧ W.cell? ⟨L.D,3,none⟩ = some (.slice (some ⟨L.S,0,none⟩) st.n st.n):=by
  cases hd:done 9 with
  | false=>exact ⟨trivial,(h.a hd).1.dc.2.2.2.1⟩
  | true=>exact ⟨trivial,(h.b hd).dc.2.2.2.1⟩
theorem SPh.loc (h:SPh b0 w0 L st lv oth ats N ch lc k done f W) (h9:done 9 = false) (hl:(lent st k)[0]? = some (.int .i64 (ats k:Nat))):W.cell? ⟨lc,0,none⟩ = some (.int .i64 (ats k:Nat)) ∧ W.rangeAt lc 1 (lwas st k):=by
  obtain ⟨_,hr,_⟩:=h.a h9
  refine ⟨by have:=hr 0 _ hl; simpa using this,fun j v hj=>?_⟩
  unfold lwas at hj
  rw [List.getElem?_drop] at hj
  have:=hr (1 + j) v hj
  simpa using this
theorem SPh.there (h:SPh b0 w0 L st lv oth ats N ch lc k done f W) (ho:LIs st ats ∧ k < st.ln ∧ st.secs.size = st.n * 64) (h9:done 9 = false):W.there L.S (ats k * 64) (lwas st k).toArray.size:=by
  obtain ⟨ho1,ho2,ho3⟩:=ho
  intro j hj
  have hs:=(h.a h9).1.sec
  have hz:(secsK st ats N ch k).size = st.n * 64:=secsK_size ho1 ho3 N ch k (by omega)
  have h1:=ho1.lt k ho2
  have:(ats k + 1) * 64 ≤ st.n * 64:=Nat.mul_le_mul_right _ h1
  rw [List.size_toArray,lwas_length ho1 k ho2] at hj
  refine ⟨?_,frz_of hs _⟩
  rw [cell_of hs]
  show ((secsK st ats N ch k)[ats k * 64 + j]?).isSome = true
  rw [Array.getElem?_eq_getElem (by omega)]; rfl
theorem SPh.stored (h:SPh b0 w0 L st lv oth ats N ch lc k done f W) (ho:LIs st ats ∧ k < st.ln ∧ st.secs.size = st.n * 64) (h9:done 9 = false) (h5:done 5 = true) (h7:done 7 = true):SPh b0 w0 L st lv oth ats N ch lc k (updB done 9) (upd f 9 undef) (W.setCells L.S (ats k * 64) (lwas st k)):=by
  have e9:updB done 9 9 = true:=if_pos rfl
  have e5:updB done 9 5 = done 5:=if_neg (by decide)
  have e7:updB done 9 7 = done 7:=if_neg (by decide)
  obtain ⟨ho1,ho2,ho3⟩:=ho
  have hz:(secsK st ats N ch k).size = st.n * 64:=secsK_size ho1 ho3 N ch k (by omega)
  have h1:=ho1.lt k ho2
  have:(ats k + 1) * 64 ≤ st.n * 64:=Nat.mul_le_mul_right _ h1
  refine ⟨by rw [e5,h5]; exact (fun e=>by cases e),by rw [e7,h7]; exact (fun e=>by cases e),by rw [e9]; exact (fun e=>by cases e),fun _=>?_⟩
  exact (h.a h9).1.storeS (ats k) (lwas st k) (by show _ ≤ (secsK st ats N ch k).size; rw [lwas_length ho1 k ho2,hz]; omega)
end
end Go.Proofs.YtncfbocbigdhiaaGreat.F
/- settle, of any number of loose sectors and any choices, as a call. -/
namespace Go.Proofs.YtncfbocbigdhiaaGreat.F
set_option maxRecDepth 100000
open Go.RowKit
def ChL (K o N:Nat) (k:Nat) (c:Value):Prop:=∃ ao cp,c = .slice ao (N - k) cp ∧ N - k ≤ cp ∧ cp ≤ 9223372036854775807 ∧ (0 < N - k → ao = some ⟨K,o + k,none⟩)
section
variable {b0:Nat} {w0:World} {L:Loc} {st:St} {lv:Value} {oth:List (Nat × Obj)} {w:World}
set_option maxHeartbeats 2000000 in
set_option maxRecDepth 100000 in
theorem One.settle_any (h:One b0 w0 L st lv oth w) (ats:Nat → Nat) (hl:LIs st ats) (hs:st.secs.size = st.n * 64) (_hn:st.n ≤ 1000000) (K o N:Nat) (c:Value) (ch:Nat → Int) (hc:ChL K o N 0 c)
    (hch:∀ W st' lv',One b0 w0 L st' lv' oth W → ∀ j,j < N → W.cell? ⟨K,o + j,none⟩ = some (.int .i64 (ch j))) :
    Calls Tryz.prog 61 #[.pointer (some ⟨L.D,0,none⟩),c] w fun e w'=>∃ c',e = .returned c' ∧ ChL K o N st.ln c' ∧ One b0 w0 L { st with secs:=secsK st ats N ch st.ln,ln:=0,loose:=[] } (.slice none 0 0) oth w':=by
  obtain ⟨al,cl,rfl⟩:=h.lslice
  have HAL:Hid (0 < st.ln → ∃ g,al = some ⟨g,0,none⟩):=fun h0=>by
    rcases h.own.2 with ⟨_,h1⟩ | ⟨g',cap',cur,h1,_⟩
    · omega
    · injection h1 with h1 _ _; exact ⟨g',h1⟩
  have d4:=h.dc.2.2.2.2.1
  have H0:Hid (One b0 w0 L { st with secs:=secsK st ats N ch 0 } (.slice al st.ln cl) oth w):=h
  have HL:Hid _:=hl
  have HCH:Hid _:=hch
  have hfew:=hl.few
  have HSZ:Hid (st.secs.size = st.n * 64):=hs
  clear h hl hch hs
  have HC0:Hid _:=hc
  obtain ⟨ao0,cp0,rfl,_⟩:=hc
  go_enter Tryz.func61,Tryz.ntmps61
  go_wp2
  go_loopw [1,13] (fun c i wr=>∃ k:Nat,k ≤ st.ln ∧ i = .int .i64 (k:Nat) ∧ Hid (ChL K o N k c) ∧ Hid (One b0 w0 L { st with secs:=secsK st ats N ch k } (.slice al st.ln cl) oth wr)) (fun _ i _=>st.ln - (intOf i).toNat)
  case atStart=>exact ⟨0,by omega,rfl,HC0,H0⟩
  case round=>
    obtain ⟨k,hk,rfl,HC,HO⟩:=hrel
    clear H0 HC0 d4
    rcases Nat.lt_or_ge k st.ln with hkn | hge
    · obtain ⟨g,rfl⟩:=HAL.out (by omega)
      have hr:=One.lrange (st:={ st with secs:=secsK st ats N ch k }) HO.out ⟨HL.out.len,HL.out.few,HL.out.at0,HL.out.lt,HL.out.one⟩ rfl k hkn
      replace hr:wr.rangeAt g (k * 65) (lent st k):=hr
      have hlen:=lent_length HL.out k hkn
      have hl65:(Tryz.prog.info? 152).map (·.size) = some (lent st k).length:=by rw [size149,hlen]
      have hsA:(Tryz.prog.info? 152).map (·.size) = some (lent st k).toArray.size:=by rw [size149]; simp [hlen]
      have h1c:(lent st k).toArray.all (·.oneCell') = true:=all_oneCell_toArray (lent_one HL.out k)
      have hzs:Tryz.zeroCells152.size = 65:=by kernel_rfl
      have hth:(wr.alloc (.cells Tryz.zeroCells152 152)).there wr.heap.size 0 (lent st k).toArray.size:=by
        intro j hj
        have hj2:j < 65:=by simpa [hlen] using hj
        rw [Nat.zero_add,cell_of (heap_new _ _),frz_of (heap_new _ _)]
        refine ⟨?_,rfl⟩
        rw [Array.getElem?_eq_getElem (by rw [hzs]; exact hj2)]; rfl
      have hbA:Below wr.heap.size wr ((wr.alloc (.cells Tryz.zeroCells152 152)).setCells wr.heap.size 0 (lent st k)):=by
        have h1:Below wr.heap.size wr (wr.alloc (.cells Tryz.zeroCells152 152)):=Below.alloc (Below.refl _ _) (Nat.le_refl _) _
        exact h1.trans (setCells_below _ _ _ _)
      have HS2:Hid (One b0 w0 L { st with secs:=secsK st ats N ch k } (.slice (some ⟨g,0,none⟩) st.ln cl) oth ((wr.alloc (.cells Tryz.zeroCells152 152)).setCells wr.heap.size 0 (lent st k)) ∧ ((wr.alloc (.cells Tryz.zeroCells152 152)).setCells wr.heap.size 0 (lent st k)).rangeAt wr.heap.size 0 (lent st k) ∧ wr.heap.size ≠ L.S):=by
        refine ⟨HO.out.ofBelow hbA,fun j v hj=>?_,by have:=getElem?_lt HO.out.sec; omega⟩
        have hj2:j < (lent st k).length:=(List.getElem?_eq_some_iff.1 hj).1
        have:=World.cell?_setCells_in wr.heap.size (lent st k) 0 (wr.alloc (.cells Tryz.zeroCells152 152)) (fun t ht=>by have:=(hth t (by simpa using ht)).1; simpa using this) j hj2
        rw [this]
        rw [← hj]; simp [hj2]
      clear hbA
      have HST:Hid (∀ {ops:Array Oper} {rest:List Oper} {op:Oper} {a:Act} {Q:Exit → Act → World → Prop} (x y:Operand),op.guard = none → op.op = .store 152 x y → a.eval x = .pointer (some ⟨wr.heap.size,0,none⟩) → a.eval y = .agg (lent st k).toArray → wpList Tryz.prog ops Q rest (a.put op.dst undef) ((wr.alloc (.cells Tryz.zeroCells152 152)).setCells wr.heap.size 0 (lent st k)) → wpList Tryz.prog ops Q (op :: rest) a (wr.alloc (.cells Tryz.zeroCells152 152))):=by
        intro ops rest op a Q x y h1 h2 h3 h4 h5
        refine wpList_store_mid h1 152 x y h2 wr.heap.size 0 (lent st k).toArray h3 h4 hth hsA h1c ?_
        exact h5
      have HOK:Hid (LIs st ats ∧ k < st.ln ∧ st.secs.size = st.n * 64):=⟨HL.out,hkn,HSZ.out⟩
      have HL0:Hid ((lent st k)[0]? = some (.int .i64 (ats k:Nat))):=lent_zero HL.out k hkn
      have hat:=HL.out.lt k hkn
      have HW64:Hid ((Tryz.prog.info? 150).map (·.size) = some (lwas st k).length):=by show _ = _; rw [size147,lwas_length HL.out k hkn]
      have HA64:Hid ((Tryz.prog.info? 150).map (·.size) = some (lwas st k).toArray.size):=by show _ = _; rw [size147,List.size_toArray,lwas_length HL.out k hkn]
      have HO1:Hid ((lwas st k).toArray.all (·.oneCell') = true):=all_oneCell_toArray (fun u hu=>lent_one HL.out k u (List.mem_of_mem_drop hu))
      have HSK:Hid (secsK st ats N ch (k + 1) = if stays N ch k then secsK st ats N ch k else setL (secsK st ats N ch k) (ats k) (lwas st k)):=rfl
      have hcK:Hid (∀ W st' lv',One b0 w0 L st' lv' oth W → ∀ j,j < N → W.cell? ⟨K,o + j,none⟩ = some (.int .i64 (ch j))):=HCH.out
      clear hsA h1c hzs hth hlen
      obtain ⟨aoc,cp,rfl,hcp,hcp2,hao⟩:=HC.out
      generalize hW2:(wr.alloc (.cells Tryz.zeroCells152 152)).setCells wr.heap.size 0 (lent st k) = W2 at *
      rcases Nat.lt_or_ge k N with hkN | hkN
      · obtain rfl:=hao (by omega)
        have hck:=hcK.out W2 _ _ HS2.out.1 k hkN
        have hpos:0 < N - k:=by omega
        have hposi:¬ N - k = 0:=by omega
        by_cases hx:(ch k).tmod 2 = 0
        · have hxb:((ch k).tmod 2 != 0) = false:=by simpa using hx
          have HSTY:Hid (stays N ch k = false):=by
            show _ = _
            unfold stays; rw [decide_eq_true hkN,hxb]; rfl
          by_cases hcap:cp = 1
          · subst hcap
            have hN1:N - k = 1:=by omega
            have HNK:Hid (N - (k + 1) = 0 ∧ True):=⟨by omega,trivial⟩
            rw [hN1]
            clear hao hcp hx
            go_wp2_with (first | (refine wpList_load_mid rfl 152 _ rfl g (k * 65) rfl (lent st k) _ hr Tryz.underlying152 rfl hl65 ?_) | (refine HST.out _ _ rfl rfl rfl rfl ?_))
            refine wp_region_pb (fun f=>⟨#[.pointer (some ⟨L.D,0,none⟩),.slice (some ⟨K,o + k,none⟩) 0 0,undef,undef,.slice none 0 0,undef,.pointer (some ⟨wr.heap.size,0,none⟩),.bool false,.pointer (some ⟨L.D,0,none⟩),.pointer (some ⟨L.D,0,none⟩),.pointer (some ⟨L.D,4,none⟩),.slice (some ⟨g,0,none⟩) st.ln cl,.int .i64 (st.ln:Nat),.int .i64 (k:Nat),.bool true,.pointer (some ⟨g,k * 65,none⟩),.agg (lent st k).toArray,.slice (some ⟨K,o + k,none⟩) 1 1,.int .i64 1,.bool true,.slice (some ⟨K,o + k,none⟩) 1 1,.pointer (some ⟨K,o + k,none⟩),.int .i64 (ch k),.int .i64 ((ch k).tmod 2),.bool false,.slice (some ⟨K,o + k,none⟩) 1 1,.slice (some ⟨K,o + k,none⟩) 0 0,.bool false,.bool true,f 0,f 1,f 2,f 3,f 4,f 5,f 6,f 7,f 8,u38,undef,undef,undef],[]⟩) (SV9 L st ats wr.heap.size k) (SPh b0 w0 L st (.slice (some ⟨g,0,none⟩) st.ln cl) oth ats N ch wr.heap.size k) (fun i=>[u29,u30,u31,u32,u33,u34,u35,u36,u37,undef].getD i undef) (by kernel_rfl) rfl rfl ?hIb ?hputb ?stepb ?finb
            case hIb=>exact ⟨fun _=>rfl,fun _=>rfl,fun _=>⟨HS2.out.1.ofBelow ⟨rfl,rfl,rfl,Nat.le_refl _,fun _ _=>rfl⟩,HS2.out.2.1,HS2.out.2.2⟩,(fun e=>by cases e)⟩
            case finb=>
              intro f W hP hV
              have H1:Hid (One b0 w0 L { st with secs:=secsK st ats N ch (k + 1) } (.slice (some ⟨g,0,none⟩) st.ln cl) oth W):=by
                have h1:=hP.b rfl
                show One _ _ _ _ _ _ _
                rw [HSK.out,if_neg (by rw [HSTY.out]; decide)]; exact h1
              have HCn:Hid (ChL K o N (k + 1) (.slice (some ⟨K,o + k,none⟩) 0 0)):=⟨some ⟨K,o + k,none⟩,0,by rw [HNK.out.1],by rw [HNK.out.1]; exact Nat.le_refl _,by decide,fun h=>by rw [HNK.out.1] at h; exact absurd h (Nat.lt_irrefl _)⟩
              clear hP hV HS2 HST HO HC
              go_wp2
              go_roundw
              case rel=>exact ⟨k + 1,by omega,by simp,HCn,H1⟩
              case measure=>simp only [intOf]; omega
            case hputb=>
              repeat (refine ⟨fun f v=>rfl,?_⟩)
              trivial
            case stepb=>
              refine ⟨?_,?_⟩
              · intro done f W hP hdn hd K hK
                clear hd
                go_simp
                exact hK _ _ rfl (hP.pure _ (by decide) _)
              refine ⟨?_,?_⟩
              · intro done f W hP hdn hd K hK
                have d0:=(hd.1 rfl).2
                have e0:done 0 = true:=(hd.1 rfl).1
                clear hd
                replace d0:f 0 = .pointer (some ⟨L.D,0,none⟩):=d0
                generalize f 0 = x0 at *
                subst d0
                clear e0
                go_simp
                exact hK _ _ rfl (hP.pure _ (by decide) _)
              refine ⟨?_,?_⟩
              · intro done f W hP hdn hd K hK
                have d1:=(hd.1 rfl).2
                have e1:done 1 = true:=(hd.1 rfl).1
                clear hd
                replace d1:f 1 = .pointer (some ⟨L.D,0,none⟩):=d1
                generalize f 1 = x1 at *
                subst d1
                clear e1
                go_simp
                exact hK _ _ rfl (hP.pure _ (by decide) _)
              refine ⟨?_,?_⟩
              · intro done f W hP hdn hd K hK
                have d2:=(hd.1 rfl).2
                have e2:done 2 = true:=(hd.1 rfl).1
                clear hd
                replace d2:f 2 = .pointer (some ⟨L.D,3,none⟩):=d2
                generalize f 2 = x2 at *
                subst d2
                clear e2
                have q:=(hP.one HOK.out).2
                go_simp
                exact hK _ _ rfl (hP.pure _ (by decide) _)
              refine ⟨?_,?_⟩
              · intro done f W hP hdn hd K hK
                clear hd
                go_simp
                exact hK _ _ rfl (hP.pure _ (by decide) _)
              refine ⟨?_,?_⟩
              · intro done f W hP hdn hd K hK
                have d4:=(hd.1 rfl).2
                have e4:done 4 = true:=(hd.1 rfl).1
                clear hd
                replace d4:f 4 = .pointer (some ⟨wr.heap.size,0,none⟩):=d4
                generalize f 4 = x4 at *
                subst d4
                clear e4
                have q:=(hP.loc (hP.o5 hdn) HL0.out).1
                go_simp
                exact hK _ _ rfl (hP.pure _ (by decide) _)
              refine ⟨?_,?_⟩
              · intro done f W hP hdn hd K hK
                clear hd
                go_simp
                exact hK _ _ rfl (hP.pure _ (by decide) _)
              refine ⟨?_,?_⟩
              · intro done f W hP hdn hd K hK
                have d6:=(hd.1 rfl).2
                have e6:done 6 = true:=(hd.1 rfl).1
                clear hd
                replace d6:f 6 = .pointer (some ⟨wr.heap.size,1,none⟩):=d6
                generalize f 6 = x6 at *
                subst d6
                clear e6
                rw [if_pos (show Region.wanted _ _ = true from rfl)]
                refine wp_load_mid 150 _ rfl wr.heap.size 1 rfl (lwas st k) _ (hP.loc (hP.o7 hdn) HL0.out).2 Tryz.underlying150 rfl HW64.out ?_
                exact hK _ _ rfl (hP.pure _ (by decide) _)
              refine ⟨?_,?_⟩
              · intro done f W hP hdn hd K hK
                have d3:=(hd.1 rfl).2
                have e3:done 3 = true:=(hd.1 rfl).1
                have d5:=(hd.2.1 rfl).2
                have e5:done 5 = true:=(hd.2.1 rfl).1
                clear hd
                replace d3:f 3 = .slice (some ⟨L.S,0,none⟩) st.n st.n:=d3
                replace d5:f 5 = .int .i64 (ats k:Nat):=d5
                generalize f 3 = x3 at *
                subst d3
                clear e3
                generalize f 5 = x5 at *
                subst d5
                clear e5
                go_simp
                exact hK _ _ rfl (hP.pure _ (by decide) _)
              refine ⟨?_,?_⟩
              · intro done f W hP hdn hd K hK
                have d8:=(hd.1 rfl).2
                have e8:done 8 = true:=(hd.1 rfl).1
                have d7:=(hd.2.1 rfl).2
                have e7:done 7 = true:=(hd.2.1 rfl).1
                have e5:done 5 = true:=(hd.2.2.2.2.2.2.2.1 rfl).1
                clear hd
                replace d8:f 8 = .pointer (some ⟨L.S,ats k * 64,none⟩):=d8
                replace d7:f 7 = .agg (lwas st k).toArray:=d7
                generalize f 8 = x8 at *
                subst d8
                clear e8
                generalize f 7 = x7 at *
                subst d7
                rw [if_pos (show Region.wanted _ _ = true from rfl)]
                refine wp_store_mid 150 _ _ rfl L.S (ats k * 64) (lwas st k).toArray rfl rfl (hP.there HOK.out hdn) HA64.out HO1.out ?_
                exact hK undef _ trivial (hP.stored HOK.out hdn e5 e7)
              trivial
          · have HNK:Hid (N - (k + 1) = N - k - 1 ∧ N - k - 1 ≤ cp - 1 ∧ cp - 1 ≤ 9223372036854775807):=⟨by omega,by omega,by omega⟩
            clear hao hx
            go_wp2_with (first | (refine wpList_load_mid rfl 152 _ rfl g (k * 65) rfl (lent st k) _ hr Tryz.underlying152 rfl hl65 ?_) | (refine HST.out _ _ rfl rfl rfl rfl ?_))
            refine wp_region_pb (fun f=>⟨#[.pointer (some ⟨L.D,0,none⟩),.slice (some ⟨K,o + k + 1,none⟩) (N - k - 1) (cp - 1),undef,undef,.slice none 0 0,undef,.pointer (some ⟨wr.heap.size,0,none⟩),.bool false,.pointer (some ⟨L.D,0,none⟩),.pointer (some ⟨L.D,0,none⟩),.pointer (some ⟨L.D,4,none⟩),.slice (some ⟨g,0,none⟩) st.ln cl,.int .i64 (st.ln:Nat),.int .i64 (k:Nat),.bool true,.pointer (some ⟨g,k * 65,none⟩),.agg (lent st k).toArray,.slice (some ⟨K,o + k,none⟩) (N - k) cp,.int .i64 ((N - k:Nat):Int),.bool true,.slice (some ⟨K,o + k,none⟩) (N - k) cp,.pointer (some ⟨K,o + k,none⟩),.int .i64 (ch k),.int .i64 ((ch k).tmod 2),.bool false,.slice (some ⟨K,o + k,none⟩) (N - k) cp,.slice (some ⟨K,o + k + 1,none⟩) (N - k - 1) (cp - 1),.bool false,.bool true,f 0,f 1,f 2,f 3,f 4,f 5,f 6,f 7,f 8,u38,undef,undef,undef],[]⟩) (SV9 L st ats wr.heap.size k) (SPh b0 w0 L st (.slice (some ⟨g,0,none⟩) st.ln cl) oth ats N ch wr.heap.size k) (fun i=>[u29,u30,u31,u32,u33,u34,u35,u36,u37,undef].getD i undef) (by kernel_rfl) rfl rfl ?hIc ?hputc ?stepc ?finc
            case hIc=>exact ⟨fun _=>rfl,fun _=>rfl,fun _=>⟨HS2.out.1.ofBelow ⟨rfl,rfl,rfl,Nat.le_refl _,fun _ _=>rfl⟩,HS2.out.2.1,HS2.out.2.2⟩,(fun e=>by cases e)⟩
            case finc=>
              intro f W hP hV
              have H1:Hid (One b0 w0 L { st with secs:=secsK st ats N ch (k + 1) } (.slice (some ⟨g,0,none⟩) st.ln cl) oth W):=by
                have h1:=hP.b rfl
                show One _ _ _ _ _ _ _
                rw [HSK.out,if_neg (by rw [HSTY.out]; decide)]; exact h1
              have HCn:Hid (ChL K o N (k + 1) (.slice (some ⟨K,o + k + 1,none⟩) (N - k - 1) (cp - 1))):=⟨some ⟨K,o + k + 1,none⟩,cp - 1,by rw [HNK.out.1],by rw [HNK.out.1]; exact HNK.out.2.1,HNK.out.2.2,fun _=>rfl⟩
              clear hP hV HS2 HST HO HC
              go_wp2
              go_roundw
              case rel=>exact ⟨k + 1,by omega,by simp,HCn,H1⟩
              case measure=>simp only [intOf]; omega
            case hputc=>
              repeat (refine ⟨fun f v=>rfl,?_⟩)
              trivial
            case stepc=>
              refine ⟨?_,?_⟩
              · intro done f W hP hdn hd K hK
                clear hd
                go_simp
                exact hK _ _ rfl (hP.pure _ (by decide) _)
              refine ⟨?_,?_⟩
              · intro done f W hP hdn hd K hK
                have d0:=(hd.1 rfl).2
                have e0:done 0 = true:=(hd.1 rfl).1
                clear hd
                replace d0:f 0 = .pointer (some ⟨L.D,0,none⟩):=d0
                generalize f 0 = x0 at *
                subst d0
                clear e0
                go_simp
                exact hK _ _ rfl (hP.pure _ (by decide) _)
              refine ⟨?_,?_⟩
              · intro done f W hP hdn hd K hK
                have d1:=(hd.1 rfl).2
                have e1:done 1 = true:=(hd.1 rfl).1
                clear hd
                replace d1:f 1 = .pointer (some ⟨L.D,0,none⟩):=d1
                generalize f 1 = x1 at *
                subst d1
                clear e1
                go_simp
                exact hK _ _ rfl (hP.pure _ (by decide) _)
              refine ⟨?_,?_⟩
              · intro done f W hP hdn hd K hK
                have d2:=(hd.1 rfl).2
                have e2:done 2 = true:=(hd.1 rfl).1
                clear hd
                replace d2:f 2 = .pointer (some ⟨L.D,3,none⟩):=d2
                generalize f 2 = x2 at *
                subst d2
                clear e2
                have q:=(hP.one HOK.out).2
                go_simp
                exact hK _ _ rfl (hP.pure _ (by decide) _)
              refine ⟨?_,?_⟩
              · intro done f W hP hdn hd K hK
                clear hd
                go_simp
                exact hK _ _ rfl (hP.pure _ (by decide) _)
              refine ⟨?_,?_⟩
              · intro done f W hP hdn hd K hK
                have d4:=(hd.1 rfl).2
                have e4:done 4 = true:=(hd.1 rfl).1
                clear hd
                replace d4:f 4 = .pointer (some ⟨wr.heap.size,0,none⟩):=d4
                generalize f 4 = x4 at *
                subst d4
                clear e4
                have q:=(hP.loc (hP.o5 hdn) HL0.out).1
                go_simp
                exact hK _ _ rfl (hP.pure _ (by decide) _)
              refine ⟨?_,?_⟩
              · intro done f W hP hdn hd K hK
                clear hd
                go_simp
                exact hK _ _ rfl (hP.pure _ (by decide) _)
              refine ⟨?_,?_⟩
              · intro done f W hP hdn hd K hK
                have d6:=(hd.1 rfl).2
                have e6:done 6 = true:=(hd.1 rfl).1
                clear hd
                replace d6:f 6 = .pointer (some ⟨wr.heap.size,1,none⟩):=d6
                generalize f 6 = x6 at *
                subst d6
                clear e6
                rw [if_pos (show Region.wanted _ _ = true from rfl)]
                refine wp_load_mid 150 _ rfl wr.heap.size 1 rfl (lwas st k) _ (hP.loc (hP.o7 hdn) HL0.out).2 Tryz.underlying150 rfl HW64.out ?_
                exact hK _ _ rfl (hP.pure _ (by decide) _)
              refine ⟨?_,?_⟩
              · intro done f W hP hdn hd K hK
                have d3:=(hd.1 rfl).2
                have e3:done 3 = true:=(hd.1 rfl).1
                have d5:=(hd.2.1 rfl).2
                have e5:done 5 = true:=(hd.2.1 rfl).1
                clear hd
                replace d3:f 3 = .slice (some ⟨L.S,0,none⟩) st.n st.n:=d3
                replace d5:f 5 = .int .i64 (ats k:Nat):=d5
                generalize f 3 = x3 at *
                subst d3
                clear e3
                generalize f 5 = x5 at *
                subst d5
                clear e5
                go_simp
                exact hK _ _ rfl (hP.pure _ (by decide) _)
              refine ⟨?_,?_⟩
              · intro done f W hP hdn hd K hK
                have d8:=(hd.1 rfl).2
                have e8:done 8 = true:=(hd.1 rfl).1
                have d7:=(hd.2.1 rfl).2
                have e7:done 7 = true:=(hd.2.1 rfl).1
                have e5:done 5 = true:=(hd.2.2.2.2.2.2.2.1 rfl).1
                clear hd
                replace d8:f 8 = .pointer (some ⟨L.S,ats k * 64,none⟩):=d8
                replace d7:f 7 = .agg (lwas st k).toArray:=d7
                generalize f 8 = x8 at *
                subst d8
                clear e8
                generalize f 7 = x7 at *
                subst d7
                rw [if_pos (show Region.wanted _ _ = true from rfl)]
                refine wp_store_mid 150 _ _ rfl L.S (ats k * 64) (lwas st k).toArray rfl rfl (hP.there HOK.out hdn) HA64.out HO1.out ?_
                exact hK undef _ trivial (hP.stored HOK.out hdn e5 e7)
              trivial
        · have hxb:((ch k).tmod 2 != 0) = true:=by simpa using hx
          have HSTY:Hid (stays N ch k = true):=by
            show _ = _
            unfold stays; rw [decide_eq_true hkN,hxb]; rfl
          by_cases hcap:cp = 1
          · subst hcap
            have hN1:N - k = 1:=by omega
            have HNK:Hid (N - (k + 1) = 0 ∧ True):=⟨by omega,trivial⟩
            rw [hN1]
            clear hao hcp hx
            go_wp2_with (first | (refine wpList_load_mid rfl 152 _ rfl g (k * 65) rfl (lent st k) _ hr Tryz.underlying152 rfl hl65 ?_) | (refine HST.out _ _ rfl rfl rfl rfl ?_))
            have H1:Hid (One b0 w0 L { st with secs:=secsK st ats N ch (k + 1) } (.slice (some ⟨g,0,none⟩) st.ln cl) oth W2):=by
              show One _ _ _ _ _ _ _
              rw [HSK.out,if_pos (by rw [HSTY.out])]; exact HS2.out.1
            have HCn:Hid (ChL K o N (k + 1) (.slice (some ⟨K,o + k,none⟩) 0 0)):=⟨some ⟨K,o + k,none⟩,0,by rw [HNK.out.1],by rw [HNK.out.1]; exact Nat.le_refl _,by decide,fun h=>by rw [HNK.out.1] at h; exact absurd h (Nat.lt_irrefl _)⟩
            go_roundw
            case rel=>exact ⟨k + 1,by omega,by simp,HCn,H1⟩
            case measure=>simp only [intOf]; omega
          · have HNK:Hid (N - (k + 1) = N - k - 1 ∧ N - k - 1 ≤ cp - 1 ∧ cp - 1 ≤ 9223372036854775807):=⟨by omega,by omega,by omega⟩
            clear hao hx
            go_wp2_with (first | (refine wpList_load_mid rfl 152 _ rfl g (k * 65) rfl (lent st k) _ hr Tryz.underlying152 rfl hl65 ?_) | (refine HST.out _ _ rfl rfl rfl rfl ?_))
            have H1:Hid (One b0 w0 L { st with secs:=secsK st ats N ch (k + 1) } (.slice (some ⟨g,0,none⟩) st.ln cl) oth W2):=by
              show One _ _ _ _ _ _ _
              rw [HSK.out,if_pos (by rw [HSTY.out])]; exact HS2.out.1
            have HCn:Hid (ChL K o N (k + 1) (.slice (some ⟨K,o + k + 1,none⟩) (N - k - 1) (cp - 1))):=⟨some ⟨K,o + k + 1,none⟩,cp - 1,by rw [HNK.out.1],by rw [HNK.out.1]; exact HNK.out.2.1,HNK.out.2.2,fun _=>rfl⟩
            go_roundw
            case rel=>exact ⟨k + 1,by omega,by simp,HCn,H1⟩
            case measure=>simp only [intOf]; omega
      · obtain ⟨hz,hzE⟩:∃ z,z = N - k:=⟨_,rfl⟩
        have hN0:N - k = 0:=by omega
        have HSTY:Hid (stays N ch k = false):=by
          show _ = _
          unfold stays; rw [decide_eq_false (by omega)]; rfl
        have HCp:Hid (N - (k + 1) = 0 ∧ cp ≤ 9223372036854775807):=⟨by omega,hcp2⟩
        rw [hN0] at HC ⊢
        clear hao hcp
        go_wp2_with (first | (refine wpList_load_mid rfl 152 _ rfl g (k * 65) rfl (lent st k) _ hr Tryz.underlying152 rfl hl65 ?_) | (refine HST.out _ _ rfl rfl rfl rfl ?_))
        refine wp_region_pb (fun f=>⟨#[.pointer (some ⟨L.D,0,none⟩),.slice aoc 0 cp,undef,undef,.slice none 0 0,undef,.pointer (some ⟨wr.heap.size,0,none⟩),.bool false,.pointer (some ⟨L.D,0,none⟩),.pointer (some ⟨L.D,0,none⟩),.pointer (some ⟨L.D,4,none⟩),.slice (some ⟨g,0,none⟩) st.ln cl,.int .i64 (st.ln:Nat),.int .i64 (k:Nat),.bool true,.pointer (some ⟨g,k * 65,none⟩),.agg (lent st k).toArray,.slice aoc 0 cp,.int .i64 0,.bool false,u20,u21,u22,u23,u24,u25,u26,.bool false,.bool true,f 0,f 1,f 2,f 3,f 4,f 5,f 6,f 7,f 8,u38,undef,undef,undef],[]⟩) (SV9 L st ats wr.heap.size k) (SPh b0 w0 L st (.slice (some ⟨g,0,none⟩) st.ln cl) oth ats N ch wr.heap.size k) (fun i=>[u29,u30,u31,u32,u33,u34,u35,u36,u37,undef].getD i undef) (by kernel_rfl) rfl rfl ?hIa ?hputa ?stepa ?fina
        case hIa=>exact ⟨fun _=>rfl,fun _=>rfl,fun _=>⟨HS2.out.1.ofBelow ⟨rfl,rfl,rfl,Nat.le_refl _,fun _ _=>rfl⟩,HS2.out.2.1,HS2.out.2.2⟩,(fun e=>by cases e)⟩
        case fina=>
          intro f W hP hV
          have H1:Hid (One b0 w0 L { st with secs:=secsK st ats N ch (k + 1) } (.slice (some ⟨g,0,none⟩) st.ln cl) oth W):=by
            have h1:=hP.b rfl
            show One _ _ _ _ _ _ _
            rw [HSK.out,if_neg (by rw [HSTY.out]; decide)]; exact h1
          have HCn:Hid (ChL K o N (k + 1) (.slice aoc 0 cp)):=⟨aoc,cp,by rw [HCp.out.1],by rw [HCp.out.1]; exact Nat.zero_le _,HCp.out.2,fun h=>by rw [HCp.out.1] at h; exact absurd h (Nat.lt_irrefl _)⟩
          clear hP hV HS2 HST HO HC
          go_wp2
          go_roundw
          case rel=>exact ⟨k + 1,by omega,by simp,HCn,H1⟩
          case measure=>simp only [intOf]; omega
        case hputa=>
          repeat (refine ⟨fun f v=>rfl,?_⟩)
          trivial
        case stepa=>
          refine ⟨?_,?_⟩
          · intro done f W hP hdn hd K hK
            clear hd
            go_simp
            exact hK _ _ rfl (hP.pure _ (by decide) _)
          refine ⟨?_,?_⟩
          · intro done f W hP hdn hd K hK
            have d0:=(hd.1 rfl).2
            have e0:done 0 = true:=(hd.1 rfl).1
            clear hd
            replace d0:f 0 = .pointer (some ⟨L.D,0,none⟩):=d0
            generalize f 0 = x0 at *
            subst d0
            clear e0
            go_simp
            exact hK _ _ rfl (hP.pure _ (by decide) _)
          refine ⟨?_,?_⟩
          · intro done f W hP hdn hd K hK
            have d1:=(hd.1 rfl).2
            have e1:done 1 = true:=(hd.1 rfl).1
            clear hd
            replace d1:f 1 = .pointer (some ⟨L.D,0,none⟩):=d1
            generalize f 1 = x1 at *
            subst d1
            clear e1
            go_simp
            exact hK _ _ rfl (hP.pure _ (by decide) _)
          refine ⟨?_,?_⟩
          · intro done f W hP hdn hd K hK
            have d2:=(hd.1 rfl).2
            have e2:done 2 = true:=(hd.1 rfl).1
            clear hd
            replace d2:f 2 = .pointer (some ⟨L.D,3,none⟩):=d2
            generalize f 2 = x2 at *
            subst d2
            clear e2
            have q:=(hP.one HOK.out).2
            go_simp
            exact hK _ _ rfl (hP.pure _ (by decide) _)
          refine ⟨?_,?_⟩
          · intro done f W hP hdn hd K hK
            clear hd
            go_simp
            exact hK _ _ rfl (hP.pure _ (by decide) _)
          refine ⟨?_,?_⟩
          · intro done f W hP hdn hd K hK
            have d4:=(hd.1 rfl).2
            have e4:done 4 = true:=(hd.1 rfl).1
            clear hd
            replace d4:f 4 = .pointer (some ⟨wr.heap.size,0,none⟩):=d4
            generalize f 4 = x4 at *
            subst d4
            clear e4
            have q:=(hP.loc (hP.o5 hdn) HL0.out).1
            go_simp
            exact hK _ _ rfl (hP.pure _ (by decide) _)
          refine ⟨?_,?_⟩
          · intro done f W hP hdn hd K hK
            clear hd
            go_simp
            exact hK _ _ rfl (hP.pure _ (by decide) _)
          refine ⟨?_,?_⟩
          · intro done f W hP hdn hd K hK
            have d6:=(hd.1 rfl).2
            have e6:done 6 = true:=(hd.1 rfl).1
            clear hd
            replace d6:f 6 = .pointer (some ⟨wr.heap.size,1,none⟩):=d6
            generalize f 6 = x6 at *
            subst d6
            clear e6
            rw [if_pos (show Region.wanted _ _ = true from rfl)]
            refine wp_load_mid 150 _ rfl wr.heap.size 1 rfl (lwas st k) _ (hP.loc (hP.o7 hdn) HL0.out).2 Tryz.underlying150 rfl HW64.out ?_
            exact hK _ _ rfl (hP.pure _ (by decide) _)
          refine ⟨?_,?_⟩
          · intro done f W hP hdn hd K hK
            have d3:=(hd.1 rfl).2
            have e3:done 3 = true:=(hd.1 rfl).1
            have d5:=(hd.2.1 rfl).2
            have e5:done 5 = true:=(hd.2.1 rfl).1
            clear hd
            replace d3:f 3 = .slice (some ⟨L.S,0,none⟩) st.n st.n:=d3
            replace d5:f 5 = .int .i64 (ats k:Nat):=d5
            generalize f 3 = x3 at *
            subst d3
            clear e3
            generalize f 5 = x5 at *
            subst d5
            clear e5
            go_simp
            exact hK _ _ rfl (hP.pure _ (by decide) _)
          refine ⟨?_,?_⟩
          · intro done f W hP hdn hd K hK
            have d8:=(hd.1 rfl).2
            have e8:done 8 = true:=(hd.1 rfl).1
            have d7:=(hd.2.1 rfl).2
            have e7:done 7 = true:=(hd.2.1 rfl).1
            have e5:done 5 = true:=(hd.2.2.2.2.2.2.2.1 rfl).1
            clear hd
            replace d8:f 8 = .pointer (some ⟨L.S,ats k * 64,none⟩):=d8
            replace d7:f 7 = .agg (lwas st k).toArray:=d7
            generalize f 8 = x8 at *
            subst d8
            clear e8
            generalize f 7 = x7 at *
            subst d7
            rw [if_pos (show Region.wanted _ _ = true from rfl)]
            refine wp_store_mid 150 _ _ rfl L.S (ats k * 64) (lwas st k).toArray rfl rfl (hP.there HOK.out hdn) HA64.out HO1.out ?_
            exact hK undef _ trivial (hP.stored HOK.out hdn e5 e7)
          trivial
    · have hke:st.ln = k:=by omega
      have hf:=HO.out.flush
      obtain ⟨aoc,cp,rfl,_⟩:=HC.out
      have HC2:Hid (ChL K o N st.ln (.slice aoc (N - k) cp)):=by rw [hke]; exact HC.out
      have HKE:Hid _:=hke
      clear HO HC hke
      go_wp2_with fail
      go_call hf as e w1 ⟨rfl,h1⟩
      have H1:Hid _:=h1
      clear hf h1
      go_wp2
      go_returns
      refine ⟨_,rfl,HC2.out,?_⟩
      rw [HKE.out]
      exact H1.out
end
end Go.Proofs.YtncfbocbigdhiaaGreat.F
/- Crash, of a pool of one device, whatever is loose, as a call. -/
namespace Go.Proofs.YtncfbocbigdhiaaGreat.F
set_option maxRecDepth 100000
open Go.RowKit
section
variable {b0:Nat} {w0:World} {L:Loc} {st:St} {lv:Value} {oth:List (Nat × Obj)} {w:World}
theorem One.crash_t (h:One b0 w0 L st lv oth w) (c:Value) (st2:St) (ht:st2.there = true) (hq:0 ≤ st2.session ∧ st2.session ≤ 1000000) (hs:Calls Tryz.prog 61 #[.pointer (some ⟨L.D,0,none⟩),c] w fun e w'=>(∃ c',e = .returned c') ∧ One b0 w0 L st2 (.slice none 0 0) oth w') :
    Calls Tryz.prog 25 #[.pointer (some ⟨L.P,0,none⟩),c] w fun e w'=>e = .returned (.tuple #[]) ∧ One b0 w0 L { st2 with aw:=false,al:=0,session:=st2.session + 1,hw:=false,hl:=0,down:=false } (.slice none 0 0) oth w':=by
  have c0:=h.pc.1
  have hr:=h.row
  have HT:Hid (st2.there = true):=ht
  clear ht
  have H4:∀ w1,One b0 w0 L st2 (.slice none 0 0) oth w1 → One b0 w0 L { st2 with aw:=false,al:=0,session:=st2.session + 1 } (.slice none 0 0) oth (((w1.setCell ⟨L.D,5,none⟩ (.bool false)).setCell ⟨L.D,6,none⟩ (.int .i64 0)).setCell ⟨L.D,1,none⟩ (.int .i64 (st2.session + 1))):=by
    intro w1 h1
    have h2:=h1.updD 5 (.bool false) { st2 with aw:=false } (.slice none 0 0) ⟨rfl,rfl,rfl,rfl,rfl⟩ rfl (h1.ownD _ _)
    have h3:=h2.updD 6 (.int .i64 0) { st2 with aw:=false,al:=0 } (.slice none 0 0) ⟨rfl,rfl,rfl,rfl,rfl⟩ rfl (h2.ownD _ _)
    have h4:=h3.updD 1 (.int .i64 (st2.session + 1)) { st2 with aw:=false,al:=0,session:=st2.session + 1 } (.slice none 0 0) ⟨rfl,rfl,rfl,rfl,rfl⟩ rfl (h3.ownD _ _)
    exact h4
  have H:∀ w1,One b0 w0 L st2 (.slice none 0 0) oth w1 → One b0 w0 L { st2 with aw:=false,al:=0,session:=st2.session + 1,hw:=false,hl:=0,down:=false } (.slice none 0 0) oth ((((((w1.setCell ⟨L.D,5,none⟩ (.bool false)).setCell ⟨L.D,6,none⟩ (.int .i64 0)).setCell ⟨L.D,1,none⟩ (.int .i64 (st2.session + 1))).setCell ⟨L.P,1,none⟩ (.bool false)).setCell ⟨L.P,2,none⟩ (.int .i64 0)).setCell ⟨L.P,3,none⟩ (.bool false)):=by
    intro w1 h1
    have h4:=H4 w1 h1
    have h5:=h4.updP 1 (.bool false) { st2 with aw:=false,al:=0,session:=st2.session + 1,hw:=false } ⟨rfl,rfl,rfl,rfl,rfl,rfl,rfl,rfl,rfl,rfl⟩ rfl
    have h6:=h5.updP 2 (.int .i64 0) { st2 with aw:=false,al:=0,session:=st2.session + 1,hw:=false,hl:=0 } ⟨rfl,rfl,rfl,rfl,rfl,rfl,rfl,rfl,rfl,rfl⟩ rfl
    exact h6.updP 3 (.bool false) _ ⟨rfl,rfl,rfl,rfl,rfl,rfl,rfl,rfl,rfl,rfl⟩ rfl
  have HH:Hid _:=H
  have HH4:Hid _:=H4
  clear h H H4
  go_enter Tryz.func25,Tryz.ntmps25
  go_wp2
  go_loopw [1,11] (fun cv i wr=>(cv = c ∧ i = .int .i64 0 ∧ wr = w) ∨ (i = .int .i64 1 ∧ Hid (∃ w1,One b0 w0 L st2 (.slice none 0 0) oth w1 ∧ wr = (((w1.setCell ⟨L.D,5,none⟩ (.bool false)).setCell ⟨L.D,6,none⟩ (.int .i64 0)).setCell ⟨L.D,1,none⟩ (.int .i64 (st2.session + 1)))))) (fun _ i _=>1 - (intOf i).toNat)
  case atStart=>exact Or.inl ⟨rfl,rfl,rfl⟩
  case round=>
    rcases hrel with ⟨rfl,rfl,rfl⟩ | ⟨rfl,hz⟩
    · go_wp2_with fail
      go_call hs as e w1 ⟨⟨c',rfl⟩,h1⟩
      obtain ⟨d0,d1,d2,d3,d4,d5,d6,d7⟩:=h1.dc
      have f1:=h1.df 1
      have f5:=h1.df 5
      have f6:=h1.df 6
      rw [HT.out] at d2
      have H1:Hid _:=h1
      clear hs h1 hr
      go_wp2
      go_roundw
      case rel=>exact Or.inr ⟨rfl,⟨w1,H1.out,rfl⟩⟩
      case measure=>simp only [intOf]; omega
    · clear hs hr
      obtain ⟨w1,h1,hw⟩:=hz.out
      have hfin:=HH.out w1 h1
      rw [← hw] at hfin
      have h4:=HH4.out w1 h1
      rw [← hw] at h4
      obtain ⟨p0,p1,p2,p3,p4⟩:=h4.pc
      have g1:=h4.pf 1
      have g2:=h4.pf 2
      have g3:=h4.pf 3
      have HF:Hid _:=hfin
      clear hz h1 hw hfin h4 HH HH4
      go_wp2
      go_returns
      exact ⟨rfl,HF.out⟩
end
end Go.Proofs.YtncfbocbigdhiaaGreat.F
/- Insert of one element in the middle of a slice of the call's own, as a call. -/
namespace Go.Proofs.YtncfbocbigdhiaaGreat.F
set_option maxRecDepth 100000
open Go.RowKit
abbrev pbz:Value:=zpast
theorem pbinfo:(Tryz.prog.info? 152).map (fun i=>(i.zero,i.size,i.bytes)) = some (some pbz,65,72):=by kernel_rfl
theorem pbcopy (w:World) (ty:TypeId) (g o dLen dCap:Nat) (a:Addr) (sLen sCap:Nat) (cur:Array Value) (cs:List Value) (hg:w.heap[g]? = some (.cells cur 152 (0,0))) (hn:cs.length = Nat.min sLen dLen * 65)
    (hsrc:∀ j v,cs[j]? = some v → w.cell? (a.add j) = some v) (hfit:o + cs.length ≤ cur.size) (h1:∀ v ∈ cs,v.oneCell' = true) :
    (Builtin.copy_ #[93,93] ty #[.slice (some ⟨g,o,none⟩) dLen dCap,.slice (some a) sLen sCap]).run Tryz.prog w = .ok (goInt (Nat.min sLen dLen)) (w.setRow g (cur.toList.take o ++ cs ++ cur.toList.drop (o + cs.length)).toArray):=by
  have hl:=run_loadCells_list (P:=Tryz.prog) w a cs hsrc
  have hst:=run_storeCells_at Tryz.prog g o 152 cs 0 cur w hg (by simpa using hfit) h1
  obtain ⟨i,hi,hz,hs,hb⟩:=info_parts pbinfo
  simp [Builtin.copy_,run_underlying Tryz.underlying93,Builtin.lenOf,Builtin.firstCells,sizeOf,typeInfo,hi,hs,← hn,hl,hst]
theorem pbwp_copy (w:World) {o:Oper} {a:Act} {K:Act → World → Prop} {Q:Exit → Act → World → Prop} (d s:Operand) (t t':TypeId)
    (ho:o.op = .call { callee:=.builtin .copy,args:=#[d,s],argTypes:=#[t,t'] }) (v u:Value) (hd:a.eval d = v) (hs:a.eval s = u) {v':Value} {w':World}
    (hr:(Builtin.copy_ #[t,t'] o.type #[v,u]).run Tryz.prog w = .ok v' w') (h:K (a.put o.dst v') w'):o.wp Tryz.prog a w K Q:=by
  unfold Oper.wp execOp
  simp only [ho,resolve,invoke,builtin,Sem.run_bind,Sem.run_pure,Result.andThen_ok,List.map_toArray,List.map_cons,List.map_nil,hd,hs,hr]
  exact h
theorem pbwpList_copy (w:World) {ops:Array Oper} {rest:List Oper} {o:Oper} {a:Act} {Q:Exit → Act → World → Prop} (hgd:o.guard = none) (d s:Operand) (t t':TypeId)
    (ho:o.op = .call { callee:=.builtin .copy,args:=#[d,s],argTypes:=#[t,t'] }) (v u:Value) (hd:a.eval d = v) (hs:a.eval s = u) {v':Value} {w':World}
    (hr:(Builtin.copy_ #[t,t'] o.type #[v,u]).run Tryz.prog w = .ok v' w') (h:wpList Tryz.prog ops Q rest (a.put o.dst v') w'):wpList Tryz.prog ops Q (o :: rest) a w:=
  wpList_plain hgd fun _ hK=>pbwp_copy w d s t t' ho v u hd hs hr (hK _ _ h)
theorem pbstep_copy {ops:Array Oper} {o:Oper} {a:Act} {w:World} {K:Act → World → Prop} {Q:Exit → Act → World → Prop} {E:Prop}
    (hg:o.guard = none) (d x:Operand) (dT sT:TypeId) (hop:o.op = Op.call { callee:=Callee.builtin Builtin.copy,args:=#[d,x],argTypes:=#[dT,sT] })
    (v u:Value) (hd:a.eval d = v) (hx:a.eval x = u) {v':Value} {w':World} (hr:(Builtin.copy_ #[dT,sT] o.type #[v,u]).run Tryz.prog w = .ok v' w') (hK:K (a.put o.dst v') w') :
    if Region.wanted o (yielded ops a.tmps) = true then Oper.wp Tryz.prog o a w K Q else E:=by
  have hw:Region.wanted o (yielded ops a.tmps) = true:=by simp [Region.wanted,hg]
  rw [if_pos hw]
  unfold Oper.wp
  simp [execOp,hop,resolve,invoke,builtin,hd,hx,hr,Result.andThen]
  exact hK
set_option maxHeartbeats 4000000 in
set_option maxRecDepth 100000 in
theorem pbins_room (b0:Nat) (w:World) (g cap n i vb:Nat) (cur:Array Value) (xs c:List Value) (hb:b0 ≤ g) (hg:w.heap[g]? = some (.cells cur 152 (0,0))) (hm:cap ≤ maxLen) (hsz:cur.size = cap * 65) (htk:cur.toList.take (n * 65) = xs)
    (hi:i < n) (hroom:n + 1 ≤ cap) (hc:c.length = 65) (h1x:∀ u ∈ xs,u.oneCell' = true) (h1:∀ u ∈ c,u.oneCell' = true) (hvb:w.heap[vb]? = some (.cells c.toArray 152)) (hne:vb ≠ g) :
    Calls Tryz.prog 137 #[.slice (some ⟨g,0,none⟩) n cap,.int .i64 (i:Nat),.slice (some ⟨vb,0,none⟩) 1 1] w fun e w'=>∃ v',e = .returned v' ∧ w'.ownsRow b0 152 65 v' (n + 1) (xs.take (i * 65) ++ c ++ xs.drop (i * 65)) ∧ w.grownBy w' (some g):=by
  have hc63:cap ≤ 9223372036854775807:=hm
  obtain ⟨A1,hA1⟩:∃ A1,A1 = cur.toList.take (i * 65 + 65) ++ xs.drop (i * 65) ++ cur.toList.drop (i * 65 + 65 + (n * 65 - i * 65)):=⟨_,rfl⟩
  obtain ⟨A2,hA2⟩:∃ A2,A2 = A1.take (i * 65) ++ c ++ A1.drop (i * 65 + 65):=⟨_,rfl⟩
  have hin3:i * 65 ≤ n * 65:=Nat.mul_le_mul_right _ (by omega)
  have hcl:n * 65 + 65 ≤ cur.toList.length:=by rw [Array.length_toList,hsz]; have:(n + 1) * 65 ≤ cap * 65:=Nat.mul_le_mul_right _ hroom; omega
  obtain ⟨hT,hL1,hL2⟩:=ins_row cur.toList xs c (i * 65) 65 (n * 65) hin3 hcl htk hc A1 A2 hA1 hA2
  have hxl:xs.length = n * 65:=by rw [← htk,List.length_take]; omega
  have hdl:(xs.drop (i * 65)).length = n * 65 - i * 65:=by rw [List.length_drop,hxl]
  have hge:∀ W:World,W.heap = w.heap → W.heap[g]? = some (.cells cur 152 (0,0)):=fun W e=>by rw [e]; exact hg
  have hcp1:∀ W:World,W.heap = w.heap → ∀ ty dc sc,(Builtin.copy_ #[93,93] ty #[.slice (some ⟨g,(i + 1) * 65,none⟩) (n - i) dc,.slice (some ⟨g,i * 65,none⟩) (n + 1 - i) sc]).run Tryz.prog W = .ok (goInt (Nat.min (n + 1 - i) (n - i))) (W.setRow g A1.toArray):=fun W hW ty dc sc=>by
    rw [pbcopy W ty g ((i + 1) * 65) (n - i) dc ⟨g,i * 65,none⟩ (n + 1 - i) sc cur (xs.drop (i * 65)) (hge W hW) ?_ ?_ ?_ ?_]
    · rw [hA1,hdl,show (i + 1) * 65 = i * 65 + 65 by omega]
    · rw [hdl]; simp only [Nat.min_def]; split <;> omega
    · intro j v hj
      rw [Addr.add_lit,cell_of (hge W hW)]
      rw [List.getElem?_drop,← htk,List.getElem?_take] at hj
      split at hj
      · simpa using hj
      · cases hj
    · rw [hdl,← Array.length_toList]; omega
    · exact fun v hv=>h1x v (List.mem_of_mem_drop hv)
  have hcp2:∀ W:World,W.heap = (w.setRow g A1.toArray).heap → ∀ ty dc,(Builtin.copy_ #[93,93] ty #[.slice (some ⟨g,i * 65,none⟩) (n + 1 - i) dc,.slice (some ⟨vb,0,none⟩) 1 1]).run Tryz.prog W = .ok (goInt (Nat.min 1 (n + 1 - i))) (W.setRow g A2.toArray):=fun W hW ty dc=>by
    have hgW:W.heap[g]? = some (.cells A1.toArray 152 (0,0)):=by rw [hW]; exact setRow_heap w g cur _ 152 _ hg
    have hvW:W.heap[vb]? = some (.cells c.toArray 152):=by rw [hW,setRow_other w g vb _ (by omega)]; exact hvb
    rw [pbcopy W ty g (i * 65) (n + 1 - i) dc ⟨vb,0,none⟩ 1 1 A1.toArray c hgW ?_ ?_ ?_ h1]
    · rw [hA2,hc]
    · rw [hc]; simp only [Nat.min_def]; split <;> omega
    · intro j v hj
      rw [Addr.add_lit,cell_of hvW]
      simpa using hj
    · rw [hc,List.size_toArray,hL1]; omega
  have hov:∀ lb cb,(callFunc 157 #[.slice (some ⟨vb,0,none⟩) 1 1,.slice (some ⟨g,(i + 1) * 65,none⟩) lb cb]).run Tryz.prog w = .ok (.value (.bool false)) w:=fun lb cb=>by
    have hs0:∀ w,(Go.sizeOf 152).run Tryz.prog w = .ok 65 w:=fun w=>by
      obtain ⟨i,hi,hz,hs,hb⟩:=info_parts pbinfo
      simp [sizeOf,typeInfo,hi,hs]
    rw [run_callFunc_extern Tryz.func157 (by kernel_rfl) (by kernel_rfl) (by kernel_rfl) (e:=Extern.SlicesOverlaps.overlaps #[93,93] #[4]) (by kernel_rfl),
      Lib.run_overlaps_apart w 93 4 152 Tryz.underlying93 65 hs0 ⟨vb,0,none⟩ ⟨g,(i + 1) * 65,none⟩ 1 1 lb cb hne 152 152 c.toArray.size cur.size (by simp only [World.shape?,hvb]) (by simp only [World.shape?,hg]) (by rw [← Array.length_toList]; omega) (frz_of hvb _) (frz_of hvb _)]
    rfl
  have hz2:¬ ((i:Int) = (n:Int)):=by omega
  have hw1:IntKind.i64.wrap ((i:Int) + 1) = (i:Int) + 1:=by rw [IntKind.wrap_i64]; omega
  have hb1:(0:Int) ≤ (i:Int) + 1:=by omega
  have hin:i ≤ n:=by omega
  have htn:((i:Int) + 1).toNat = i + 1:=by omega
  have hb2:¬ (cap = i + 1):=by omega
  have hb3:(i:Int) ≤ (n:Int) + 1:=by omega
  have hb4:¬ (cap = i):=by omega
  have HR:Hid (∀ W:World,W.heap = ((w.setRow g A1.toArray).setRow g A2.toArray).heap → W.os = w.os → W.tape = w.tape → W.output = w.output → W.ownsRow b0 152 65 (.slice (some ⟨g,0,none⟩) (n + 1) cap) (n + 1) (xs.take (i * 65) ++ c ++ xs.drop (i * 65)) ∧ w.grownBy W (some g)):=fun W hW ho1 ht1 hp1=>by
    have e2:(w.setRow g A1.toArray).heap[g]? = some (.cells A1.toArray 152 (0,0)):=setRow_heap w g cur _ 152 _ hg
    refine ⟨⟨?_,Or.inr ⟨g,cap,A2.toArray,rfl,hb,?_,hroom,hm,?_,?_⟩⟩,ho1,ht1,hp1,?_,fun k hk hkg=>?_⟩
    · rw [List.length_append,List.length_append,List.length_take,hxl,hdl,hc]; omega
    · rw [hW]; exact setRow_heap _ g _ _ 152 _ e2
    · rw [List.size_toArray,hL2,Array.length_toList,hsz]
    · rw [show (n + 1) * 65 = n * 65 + 65 by omega]; exact hT
    · rw [hW]; simp [World.setRow]
    · have hkg2:k ≠ g:=fun e=>hkg (by rw [e])
      rw [hW,setRow_other _ g k _ (by omega),setRow_other w g k _ (by omega)]
  clear hT hL1 hL2 hA1 hA2 hxl hdl hge hcl hin3 hsz htk hm hc
  have hcp1':=fun ty dc sc=>hcp1 w.drew rfl ty dc sc
  have hcp2':=fun ty dc=>hcp2 (w.drew.setRow g A1.toArray) rfl ty dc
  clear hcp1 hcp2
  have mixed:Tryz.prog.follows Departure.mixedOrders = true:=by kernel_rfl
  go_enter Tryz.func137,Tryz.ntmps137
  go_wp2_with (simp only [hov])
  go_region_law_o (refine pbstep_copy rfl _ _ 93 93 rfl _ _ (by simp [Act.eval,Act.put]) (by simp [Act.eval,Act.put]) (hcp1' _ _ _) ?_)
  go_wp2_with (at_builtin; refine pbwpList_copy _ rfl _ _ 93 93 rfl _ _ rfl rfl (hcp2' _ _) ?_)
  go_returns
  exact ⟨_,rfl,HR.out _ rfl rfl rfl rfl⟩
set_option maxHeartbeats 4000000 in
set_option maxRecDepth 100000 in
theorem pbins_grow (b0:Nat) (w:World) (g cap n i vb:Nat) (cur:Array Value) (xs c:List Value) (hb:b0 ≤ w.heap.size) (hg:w.heap[g]? = some (.cells cur 152 (0,0))) (hsz:cur.size = cap * 65) (htk:cur.toList.take (n * 65) = xs)
    (hi:i < n) (hn:n ≤ 5000) (hroom:n = cap) (hc:c.length = 65) (h1x:∀ u ∈ xs,u.oneCell' = true) (h1:∀ u ∈ c,u.oneCell' = true) (hvb:w.heap[vb]? = some (.cells c.toArray 152)) :
    Calls Tryz.prog 137 #[.slice (some ⟨g,0,none⟩) n cap,.int .i64 (i:Nat),.slice (some ⟨vb,0,none⟩) 1 1] w fun e w'=>∃ v',e = .returned v' ∧ w'.ownsRow b0 152 65 v' (n + 1) (xs.take (i * 65) ++ c ++ xs.drop (i * 65)) ∧ w.grownBy w' (some g):=by
  subst hroom
  obtain ⟨i0,hi0,hz0,hzs,hzb⟩:=info_parts pbinfo
  have hgw:g < w.heap.size:=getElem?_lt hg
  have hvw:vb < w.heap.size:=getElem?_lt hvb
  have hzc:(pbz.cells).size = 65:=by kernel_rfl
  have hin3:i * 65 ≤ n * 65:=Nat.mul_le_mul_right _ (by omega)
  have hxl:xs.length = n * 65:=by rw [← htk,List.length_take,Array.length_toList]; omega
  have hdl:(xs.drop (i * 65)).length = n * 65 - i * 65:=by rw [List.length_drop,hxl]
  have hkk:(n:Int) + 1 - (i:Int) = ((n + 1 - i:Nat):Int):=by omega
  have hik:i + (n + 1 - i) = n + 1:=by omega
  have hcell:∀ j v,xs[j]? = some v → w.cell? ⟨g,j,none⟩ = some v:=fun j v hj=>by
    rw [cell_of hg]
    rw [← htk,List.getElem?_take] at hj
    split at hj
    · simpa using hj
    · cases hj
  have hold:(Builtin.firstCells i0.size i (.slice (some ⟨g,0,none⟩) i n)).run Tryz.prog w.drew = .ok (xs.take (i * 65)).toArray w.drew:=by
    rw [hzs]
    exact run_firstCells_some w.drew 65 i ⟨g,0,none⟩ i n (xs.take (i * 65)) (by rw [List.length_take]; omega) (fun j v hj=>by
      rw [Addr.add_lit,Nat.zero_add]
      rw [List.getElem?_take] at hj
      split at hj
      · exact hcell j v hj
      · cases hj)
  obtain ⟨G,hG⟩:∃ G,G = grownCap w (n + 1) n 152:=⟨_,rfl⟩
  have hGn:n + 1 ≤ G:=by rw [hG]; exact grownCap_ge w _ _ _
  have hGm:G ≤ maxLen:=by rw [hG]; exact grownCap_le_maxLen w (n + 1) n 152 (by unfold maxLen; omega)
  obtain ⟨ROW,hROW⟩:∃ ROW:Array Value,ROW = (xs.take (i * 65)).toArray ++ Builtin.zeroCells pbz.cells (n + 1 - i) ++ Builtin.zeroCells pbz.cells (G - (n + 1)):=⟨_,rfl⟩
  have hrz:∀ ty,(Builtin.append_ #[93,3] ty #[.slice (some ⟨g,0,none⟩) i n,.int .i64 ((n:Int) + 1 - (i:Int))]).run Tryz.prog w = .ok (.slice (some ⟨w.heap.size,0,none⟩) (n + 1) G) (w.drew.alloc (.cells ROW 152)):=fun ty=>by
    have h:=Lib.run_append_grow_zeros w 93 3 ty 152 i0 _ .i64 .i64 Tryz.underlying93 Tryz.underlying3 hi0 hz0 (some ⟨g,0,none⟩) i n (xs.take (i * 65)) hold (n + 1 - i) (by omega) (by omega) (by omega) (by omega) (by rw [hzb]; omega) (by rw [hzb,hik]; exact growslice_fits (by omega) (by omega))
    rw [hik,← hG,← hROW] at h
    rw [hkk]
    exact h
  obtain ⟨A1,hA1⟩:∃ A1,A1 = ROW.toList.take (i * 65) ++ c ++ ROW.toList.drop (i * 65 + 65):=⟨_,rfl⟩
  obtain ⟨A2,hA2⟩:∃ A2,A2 = A1.take (i * 65 + 65) ++ xs.drop (i * 65) ++ A1.drop (i * 65 + 65 + (n * 65 - i * 65)):=⟨_,rfl⟩
  obtain ⟨hT,hLR,hL1,hL2⟩:=ins_new xs c (Builtin.zeroCells pbz.cells (n + 1 - i) ++ Builtin.zeroCells pbz.cells (G - (n + 1))).toList (i * 65) 65 (n * 65) (G * 65) hin3 hxl hc
    (by rw [Array.length_toList,Array.size_append,size_zeroCells,size_zeroCells,hzc,← Nat.add_mul,← Nat.sub_mul]; congr 1; omega)
    (by have:(n + 1) * 65 ≤ G * 65:=Nat.mul_le_mul_right _ hGn; omega) ROW.toList A1 A2 (by rw [hROW]; simp) hA1 hA2
  have hG3:n * 65 + 65 ≤ G * 65:=by have:(n + 1) * 65 ≤ G * 65:=Nat.mul_le_mul_right _ hGn; omega
  have hW1g:(w.drew.alloc (.cells ROW 152)).heap[w.heap.size]? = some (.cells ROW 152 (0,0)):=heap_new w.drew _
  have hW1o:∀ k,k < w.heap.size → (w.drew.alloc (.cells ROW 152)).heap[k]? = w.heap[k]?:=fun k hk=>Below.heap_alloc w.drew _ k hk
  have hcpA:∀ W:World,W.heap = (w.drew.alloc (.cells ROW 152)).heap → ∀ ty dc,(Builtin.copy_ #[93,93] ty #[.slice (some ⟨w.heap.size,i * 65,none⟩) (n + 1 - i) dc,.slice (some ⟨vb,0,none⟩) 1 1]).run Tryz.prog W = .ok (goInt (Nat.min 1 (n + 1 - i))) (W.setRow w.heap.size A1.toArray):=fun W hW ty dc=>by
    have hgW:W.heap[w.heap.size]? = some (.cells ROW 152 (0,0)):=by rw [hW]; exact hW1g
    have hvW:W.heap[vb]? = some (.cells c.toArray 152):=by rw [hW,hW1o vb hvw]; exact hvb
    rw [pbcopy W ty w.heap.size (i * 65) (n + 1 - i) dc ⟨vb,0,none⟩ 1 1 ROW c hgW ?_ ?_ ?_ h1]
    · rw [hA1,hc]
    · rw [hc]; simp only [Nat.min_def]; split <;> omega
    · intro j v hj
      rw [Addr.add_lit,cell_of hvW]
      simpa using hj
    · rw [hc,← Array.length_toList,hLR]; omega
  have hcpB:∀ W:World,W.heap = ((w.drew.alloc (.cells ROW 152)).setRow w.heap.size A1.toArray).heap → ∀ ty dc sc,(Builtin.copy_ #[93,93] ty #[.slice (some ⟨w.heap.size,(i + 1) * 65,none⟩) (n - i) dc,.slice (some ⟨g,i * 65,none⟩) (n - i) sc]).run Tryz.prog W = .ok (goInt (Nat.min (n - i) (n - i))) (W.setRow w.heap.size A2.toArray):=fun W hW ty dc sc=>by
    have hgW:W.heap[w.heap.size]? = some (.cells A1.toArray 152 (0,0)):=by rw [hW]; exact setRow_heap _ _ _ _ 152 _ hW1g
    have hgo:W.heap[g]? = some (.cells cur 152 (0,0)):=by rw [hW,setRow_other _ _ g _ (by omega),hW1o g hgw]; exact hg
    rw [pbcopy W ty w.heap.size ((i + 1) * 65) (n - i) dc ⟨g,i * 65,none⟩ (n - i) sc A1.toArray (xs.drop (i * 65)) hgW ?_ ?_ ?_ ?_]
    · rw [hA2,hdl,show (i + 1) * 65 = i * 65 + 65 by omega]
    · rw [hdl,← Nat.sub_mul]; simp only [Nat.min_def,ite_self]
    · intro j v hj
      rw [Addr.add_lit,World.cell?_of_block (w:=w) (by rw [hgo,hg])]
      rw [List.getElem?_drop] at hj
      exact hcell _ v hj
    · rw [hdl,List.size_toArray,hL1]; omega
    · exact fun v hv=>h1x v (List.mem_of_mem_drop hv)
  have HR:Hid (∀ W:World,W.heap = (((w.drew.alloc (.cells ROW 152)).setRow w.heap.size A1.toArray).setRow w.heap.size A2.toArray).heap → W.os = w.os → W.tape = w.tape → W.output = w.output → W.ownsRow b0 152 65 (.slice (some ⟨w.heap.size,0,none⟩) (n + 1) G) (n + 1) (xs.take (i * 65) ++ c ++ xs.drop (i * 65)) ∧ w.grownBy W (some g)):=fun W hW ho1 ht1 hp1=>by
    have e2:((w.drew.alloc (.cells ROW 152)).setRow w.heap.size A1.toArray).heap[w.heap.size]? = some (.cells A1.toArray 152 (0,0)):=setRow_heap _ _ _ _ 152 _ hW1g
    refine ⟨⟨?_,Or.inr ⟨w.heap.size,G,A2.toArray,rfl,hb,?_,hGn,hGm,?_,?_⟩⟩,ho1,ht1,hp1,?_,fun k hk hkg=>?_⟩
    · rw [List.length_append,List.length_append,List.length_take,hxl,hdl,hc]; omega
    · rw [hW]; exact setRow_heap _ _ _ _ 152 _ e2
    · rw [List.size_toArray,hL2]
    · rw [show (n + 1) * 65 = n * 65 + 65 by omega]; exact hT
    · rw [hW]; simp [World.setRow]
    · rw [hW,setRow_other _ _ k _ (by omega),setRow_other _ _ k _ (by omega),hW1o k hk]
  have hG63:G ≤ 9223372036854775807:=hGm
  have hGi:¬ (G = i):=by omega
  have hGim:¬ (G = i + 1):=by omega
  have hci:¬ (n = i):=by omega
  have hz2:¬ ((i:Int) = (n:Int)):=by omega
  have hw1:IntKind.i64.wrap ((i:Int) + 1) = (i:Int) + 1:=by rw [IntKind.wrap_i64]; omega
  have hb1:(0:Int) ≤ (i:Int) + 1:=by omega
  have hin:i ≤ n:=by omega
  have htn:((i:Int) + 1).toNat = i + 1:=by omega
  have hb3:(i:Int) ≤ (n:Int):=by omega
  have hnb:n ≤ 9223372036854775807:=by omega
  have mixed:Tryz.prog.follows Departure.mixedOrders = true:=by kernel_rfl
  have hcpA':=fun ty dc=>hcpA (w.alloc (.cells ROW 152)).drew rfl ty dc
  have hcpB':=fun ty dc sc=>hcpB (((w.alloc (.cells ROW 152)).drew.setRow w.heap.size A1.toArray).drew) rfl ty dc sc
  clear hcpA hcpB
  clear hT hLR hL1 hL2 hA1 hA2 hxl hdl hin3 hsz htk hc hkk hik hold hROW hG hGm hG3 hcell hW1g hW1o hvw hgw hzc hzb hzs hz0 hi0
  go_enter Tryz.func137,Tryz.ntmps137
  go_wp2_with (first
    | (at_builtin; refine Lib.wpList_append_run _ rfl _ _ _ _ rfl _ _ rfl rfl _ _ (hrz _) ?_)
    | (at_builtin; refine pbwpList_copy _ rfl _ _ 93 93 rfl _ _ rfl rfl (hcpA' _ _) ?_))
  go_region_law_o (refine pbstep_copy rfl _ _ 93 93 rfl (.slice (some ⟨w.heap.size,(i + 1) * 65,none⟩) (n - i) (G - (i + 1))) (.slice (some ⟨g,i * 65,none⟩) (n - i) (n - i)) (by simp [Act.eval,Act.put]) (by simp [Act.eval,Act.put]) (hcpB' 3 (G - (i + 1)) (n - i)) ?_)
  go_wp2
  go_returns
  exact ⟨_,rfl,HR.out _ rfl rfl rfl rfl⟩
end Go.Proofs.YtncfbocbigdhiaaGreat.F
/- What a device writes into any sector, as a call: one that isn't loose yet comes among those that are; one that is stays there. -/
namespace Go.Proofs.YtncfbocbigdhiaaGreat.F
set_option maxRecDepth 100000
open Go.RowKit
theorem pinsert_any (b0:Nat) (w:World) (v:Value) (n p:Nat) (xs c:List Value) (hown:w.ownsRow b0 152 65 v n xs) (hp:p ≤ n) (hn:n ≤ 5000) (vb:Nat) (hc:c.length = 65) (h1x:∀ u ∈ xs,u.oneCell' = true) (h1:∀ u ∈ c,u.oneCell' = true)
    (hvb:w.heap[vb]? = some (.cells c.toArray 152)) (hne:v.ownBlock ≠ some vb) (hb:b0 ≤ w.heap.size) :
    Calls Tryz.prog 137 #[v,.int .i64 (p:Nat),.slice (some ⟨vb,0,none⟩) 1 1] w fun e w'=>∃ v',e = .returned v' ∧ w'.ownsRow b0 152 65 v' (n + 1) (xs.take (p * 65) ++ c ++ xs.drop (p * 65)) ∧ w.grownBy w' v.ownBlock:=by
  rcases Nat.eq_or_lt_of_le hp with rfl | hlt
  · have e:xs.take (p * 65) ++ c ++ xs.drop (p * 65) = xs ++ c:=by
      rw [List.take_of_length_le (by rw [hown.1]; exact Nat.le_refl _),List.drop_eq_nil_of_le (by rw [hown.1]; exact Nat.le_refl _),List.append_nil]
    rw [e]
    exact pinsert_end b0 w v p xs c hown hn vb hc h1 (fun j u hj=>by rw [cell_of hvb,Nat.zero_add]; simpa using hj) hb
  · rcases hown.2 with ⟨_,h0⟩ | ⟨g,cap,cur,rfl,hbg,hg,hnc,hm,hsz,htk⟩
    · omega
    · rcases Nat.eq_or_lt_of_le hnc with rfl | hr
      · exact pbins_grow b0 w g n n p vb cur xs c hb hg hsz htk hlt hn rfl hc h1x h1 hvb
      · exact pbins_room b0 w g cap n p vb cur xs c hbg hg hm hsz htk hlt hr hc h1x h1 hvb (fun e=>hne (by rw [e]; rfl))
def insL (st:St) (p i:Nat):List Value:=st.loose.take (p * 65) ++ ent st i ++ st.loose.drop (p * 65)
def lsdM (st:St) (p i:Nat):St:={ st with ln:=st.ln + 1,loose:=insL st p i }
def wroteF (st:St) (i:Nat) (s:ByteArray):St:={ st with secs:=setSec st.secs i s }
def wroteM (st:St) (p i:Nat) (s:ByteArray):St:={ lsdM st p i with secs:=setSec st.secs i s }
theorem ent_heap {st:St} {i:Nat} {w W:World} (h:Sm (w.alloc (.cells (ent st i).toArray 152)) W):W.heap[w.heap.size]? = some (.cells (ent st i).toArray 152):=by rw [h.heap]; exact heap_new _ _
theorem own_fresh {b0:Nat} {w0:World} {L:Loc} {st:St} {lv:Value} {oth:List (Nat × Obj)} {w:World} (h:One b0 w0 L st lv oth w):lv.ownBlock ≠ some w.heap.size:=fun e=>by have:=(h.own.lt _ e).2; omega
section
variable {b0:Nat} {w0:World} {L:Loc} {st:St} {lv:Value} {oth:List (Nat × Obj)} {w:World} {p i:Nat}
structure WPhM (b0:Nat) (w0:World) (L:Loc) (st:St) (lv:Value) (oth:List (Nat × Obj)) (p i:Nat) (w:World) (done:Nat → Bool) (f:Nat → Value) (W:World):Prop where
  c3:W.cell? ⟨L.D,3,none⟩ = some (.slice (some ⟨L.S,0,none⟩) st.n st.n)
  cS:W.heap[L.S]? = some (.cells st.secs 150)
  c4:done 19 = false → W.cell? ⟨L.D,4,none⟩ = some lv ∧ W.frozen? ⟨L.D,4,none⟩ = false
  o4:done 4 = false → done 16 = false
  o16:done 16 = false → done 19 = false
  o15:done 15 = false → done 16 = false
  a:done 15 = false → Sm w W
  b:done 15 = true → done 16 = false → Sm (w.alloc (.cells (ent st i).toArray 152)) W
  c:done 16 = true → done 19 = false → W.ownsRow b0 152 65 (f 16) (st.ln + 1) (insL st p i) ∧ KO L lv w W ∧ W.heap[L.P]? = w.heap[L.P]? ∧ W.heap[L.D]? = w.heap[L.D]?
  d:done 19 = true → ∃ v',One b0 w0 L (lsdM st p i) v' oth W
theorem WPhM.start {f:Nat → Value} (h:One b0 w0 L st lv oth w):WPhM b0 w0 L st lv oth p i w (fun _=>false) f w.drew:=
  ⟨h.dc.2.2.2.1,h.sec,fun _=>⟨h.dc.2.2.2.2.1,h.df 4⟩,fun _=>rfl,fun _=>rfl,fun _=>rfl,fun _=>⟨rfl,rfl,rfl,rfl⟩,(fun e=>by cases e),(fun e=>by cases e),(fun e=>by cases e)⟩
variable {done:Nat → Bool} {f:Nat → Value} {W:World}
theorem WPhM.pure (h:WPhM b0 w0 L st lv oth p i w done f W) (k:Nat) (hk:k ≠ 4 ∧ k ≠ 15 ∧ k ≠ 16 ∧ k ≠ 19) (v:Value):WPhM b0 w0 L st lv oth p i w (updB done k) (upd f k v) W:=by
  have a4:updB done k 4 = done 4:=if_neg (Ne.symm hk.1)
  have a15:updB done k 15 = done 15:=if_neg (Ne.symm hk.2.1)
  have a16:updB done k 16 = done 16:=if_neg (Ne.symm hk.2.2.1)
  have a19:updB done k 19 = done 19:=if_neg (Ne.symm hk.2.2.2)
  have f16:upd f k v 16 = f 16:=if_neg (Ne.symm hk.2.2.1)
  exact ⟨h.c3,h.cS,by rw [a19]; exact h.c4,by rw [a4,a16]; exact h.o4,by rw [a16,a19]; exact h.o16,by rw [a15,a16]; exact h.o15,by rw [a15]; exact h.a,by rw [a15,a16]; exact h.b,by rw [a16,a19,f16]; exact h.c,by rw [a19]; exact h.d⟩
theorem WPhM.pure4 (h:WPhM b0 w0 L st lv oth p i w done f W) (v:Value):WPhM b0 w0 L st lv oth p i w (updB done 4) (upd f 4 v) W:=by
  have a4:updB done 4 4 = true:=if_pos rfl
  have a15:updB done 4 15 = done 15:=if_neg (by decide)
  have a16:updB done 4 16 = done 16:=if_neg (by decide)
  have a19:updB done 4 19 = done 19:=if_neg (by decide)
  have f16:upd f 4 v 16 = f 16:=if_neg (by decide)
  exact ⟨h.c3,h.cS,by rw [a19]; exact h.c4,by rw [a4]; exact (fun e=>by cases e),by rw [a16,a19]; exact h.o16,by rw [a15,a16]; exact h.o15,by rw [a15]; exact h.a,by rw [a15,a16]; exact h.b,by rw [a16,a19,f16]; exact h.c,by rw [a19]; exact h.d⟩
theorem WPhM.laid (h:WPhM b0 w0 L st lv oth p i w done f W) (h15:done 15 = false) (v:Value):WPhM b0 w0 L st lv oth p i w (updB done 15) (upd f 15 v) (W.alloc (.cells (ent st i).toArray 152)):=by
  have a4:updB done 15 4 = done 4:=if_neg (by decide)
  have a15:updB done 15 15 = true:=if_pos rfl
  have a16:updB done 15 16 = done 16:=if_neg (by decide)
  have a19:updB done 15 19 = done 19:=if_neg (by decide)
  have h16:=h.o15 h15
  have hsm:=h.a h15
  have hD:L.D < W.heap.size:=World.block_lt_of_cell? W _ h.c3
  refine ⟨?_,?_,?_,by rw [a4,a16]; exact h.o4,by rw [a16,a19]; exact h.o16,by rw [a15]; exact (fun e=>by cases e),by rw [a15]; exact (fun e=>by cases e),?_,by rw [a16,h16]; exact (fun e=>by cases e),by rw [a19,h.o16 h16]; exact (fun e=>by cases e)⟩
  · rw [World.cell?_alloc_past _ _ _ hD]; exact h.c3
  · rw [Below.heap_alloc _ _ _ (getElem?_lt h.cS)]; exact h.cS
  · rw [a19]
    intro e
    rw [World.cell?_alloc_past _ _ _ hD,World.frozen?_alloc_past _ _ _ hD]
    exact h.c4 e
  · intro _ _
    exact ⟨by show W.heap.push _ = w.heap.push _; rw [hsm.heap],hsm.os,hsm.tape,hsm.output⟩
theorem WPhM.grown {W':World} {v':Value} (h:WPhM b0 w0 L st lv oth p i w done f W) (h0:One b0 w0 L st lv oth w) (hsm:Sm (w.alloc (.cells (ent st i).toArray 152)) W) (h16:done 16 = false) (h15:done 15 = true) (h4:done 4 = true)
    (ho:W'.ownsRow b0 152 65 v' (st.ln + 1) (insL st p i)) (hg:W.grownBy W' lv.ownBlock):WPhM b0 w0 L st lv oth p i w (updB done 16) (upd f 16 v') W':=by
  have a4:updB done 16 4 = done 4:=if_neg (by decide)
  have a15:updB done 16 15 = done 15:=if_neg (by decide)
  have a16:updB done 16 16 = true:=if_pos rfl
  have a19:updB done 16 19 = done 19:=if_neg (by decide)
  have f16:upd f 16 v' 16 = v':=if_pos rfl
  have h1:=h0.ofBelow hsm.below
  have kD:W'.heap[L.D]? = W.heap[L.D]?:=hg.block _ (getElem?_lt h1.dev) (fun e=>h1.lne h1.dev (apart_of (by decide)) e.symm)
  have kS:W'.heap[L.S]? = W.heap[L.S]?:=hg.block _ (getElem?_lt h1.sec) (fun e=>h1.lne h1.sec (apart_of (by decide)) e.symm)
  have kP:W'.heap[L.P]? = W.heap[L.P]?:=hg.block _ (getElem?_lt h1.pool) (fun e=>h1.lne h1.pool (apart_of (by decide)) e.symm)
  refine ⟨(World.cell?_of_block kD).trans h.c3,kS.trans h.cS,?_,by rw [a4,h4]; exact (fun e=>by cases e),by rw [a16]; exact (fun e=>by cases e),by rw [a15,h15]; exact (fun e=>by cases e),by rw [a15,h15]; exact (fun e=>by cases e),by rw [a16]; exact (fun _ e=>by cases e),?_,by rw [a19,h.o16 h16]; exact (fun e=>by cases e)⟩
  · rw [a19]
    intro e
    exact ⟨(World.cell?_of_block kD).trans (h.c4 e).1,(World.frozen?_of_block kD).trans (h.c4 e).2⟩
  · intro _ _
    rw [f16]
    have hb:=hsm.below
    refine ⟨ho,⟨hg.os.trans hb.os,hg.tape.trans hb.tape,hg.output.trans hb.output,Nat.le_trans hb.size hg.size,fun k hk _ _ _ hl=>?_⟩,?_,?_⟩
    · rw [hg.block k (Nat.lt_of_lt_of_le hk hb.size) (fun e=>hl e.symm)]; exact hb.block k hk
    · rw [kP,h1.pool,h0.pool]
    · rw [kD,h1.dev,h0.dev]
theorem WPhM.stored (h:WPhM b0 w0 L st lv oth p i w done f W) (h0:One b0 w0 L st lv oth w) (hm:W.ownsRow b0 152 65 (f 16) (st.ln + 1) (insL st p i) ∧ KO L lv w W ∧ W.heap[L.P]? = w.heap[L.P]? ∧ W.heap[L.D]? = w.heap[L.D]?) (h16:done 16 = true) {v16:Value} (hv16:f 16 = v16) (v:Value) :
    WPhM b0 w0 L st lv oth p i w (updB done 19) (upd f 19 v) (W.setCell ⟨L.D,4,none⟩ v16):=by
  subst hv16
  have a4:updB done 19 4 = done 4:=if_neg (by decide)
  have a15:updB done 19 15 = done 15:=if_neg (by decide)
  have a16:updB done 19 16 = done 16:=if_neg (by decide)
  have a19:updB done 19 19 = true:=if_pos rfl
  have h15:done 15 = true:=by
    cases hq:done 15 with
    | true=>rfl
    | false=>rw [h.o15 hq] at h16; cases h16
  have h4:done 4 = true:=by
    cases hq:done 4 with
    | true=>rfl
    | false=>rw [h.o4 hq] at h16; cases h16
  obtain ⟨m1,m2,m3,m4⟩:=hm
  obtain ⟨t1,t2,t3⟩:=h0.tne
  have hdv:W.heap[L.D]? = some (.cells #[.int .i64 st.serial,.int .i64 st.session,.bool st.there,.slice (some ⟨L.S,0,none⟩) st.n st.n,lv,.bool st.aw,.int .i64 st.al,.bool st.ad] 97):=m4.trans h0.dev
  have hds:(W.setCell ⟨L.D,4,none⟩ (f 16)).heap[L.D]? = some (.cells #[.int .i64 st.serial,.int .i64 st.session,.bool st.there,.slice (some ⟨L.S,0,none⟩) st.n st.n,f 16,.bool st.aw,.int .i64 st.al,.bool st.ad] 97):=by rw [block_set hdv]; rfl
  refine ⟨cell_of hds 3,?_,by rw [a19]; exact (fun e=>by cases e),by rw [a4,h4]; exact (fun e=>by cases e),by rw [a16,h16]; exact (fun e=>by cases e),by rw [a15,h15]; exact (fun e=>by cases e),by rw [a15,h15]; exact (fun e=>by cases e),by rw [a16,h16]; exact (fun _ e=>by cases e),by rw [a19]; exact (fun _ e=>by cases e),?_⟩
  · rw [Below.heap_setCell _ _ _ _ (by exact Ne.symm t2)]; exact h.cS
  · intro _
    refine ⟨f 16,h0.upd (m2.trans (KO.set (Or.inr (Or.inl rfl)) _)) ?_ hds ?_ ?_⟩
    · rw [Below.heap_setCell _ _ _ _ (by exact Ne.symm t1),m3]; exact h0.pool
    · rw [Below.heap_setCell _ _ _ _ (by exact Ne.symm t2)]; exact h.cS
    · refine ⟨m1.1,?_⟩
      rcases m1.2 with h1 | ⟨g,cap,cur,e,h2,h3,h4⟩
      · exact Or.inl h1
      · refine Or.inr ⟨g,cap,cur,e,h2,?_,h4⟩
        rw [Below.heap_setCell _ _ _ _ (by show g ≠ L.D; intro e2; rw [← e2,h3] at hdv; injection hdv with hdv; injection hdv with _ t _; exact absurd t (by decide))]
        exact h3
def WVM (L:Loc) (st:St) (lv:Value) (p i:Nat) (w:World):Nat → Value → Prop
  | 0,v=>v = .pointer (some ⟨L.D,0,none⟩)
  | 1,v=>v = .pointer (some ⟨L.D,0,none⟩)
  | 2,v=>v = .pointer (some ⟨L.D,0,none⟩)
  | 3,v=>v = .pointer (some ⟨L.D,4,none⟩)
  | 4,v=>v = lv
  | 5,v=>v = .int .i64 (p:Nat)
  | 6,v=>v = .int .i64 (i:Nat)
  | 7,v=>v = .pointer (some ⟨L.D,0,none⟩)
  | 8,v=>v = .pointer (some ⟨L.D,0,none⟩)
  | 9,v=>v = .pointer (some ⟨L.D,3,none⟩)
  | 10,v=>v = .slice (some ⟨L.S,0,none⟩) st.n st.n
  | 11,v=>v = .int .i64 (i:Nat)
  | 12,v=>v = .pointer (some ⟨L.S,i * 64,none⟩)
  | 13,v=>v = .agg (secl st i).toArray
  | 14,v=>v = .agg (ent st i).toArray
  | 15,v=>v = .slice (some ⟨w.heap.size,0,none⟩) 1 1
  | 17,v=>v = .pointer (some ⟨L.D,0,none⟩)
  | 18,v=>v = .pointer (some ⟨L.D,4,none⟩)
  | _,_=>True
set_option maxHeartbeats 1000000 in
set_option maxRecDepth 100000 in
theorem One.dwriteM (h0:One b0 w0 L st lv oth w) (i:Nat) (hi:i < st.n) (hs8:SecOk st) (hln:st.ln ≤ 5000) (hp:p ≤ st.ln) (h1x:∀ u ∈ st.loose,u.oneCell' = true) (hnb:st.n ≤ 9223372036854775807) (s:ByteArray) (hs:s.size = 64) (hse:Calls Tryz.prog 135 #[lv,.int .i64 (i:Nat),.func (.func 136) #[] #[]] w fun e w'=>e = .returned (.tuple #[.int .i64 (p:Nat),.bool false]) ∧ Below w.heap.size w w') :
    Calls Tryz.prog 107 #[.pointer (some ⟨L.D,0,none⟩),.int .i64 (i:Nat),.string s] w fun e w'=>e = .returned (.tuple #[]) ∧ ∃ v',One b0 w0 L (wroteM st p i s) v' oth w':=by
  have d4:=h0.dc.2.2.2.2.1
  have hsl:=sec_length hs8 hi
  have hel:(ent st i).length = 65:=by unfold ent; rw [List.length_cons,hsl]
  go_enter Tryz.func107,Tryz.ntmps107
  go_wp2_with fail
  go_call hse as e w1 ⟨rfl,hb⟩
  have h:=h0.ofBelow hb
  clear hse hb h0 d4
  go_wp2_with fail
  refine wp_region_ph (fun f=>⟨#[.pointer (some ⟨L.D,0,none⟩),.int .i64 (i:Nat),.string s,undef,undef,undef,.int .i64 (p:Nat),.bool false,.tuple #[.int .i64 (p:Nat),.bool false],.pointer (some ⟨L.D,0,none⟩),.pointer (some ⟨L.D,0,none⟩),.pointer (some ⟨L.D,4,none⟩),lv,.int .i64 (i:Nat),.tuple #[.int .i64 (p:Nat),.bool false],.int .i64 (p:Nat),.bool false,.bool false,.bool true,f 0,f 1,f 2,f 3,f 4,f 5,f 6,f 7,f 8,f 9,f 10,f 11,f 12,f 13,f 14,f 15,f 16,f 17,f 18,undef,undef,undef,undef,undef,undef,undef,undef,undef],[]⟩) (WVM L st lv p i w1) (WPhM b0 w0 L st lv oth p i w1) (fun _=>undef) (by kernel_rfl) rfl rfl ?hI ?hput ?step ?fin
  case hI=>exact WPhM.start h
  case fin=>
    intro f W hP hV
    obtain ⟨v',h2⟩:=hP.d rfl
    have hfit:i * 64 + s.size ≤ st.secs.size:=by
      rw [hs8.size,hs]
      have:(i + 1) * 64 ≤ st.n * 64:=Nat.mul_le_mul_right _ hi
      omega
    have hcp:=Lib.run_copy_row_string (P:=Tryz.prog) W 75 9 3 5 L.S (i * 64) 64 64 s st.secs 150 Tryz.underlying75 size5 h2.sec (by omega) hfit
    have HF:Hid (One b0 w0 L (wroteM st p i s) v' oth (W.setRow L.S (setSec st.secs i s))):=h2.setS (setSec st.secs i s)
    have c3:=h2.dc.2.2.2.1
    have hns:st.n ≤ 9223372036854775807:=hnb
    clear hP hV h2
    rw [hs] at hcp
    change _ = Result.ok _ (W.setRow L.S (setSec st.secs i s)) at hcp
    generalize setSec st.secs i s = SS at *
    go_wp2
    go_returns
    exact ⟨rfl,v',HF.out⟩
  case hput=>
    repeat (refine ⟨fun f v=>rfl,?_⟩)
    trivial
  case step=>
    refine ⟨?_,?_⟩
    · intro done f W hP hdn hd K hK
      clear hd
      go_simp
      exact hK _ _ rfl (hP.pure _ (by decide) _)
    refine ⟨?_,?_⟩
    · intro done f W hP hdn hd K hK
      clear hd
      go_simp
      exact hK _ _ rfl (hP.pure _ (by decide) _)
    refine ⟨?_,?_⟩
    · intro done f W hP hdn hd K hK
      have d1:=(hd.1 rfl).2
      have e1:=(hd.1 rfl).1
      clear hd
      replace d1:f 1 = .pointer (some ⟨L.D,0,none⟩):=d1
      generalize f 1 = x1 at *
      subst d1
      clear e1
      go_simp
      exact hK _ _ rfl (hP.pure _ (by decide) _)
    refine ⟨?_,?_⟩
    · intro done f W hP hdn hd K hK
      have d2:=(hd.1 rfl).2
      have e2:=(hd.1 rfl).1
      clear hd
      replace d2:f 2 = .pointer (some ⟨L.D,0,none⟩):=d2
      generalize f 2 = x2 at *
      subst d2
      clear e2
      go_simp
      exact hK _ _ rfl (hP.pure _ (by decide) _)
    refine ⟨?_,?_⟩
    · intro done f W hP hdn hd K hK
      have d3:=(hd.1 rfl).2
      have e3:=(hd.1 rfl).1
      clear hd
      replace d3:f 3 = .pointer (some ⟨L.D,4,none⟩):=d3
      generalize f 3 = x3 at *
      subst d3
      clear e3
      have hdn4:done 4 = false:=hdn
      have hc4:=(hP.c4 (hP.o16 (hP.o4 hdn4))).1
      go_simp
      exact hK _ _ rfl (hP.pure4 _)
    refine ⟨?_,?_⟩
    · intro done f W hP hdn hd K hK
      clear hd
      go_simp
      exact hK _ _ rfl (hP.pure _ (by decide) _)
    refine ⟨?_,?_⟩
    · intro done f W hP hdn hd K hK
      clear hd
      go_simp
      exact hK _ _ rfl (hP.pure _ (by decide) _)
    refine ⟨?_,?_⟩
    · intro done f W hP hdn hd K hK
      clear hd
      go_simp
      exact hK _ _ rfl (hP.pure _ (by decide) _)
    refine ⟨?_,?_⟩
    · intro done f W hP hdn hd K hK
      have d7:=(hd.1 rfl).2
      have e7:=(hd.1 rfl).1
      clear hd
      replace d7:f 7 = .pointer (some ⟨L.D,0,none⟩):=d7
      generalize f 7 = x7 at *
      subst d7
      clear e7
      go_simp
      exact hK _ _ rfl (hP.pure _ (by decide) _)
    refine ⟨?_,?_⟩
    · intro done f W hP hdn hd K hK
      have d8:=(hd.1 rfl).2
      have e8:=(hd.1 rfl).1
      clear hd
      replace d8:f 8 = .pointer (some ⟨L.D,0,none⟩):=d8
      generalize f 8 = x8 at *
      subst d8
      clear e8
      go_simp
      exact hK _ _ rfl (hP.pure _ (by decide) _)
    refine ⟨?_,?_⟩
    · intro done f W hP hdn hd K hK
      have d9:=(hd.1 rfl).2
      have e9:=(hd.1 rfl).1
      clear hd
      replace d9:f 9 = .pointer (some ⟨L.D,3,none⟩):=d9
      generalize f 9 = x9 at *
      subst d9
      clear e9
      have hc3:=hP.c3
      go_simp
      exact hK _ _ rfl (hP.pure _ (by decide) _)
    refine ⟨?_,?_⟩
    · intro done f W hP hdn hd K hK
      clear hd
      go_simp
      exact hK _ _ rfl (hP.pure _ (by decide) _)
    refine ⟨?_,?_⟩
    · intro done f W hP hdn hd K hK
      have d10:=(hd.1 rfl).2
      have d11:=(hd.2.1 rfl).2
      have e10:=(hd.1 rfl).1
      have e11:=(hd.2.1 rfl).1
      clear hd
      replace d10:f 10 = .slice (some ⟨L.S,0,none⟩) st.n st.n:=d10
      replace d11:f 11 = .int .i64 (i:Nat):=d11
      generalize f 10 = x10 at *
      subst d10
      clear e10
      generalize f 11 = x11 at *
      subst d11
      clear e11
      go_simp
      exact hK _ _ rfl (hP.pure _ (by decide) _)
    refine ⟨?_,?_⟩
    · intro done f W hP hdn hd K hK
      have d12:=(hd.1 rfl).2
      have e12:=(hd.1 rfl).1
      clear hd
      replace d12:f 12 = .pointer (some ⟨L.S,i * 64,none⟩):=d12
      generalize f 12 = x12 at *
      subst d12
      clear e12
      rw [if_pos (by rfl)]
      refine wp_load_mid 150 (.tmp 31) rfl L.S (i * 64) rfl (secl st i) _ (sec_range hP.cS) Tryz.underlying150 rfl (by rw [size147,hsl]) ?_
      exact hK _ _ rfl (hP.pure _ (by decide) _)
    refine ⟨?_,?_⟩
    · intro done f W hP hdn hd K hK
      have d6:=(hd.1 rfl).2
      have d13:=(hd.2.1 rfl).2
      have e6:=(hd.1 rfl).1
      have e13:=(hd.2.1 rfl).1
      clear hd
      replace d6:f 6 = .int .i64 (i:Nat):=d6
      replace d13:f 13 = .agg (secl st i).toArray:=d13
      generalize f 6 = x6 at *
      subst d6
      clear e6
      generalize f 13 = x13 at *
      subst d13
      clear e13
      rw [if_pos (by rfl)]
      refine wp_build_run 152 #[(0,.tmp 25),(1,.tmp 32)] rfl _ (by simp [Act.eval]) (past_built (i:Nat) (secl st i).toArray (by simpa using hsl) W) ?_
      exact hK _ _ (by show Value.agg _ = Value.agg _; simp [ent]) (hP.pure _ (by decide) _)
    refine ⟨?_,?_⟩
    · intro done f W hP hdn hd K hK
      have d14:=(hd.1 rfl).2
      have e14:=(hd.1 rfl).1
      clear hd
      replace d14:f 14 = .agg (ent st i).toArray:=d14
      have hdn15:done 15 = false:=hdn
      have hsm:=hP.a hdn15
      generalize f 14 = x14 at *
      subst d14
      clear e14
      rw [if_pos (by rfl)]
      refine wp_buildSlice_run 93 1 #[(0,.tmp 33)] rfl _ (by simp [Act.eval]) (past_slice (ent st i) hel W) ?_
      exact hK _ _ (by show Value.slice _ _ _ = _; rw [hsm.heap]) (hP.laid hdn15 _)
    refine ⟨?_,?_⟩
    · intro done f W hP hdn hd K hK
      have d4:=(hd.1 rfl).2
      have d5:=(hd.2.1 rfl).2
      have d15:=(hd.2.2.1 rfl).2
      have e4:=(hd.1 rfl).1
      have e5:=(hd.2.1 rfl).1
      have e15:=(hd.2.2.1 rfl).1
      clear hd
      replace d4:f 4 = lv:=d4
      replace d5:f 5 = .int .i64 (p:Nat):=d5
      replace d15:f 15 = .slice (some ⟨w1.heap.size,0,none⟩) 1 1:=d15
      have hdn16:done 16 = false:=hdn
      have hsm:=hP.b e15 hdn16
      have q4:=e4
      generalize f 4 = x4 at *
      subst x4
      clear e4
      generalize f 5 = x5 at *
      subst d5
      clear e5
      generalize f 15 = x15 at *
      subst d15
      go_simp
      refine Calls.mono (pinsert_any b0 W lv st.ln p st.loose (ent st i) (own_same h hsm) hp hln w1.heap.size hel h1x (ent_one hs8) (ent_heap hsm) (own_fresh h) (ent_base h hsm)) ?_
      rintro e W' ⟨v',rfl,ho',hg'⟩
      exact hK _ _ trivial (hP.grown h hsm hdn16 e15 q4 ho' hg')
    refine ⟨?_,?_⟩
    · intro done f W hP hdn hd K hK
      have d0:=(hd.1 rfl).2
      have e0:=(hd.1 rfl).1
      clear hd
      replace d0:f 0 = .pointer (some ⟨L.D,0,none⟩):=d0
      generalize f 0 = x0 at *
      subst d0
      clear e0
      go_simp
      exact hK _ _ rfl (hP.pure _ (by decide) _)
    refine ⟨?_,?_⟩
    · intro done f W hP hdn hd K hK
      have d17:=(hd.1 rfl).2
      have e17:=(hd.1 rfl).1
      clear hd
      replace d17:f 17 = .pointer (some ⟨L.D,0,none⟩):=d17
      generalize f 17 = x17 at *
      subst d17
      clear e17
      go_simp
      exact hK _ _ rfl (hP.pure _ (by decide) _)
    refine ⟨?_,?_⟩
    · intro done f W hP hdn hd K hK
      have d18:=(hd.1 rfl).2
      have d16:=(hd.2.1 rfl).2
      have e18:=(hd.1 rfl).1
      have e16:=(hd.2.1 rfl).1
      clear hd
      replace d18:f 18 = .pointer (some ⟨L.D,4,none⟩):=d18
      have hdn19:done 19 = false:=hdn
      have hmid:=hP.c e16 hdn19
      obtain ⟨hc4,hf4⟩:=hP.c4 hdn19
      obtain ⟨ao,cp,hv16⟩:∃ ao cp,f 16 = .slice ao (st.ln + 1) cp:=by
        rcases hmid.1.2 with ⟨_,hq⟩ | ⟨g,cp,_,hq,_⟩
        · omega
        · exact ⟨_,cp,hq⟩
      have hst:=hP.stored h hmid e16 hv16
      generalize f 18 = x18 at *
      subst d18
      clear e18
      have hK2:=hK
      generalize f 16 = x16 at hv16 hK2 ⊢
      subst hv16
      go_simp
      exact hK2 undef _ trivial (hst undef)
    trivial
set_option maxRecDepth 100000 in
theorem One.dwriteF (h0:One b0 w0 L st lv oth w) (p i:Nat) (hi:i < st.n) (hs8:SecOk st) (hnb:st.n ≤ 9223372036854775807) (s:ByteArray) (hs:s.size = 64) (hse:Calls Tryz.prog 135 #[lv,.int .i64 (i:Nat),.func (.func 136) #[] #[]] w fun e w'=>e = .returned (.tuple #[.int .i64 (p:Nat),.bool true]) ∧ Below w.heap.size w w') :
    Calls Tryz.prog 107 #[.pointer (some ⟨L.D,0,none⟩),.int .i64 (i:Nat),.string s] w fun e w'=>e = .returned (.tuple #[]) ∧ One b0 w0 L (wroteF st i s) lv oth w':=by
  have d4:=h0.dc.2.2.2.2.1
  go_enter Tryz.func107,Tryz.ntmps107
  go_wp2_with fail
  go_call hse as e W ⟨rfl,hb⟩
  have h2:=h0.ofBelow hb
  clear hse hb h0 d4
  have hfit:i * 64 + s.size ≤ st.secs.size:=by
    rw [hs8.size,hs]
    have:(i + 1) * 64 ≤ st.n * 64:=Nat.mul_le_mul_right _ hi
    omega
  have hcp:=Lib.run_copy_row_string (P:=Tryz.prog) W 75 9 3 5 L.S (i * 64) 64 64 s st.secs 150 Tryz.underlying75 size5 h2.sec (by omega) hfit
  have HF:Hid (One b0 w0 L (wroteF st i s) lv oth (W.setRow L.S (setSec st.secs i s))):=h2.setS (setSec st.secs i s)
  have c3:=h2.dc.2.2.2.1
  have hns:st.n ≤ 9223372036854775807:=hnb
  clear h2
  rw [hs] at hcp
  change _ = Result.ok _ (W.setRow L.S (setSec st.secs i s)) at hcp
  generalize setSec st.secs i s = SS at *
  go_wp2
  go_returns
  exact ⟨rfl,HF.out⟩
end
end Go.Proofs.YtncfbocbigdhiaaGreat.F
/- What a device is, as plain data: what each sector is now, and what it was when it last was sure; behind a write, a flush, a crash. -/
namespace Go.Proofs.YtncfbocbigdhiaaGreat.F
set_option maxRecDepth 100000
open Go.RowKit
theorem insL_get {st:St} {p i:Nat} (hl:st.loose.length = st.ln * 65) (hp:p ≤ st.ln) (he:(ent st i).length = 65) (m:Nat) :
    (insL st p i)[m]? = if m < p * 65 then st.loose[m]? else if m < p * 65 + 65 then (ent st i)[m - p * 65]? else st.loose[m - 65]?:=by
  have hpl:p * 65 ≤ st.ln * 65:=Nat.mul_le_mul_right _ hp
  unfold insL
  rw [List.append_assoc]
  have e1:(st.loose.take (p * 65)).length = p * 65:=by rw [List.length_take]; omega
  by_cases h1:m < p * 65
  · rw [if_pos h1,List.getElem?_append_left (by omega),List.getElem?_take_of_lt h1]
  · rw [if_neg h1,List.getElem?_append_right (by omega),e1]
    by_cases h2:m < p * 65 + 65
    · rw [if_pos h2,List.getElem?_append_left (by omega)]
    · rw [if_neg h2,List.getElem?_append_right (by omega),List.getElem?_drop,he]; congr 1; omega
theorem insL_len {st:St} {p i:Nat} (hl:st.loose.length = st.ln * 65) (hp:p ≤ st.ln) (he:(ent st i).length = 65):(insL st p i).length = (st.ln + 1) * 65:=by
  have hpl:p * 65 ≤ st.ln * 65:=Nat.mul_le_mul_right _ hp
  unfold insL
  rw [List.length_append,List.length_append,List.length_take,List.length_drop,he,hl]; omega
theorem insL_lent {st:St} {p i:Nat} (hl:st.loose.length = st.ln * 65) (hp:p ≤ st.ln) (he:(ent st i).length = 65) (k:Nat) :
    ((insL st p i).drop (k * 65)).take 65 = if k < p then lent st k else if k = p then ent st i else lent st (k - 1):=by
  apply List.ext_getElem?
  intro m
  by_cases hm:m < 65
  · rw [List.getElem?_take_of_lt hm,List.getElem?_drop,insL_get hl hp he]
    by_cases h1:k < p
    · have:(k + 1) * 65 ≤ p * 65:=Nat.mul_le_mul_right _ h1
      rw [if_pos (by omega),if_pos h1]
      unfold lent
      rw [List.getElem?_take_of_lt hm,List.getElem?_drop]
    · rw [if_neg h1]
      by_cases h2:k = p
      · subst h2
        rw [if_neg (by omega),if_pos (by omega),if_pos rfl]; congr 1; omega
      · have:(p + 1) * 65 ≤ k * 65:=Nat.mul_le_mul_right _ (by omega)
        rw [if_neg (by omega),if_neg (by omega),if_neg h2]
        unfold lent
        rw [List.getElem?_take_of_lt hm,List.getElem?_drop]; congr 1; omega
  · rw [List.getElem?_take_eq_none (by omega)]
    symm
    split
    · unfold lent; rw [List.getElem?_take_eq_none (by omega)]
    · split
      · exact List.getElem?_eq_none (by omega)
      · unfold lent; rw [List.getElem?_take_eq_none (by omega)]
theorem secl_rd {st:St} {i:Nat} (h:SecOk st):secl st i = Lib.byteCells (rd st i).data.toList:=by
  show secl st i = Lib.byteCells ((secl st i).map byteOf)
  unfold Lib.byteCells
  rw [List.map_map]
  conv=>lhs; rw [← List.map_id (secl st i)]
  apply List.map_congr_left
  intro u hu
  obtain ⟨b,rfl⟩:=h.bytes u (List.mem_of_mem_drop (List.mem_of_mem_take hu))
  show (.int .u8 (b.toNat:Nat):Value) = .int .u8 ((byteOf (.int .u8 (b.toNat:Nat))).toNat:Nat)
  rw [byteOf_byte]
structure Dv (st:St) (ats:Nat → Nat) (now sure:Nat → ByteArray):Prop where
  ok:SecOk st
  lis:LIs st ats
  rise:∀ j k,j < k → k < st.ln → ats j < ats k
  nw:∀ i,i < st.n → rd st i = now i
  was:∀ k,k < st.ln → lwas st k = Lib.byteCells (sure (ats k)).data.toList
  sr:∀ i,i < st.n → (∀ k,k < st.ln → ats k ≠ i) → sure i = now i
  sz:∀ i,i < st.n → (sure i).size = 64
def updS (f:Nat → ByteArray) (i:Nat) (s:ByteArray):Nat → ByteArray:=fun k=>if k = i then s else f k
theorem Dv.few {st:St} {ats:Nat → Nat} {now sure:Nat → ByteArray} (h:Dv st ats now sure):st.ln ≤ st.n:=by
  have hk:∀ k,k < st.ln → k ≤ ats k:=by
    intro k
    induction k with
    | zero=>intro _; omega
    | succ k ih=>intro hk; have:=ih (by omega); have:=h.rise k (k + 1) (by omega) hk; omega
  rcases Nat.eq_zero_or_pos st.ln with h0 | h0
  · omega
  · have:=hk (st.ln - 1) (by omega); have:=h.lis.lt (st.ln - 1) (by omega); omega
theorem Dv.place {st:St} {ats:Nat → Nat} {now sure:Nat → ByteArray} (h:Dv st ats now sure) (i:Nat):∃ p,p ≤ st.ln ∧ (∀ j,j < p → ats j < i) ∧ (∀ j,p ≤ j → j < st.ln → i ≤ ats j):=by
  have:∀ m,m ≤ st.ln → ∃ p,p ≤ m ∧ (∀ j,j < p → ats j < i) ∧ (∀ j,p ≤ j → j < m → i ≤ ats j):=by
    intro m
    induction m with
    | zero=>intro _; exact ⟨0,by omega,fun j hj=>by omega,fun j _ hj=>by omega⟩
    | succ m ih=>
      intro hm
      obtain ⟨p,h1,h2,h3⟩:=ih (by omega)
      rcases Nat.lt_or_ge p m with hpm | hpm
      · refine ⟨p,by omega,h2,fun j hj hjm=>?_⟩
        rcases Nat.lt_or_ge j m with hjm2 | hjm2
        · exact h3 j hj hjm2
        · obtain rfl:j = m:=by omega
          have:=h3 p (Nat.le_refl _) hpm
          have:=h.rise p j hpm (by omega)
          omega
      · obtain rfl:p = m:=by omega
        rcases Nat.lt_or_ge (ats p) i with h4 | h4
        · refine ⟨p + 1,by omega,fun j hj=>?_,fun j hj hjm=>by omega⟩
          rcases Nat.lt_or_ge j p with h5 | h5
          · exact h2 j h5
          · obtain rfl:j = p:=by omega
            exact h4
        · exact ⟨p, by omega, h2, fun j hj hjm => by obtain rfl : j = p := by omega
                                                     exact h4⟩
  exact this st.ln (Nat.le_refl _)
theorem One.psearch_dv {b0:Nat} {w0:World} {L:Loc} {st:St} {lv:Value} {oth:List (Nat × Obj)} {w:World} {ats:Nat → Nat} (h:One b0 w0 L st lv oth w) (hl:LIs st ats) (i p:Nat) (hp:p ≤ st.ln) (h1:∀ j,j < p → ats j < i) (h2:∀ j,p ≤ j → j < st.ln → i ≤ ats j) :
    Calls Tryz.prog 135 #[lv,.int .i64 (i:Nat),.func (.func 136) #[] #[]] w fun e w'=>e = .returned (.tuple #[.int .i64 (p:Nat),.bool (decide (p < st.ln ∧ ats p = i))]) ∧ Below w.heap.size w w':=by
  rcases h.own.2 with ⟨rfl,h0⟩ | ⟨g,cap,cur,rfl,hb,hg,hn,hm,hsz,htk⟩
  · obtain rfl:p = 0:=by omega
    refine (psearch_nil i w).mono ?_
    rintro e w' ⟨rfl,rfl⟩
    refine ⟨?_,Below.refl _ _⟩
    rw [decide_eq_false (by omega)]; rfl
  · refine (psearch_any g cap st.ln (fun j=>(ats j:Int)) (fun j=>lent st j) i p hp hl.few w ⟨fun j hj=>lent_length hl j hj,fun j hj=>lent_zero hl j hj,fun j hj=>h.lrange hl rfl j hj,getElem?_lt hg⟩ (fun j hj=>by have:=h1 j hj; omega) (fun j hj hjn=>by have:=h2 j hj hjn; omega)).mono ?_
    rintro e w' ⟨rfl,hb2⟩
    refine ⟨?_,hb2⟩
    have:(decide (p < st.ln ∧ ((ats p:Nat):Int) = (i:Nat))) = decide (p < st.ln ∧ ats p = i):=by
      congr 1; apply propext; constructor
      · rintro ⟨a,b⟩; exact ⟨a,by omega⟩
      · rintro ⟨a,b⟩; exact ⟨a,by omega⟩
    rw [this]
theorem Dv.found {st:St} {ats:Nat → Nat} {now sure:Nat → ByteArray} (h:Dv st ats now sure) (p i:Nat) (hi:i < st.n) (hp:p < st.ln) (hpi:ats p = i) (s:ByteArray) (hs:s.size = 64):Dv (wroteF st i s) ats (updS now i s) sure:=by
  have hok:SecOk (wroteF st i s):=by
    have:=h.ok.wrote hi s hs
    exact ⟨this.size,this.bytes⟩
  refine ⟨hok,⟨h.lis.len,h.lis.few,h.lis.at0,h.lis.lt,h.lis.one⟩,h.rise,fun j hj=>?_,h.was,fun j hj hne=>?_,h.sz⟩
  · unfold updS
    by_cases e:j = i
    · subst e; rw [if_pos rfl]; exact rd_wrote st j s h.ok hi hs
    · rw [if_neg e,← h.nw j hj]; exact rd_other st i j s h.ok hi hj e hs
  · unfold updS
    rw [if_neg (fun e=>hne p hp (by rw [hpi,e]))]
    exact h.sr j hj hne
def insA (ats:Nat → Nat) (p i:Nat):Nat → Nat:=fun k=>if k < p then ats k else if k = p then i else ats (k - 1)
theorem Dv.put {st:St} {ats:Nat → Nat} {now sure:Nat → ByteArray} (h:Dv st ats now sure) (p i:Nat) (hi:i < st.n) (hn:st.n ≤ 4096) (hp:p ≤ st.ln) (h1:∀ j,j < p → ats j < i) (h2:∀ j,p ≤ j → j < st.ln → i ≤ ats j) (hno:¬ (p < st.ln ∧ ats p = i)) (s:ByteArray) (hs:s.size = 64) :
    Dv (wroteM st p i s) (insA ats p i) (updS now i s) sure:=by
  have hw:=h.ok.wrote hi s hs
  have hel:(ent st i).length = 65:=by unfold ent; rw [List.length_cons,sec_length h.ok hi]
  have h3:∀ j,p ≤ j → j < st.ln → i < ats j:=fun j hj hjl=>by
    have:=h2 j hj hjl
    rcases Nat.eq_or_lt_of_le this with e | e
    · exfalso
      rcases Nat.eq_or_lt_of_le hj with rfl | hlt
      · exact hno ⟨hjl,e.symm⟩
      · have:=h.rise p j hlt hjl; have:=h2 p (Nat.le_refl _) (by omega); omega
    · exact e
  have hni:∀ k,k < st.ln → ats k ≠ i:=fun k hk e=>by
    rcases Nat.lt_or_ge k p with h4 | h4
    · have:=h1 k h4; omega
    · have:=h3 k h4 hk; omega
  have hfew:=h.few
  refine ⟨⟨hw.size,hw.bytes⟩,⟨insL_len h.lis.len hp hel,?_,fun k hk=>?_,fun k hk=>?_,fun u hu=>?_⟩,fun j k hjk hk=>?_,fun j hj=>?_,fun k hk=>?_,fun j hj hne=>?_,h.sz⟩
  · show st.ln + 1 ≤ 5000; omega
  · have hk':k < st.ln + 1:=hk
    show (insL st p i)[k * 65]? = some (.int .i64 (insA ats p i k:Nat))
    have:=congrArg (·[0]?) (insL_lent (i:=i) h.lis.len hp hel k)
    simp only [List.getElem?_take_of_lt (by decide:0 < 65),List.getElem?_drop,Nat.add_zero] at this
    rw [this]
    unfold insA
    by_cases a:k < p
    · rw [if_pos a,if_pos a]; exact lent_zero h.lis k (by omega)
    · rw [if_neg a,if_neg a]
      by_cases b:k = p
      · rw [if_pos b,if_pos b]; rfl
      · rw [if_neg b,if_neg b]; exact lent_zero h.lis (k - 1) (by omega)
  · have hk':k < st.ln + 1:=hk
    show insA ats p i k < st.n
    unfold insA
    split
    · exact h.lis.lt k (by omega)
    · split
      · exact hi
      · exact h.lis.lt (k - 1) (by omega)
  · have hu':u ∈ st.loose.take (p * 65) ++ ent st i ++ st.loose.drop (p * 65):=hu
    rcases List.mem_append.1 hu' with hu1 | hu1
    · rcases List.mem_append.1 hu1 with hu2 | hu2
      · exact h.lis.one u (List.mem_of_mem_take hu2)
      · exact ent_one h.ok u hu2
    · exact h.lis.one u (List.mem_of_mem_drop hu1)
  · have hk':k < st.ln + 1:=hk
    unfold insA
    by_cases a:k < p
    · rw [if_pos a,if_pos (by omega)]; exact h.rise j k hjk (by omega)
    · rw [if_neg a]
      by_cases b:k = p
      · rw [if_pos b,if_pos (by omega)]; exact h1 j (by omega)
      · rw [if_neg b]
        by_cases c:j < p
        · rw [if_pos c]; have:=h1 j c; have:=h3 (k - 1) (by omega) (by omega); omega
        · rw [if_neg c]
          by_cases d:j = p
          · rw [if_pos d]; exact h3 (k - 1) (by omega) (by omega)
          · rw [if_neg d]; exact h.rise (j - 1) (k - 1) (by omega) (by omega)
  · unfold updS
    by_cases e:j = i
    · subst e; rw [if_pos rfl]; exact rd_wrote st j s h.ok hi hs
    · rw [if_neg e,← h.nw j hj]; exact rd_other st i j s h.ok hi hj e hs
  · have hk':k < st.ln + 1:=hk
    show (((insL st p i).drop (k * 65)).take 65).drop 1 = _
    rw [insL_lent h.lis.len hp hel k]
    unfold insA
    by_cases a:k < p
    · rw [if_pos a,if_pos a]; exact h.was k (by omega)
    · rw [if_neg a,if_neg a]
      by_cases b:k = p
      · rw [if_pos b,if_pos b,h.sr i hi hni,← h.nw i hi,← secl_rd h.ok]; rfl
      · rw [if_neg b,if_neg b]; exact h.was (k - 1) (by omega)
  · have hji:j ≠ i:=fun e=>hne p (by show p < st.ln + 1; omega) (by unfold insA; rw [if_neg (by omega),if_pos rfl,e])
    unfold updS
    rw [if_neg hji]
    refine h.sr j hj (fun k hk e=>?_)
    rcases Nat.lt_or_ge k p with h4 | h4
    · exact hne k (by show k < st.ln + 1; omega) (by unfold insA; rw [if_pos h4]; exact e)
    · exact hne (k + 1) (by show k + 1 < st.ln + 1; omega) (by unfold insA; rw [if_neg (by omega),if_neg (by omega)]; exact e)
end Go.Proofs.YtncfbocbigdhiaaGreat.F
/- Write, Flush, Crash and Detach of a pool of one device, in the words of what its sectors are. -/
namespace Go.Proofs.YtncfbocbigdhiaaGreat.F
set_option maxRecDepth 100000
open Go.RowKit
def secA (X:Array Value) (i:Nat):List Value:=(X.toList.drop (i * 64)).take 64
theorem secA_same (X:Array Value) (a:Nat) (c:List Value) (hc:c.length = 64) (h:a * 64 + 64 ≤ X.size):secA (setL X a c) a = c:=by
  show ((X.toList.take (a * 64) ++ c ++ X.toList.drop (a * 64 + c.length)).drop (a * 64)).take 64 = c
  have hl:X.toList.length = X.size:=by simp
  rw [List.append_assoc,List.drop_left' (by rw [List.length_take,hl]; omega),List.take_left' hc]
theorem secA_other (X:Array Value) (a j:Nat) (c:List Value) (hc:c.length = 64) (h:a * 64 + 64 ≤ X.size) (hij:¬ j = a):secA (setL X a c) j = secA X j:=by
  show ((X.toList.take (a * 64) ++ c ++ X.toList.drop (a * 64 + c.length)).drop (j * 64)).take 64 = (X.toList.drop (j * 64)).take 64
  have hl:X.toList.length = X.size:=by simp
  generalize X.toList = l at *
  apply List.ext_getElem?
  intro m
  by_cases hm64:m < 64
  · rw [List.getElem?_take_of_lt hm64,List.getElem?_take_of_lt hm64,List.getElem?_drop,List.getElem?_drop]
    rcases Nat.lt_or_gt_of_ne hij with hlt | hgt
    · have:(j + 1) * 64 ≤ a * 64:=Nat.mul_le_mul_right _ hlt
      rw [List.append_assoc,List.getElem?_append_left (by rw [List.length_take,hl]; omega),List.getElem?_take_of_lt (by omega)]
    · have:(a + 1) * 64 ≤ j * 64:=Nat.mul_le_mul_right _ hgt
      rw [List.getElem?_append_right (by rw [List.length_append,List.length_take,hl,hc]; omega),List.getElem?_drop]
      congr 1
      rw [List.length_append,List.length_take,hl,hc]; omega
  · rw [List.getElem?_take_eq_none (by omega),List.getElem?_take_eq_none (by omega)]
theorem secsK_dv {st:St} {ats:Nat → Nat} {now sure:Nat → ByteArray} (h:Dv st ats now sure) (N:Nat) (ch:Nat → Int):∀ K,K ≤ st.ln →
    (∀ u ∈ (secsK st ats N ch K).toList,∃ b:UInt8,u = .int .u8 (b.toNat:Nat)) ∧
    ∀ i,i < st.n → secA (secsK st ats N ch K) i = secl st i ∨ ∃ k,k < K ∧ ats k = i ∧ secA (secsK st ats N ch K) i = lwas st k
  | 0,_=>⟨h.ok.bytes,fun i _=>Or.inl rfl⟩
  | K + 1,hK=>by
    obtain ⟨ih1,ih2⟩:=secsK_dv h N ch K (by omega)
    have hsz:=secsK_size h.lis h.ok.size N ch K (by omega)
    have hw:=lwas_length h.lis K (by omega)
    have hlt:=h.lis.lt K (by omega)
    have hm:(ats K + 1) * 64 ≤ st.n * 64:=Nat.mul_le_mul_right _ hlt
    show (∀ u ∈ (if stays N ch K then secsK st ats N ch K else setL (secsK st ats N ch K) (ats K) (lwas st K)).toList,_) ∧ ∀ i,i < st.n → secA (if stays N ch K then secsK st ats N ch K else setL (secsK st ats N ch K) (ats K) (lwas st K)) i = _ ∨ ∃ k,k < K + 1 ∧ ats k = i ∧ secA (if stays N ch K then secsK st ats N ch K else setL (secsK st ats N ch K) (ats K) (lwas st K)) i = _
    split
    · refine ⟨ih1,fun i hi=>?_⟩
      rcases ih2 i hi with e | ⟨k,a,b,c⟩
      · exact Or.inl e
      · exact Or.inr ⟨k,by omega,b,c⟩
    · refine ⟨fun u hu=>?_,fun i hi=>?_⟩
      · have hu':u ∈ (secsK st ats N ch K).toList.take (ats K * 64) ++ lwas st K ++ (secsK st ats N ch K).toList.drop (ats K * 64 + (lwas st K).length):=hu
        rcases List.mem_append.1 hu' with h1 | h1
        · rcases List.mem_append.1 h1 with h2 | h2
          · exact ih1 u (List.mem_of_mem_take h2)
          · rw [h.was K (by omega)] at h2
            unfold Lib.byteCells at h2
            obtain ⟨b,_,rfl⟩:=List.mem_map.1 h2
            exact ⟨b,rfl⟩
        · exact ih1 u (List.mem_of_mem_drop h1)
      · by_cases e:i = ats K
        · right
          refine ⟨K,by omega,e.symm,?_⟩
          rw [e]; exact secA_same _ _ _ hw (by omega)
        · rw [secA_other _ _ _ _ hw (by omega) e]
          rcases ih2 i hi with e | ⟨k,a,b,c⟩
          · exact Or.inl e
          · exact Or.inr ⟨k,by omega,b,c⟩
theorem bytes_back (l:List UInt8):(Lib.byteCells l).map byteOf = l:=by
  unfold Lib.byteCells
  rw [List.map_map]
  conv=>rhs; rw [← List.map_id l]
  apply List.map_congr_left
  intro b _
  exact byteOf_byte b
theorem Dv.settled {st:St} {ats:Nat → Nat} {now sure:Nat → ByteArray} (h:Dv st ats now sure) (N:Nat) (ch:Nat → Int) (st2:St) (e1:st2.secs = secsK st ats N ch st.ln) (e2:st2.ln = 0) (e3:st2.loose = []) (e4:st2.n = st.n) :
    ∃ now',(∀ i,i < st.n → now' i = now i ∨ now' i = sure i) ∧ Dv st2 ats now' now':=by
  obtain ⟨k1,k2⟩:=secsK_dv h N ch st.ln (Nat.le_refl _)
  have hok:SecOk st2:=⟨by rw [e1,e4]; exact secsK_size h.lis h.ok.size N ch st.ln (Nat.le_refl _),by rw [e1]; exact k1⟩
  have hrd:∀ i,i < st.n → rd st2 i = now i ∨ rd st2 i = sure i:=by
    intro i hi
    have hse:secl st2 i = secA (secsK st ats N ch st.ln) i:=by show secA st2.secs i = _; rw [e1]
    rcases k2 i hi with e | ⟨k,a,b,c⟩
    · left
      rw [← h.nw i hi]
      unfold rd rdB
      rw [hse,e]
    · right
      unfold rd rdB
      rw [hse,c,h.was k a,b,bytes_back]
  refine ⟨fun i=>rd st2 i,hrd,hok,⟨by rw [e2,e3]; rfl,by omega,fun k hk=>by omega,fun k hk=>by omega,fun u hu=>by rw [e3] at hu; cases hu⟩,fun j k _ hk=>by omega,fun i _=>rfl,fun k hk=>by omega,fun i _ _=>rfl,fun i hi=>?_⟩
  show (rdB st2 i).toArray.size = 64
  rw [List.size_toArray]
  unfold rdB
  rw [List.length_map,sec_length hok hi]
theorem Dv.same {st st2:St} {ats:Nat → Nat} {now sure:Nat → ByteArray} (h:Dv st ats now sure) (e1:st2.secs = st.secs) (e2:st2.ln = st.ln) (e3:st2.loose = st.loose) (e4:st2.n = st.n):Dv st2 ats now sure:=by
  cases st; cases st2
  simp only at e1 e2 e3 e4
  subst e1 e2 e3 e4
  exact ⟨⟨h.ok.size,h.ok.bytes⟩,⟨h.lis.len,h.lis.few,h.lis.at0,h.lis.lt,h.lis.one⟩,h.rise,h.nw,h.was,h.sr,h.sz⟩
theorem Dv.flushed {st st2:St} {ats:Nat → Nat} {now sure:Nat → ByteArray} (h:Dv st ats now sure) (e1:st2.secs = st.secs) (e2:st2.ln = 0) (e3:st2.loose = []) (e4:st2.n = st.n):Dv st2 ats now now:=by
  have hok:SecOk st2:=⟨by rw [e1,e4]; exact h.ok.size,by rw [e1]; exact h.ok.bytes⟩
  have hrd:∀ i,rd st2 i = rd st i:=fun i=>by unfold rd rdB secl; rw [e1]
  refine ⟨hok,⟨by rw [e2,e3]; rfl,by omega,fun k hk=>by omega,fun k hk=>by omega,fun u hu=>by rw [e3] at hu; cases hu⟩,fun j k _ hk=>by omega,fun i hi=>?_,fun k hk=>by omega,fun i _ _=>rfl,fun i hi=>?_⟩
  · rw [hrd]; exact h.nw i (by omega)
  · rw [← h.nw i (by omega),← hrd]
    show (rdB st2 i).toArray.size = 64
    rw [List.size_toArray]
    unfold rdB
    rw [List.length_map,sec_length hok hi]
structure Kept (st st2:St):Prop where
  serial:st2.serial = st.serial
  session:st2.session = st.session
  there:st2.there = st.there
  n:st2.n = st.n
  aw:st2.aw = st.aw
  al:st2.al = st.al
  ad:st2.ad = st.ad
  hw:st2.hw = st.hw
  hl:st2.hl = st.hl
  down:st2.down = st.down
section
variable {b0:Nat} {w0:World} {L:Loc} {st:St} {lv:Value} {oth:List (Nat × Obj)} {w:World}
end
end Go.Proofs.YtncfbocbigdhiaaGreat.F
/- Crash in the words of what sectors are; a new device. -/
namespace Go.Proofs.YtncfbocbigdhiaaGreat.F
open Go.RowKit
section
variable {b0:Nat} {w0:World} {L:Loc} {st:St} {lv:Value} {oth:List (Nat × Obj)} {w:World}
theorem One.crash_dv (h:One b0 w0 L st lv oth w) {ats:Nat → Nat} {now sure:Nat → ByteArray} (hd:Dv st ats now sure) (ht:st.there = true) (hn:st.n ≤ 4096) (hq:0 ≤ st.session ∧ st.session ≤ 1000000) (K o N:Nat) (c:Value) (ch:Nat → Int) (hc:ChL K o N 0 c)
    (hch:∀ W,Below b0 w0 W → ∀ j,j < N → W.cell? ⟨K,o + j,none⟩ = some (.int .i64 (ch j))) :
    Calls Tryz.prog 25 #[.pointer (some ⟨L.P,0,none⟩),c] w fun e w'=>e = .returned (.tuple #[]) ∧ ∃ st2 now',One b0 w0 L st2 (.slice none 0 0) oth w' ∧ Dv st2 ats now' now' ∧ (∀ i,i < st.n → now' i = now i ∨ now' i = sure i) ∧
      st2.serial = st.serial ∧ st2.session = st.session + 1 ∧ st2.there = true ∧ st2.n = st.n ∧ st2.aw = false ∧ st2.hw = false ∧ st2.down = false ∧ st2.count = st.count ∧ st2.ln = 0:=by
  have hset:=h.settle_any ats hd.lis hd.ok.size (by omega) K o N c ch hc (fun W st' lv' hW j hj=>hch W hW.below j hj)
  refine (h.crash_t c { st with secs:=secsK st ats N ch st.ln,ln:=0,loose:=[] } ht hq (hset.mono ?_)).mono ?_
  · rintro e w' ⟨c',rfl,_,h1⟩
    exact ⟨⟨c',rfl⟩,h1⟩
  · rintro e w' ⟨rfl,h1⟩
    obtain ⟨now',k1,k2⟩:=hd.settled N ch { ({ st with secs:=secsK st ats N ch st.ln,ln:=0,loose:=[] }:St) with aw:=false,al:=0,session:=st.session + 1,hw:=false,hl:=0,down:=false } rfl rfl rfl rfl
    exact ⟨rfl,_,now',h1,k2,k1,rfl,rfl,ht,rfl,rfl,rfl,rfl,rfl,rfl⟩
end
theorem dv0 (s:Int) (n:Nat):Dv (st0 s n) (fun _=>0) (fun _=>pad ⟨#[]⟩) (fun _=>pad ⟨#[]⟩):=by
  refine ⟨st0_ok s n,⟨rfl,Nat.zero_le _,fun k hk=>absurd hk (Nat.not_lt_zero _),fun k hk=>absurd hk (Nat.not_lt_zero _),fun u hu=>by cases hu⟩,fun j k _ hk=>absurd hk (Nat.not_lt_zero _),fun i hi=>?_,fun k hk=>absurd hk (Nat.not_lt_zero _),fun _ _ _=>rfl,fun i hi=>pad_size _ (by decide)⟩
  have hi':i < n:=hi
  have hsec:secl (st0 s n) i = List.replicate 64 (.int .u8 0):=by
    show ((secs0 n).toList.drop (i * 64)).take 64 = _
    unfold secs0
    rw [Array.toList_replicate,List.drop_replicate,List.take_replicate]
    congr 1
    have:(i + 1) * 64 ≤ n * 64:=Nat.mul_le_mul_right _ hi'
    omega
  unfold rd rdB
  rw [hsec,← byteCells_rep,bytes_back]
  rfl
end Go.Proofs.YtncfbocbigdhiaaGreat.F
