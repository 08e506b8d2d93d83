/- Texts of this seat, one behind the other: FA, FB, FC, FD, FE, FG, FH. -/
import Derived.Test.YtncfbocbigdhiaaGreatRows
import Derived.WalkKit
import Derived.WalkSpells
import Derived.WalkLawsBesides
import Derived.Handy
import Derived.Defers
import Derived.Recover
import Derived.Laws.MakeOwn
import Derived.Laws.OwnMore
import Derived.BigQuiet
/- Contracts on flash: where a device stands among the devices, as calls. -/
namespace Go.Proofs.YtncfbocbigdhiaaGreat.F
set_option maxRecDepth 100000
set_option maxRecDepth 100000
open Go.RowKit
def sg (x y:Int):Int:=if x < y then -1 else if x > y then 1 else 0
theorem nan_any (x:Int) (w:World):Calls Tryz.prog 146 #[.int .i64 x] w fun e w'=>e = .returned (.bool false) ∧ w' = w:=by
  go_enter Tryz.func146,Tryz.ntmps146
  go_wp2
  go_returns
  exact ⟨rfl,rfl⟩
theorem cmp_any (x y:Int) (w:World):Calls Tryz.prog 124 #[.int .i64 x,.int .i64 y] w fun e w'=>e = .returned (.int .i64 (sg x y)) ∧ w' = w:=by
  go_enter Tryz.func124,Tryz.ntmps124
  go_wp2_with fail
  go_call (nan_any x w) as e w1 ⟨rfl,rfl⟩
  go_wp2_with fail
  go_call (nan_any y w1) as e w2 ⟨rfl,rfl⟩
  by_cases h1:x < y
  · go_wp2
    go_returns
    exact ⟨by simp [sg,h1],rfl⟩
  · by_cases h2:y < x
    · go_wp2
      go_returns
      exact ⟨by simp [sg,h1,h2],rfl⟩
    · go_wp2
      go_returns
      exact ⟨by unfold sg; rw [if_neg (by omega),if_neg (by omega)]; rfl,rfl⟩
theorem less_any (D:Nat) (s t:Int) (w:World) (h:w.cell? ⟨D,0,none⟩ = some (.int .i64 s)) :
    Calls Tryz.prog 123 #[.pointer (some ⟨D,0,none⟩),.int .i64 t] w fun e w'=>e = .returned (.int .i64 (sg s t)) ∧ w' = w:=by
  go_enter Tryz.func123,Tryz.ntmps123
  go_wp2_with fail
  go_call (cmp_any s t w) as e w1 ⟨rfl,rfl⟩
  go_wp2
  go_returns
  exact ⟨rfl,rfl⟩
theorem enter_of {f : FuncId} {fn : Func} (hf : Tryz.prog.funcs[f]? = some fn) (hname : (fn.name == "runtime.NumGoroutine") = false) (hb : fn.body.isNone = false) (args : Array Value) (W : World) : (callFunc f args).run Tryz.prog W = .ok (.enter f args) W := by
  have h1 : fn.name ≠ "runtime.NumGoroutine" := by simpa using hname
  simp [callFunc,hf,h1]
  intro h; rw [h] at hb; cases hb
theorem ent101 (args:Array Value) (W:World):(callFunc 123 args).run Tryz.prog W = .ok (.enter 123 args) W:=enter_of Tryz.func123 (by kernel_rfl) (by kernel_rfl) args W
theorem search_nil (cap:Nat) (t:Int) (w:World) :
    Calls Tryz.prog 122 #[.slice none 0 cap,.int .i64 t,.func (.func 123) #[] #[]] w fun e w'=>e = .returned (.tuple #[.int .i64 0,.bool false]) ∧ w' = w:=by
  go_enter Tryz.func122,Tryz.ntmps122
  go_wp2
  go_loop [9,10] (fun lo hi=>lo = .int .i64 0 ∧ hi = .int .i64 0) (fun _ _=>0)
  case atStart=>exact ⟨rfl,rfl⟩
  case round=>
    obtain ⟨rfl,rfl⟩:=hrel
    go_wp2
    go_returns
    exact ⟨rfl,rfl⟩
theorem search_any (R cap n:Nat) (ds:Nat → Nat) (ss:Nat → Int) (t:Int) (i:Nat) (hi:i ≤ n) (hn:n ≤ 1000) (w:World)
    (hrow:∀ j,j < n → w.cell? ⟨R,j,none⟩ = some (.pointer (some ⟨ds j,0,none⟩))) (hser:∀ j,j < n → w.cell? ⟨ds j,0,none⟩ = some (.int .i64 (ss j)))
    (h1:∀ j,j < i → ss j < t) (h2:∀ j,i ≤ j → j < n → t ≤ ss j) :
    Calls Tryz.prog 122 #[.slice (some ⟨R,0,none⟩) n cap,.int .i64 t,.func (.func 123) #[] #[]] w fun e w'=>e = .returned (.tuple #[.int .i64 (i:Nat),.bool (decide (i < n ∧ ss i = t))]) ∧ w' = w:=by
  obtain ⟨r,hr⟩:∃ r,r = decide (i < n ∧ ss i = t):=⟨_,rfl⟩
  rw [← hr]
  have HR:Hid (r = decide (i < n ∧ ss i = t)):=hr
  clear hr
  go_enter Tryz.func122,Tryz.ntmps122
  go_wp2
  go_loop [9,10] (fun lo hi=>∃ a b:Nat,lo = .int .i64 (a:Nat) ∧ hi = .int .i64 (b:Nat) ∧ a ≤ i ∧ i ≤ b ∧ b ≤ n) (fun lo hi=>(intOf hi).toNat - (intOf lo).toNat)
  case atStart=>exact ⟨0,n,rfl,rfl,by omega,by omega,by omega⟩
  case round=>
    obtain ⟨a,b,rfl,rfl,ha,hb,hbn⟩:=hrel
    by_cases hab:a < b
    · obtain ⟨m,hm⟩:∃ m,m = (a + b) / 2:=⟨_,rfl⟩
      have hmn:m < n:=by omega
      have hma:a ≤ m:=by omega
      have hmb:m < b:=by omega
      have c1:=hrow m hmn
      have c2:=hser m hmn
      have hl:=less_any (ds m) (ss m) t w c2
      by_cases hmi:m < i
      · have hs:sg (ss m) t = -1:=by unfold sg; rw [if_pos (h1 m hmi)]
        rw [hs] at hl
        have hmz:((a:Int) + (b:Int)) / 2 = (m:Int):=by omega
        have hent:=ent101
        clear hrow hser h1 h2 hs hm
        go_wp2_with fail
        go_call hl as e w1 ⟨rfl,rfl⟩
        go_wp2
        go_round
        case rel=>exact ⟨m + 1,b,rfl,rfl,by omega,by omega,by omega⟩
        case measure=>simp only [intOf]; omega
      · have hs:¬ sg (ss m) t < 0:=by
          have:=h2 m (by omega) hmn
          unfold sg; rw [if_neg (by omega)]; split <;> omega
        obtain ⟨g,hg⟩:∃ g,g = sg (ss m) t:=⟨_,rfl⟩
        rw [← hg] at hl hs
        have hmz:((a:Int) + (b:Int)) / 2 = (m:Int):=by omega
        have hent:=ent101
        clear hrow hser h1 h2 hg hm
        go_wp2_with fail
        go_call hl as e w1 ⟨rfl,rfl⟩
        go_wp2
        go_round
        case rel=>exact ⟨a,m,rfl,rfl,by omega,by omega,by omega⟩
        case measure=>simp only [intOf]; omega
    · obtain rfl:a = b:=by omega
      obtain rfl:a = i:=by omega
      have hent:=ent101
      by_cases han:a < n
      · have c1:=hrow a han
        have c2:=hser a han
        have hl:=less_any (ds a) (ss a) t w c2
        have hge:=h2 a (by omega) han
        obtain ⟨g,hg⟩:∃ g,g = sg (ss a) t:=⟨_,rfl⟩
        rw [← hg] at hl
        have hres:decide (a < n ∧ ss a = t) = decide (g = 0):=by
          apply decide_eq_decide.2
          rw [hg]; unfold sg
          constructor
          · rintro ⟨_,h⟩; rw [if_neg (by omega),if_neg (by omega)]
          · intro h
            refine ⟨han,?_⟩
            by_cases h3:ss a > t
            · rw [if_neg (by omega),if_pos h3] at h; omega
            · omega
        have hr:=HR.out
        rw [hres] at hr
        subst hr
        clear hres hrow hser h1 h2 hg hge HR
        go_wp2_with fail
        go_call hl as e w1 ⟨rfl,rfl⟩
        go_wp2
        go_returns
        exact ⟨rfl,rfl⟩
      · have hres:decide (a < n ∧ ss a = t) = false:=by simp [han]
        have hr:=HR.out
        rw [hres] at hr
        subst hr
        clear hres hrow hser h1 h2 HR
        go_wp2
        go_returns
        exact ⟨rfl,rfl⟩
end Go.Proofs.YtncfbocbigdhiaaGreat.F
/- A pool of one device, as it lies in memory; New, Add, find, Open as calls. -/
namespace Go.Proofs.YtncfbocbigdhiaaGreat.F
set_option maxRecDepth 100000
open Go.RowKit
structure St where
  serial:Int
  session:Int
  there:Bool
  n:Nat
  secs:Array Value
  loose:List Value
  ln:Nat
  aw:Bool
  al:Int
  ad:Bool
  hw:Bool
  hl:Int
  down:Bool
  count:Int
structure Loc where
  P:Nat
  R:Nat
  D:Nat
  S:Nat
  cap:Nat
  rc:Array Value
def Loc.off (L:Loc) (k:Nat):Prop:=k ≠ L.P ∧ k ≠ L.R ∧ k ≠ L.D ∧ k ≠ L.S
def Obj.apart (o:Obj):Prop:=∀ c,o ≠ .cells c 152
structure One (b0:Nat) (w0:World) (L:Loc) (st:St) (lv:Value) (oth:List (Nat × Obj)) (w:World):Prop where
  below:Below b0 w0 w
  bP:b0 ≤ L.P
  bR:b0 ≤ L.R
  bD:b0 ≤ L.D
  bS:b0 ≤ L.S
  pool:w.heap[L.P]? = some (.cells #[.slice (some ⟨L.R,0,none⟩) 1 L.cap,.bool st.hw,.int .i64 st.hl,.bool st.down,.int .i64 st.count] 101)
  rowb:w.heap[L.R]? = some (.cells L.rc 90)
  rc0:L.rc[0]? = some (.pointer (some ⟨L.D,0,none⟩))
  dev:w.heap[L.D]? = some (.cells #[.int .i64 st.serial,.int .i64 st.session,.bool st.there,.slice (some ⟨L.S,0,none⟩) st.n st.n,lv,.bool st.aw,.int .i64 st.al,.bool st.ad] 97)
  sec:w.heap[L.S]? = some (.cells st.secs 150)
  own:w.ownsRow b0 152 65 lv st.ln st.loose
  oth:∀ p ∈ oth,w.heap[p.1]? = some p.2 ∧ L.off p.1 ∧ Obj.apart p.2 ∧ b0 ≤ p.1
structure KO (L:Loc) (lv:Value) (w w':World):Prop where
  os:w'.os = w.os
  tape:w'.tape = w.tape
  output:w'.output = w.output
  size:w.heap.size ≤ w'.heap.size
  block:∀ k,k < w.heap.size → k ≠ L.P → k ≠ L.D → k ≠ L.S → lv.ownBlock ≠ some k → w'.heap[k]? = w.heap[k]?
theorem KO.trans {L:Loc} {lv:Value} {a b c:World} (h:KO L lv a b) (k:KO L lv b c):KO L lv a c:=
  ⟨k.os.trans h.os,k.tape.trans h.tape,k.output.trans h.output,Nat.le_trans h.size k.size,fun i hi h1 h2 h3 h4=>(k.block i (Nat.lt_of_lt_of_le hi h.size) h1 h2 h3 h4).trans (h.block i hi h1 h2 h3 h4)⟩
theorem KO.ofBelow {L:Loc} {lv:Value} {w w':World} (h:Below w.heap.size w w'):KO L lv w w':=⟨h.os,h.tape,h.output,h.size,fun k hk _ _ _ _=>h.block k hk⟩
theorem KO.set {L:Loc} {lv:Value} {w:World} {a:Addr} (ha:a.block = L.P ∨ a.block = L.D ∨ a.block = L.S) (v:Value):KO L lv w (w.setCell a v):=
  ⟨rfl,rfl,rfl,by simp [World.setCell],fun k _ h1 h2 h3 _=>Below.heap_setCell _ _ _ _ (by rcases ha with h | h | h <;> rw [h] <;> assumption)⟩
theorem own_ty {w:World} {b0:Nat} {lv:Value} {n:Nat} {xs:List Value} (h:w.ownsRow b0 152 65 lv n xs) {k:Nat} (hk:lv.ownBlock = some k):b0 ≤ k ∧ ∃ c,w.heap[k]? = some (.cells c 152):=by
  rcases h.2 with ⟨rfl,_⟩ | ⟨g,cap,cur,rfl,hb,hg,_⟩
  · cases hk
  · injection hk with hk
    exact ⟨by rw [← hk]; exact hb,cur,by rw [← hk]; exact hg⟩
theorem One.lne {b0:Nat} {w0:World} {L:Loc} {st:St} {lv:Value} {oth:List (Nat × Obj)} {w:World} (h:One b0 w0 L st lv oth w) {k:Nat} {o:Obj} (hk:w.heap[k]? = some o) (ho:Obj.apart o):lv.ownBlock ≠ some k:=by
  intro e
  obtain ⟨_,c,hc⟩:=own_ty h.own e
  rw [hk] at hc
  injection hc with hc
  exact ho c hc
theorem apart_of {c:Array Value} {t:TypeId} (ht:t ≠ 152):Obj.apart (.cells c t):=by
  intro c' e
  injection e with _ e _
  exact ht e
theorem One.upd {b0:Nat} {w0:World} {L:Loc} {st st':St} {lv lv':Value} {oth:List (Nat × Obj)} {w w':World} (h:One b0 w0 L st lv oth w) (k:KO L lv w w')
    (hp:w'.heap[L.P]? = some (.cells #[.slice (some ⟨L.R,0,none⟩) 1 L.cap,.bool st'.hw,.int .i64 st'.hl,.bool st'.down,.int .i64 st'.count] 101))
    (hd:w'.heap[L.D]? = some (.cells #[.int .i64 st'.serial,.int .i64 st'.session,.bool st'.there,.slice (some ⟨L.S,0,none⟩) st'.n st'.n,lv',.bool st'.aw,.int .i64 st'.al,.bool st'.ad] 97))
    (hs:w'.heap[L.S]? = some (.cells st'.secs 150)) (ho:w'.ownsRow b0 152 65 lv' st'.ln st'.loose):One b0 w0 L st' lv' oth w':=by
  have hlt:∀ {j:Nat} {o:Obj},w.heap[j]? = some o → j < w.heap.size:=fun e=>(Array.getElem?_eq_some_iff.1 e).1
  have tne:∀ {i j:Nat} {c d:Array Value} {s t:TypeId},w.heap[i]? = some (.cells c s) → w.heap[j]? = some (.cells d t) → s ≠ t → i ≠ j:=by
    intro i j c d s t h1 h2 hst e
    subst e
    rw [h1] at h2
    injection h2 with h2
    injection h2 with _ h2 _
    exact hst h2
  refine ⟨?_,h.bP,h.bR,h.bD,h.bS,hp,?_,h.rc0,hd,hs,ho,?_⟩
  · refine ⟨k.os.trans h.below.os,k.tape.trans h.below.tape,k.output.trans h.below.output,Nat.le_trans h.below.size k.size,fun j hj=>?_⟩
    have h1:=h.bP; have h2:=h.bD; have h3:=h.bS
    by_cases hjs:j < w.heap.size
    · rw [k.block j hjs (by omega) (by omega) (by omega) (fun e=>by have:=(own_ty h.own e).1; omega)]
      exact h.below.block j hj
    · have:=hlt h.pool; omega
  · rw [k.block L.R (hlt h.rowb) (tne h.rowb h.pool (by decide)) (tne h.rowb h.dev (by decide)) (tne h.rowb h.sec (by decide)) (h.lne h.rowb (apart_of (by decide)))]
    exact h.rowb
  · intro p hp2
    obtain ⟨o1,o2,o3,o4⟩:=h.oth p hp2
    refine ⟨?_,o2,o3,o4⟩
    rw [k.block p.1 (hlt o1) o2.1 o2.2.2.1 o2.2.2.2 (h.lne o1 o3)]
    exact o1
theorem One.row {b0:Nat} {w0:World} {L:Loc} {st:St} {lv:Value} {oth:List (Nat × Obj)} {w:World} (h:One b0 w0 L st lv oth w):w.cell? ⟨L.R,0,none⟩ = some (.pointer (some ⟨L.D,0,none⟩)):=by
  have:=h.rowb
  simp only [World.cell?,this]
  exact h.rc0
theorem One.ofBelow {b0:Nat} {w0:World} {L:Loc} {st:St} {lv:Value} {oth:List (Nat × Obj)} {w w':World} (h:One b0 w0 L st lv oth w) (hb:Below w.heap.size w w'):One b0 w0 L st lv oth w':=by
  have hlt:∀ {j:Nat} {o:Obj},w.heap[j]? = some o → j < w.heap.size:=fun e=>(Array.getElem?_eq_some_iff.1 e).1
  refine h.upd (KO.ofBelow hb) ((hb.block _ (hlt h.pool)).trans h.pool) ((hb.block _ (hlt h.dev)).trans h.dev) ((hb.block _ (hlt h.sec)).trans h.sec) ⟨h.own.1,?_⟩
  rcases h.own.2 with h1 | ⟨g,cap,cur,e,h2,h3,h4⟩
  · exact Or.inl h1
  · exact Or.inr ⟨g,cap,cur,e,h2,(hb.block _ (hlt h3)).trans h3,h4⟩
theorem new_any (w:World):Calls Tryz.prog 50 #[] w fun e w'=>e = .returned (.pointer (some ⟨w.heap.size,0,none⟩)) ∧ w' = w.alloc (.cells #[.slice none 0 0,.bool false,.int .i64 0,.bool false,.int .i64 0] 101):=by
  go_enter Tryz.func50,Tryz.ntmps50
  go_wp2
  go_returns
  exact ⟨rfl,rfl⟩
theorem place_nil (P:Nat) (t:Int) (w:World) (h:w.cell? ⟨P,0,none⟩ = some (.slice none 0 0)) :
    Calls Tryz.prog 91 #[.pointer (some ⟨P,0,none⟩),.int .i64 t] w fun e w'=>e = .returned (.tuple #[.int .i64 0,.bool false]) ∧ w' = w:=by
  go_enter Tryz.func91,Tryz.ntmps91
  go_wp2_with fail
  go_call (search_nil 0 t w) as e w1 ⟨rfl,rfl⟩
  go_wp2
  go_returns
  exact ⟨rfl,rfl⟩
theorem place_any (P R cap n:Nat) (ds:Nat → Nat) (ss:Nat → Int) (t:Int) (i:Nat) (hi:i ≤ n) (hn:n ≤ 1000) (w:World)
    (h:w.cell? ⟨P,0,none⟩ = some (.slice (some ⟨R,0,none⟩) n cap))
    (hrow:∀ j,j < n → w.cell? ⟨R,j,none⟩ = some (.pointer (some ⟨ds j,0,none⟩))) (hser:∀ j,j < n → w.cell? ⟨ds j,0,none⟩ = some (.int .i64 (ss j)))
    (h1:∀ j,j < i → ss j < t) (h2:∀ j,i ≤ j → j < n → t ≤ ss j) :
    Calls Tryz.prog 91 #[.pointer (some ⟨P,0,none⟩),.int .i64 t] w fun e w'=>e = .returned (.tuple #[.int .i64 (i:Nat),.bool (decide (i < n ∧ ss i = t))]) ∧ w' = w:=by
  have hs:=search_any R cap n ds ss t i hi hn w hrow hser h1 h2
  generalize decide (i < n ∧ ss i = t) = r at *
  clear hrow hser h1 h2
  go_enter Tryz.func91,Tryz.ntmps91
  go_wp2_with fail
  go_call hs as e w1 ⟨rfl,rfl⟩
  go_wp2
  go_returns
  exact ⟨rfl,rfl⟩
section
variable {b0:Nat} {w0:World} {L:Loc} {st:St} {lv:Value} {oth:List (Nat × Obj)} {w:World}
theorem cell_of {w:World} {b:Nat} {c:Array Value} {t:TypeId} (h:w.heap[b]? = some (.cells c t)) (k:Nat):w.cell? ⟨b,k,none⟩ = c[k]?:=by
  simp only [World.cell?,h]; rfl
theorem frz_of {w:World} {b:Nat} {c:Array Value} {t:TypeId} (h:w.heap[b]? = some (.cells c t)) (k:Nat):w.frozen? ⟨b,k,none⟩ = false:=by
  simp only [World.frozen?,h]; simp
theorem One.place (h:One b0 w0 L st lv oth w) (t:Int):Calls Tryz.prog 91 #[.pointer (some ⟨L.P,0,none⟩),.int .i64 t] w fun e w'=>
    e = .returned (.tuple #[.int .i64 (if st.serial < t then 1 else 0),.bool (decide (st.serial = t))]) ∧ w' = w:=by
  have c0:w.cell? ⟨L.P,0,none⟩ = some (.slice (some ⟨L.R,0,none⟩) 1 L.cap):=cell_of h.pool 0
  have d0:w.cell? ⟨L.D,0,none⟩ = some (.int .i64 st.serial):=cell_of h.dev 0
  have hr:=h.row
  have hr2:∀ j,j < 1 → w.cell? ⟨L.R,j,none⟩ = some (.pointer (some ⟨L.D,0,none⟩)):=by
    intro j hj
    obtain rfl:j = 0:=by omega
    exact hr
  by_cases hlt:st.serial < t
  · rw [if_pos hlt]
    refine (place_any L.P L.R L.cap 1 (fun _=>L.D) (fun _=>st.serial) t 1 (by omega) (by omega) w c0 hr2 (fun j hj=>d0) (fun _ _=>hlt) (fun j h1 h2=>by omega)).mono ?_
    rintro e w' ⟨rfl,rfl⟩
    refine ⟨?_,rfl⟩
    have:¬ st.serial = t:=by omega
    simp [this]
  · rw [if_neg hlt]
    refine (place_any L.P L.R L.cap 1 (fun _=>L.D) (fun _=>st.serial) t 0 (by omega) (by omega) w c0 hr2 (fun j hj=>d0) (fun j h1=>by omega) (fun _ _ _=>by omega)).mono ?_
    rintro e w' ⟨rfl,rfl⟩
    refine ⟨?_,rfl⟩
    simp
theorem One.find (h:One b0 w0 L st lv oth w):Calls Tryz.prog 57 #[.pointer (some ⟨L.P,0,none⟩),.int .i64 st.serial] w fun e w'=>e = .returned (.pointer (some ⟨L.D,0,none⟩)) ∧ w' = w:=by
  have hp:=h.place st.serial
  rw [if_neg (by omega),decide_eq_true rfl] at hp
  have c0:w.cell? ⟨L.P,0,none⟩ = some (.slice (some ⟨L.R,0,none⟩) 1 L.cap):=cell_of h.pool 0
  have hr:=h.row
  clear h
  go_enter Tryz.func57,Tryz.ntmps57
  go_wp2_with fail
  go_call hp as e w1 ⟨rfl,rfl⟩
  go_wp2
  go_returns
  exact ⟨rfl,rfl⟩
end
end Go.Proofs.YtncfbocbigdhiaaGreat.F
/- Add, Insert behind the last, Open, Loose, Size, as calls. -/
namespace Go.Proofs.YtncfbocbigdhiaaGreat.F
set_option maxRecDepth 100000
open Go.RowKit
def zsec:Value:=.agg (Array.replicate 64 (.int .u8 0))
theorem info147:(Tryz.prog.info? 150).map (fun i=>(i.zero,i.size,i.bytes)) = some (some zsec,64,64):=by kernel_rfl
theorem info98:(Tryz.prog.info? 90).map (fun i=>(i.zero,i.size,i.bytes)) = some (some (.pointer none),1,8):=by kernel_rfl
def secs0 (n:Nat):Array Value:=Array.replicate (n * 64) (.int .u8 0)
theorem made_secs (n:Nat):madeCells zsec.cells (n * 64) = secs0 n:=by
  have hz:zsec.cells = Array.replicate 64 (.int .u8 0):=rfl
  rw [hz]
  unfold madeCells secs0
  apply Array.ext
  · simp
  · intro k h1 h2
    simp
    rw [getElem!_pos _ _ (by simp; omega)]
    simp
theorem mk_secs (n:Nat) (hn:n ≤ 4096) (w:World):(Instr.makeSlice 92 (.int .i64 (n:Nat)) (.int .i64 (n:Nat))).run Tryz.prog w = .ok (.slice (some ⟨w.heap.size,0,none⟩) n n) (w.alloc (.cells (secs0 n) 150)):=by
  obtain ⟨i,hi,hz,hs,hb⟩:=info_parts info147
  have:=run_make (P:=Tryz.prog) w 92 150 i zsec Tryz.underlying92 hi hz .i64 .i64 n n (by omega) (by omega) (by rw [hb]; omega) (by omega)
  rw [hs] at this
  simp only [Int.toNat_natCast] at this
  rw [made_secs] at this
  exact this
set_option maxRecDepth 100000 in
theorem insert_end (b0:Nat) (w:World) (v:Value) (n:Nat) (xs:List Value) (hown:w.ownsRow b0 90 1 v n xs) (hn:n ≤ 1000) (vb:Nat) (p:Option Addr) (hvb:w.cell? ⟨vb,0,none⟩ = some (.pointer p)) (hb:b0 ≤ w.heap.size) :
    Calls Tryz.prog 92 #[v,.int .i64 (n:Nat),.slice (some ⟨vb,0,none⟩) 1 1] w fun e w'=>∃ v',e = .returned v' ∧ w'.ownsRow b0 90 1 v' (n + 1) (xs ++ [.pointer p]) ∧ w.grownBy w' v.ownBlock:=by
  obtain ⟨i,hi,hz,hs,hby⟩:=info_parts info98
  obtain ⟨ao,cap,rfl,hnc,hm⟩:∃ ao cap,v = .slice ao n cap ∧ n ≤ cap ∧ cap ≤ maxLen:=by
    rcases hown.2 with ⟨rfl,rfl⟩ | ⟨g,cap,cur,rfl,_,_,h3,h4,_⟩
    · exact ⟨none,0,rfl,Nat.le_refl _,by unfold maxLen; omega⟩
    · exact ⟨_,cap,rfl,h3,h4⟩
  have hm2:cap ≤ 9223372036854775807:=hm
  rcases Nat.eq_or_lt_of_le hnc with rfl | hlt
  · go_enter Tryz.func92,Tryz.ntmps92
    go_wp2_with (at_builtin; refine wpList_append_own _ rfl _ _ 99 rfl b0 90 i (.pointer none) 1 8 Tryz.underlying99 hi hz hs hby rfl (by decide) _ n xs rfl hown ⟨vb,0,none⟩ 1 1 [.pointer p] rfl rfl ?c1 ?c2 (by unfold maxLen; omega) (by omega) hb ?c3)
    case c1=>
      intro j u hj
      cases j with
      | zero=>simp at hj; subst hj; exact hvb
      | succ j=>simp at hj
    case c2=>
      intro u hu
      simp at hu
      subst hu
      rfl
    case c3=>
      intro v' w' h1 h2 h3
      have H:Hid _:=And.intro h1 h2
      clear h1 h2 h3
      go_wp2
      go_returns
      exact ⟨v',rfl,H.out.1,H.out.2⟩
  · go_enter Tryz.func92,Tryz.ntmps92
    go_wp2_with (at_builtin; refine wpList_append_own _ rfl _ _ 99 rfl b0 90 i (.pointer none) 1 8 Tryz.underlying99 hi hz hs hby rfl (by decide) _ n xs rfl hown ⟨vb,0,none⟩ 1 1 [.pointer p] rfl rfl ?c1 ?c2 (by unfold maxLen; omega) (by omega) hb ?c3)
    case c1=>
      intro j u hj
      cases j with
      | zero=>simp at hj; subst hj; exact hvb
      | succ j=>simp at hj
    case c2=>
      intro u hu
      simp at hu
      subst hu
      rfl
    case c3=>
      intro v' w' h1 h2 h3
      have H:Hid _:=And.intro h1 h2
      clear h1 h2 h3
      go_wp2
      go_returns
      exact ⟨v',rfl,H.out.1,H.out.2⟩
end Go.Proofs.YtncfbocbigdhiaaGreat.F
/- Add to a pool without devices; Open, Size, Loose, of a pool of one device, as calls. -/
namespace Go.Proofs.YtncfbocbigdhiaaGreat.F
set_option maxRecDepth 100000
open Go.RowKit
theorem getElem?_lt {w:World} {j:Nat} {o:Obj} (e:w.heap[j]? = some o):j < w.heap.size:=(Array.getElem?_eq_some_iff.1 e).1
section
variable {b0:Nat} {w0:World} {L:Loc} {st:St} {lv:Value} {oth:List (Nat × Obj)} {w:World}
theorem heap_new (w:World) (o:Obj):(w.alloc o).heap[w.heap.size]? = some o:=by
  show (w.heap.push _)[w.heap.size]? = _
  rw [Array.getElem?_push,if_pos rfl]
theorem One.alloc (h:One b0 w0 L st lv oth w) (o:Obj) (ho:Obj.apart o):One b0 w0 L st lv ((w.heap.size,o) :: oth) (w.alloc o):=by
  have h2:=h.ofBelow (Below.alloc (Below.refl _ w) (Nat.le_refl _) o)
  refine { h2 with oth:=?_ }
  intro p hp
  rcases List.mem_cons.1 hp with rfl | hp
  · refine ⟨heap_new w o,⟨?_,?_,?_,?_⟩,ho,?_⟩
    · have:=getElem?_lt h.pool; show w.heap.size ≠ _; omega
    · have:=getElem?_lt h.rowb; show w.heap.size ≠ _; omega
    · have:=getElem?_lt h.dev; show w.heap.size ≠ _; omega
    · have:=getElem?_lt h.sec; show w.heap.size ≠ _; omega
    · have:=getElem?_lt h.pool; have:=h.bP; show b0 ≤ w.heap.size; omega
  · exact h2.oth p hp
theorem One.forget (h:One b0 w0 L st lv oth w) {oth':List (Nat × Obj)} (hs:∀ p ∈ oth',p ∈ oth):One b0 w0 L st lv oth' w:={ h with oth:=fun p hp=>h.oth p (hs p hp) }
end
theorem block_set {w:World} {g i:Nat} {cs:Array Value} {t:TypeId} (h:w.heap[g]? = some (.cells cs t)) (v:Value):(w.setCell ⟨g,i,none⟩ v).heap[g]? = some (.cells (cs.setIfInBounds i v) t):=by
  simp [World.setCell,Array.getElem?_modify,h]
def st0 (serial:Int) (n:Nat):St:={ serial:=serial,session:=1,there:=true,n:=n,secs:=secs0 n,loose:=[],ln:=0,aw:=false,al:=0,ad:=false,hw:=false,hl:=0,down:=false,count:=0 }
set_option maxHeartbeats 1000000 in
theorem add_one (b0 P:Nat) (w0 w:World) (oth:List (Nat × Obj)) (hb:Below b0 w0 w) (hbP:b0 ≤ P)
    (hP:w.heap[P]? = some (.cells #[.slice none 0 0,.bool false,.int .i64 0,.bool false,.int .i64 0] 101)) (ho:∀ p ∈ oth,w.heap[p.1]? = some p.2 ∧ p.1 ≠ P ∧ Obj.apart p.2 ∧ b0 ≤ p.1)
    (serial:Int) (hs1:1 ≤ serial) (hs2:serial ≤ 1000) (n:Nat) (hn1:1 ≤ n) (hn2:n ≤ 4096) :
    Calls Tryz.prog 51 #[.pointer (some ⟨P,0,none⟩),.int .i64 serial,.int .i64 (n:Nat)] w fun e w'=>e = .returned (.int .i64 0) ∧ ∃ L,L.P = P ∧ One b0 w0 L (st0 serial n) (.slice none 0 0) oth w':=by
  have hPs:=getElem?_lt hP
  have c0:w.cell? ⟨P,0,none⟩ = some (.slice none 0 0):=cell_of hP 0
  have hpl:=place_nil P serial w c0
  have hmk:=mk_secs n hn2
  have hbs:b0 ≤ w.heap.size:=Nat.le_trans hbP (Nat.le_of_lt hPs)
  obtain ⟨w1,hw1⟩:∃ w1,w1 = w.alloc (.cells (secs0 n) 150):=⟨_,rfl⟩
  obtain ⟨w2,hw2⟩:∃ w2,w2 = w1.alloc (.cells #[.int .i64 serial,.int .i64 1,.bool true,.slice (some ⟨w.heap.size,0,none⟩) n n,.slice none 0 0,.bool false,.int .i64 0,.bool false] 97):=⟨_,rfl⟩
  obtain ⟨w3,hw3⟩:∃ w3,w3 = w2.alloc (.cells #[.pointer (some ⟨w.heap.size + 1,0,none⟩)] 90):=⟨_,rfl⟩
  have s1:w1.heap.size = w.heap.size + 1:=by rw [hw1]; simp
  have s2:w2.heap.size = w.heap.size + 2:=by rw [hw2]; simp [s1]
  have s3:w3.heap.size = w.heap.size + 3:=by rw [hw3]; simp [s2]
  have hvb:w3.cell? ⟨w.heap.size + 2,0,none⟩ = some (.pointer (some ⟨w.heap.size + 1,0,none⟩)):=by
    have:=heap_new w2 (.cells #[.pointer (some ⟨w.heap.size + 1,0,none⟩)] 90)
    rw [s2,← hw3] at this
    rw [cell_of this 0]; rfl
  have b3:Below w.heap.size w w3:=by
    rw [hw3,hw2,hw1]
    exact ((Below.alloc (Below.refl _ _) (Nat.le_refl _) _).alloc (by simp) _).alloc (by simp; omega) _
  have hS:w3.heap[w.heap.size]? = some (.cells (secs0 n) 150):=by
    rw [hw3,Below.heap_alloc _ _ _ (by omega),hw2,Below.heap_alloc _ _ _ (by omega),hw1]; exact heap_new _ _
  have hD:w3.heap[w.heap.size + 1]? = some (.cells #[.int .i64 serial,.int .i64 1,.bool true,.slice (some ⟨w.heap.size,0,none⟩) n n,.slice none 0 0,.bool false,.int .i64 0,.bool false] 97):=by
    rw [hw3,Below.heap_alloc _ _ _ (by omega),hw2,← s1]; exact heap_new _ _
  have hins:=insert_end w3.heap.size w3 (.slice none 0 0) 0 [] (World.ownsRow_nil _ _ _ _) (by omega) (w.heap.size + 2) (some ⟨w.heap.size + 1,0,none⟩) hvb (Nat.le_refl _)
  have HX:Hid (w.heap.size < w3.heap.size ∧ Below w.heap.size w w3 ∧ w3.heap[w.heap.size]? = some (.cells (secs0 n) 150) ∧ w3.heap[w.heap.size + 1]? = some (.cells #[.int .i64 serial,.int .i64 1,.bool true,.slice (some ⟨w.heap.size,0,none⟩) n n,.slice none 0 0,.bool false,.int .i64 0,.bool false] 97) ∧ w3.heap.size = w.heap.size + 3):=⟨by omega,b3,hS,hD,s3⟩
  have c3:w3.cell? ⟨P,0,none⟩ = some (.slice none 0 0):=by rw [b3.cell (by exact hPs)]; exact c0
  have c2:w2.cell? ⟨P,0,none⟩ = some (.slice none 0 0):=by
    rw [hw2,World.cell?_alloc_past _ _ _ (by show P < _; omega),hw1,World.cell?_alloc_past _ _ _ (by show P < _; omega)]; exact c0
  clear hS hD b3 hvb
  go_enter Tryz.func51,Tryz.ntmps51
  go_wp2_with fail
  go_call hpl as e w' ⟨rfl,rfl⟩
  go_wp2_with fail
  subst hw3 hw2 hw1
  go_call hins as e w4 ⟨v',rfl,hown,hgr⟩
  clear hins hmk hpl c2
  obtain ⟨g,cp,cur,rfl,hg1,hg2,hg3⟩:∃ g cp cur,v' = .slice (some ⟨g,0,none⟩) 1 cp ∧ w'.heap.size + 3 ≤ g ∧ w4.heap[g]? = some (.cells cur 90) ∧ cur[0]? = some (.pointer (some ⟨w'.heap.size + 1,0,none⟩)):=by
    rcases hown.2 with ⟨_,h⟩ | ⟨g,cp,cur,h1,h2,h3,h4,h5,h6,h7⟩
    · omega
    · refine ⟨g,cp,cur,h1,by rw [← HX.out.2.2.2.2]; exact h2,h3,?_⟩
      have h8:(cur.toList.take ((0 + 1) * 1))[0]? = some (.pointer (some ⟨w'.heap.size + 1,0,none⟩)):=by rw [h7]; rfl
      rw [List.getElem?_take,if_pos (by omega),Array.getElem?_toList] at h8
      exact h8
  have hbl:∀ k,k < w'.heap.size + 3 → w4.heap[k]? = (((w'.alloc (.cells (secs0 n) 150)).alloc (.cells #[.int .i64 serial,.int .i64 1,.bool true,.slice (some ⟨w'.heap.size,0,none⟩) n n,.slice none 0 0,.bool false,.int .i64 0,.bool false] 97)).alloc (.cells #[.pointer (some ⟨w'.heap.size + 1,0,none⟩)] 90)).heap[k]?:=
    fun k hk=>hgr.block k (by rw [HX.out.2.2.2.2]; exact hk) (by intro e; cases e)
  obtain ⟨x1,x2,x3,x4,x5⟩:=HX.out
  have hP4:w4.heap[P]? = some (.cells #[.slice none 0 0,.bool false,.int .i64 0,.bool false,.int .i64 0] 101):=by
    rw [hbl P (by omega),x2.block P hPs]; exact hP
  have cP:w4.cell? ⟨P,0,none⟩ = some (.slice none 0 0):=cell_of hP4 0
  have fP:w4.frozen? ⟨P,0,none⟩ = false:=frz_of hP4 0
  have hfin:One b0 w0 ⟨P,g,w'.heap.size + 1,w'.heap.size,cp,cur⟩ (st0 serial n) (.slice none 0 0) oth (w4.setCell ⟨P,0,none⟩ (.slice (some ⟨g,0,none⟩) 1 cp)):=by
    have hoth:∀ k,k ≠ P → (w4.setCell ⟨P,0,none⟩ (.slice (some ⟨g,0,none⟩) 1 cp)).heap[k]? = w4.heap[k]?:=fun k hk=>Below.heap_setCell _ _ _ _ (by exact hk)
    refine ⟨?_,hbP,by show b0 ≤ g; omega,by show b0 ≤ w'.heap.size + 1; omega,hbs,?_,?_,hg3,?_,?_,World.ownsRow_nil _ _ _ _,?_⟩
    · have bw:Below w'.heap.size w' w4:=⟨hgr.os.trans x2.os,hgr.tape.trans x2.tape,hgr.output.trans x2.output,by have:=hgr.size; omega,fun k hk=>(hbl k (by omega)).trans (x2.block k hk)⟩
      have b4:Below b0 w0 w4:=hb.trans (bw.mono hbs)
      refine ⟨b4.os,b4.tape,b4.output,by have:=b4.size; simpa [World.setCell] using this,fun k hk=>?_⟩
      rw [hoth k (by omega)]; exact b4.block k hk
    · show (w4.setCell ⟨P,0,none⟩ _).heap[P]? = _
      rw [block_set hP4]
      rfl
    · rw [hoth g (by omega)]; exact hg2
    · show (w4.setCell ⟨P,0,none⟩ _).heap[w'.heap.size + 1]? = _
      rw [hoth _ (by omega),hbl _ (by omega)]; exact x4
    · show (w4.setCell ⟨P,0,none⟩ _).heap[w'.heap.size]? = _
      rw [hoth _ (by omega),hbl _ (by omega)]; exact x3
    · intro p hp
      obtain ⟨o1,o2,o3,o4⟩:=ho p hp
      have hps:=getElem?_lt o1
      refine ⟨?_,⟨o2,?_,?_,?_⟩,o3,o4⟩
      · rw [hoth _ o2,hbl _ (by omega),x2.block _ hps]; exact o1
      · show p.1 ≠ g; omega
      · show p.1 ≠ w'.heap.size + 1; omega
      · show p.1 ≠ w'.heap.size; omega
  have HF:Hid _:=hfin
  clear hfin hbl hg2 hg3 hown hgr x1 x2 x3 x4 x5 HX ho
  go_wp2
  go_returns
  exact ⟨rfl,_,rfl,HF.out⟩
end Go.Proofs.YtncfbocbigdhiaaGreat.F
/- Open, Size, Loose, Detach with nothing loose, an operation on a device that is gone, of a pool of one device, as calls. -/
namespace Go.Proofs.YtncfbocbigdhiaaGreat.F
set_option maxRecDepth 100000
open Go.RowKit
section
variable {b0:Nat} {w0:World} {L:Loc} {st:St} {lv:Value} {oth:List (Nat × Obj)} {w:World}
theorem One.dc (h:One b0 w0 L st lv oth w):w.cell? ⟨L.D,0,none⟩ = some (.int .i64 st.serial) ∧ w.cell? ⟨L.D,1,none⟩ = some (.int .i64 st.session) ∧ w.cell? ⟨L.D,2,none⟩ = some (.bool st.there) ∧ w.cell? ⟨L.D,3,none⟩ = some (.slice (some ⟨L.S,0,none⟩) st.n st.n) ∧
    w.cell? ⟨L.D,4,none⟩ = some lv ∧ w.cell? ⟨L.D,5,none⟩ = some (.bool st.aw) ∧ w.cell? ⟨L.D,6,none⟩ = some (.int .i64 st.al) ∧ w.cell? ⟨L.D,7,none⟩ = some (.bool st.ad):=
  ⟨cell_of h.dev 0,cell_of h.dev 1,cell_of h.dev 2,cell_of h.dev 3,cell_of h.dev 4,cell_of h.dev 5,cell_of h.dev 6,cell_of h.dev 7⟩
theorem One.pc (h:One b0 w0 L st lv oth w):w.cell? ⟨L.P,0,none⟩ = some (.slice (some ⟨L.R,0,none⟩) 1 L.cap) ∧ w.cell? ⟨L.P,1,none⟩ = some (.bool st.hw) ∧ w.cell? ⟨L.P,2,none⟩ = some (.int .i64 st.hl) ∧ w.cell? ⟨L.P,3,none⟩ = some (.bool st.down) ∧ w.cell? ⟨L.P,4,none⟩ = some (.int .i64 st.count):=
  ⟨cell_of h.pool 0,cell_of h.pool 1,cell_of h.pool 2,cell_of h.pool 3,cell_of h.pool 4⟩
theorem One.df (h:One b0 w0 L st lv oth w) (k:Nat):w.frozen? ⟨L.D,k,none⟩ = false:=frz_of h.dev k
theorem One.pf (h:One b0 w0 L st lv oth w) (k:Nat):w.frozen? ⟨L.P,k,none⟩ = false:=frz_of h.pool k
theorem One.laid (h:One b0 w0 L st lv oth w) (o:Obj):One b0 w0 L st lv oth (w.alloc o):=h.ofBelow (Below.alloc (Below.refl _ w) (Nat.le_refl _) o)
theorem One.open_ok (h:One b0 w0 L st lv oth w) (ht:st.there = true):Calls Tryz.prog 93 #[.pointer (some ⟨L.P,0,none⟩),.int .i64 st.serial] w fun e w'=>e = .returned (.tuple #[.agg #[.int .i64 st.serial,.int .i64 st.session],.int .i64 0]) ∧ One b0 w0 L st lv oth w':=by
  have hf:=fun o=>(h.laid o).find
  have hd:=fun o=>(h.laid o).dc
  have hl:=fun o=>h.laid o
  go_enter Tryz.func93,Tryz.ntmps93
  go_wp2_with fail
  go_call (hf _) as e w1 ⟨rfl,rfl⟩
  have d1:=fun o=>(hd o).2.1
  have d2:=fun o=>(hd o).2.2.1
  rw [ht] at d2
  clear hd hf
  have HL:Hid _:=hl
  clear hl
  go_wp2
  go_returns
  exact ⟨rfl,HL.out _⟩
theorem One.lslice (h:One b0 w0 L st lv oth w):∃ ao cap,lv = .slice ao st.ln cap:=by
  rcases h.own.2 with ⟨h1,h2⟩ | ⟨g,cap,cur,h1,_⟩
  · exact ⟨none,0,by rw [h1,h2]⟩
  · exact ⟨_,cap,h1⟩
theorem One.setD (h:One b0 w0 L st lv oth w) (k:Nat) (v:Value):(w.setCell ⟨L.D,k,none⟩ v).heap[L.D]? = some (.cells ((#[.int .i64 st.serial,.int .i64 st.session,.bool st.there,.slice (some ⟨L.S,0,none⟩) st.n st.n,lv,.bool st.aw,.int .i64 st.al,.bool st.ad]:Array Value).setIfInBounds k v) 97):=block_set h.dev v
theorem One.tne (h:One b0 w0 L st lv oth w):L.D ≠ L.P ∧ L.D ≠ L.S ∧ L.P ≠ L.S:=by
  refine ⟨fun e=>?_,fun e=>?_,fun e=>?_⟩
  · have:=h.dev; rw [e,h.pool] at this; injection this with this; injection this with _ t _; exact absurd t (by decide)
  · have:=h.dev; rw [e,h.sec] at this; injection this with this; injection this with _ t _; exact absurd t (by decide)
  · have:=h.pool; rw [e,h.sec] at this; injection this with this; injection this with _ t _; exact absurd t (by decide)
theorem One.updD (h:One b0 w0 L st lv oth w) (k:Nat) (v:Value) (st':St) (lv':Value) (hp:st'.hw = st.hw ∧ st'.hl = st.hl ∧ st'.down = st.down ∧ st'.count = st.count ∧ st'.secs = st.secs)
    (hd:(#[.int .i64 st.serial,.int .i64 st.session,.bool st.there,.slice (some ⟨L.S,0,none⟩) st.n st.n,lv,.bool st.aw,.int .i64 st.al,.bool st.ad]:Array Value).setIfInBounds k v = #[.int .i64 st'.serial,.int .i64 st'.session,.bool st'.there,.slice (some ⟨L.S,0,none⟩) st'.n st'.n,lv',.bool st'.aw,.int .i64 st'.al,.bool st'.ad])
    (ho:(w.setCell ⟨L.D,k,none⟩ v).ownsRow b0 152 65 lv' st'.ln st'.loose):One b0 w0 L st' lv' oth (w.setCell ⟨L.D,k,none⟩ v):=by
  obtain ⟨t1,t2,t3⟩:=h.tne
  obtain ⟨p1,p2,p3,p4,p5⟩:=hp
  refine h.upd (KO.set (Or.inr (Or.inl rfl)) v) ?_ ?_ ?_ ho
  · rw [Below.heap_setCell _ _ _ _ (by exact Ne.symm t1),h.pool,p1,p2,p3,p4]
  · rw [h.setD,hd]
  · rw [Below.heap_setCell _ _ _ _ (by exact Ne.symm t2),h.sec,p5]
theorem One.ownD (h:One b0 w0 L st lv oth w) (k:Nat) (v:Value):(w.setCell ⟨L.D,k,none⟩ v).ownsRow b0 152 65 lv st.ln st.loose:=by
  refine ⟨h.own.1,?_⟩
  rcases h.own.2 with h1 | ⟨g,cap,cur,e,h2,h3,h4⟩
  · exact Or.inl h1
  · refine Or.inr ⟨g,cap,cur,e,h2,?_,h4⟩
    rw [Below.heap_setCell _ _ _ _ (by show g ≠ L.D; intro e2; have:=h.dev; rw [← e2,h3] at this; injection this with this; injection this with _ t _; exact absurd t (by decide))]
    exact h3
theorem One.flush (h:One b0 w0 L st lv oth w):Calls Tryz.prog 102 #[.pointer (some ⟨L.D,0,none⟩)] w fun e w'=>e = .returned (.tuple #[]) ∧ One b0 w0 L { st with ln:=0,loose:=[] } (.slice none 0 0) oth w':=by
  have d4:=h.dc.2.2.2.2.1
  have f4:=h.df 4
  have HF:Hid (One b0 w0 L { st with ln:=0,loose:=[] } (.slice none 0 0) oth (w.setCell ⟨L.D,4,none⟩ (.slice none 0 0))):=h.updD 4 _ _ _ ⟨rfl,rfl,rfl,rfl,rfl⟩ rfl (World.ownsRow_nil _ _ _ _)
  clear h
  go_enter Tryz.func102,Tryz.ntmps102
  go_wp2
  go_returns
  exact ⟨rfl,HF.out⟩
end
end Go.Proofs.YtncfbocbigdhiaaGreat.F
/- Guard, as a call: where what was handed in returns, where it is broken off by Fail, and where another panic comes. -/
namespace Go.Proofs.YtncfbocbigdhiaaGreat.F
set_option maxRecDepth 100000
open Go.RowKit
structure KT (L:Nat) (w w':World):Prop where
  os:w'.os = w.os
  tape:w'.tape = w.tape
  output:w'.output = w.output
  size:w.heap.size ≤ w'.heap.size
  block:∀ k,k < w.heap.size → k ≠ L → k ≠ L + 1 → w'.heap[k]? = w.heap[k]?
theorem KT.refl (L:Nat) (w:World):KT L w w:=⟨rfl,rfl,rfl,Nat.le_refl _,fun _ _ _ _=>rfl⟩
theorem KT.trans {L:Nat} {a b c:World} (h:KT L a b) (k:KT L b c):KT L a c:=
  ⟨k.os.trans h.os,k.tape.trans h.tape,k.output.trans h.output,Nat.le_trans h.size k.size,fun i hi h1 h2=>(k.block i (Nat.lt_of_lt_of_le hi h.size) h1 h2).trans (h.block i hi h1 h2)⟩
theorem KT.alloc {L:Nat} {w w':World} (h:KT L w w') (o:Obj):KT L w (w'.alloc o):=
  ⟨h.os,h.tape,h.output,by have:=h.size; simp; omega,fun k hk h1 h2=>by rw [Below.heap_alloc _ _ _ (Nat.lt_of_lt_of_le hk h.size)]; exact h.block k hk h1 h2⟩
theorem KT.set {L:Nat} {w w':World} (h:KT L w w') (a:Addr) (ha:a.block = L ∨ a.block = L + 1) (v:Value):KT L w (w'.setCell a v):=
  ⟨h.os,h.tape,h.output,by have:=h.size; simpa [World.setCell] using this,fun k hk h1 h2=>by rw [Below.heap_setCell _ _ _ _ (by rcases ha with e | e <;> rw [e] <;> assumption)]; exact h.block k hk h1 h2⟩
def bob:Obj:=.cells #[.int .i64 0,.int .i64 0] 37
def iob:Obj:=.cells #[.bool false] 4
def G0 (w:World):World:=(w.alloc bob).alloc iob
def gob (B:Nat) (oth:List (Nat × Obj)):List (Nat × Obj):=(B + 1,iob) :: (B,bob) :: oth
section
variable {b0:Nat} {w0:World} {L:Loc} {st:St} {lv:Value} {oth:List (Nat × Obj)} {w:World}
theorem One.guarded (h:One b0 w0 L st lv oth w):One b0 w0 L st lv (gob w.heap.size oth) (G0 w):=by
  have:=(h.alloc bob (apart_of (by decide))).alloc iob (apart_of (by decide))
  have e:(w.alloc bob).heap.size = w.heap.size + 1:=by simp
  rw [e] at this
  exact this
end
def fl (s e:Int):PanicEntry:={ v:=.iface 86 (.agg #[.int .i64 s,.int .i64 e]),recovered:=false }
def oth (t:ByteArray):PanicEntry:={ v:=.iface 9 (.string t),recovered:=false }
theorem fail_ok (s:Int) (w:World):Calls Tryz.prog 62 #[.int .i64 s,.int .i64 0] w fun e w'=>e = .returned (.tuple #[]) ∧ w' = w:=by
  go_enter Tryz.func62,Tryz.ntmps62
  go_wp2
  go_returns
  exact ⟨rfl,rfl⟩
theorem fail_any (s y:Int) (hy:¬ y = 0) (w:World):Calls Tryz.prog 62 #[.int .i64 s,.int .i64 y] w fun e w'=>e = .panicked [fl s y] ∧ w' = w:=by
  go_enter Tryz.func62,Tryz.ntmps62
  go_wp2
  exact ⟨rfl,rfl,rfl⟩
theorem lit17 (a b v:Value):(#[a,b] ++ ((Array.replicate 15 undef).setIfInBounds 3 v).setIfInBounds 0 v:Array Value) = #[a,b,v,undef,undef,v,undef,undef,undef,undef,undef,undef,undef,undef,undef,undef,undef]:=by
  apply Array.ext'
  simp only [Array.toList_append,Array.toList_setIfInBounds,Array.toList_replicate]
  simp [List.replicate]
theorem catch_idle (B:Nat) (w:World) :
    CallsD Tryz.prog 53 #[.pointer (some ⟨B,0,none⟩),.pointer (some ⟨B + 1,0,none⟩)] .returning w fun e u' w'=>e = .returned (.tuple #[]) ∧ u' = .returning ∧ w' = w:=by
  refine callsD_of_wpS Tryz.func53 rfl fun c₀ cs hu=>?_
  apply wpS_seq
  apply wpS_region
  generalize hrest:(Code.seq _ _) = rest
  simp [wpOpsS,go_sem,recoverD,hu,Tryz.ntmps53,Exit.thenS]
  subst hrest
  refine wpS_of_wp ?_
  rw [lit17]
  go_wp2
  cases c₀
  simp_all [bodyPostS,results,Tryz.results53]
end Go.Proofs.YtncfbocbigdhiaaGreat.F
/- Guard as a call, over a pool of one device. -/
namespace Go.Proofs.YtncfbocbigdhiaaGreat.F
set_option maxRecDepth 100000
open Go.RowKit
set_option maxHeartbeats 1000000 in
theorem guard_ok (f:Nat) (cap:Array Value) (R:World → Prop) (w:World) (hent:∀ args W,(callFunc f args).run Tryz.prog W = .ok (.enter f args) W)
    (hdo:Calls Tryz.prog f cap (G0 w) fun e W=>e = .returned (.tuple #[]) ∧ W.heap[w.heap.size]? = some bob ∧ W.heap[w.heap.size + 1]? = some iob ∧ R W) :
    Calls Tryz.prog 15 #[.func (.func f) #[] cap] w fun e w'=>e = .returned (.tuple #[.agg #[.int .i64 0,.int .i64 0],.bool false]) ∧ ∃ W,R W ∧ KT w.heap.size W w':=by
  have hmf:∀ (fn:Fn) (first cap:Array Value) (w:World),(Instr.makeFunc fn first cap).run Tryz.prog w = .ok (.func fn first cap) w:=fun _ _ _ _=>rfl
  have hg0:(w.alloc (.cells #[.int .i64 0,.int .i64 0] 37)).alloc (.cells #[.bool false] 4) = G0 w:=rfl
  go_enter_defers Tryz.func15,Tryz.ntmps15
  go_wp2_with fail
  go_call hdo as e W1 ⟨rfl,h1,h2,h3⟩
  clear hdo hent
  have c0:W1.cell? ⟨w.heap.size,0,none⟩ = some (.int .i64 0):=cell_of h1 0
  have c1:W1.cell? ⟨w.heap.size,1,none⟩ = some (.int .i64 0):=cell_of h1 1
  have c2:W1.cell? ⟨w.heap.size + 1,0,none⟩ = some (.bool false):=cell_of h2 0
  have g0:W1.frozen? ⟨w.heap.size,0,none⟩ = false:=frz_of h1 0
  have g1:W1.frozen? ⟨w.heap.size,1,none⟩ = false:=frz_of h1 1
  have g2:W1.frozen? ⟨w.heap.size + 1,0,none⟩ = false:=frz_of h2 0
  have HR:Hid (R W1 ∧ W1.heap[w.heap.size]? = some bob ∧ W1.heap[w.heap.size + 1]? = some iob):=⟨h3,h1,h2⟩
  clear h1 h2 h3
  have F:((((W1.setCell ⟨w.heap.size,0,none⟩ (.int .i64 0)).setCell ⟨w.heap.size,1,none⟩ (.int .i64 0)).setCell ⟨w.heap.size + 1,0,none⟩ (.bool false)).heap[w.heap.size]? = some (.cells #[.int .i64 0,.int .i64 0] 37)) ∧ ((((W1.setCell ⟨w.heap.size,0,none⟩ (.int .i64 0)).setCell ⟨w.heap.size,1,none⟩ (.int .i64 0)).setCell ⟨w.heap.size + 1,0,none⟩ (.bool false)).heap[w.heap.size + 1]? = some (.cells #[.bool false] 4)) ∧
      KT w.heap.size W1 (((W1.setCell ⟨w.heap.size,0,none⟩ (.int .i64 0)).setCell ⟨w.heap.size,1,none⟩ (.int .i64 0)).setCell ⟨w.heap.size + 1,0,none⟩ (.bool false)):=by
    obtain ⟨_,h1,h2⟩:=HR.out
    refine ⟨?_,?_,(((KT.refl _ W1).set ⟨w.heap.size,0,none⟩ (Or.inl rfl) _).set ⟨w.heap.size,1,none⟩ (Or.inl rfl) _).set ⟨w.heap.size + 1,0,none⟩ (Or.inr rfl) _⟩
    · rw [Below.heap_setCell _ _ _ _ (by show w.heap.size ≠ w.heap.size + 1; omega),block_set (block_set h1 _) _]; rfl
    · rw [block_set (cs:=#[.bool false]) (t:=4)]
      · rfl
      · rw [Below.heap_setCell _ _ _ _ (by show w.heap.size + 1 ≠ w.heap.size; omega),Below.heap_setCell _ _ _ _ (by show w.heap.size + 1 ≠ w.heap.size; omega)]; exact h2
  have HF:Hid _:=F
  clear F
  go_wp2
  obtain ⟨F1,F2,F3⟩:=HF.out
  generalize (((W1.setCell ⟨w.heap.size,0,none⟩ (.int .i64 0)).setCell ⟨w.heap.size,1,none⟩ (.int .i64 0)).setCell ⟨w.heap.size + 1,0,none⟩ (.bool false)) = w3 at *
  have e0:w3.cell? ⟨w.heap.size,0,none⟩ = some (.int .i64 0):=cell_of F1 0
  have e1:w3.cell? ⟨w.heap.size,1,none⟩ = some (.int .i64 0):=cell_of F1 1
  have e2:w3.cell? ⟨w.heap.size + 1,0,none⟩ = some (.bool false):=cell_of F2 0
  refine leaves_cons (f:=53) (args:=#[.pointer (some ⟨w.heap.size,0,none⟩),.pointer (some ⟨w.heap.size + 1,0,none⟩)]) (by simp) (by simp [go_sem]) ?_
  refine (catch_idle w.heap.size _).mono ?_
  rintro e u' w'' ⟨rfl,rfl,rfl⟩
  have hend:Hid (∃ W,R W ∧ KT w.heap.size W w''):=⟨W1,HR.out.1,F3⟩
  simp [Leaves,settle,results,Tryz.results15,go_sem,e0,e1,e2]
  exact hend.out
end Go.Proofs.YtncfbocbigdhiaaGreat.F
