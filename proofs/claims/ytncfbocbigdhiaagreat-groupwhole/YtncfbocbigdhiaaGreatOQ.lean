/- What is written into an Out, as calls: of bytes as they are, of a number's lowest bytes, of a text with its length, of noughts to a multiple, and all of it as a text; the condition is that an Out of the call's own lies in memory, and that all of it stays below a million bytes. -/
import Derived.Test.YtncfbocbigdhiaaGreatOP
import Derived.Test.YtncfbocbigdhiaaGreatOR
namespace Go.Proofs.YtncfbocbigdhiaaGreat.O
set_option maxRecDepth 100000
set_option maxRecDepth 100000
set_option maxRecDepth 100000
open Go.RowKit

def bcs (l : List UInt8) : List Value := l.map fun b => Value.int .u8 (b.toNat : Int)
theorem bcs_append (a b : List UInt8) : bcs (a ++ b) = bcs a ++ bcs b := List.map_append ..
theorem byteCells_eq (s : ByteArray) : byteCells s = bcs s.data.toList := rfl
theorem bcs_length (l : List UInt8) : (bcs l).length = l.length := List.length_map ..

/-- At block B lies an Out of the call's own that has the bytes l; its slice is v. -/
structure OutIs (w : World) (B : Nat) (v : Value) (l : List UInt8) : Prop where
  cell : w.cell? ⟨B, 0, none⟩ = some v
  frz : w.frozen? ⟨B, 0, none⟩ = false
  own : w.ownsRow (B + 1) 5 1 v l.length (bcs l)
/-- Nothing that was there was written, but the Out and its row. -/
structure Kp (B : Nat) (v : Value) (w w' : World) : Prop where
  os : w'.os = w.os
  tape : w'.tape = w.tape
  output : w'.output = w.output
  size : w.heap.size ≤ w'.heap.size
  block : ∀ k, k < w.heap.size → k ≠ B → v.ownBlock ≠ some k → w'.heap[k]? = w.heap[k]?
/-- The bytes 'new' were written. -/
structure Wr (B : Nat) (v : Value) (l new : List UInt8) (w : World) (v' : Value) (w' : World) : Prop where
  out : OutIs w' B v' (l ++ new)
  kp : Kp B v w w'
  fr : v'.ownBlock = v.ownBlock ∨ ∃ k, v'.ownBlock = some k ∧ w.heap.size ≤ k

theorem OutIs.lt {w : World} {B : Nat} {v : Value} {l : List UInt8} (h : OutIs w B v l) : B < w.heap.size := World.block_lt_of_cell? w _ h.cell
theorem Kp.refl (B : Nat) (v : Value) (w : World) : Kp B v w w := ⟨rfl, rfl, rfl, Nat.le_refl _, fun _ _ _ _ => rfl⟩
theorem Wr.refl {B : Nat} {v : Value} {l : List UInt8} {w : World} (h : OutIs w B v l) : Wr B v l [] w v w := ⟨by rw [List.append_nil]; exact h, Kp.refl _ _ _, Or.inl rfl⟩
theorem Wr.trans {B : Nat} {v v' v'' : Value} {l n1 n2 : List UInt8} {w w' w'' : World} (h : Wr B v l n1 w v' w') (k : Wr B v' (l ++ n1) n2 w' v'' w'') : Wr B v l (n1 ++ n2) w v'' w'' := by
  refine ⟨by rw [← List.append_assoc]; exact k.out, ⟨k.kp.os.trans h.kp.os, k.kp.tape.trans h.kp.tape, k.kp.output.trans h.kp.output, Nat.le_trans h.kp.size k.kp.size, fun j hj h1 h2 => ?_⟩, ?_⟩
  · refine (k.kp.block j (Nat.lt_of_lt_of_le hj h.kp.size) h1 ?_).trans (h.kp.block j hj h1 h2)
    rcases h.fr with e | ⟨q, e, hq⟩
    · rw [e]; exact h2
    · rw [e]; intro e2; injection e2 with e2; omega
  · rcases k.fr with e | ⟨q, e, hq⟩
    · rw [e]; exact h.fr
    · exact Or.inr ⟨q, e, Nat.le_trans h.kp.size hq⟩
theorem Wr.below {B : Nat} {v v' : Value} {l n : List UInt8} {w w' : World} (h : Wr B v l n w v' w') (ho : OutIs w B v l) : Below B w w' := by
  refine ⟨h.kp.os, h.kp.tape, h.kp.output, h.kp.size, fun k hk => h.kp.block k (by have := ho.lt; omega) (by omega) ?_⟩
  intro e
  have := (ho.own.lt k e).1
  omega
theorem own_slice {w : World} {base : Nat} {v : Value} {n : Nat} {xs : List Value} (h : w.ownsRow base 5 1 v n xs) : ∃ ao cap, v = .slice ao n cap := by
  rcases h.2 with ⟨rfl, rfl⟩ | ⟨g, cap, _, rfl, _⟩
  · exact ⟨none, 0, rfl⟩
  · exact ⟨_, cap, rfl⟩

/-- Behind an append and the store of what it gave. -/
theorem wr_store {B : Nat} {v v' : Value} {l new : List UInt8} {w w1 w2 : World} (ho : OutIs w B v l) (hb : Below w.heap.size w w1) (hown : w2.ownsRow (B + 1) 5 1 v' (l.length + new.length) (bcs l ++ bcs new)) (hg : w1.grownBy w2 v.ownBlock)
    (hf : v'.ownBlock = v.ownBlock ∨ ∃ k, v'.ownBlock = some k ∧ w1.heap.size ≤ k) : Wr B v l new w v' (w2.setCell ⟨B, 0, none⟩ v') := by
  have hBlt := ho.lt
  have hne : v.ownBlock ≠ some B := by intro e; have := (ho.own.lt B e).1; omega
  have c1 : w1.cell? ⟨B, 0, none⟩ = some v := (hb.cell (by exact hBlt)).trans ho.cell
  have c2 : w2.cell? ⟨B, 0, none⟩ = some v := hg.cell c1 (by intro e; exact hne e.symm)
  have f2 : w2.frozen? ⟨B, 0, none⟩ = false := by
    rw [World.frozen?_of_block (hg.block B (World.block_lt_of_cell? w1 _ c1) (by intro e; exact hne e.symm)), hb.frozen (by exact hBlt)]
    exact ho.frz
  refine ⟨⟨World.cell?_setCell_same w2 _ _ c2, by rw [World.frozen?_setCell]; exact f2, ?_⟩, ⟨hg.os.trans hb.os, hg.tape.trans hb.tape, hg.output.trans hb.output, ?_, fun k hk h1 h2 => ?_⟩, ?_⟩
  · rw [List.length_append, bcs_append]
    exact ownsRow_setCell_below hown (by show B < B + 1; omega) _
  · have := hb.size; have := hg.size; simp [World.setCell]; omega
  · rw [Below.heap_setCell _ _ _ _ (by exact h1), hg.block k (by have := hb.size; omega) (by intro e; exact h2 e.symm), hb.block k hk]
  · rcases hf with e | ⟨k, e, hk⟩
    · exact Or.inl e
    · exact Or.inr ⟨k, e, Nat.le_trans hb.size hk⟩

theorem wpList_app {w : World} {ops : Array Oper} {rest : List Oper} {o : Oper} {a : Act} {Q : Exit → Act → World → Prop} (hgd : o.guard = none) (s x : Operand) (tx : TypeId)
    (ho : o.op = .call { callee := .builtin .append, args := #[s, x], argTypes := #[75, tx] }) (xv : Value) (m : Nat) (news : List Value) (hs : Sc tx o.type xv m news w)
    (base : Nat) (v : Value) (n : Nat) (xs : List Value) (hs1 : a.eval s = v) (hx : a.eval x = xv) (hown : w.ownsRow base 5 1 v n xs) (h63 : n + m ≤ 1000000) (hbase : base ≤ w.heap.size)
    (h : ∀ ao cap w', w'.ownsRow base 5 1 (.slice ao (n + m) cap) (n + m) (xs ++ news) → w.grownBy w' v.ownBlock → (Value.ownBlock (.slice ao (n + m) cap) = v.ownBlock ∨ ∃ k, Value.ownBlock (.slice ao (n + m) cap) = some k ∧ w.heap.size ≤ k) → wpList Tryz.prog ops Q rest (a.put o.dst (.slice ao (n + m) cap)) w') :
    wpList Tryz.prog ops Q (o :: rest) a w :=
  wpList_plain hgd fun _ hK => by
    obtain ⟨v', w', hr, h2, h3, h4⟩ := app_own hs base v n xs hown h63 hbase
    obtain ⟨ao, cap, rfl⟩ := own_slice h2
    unfold Oper.wp execOp
    simp only [ho, resolve, invoke, builtin, Sem.run_bind, Sem.run_pure, Result.andThen_ok, List.map_toArray, List.map_cons, List.map_nil, hs1, hx, hr]
    exact hK _ _ (h ao cap w' h2 h3 h4)

theorem size_list (s : ByteArray) : s.size = s.data.toList.length := by rw [Array.length_toList]; rfl

theorem conv_out {w : World} {B : Nat} {v : Value} {l : List UInt8} (ho : OutIs w B v l) : (convert 75 9 v).run Tryz.prog w = .ok (.string ⟨l.toArray⟩) w := by
  rcases ho.own.2 with ⟨rfl, h0⟩ | ⟨g, cap, cur, rfl, _⟩
  · have : l = [] := List.eq_nil_of_length_eq_zero h0
    subst this
    rfl
  · refine run_convert_bytes_back (P := Tryz.prog) w 75 9 5 ⟨g, 0, none⟩ cap l Tryz.underlying75 Tryz.underlying5 Tryz.underlying9 (fun j hj => ?_)
    exact ho.own.cells (g := g) rfl j _ (by simp [bcs, hj])
theorem bytes_any (B : Nat) (v : Value) (l : List UInt8) (w : World) (ho : OutIs w B v l) :
    Calls Tryz.prog 110 #[.pointer (some ⟨B, 0, none⟩)] w fun e w' => e = .returned (.string ⟨l.toArray⟩) ∧ w' = w := by
  have hcv := conv_out ho
  obtain ⟨ao0, cap0, rfl⟩ := own_slice ho.own
  have hc := ho.cell
  go_enter Tryz.func110, Tryz.ntmps110
  go_wp2
  go_ret
  exact ⟨rfl, rfl⟩

/-- How many noughts fill len up to a multiple of n. -/
def fillN (len n : Nat) : Nat := if len % n = 0 then 0 else n - len % n
theorem fill_any (B : Nat) (v : Value) (l : List UInt8) (n : Nat) (w : World) (ho : OutIs w B v l) (hn : n ≤ 1000) (hl : l.length ≤ 100000) :
    Calls Tryz.prog 109 #[.pointer (some ⟨B, 0, none⟩), .int .i64 (n : Int)] w fun e w' => e = .returned (.pointer (some ⟨B, 0, none⟩)) ∧ ∃ v', Wr B v l (List.replicate (fillN l.length n) 0) w v' w' := by
  obtain ⟨ao0, cap0, rfl⟩ := own_slice ho.own
  have hc := ho.cell
  by_cases h1 : n < 1
  · have h1' : (n : Int) < 1 := by omega
    have hf : fillN l.length n = 0 := by
      obtain rfl : n = 0 := by omega
      unfold fillN; split
      · rfl
      · rename_i h; omega
    rw [hf]
    go_enter Tryz.func109, Tryz.ntmps109
    go_wp2
    go_ret
    exact ⟨rfl, _, Wr.refl ho⟩
  · have h1' : ¬ (n : Int) < 1 := by omega
    have hlt : l.length % n < n := Nat.mod_lt _ (by omega)
    have hmod : ((l.length : Nat) : Int).tmod (n : Int) = ((l.length % n : Nat) : Int) := by
      rw [Int.tmod_eq_emod_of_nonneg (by omega)]; rfl
    have hnz : ¬ ((n : Int) = 0) := by omega
    by_cases h2 : l.length % n = 0
    · have hf : fillN l.length n = 0 := by unfold fillN; rw [if_pos h2]
      rw [h2] at hmod
      rw [hf]
      go_enter Tryz.func109, Tryz.ntmps109
      go_wp2
      go_ret
      exact ⟨rfl, _, Wr.refl ho⟩
    · have hf : fillN l.length n = n - l.length % n := by unfold fillN; rw [if_neg h2]
      have hrep : List.replicate (n - l.length % n) (Value.int .u8 0) = bcs (List.replicate (n - l.length % n) 0) := by simp [bcs]
      generalize hr : l.length % n = r at *
      obtain ⟨d, hd⟩ : ∃ d, n - r = d := ⟨_, rfl⟩
      have hdi : (n : Int) - (r : Int) = (d : Int) := by omega
      rw [hf, hd]
      rw [hd] at hrep
      have hd0 : 0 < d := by omega
      have hdl : d ≤ 1000 := by omega
      have hrp : (0 : Int) < (r : Int) := by omega
      have HR : Hid _ := hrep
      clear hf hr hd hrep
      go_enter Tryz.func109, Tryz.ntmps109
      go_wp2_with (at_builtin; refine wpList_app rfl (.tmp 22) (.tmp 25) 3 rfl (.int .i64 (d : Int)) d (bcs (List.replicate d 0)) (by rw [← HR.out]; exact Sc.ofZeros hd0 (by omega)) (B + 1) _ _ _ rfl rfl ho.own (by omega) ho.lt ?_)
      intro ao cap w2 hown hg hf
      have hw := wr_store (new := List.replicate d 0) ho (Below.refl _ _) (by rw [List.length_replicate]; exact hown) hg hf
      have c2 : w2.cell? ⟨B, 0, none⟩ = some (.slice ao0 l.length cap0) := hg.cell hc (by intro e; have := (ho.own.lt B e.symm).1; omega)
      have f2 : w2.frozen? ⟨B, 0, none⟩ = false := by
        have := hw.out.frz
        rwa [World.frozen?_setCell] at this
      have HW : Hid _ := hw
      clear hw hown hg hf hc
      go_wp2
      go_ret
      exact ⟨rfl, _, by have := HW.out; simpa using this⟩

theorem ownsRow_below {w W : World} {base : Nat} {v : Value} {n : Nat} {xs : List Value} (h : w.ownsRow base 5 1 v n xs) (hb : Below w.heap.size w W) : W.ownsRow base 5 1 v n xs := by
  refine ⟨h.1, ?_⟩
  rcases h.2 with h2 | ⟨g, cap, cur, e, hbg, hg, r⟩
  · exact Or.inl h2
  · have hlt : g < w.heap.size := (Array.getElem?_eq_some_iff.1 hg).1
    exact Or.inr ⟨g, cap, cur, e, hbg, (hb.block g hlt).trans hg, r⟩
theorem wp_app {w : World} {o : Oper} {a : Act} {K : Act → World → Prop} {Q : Exit → Act → World → Prop} (s x : Operand) (tx : TypeId)
    (ho : o.op = .call { callee := .builtin .append, args := #[s, x], argTypes := #[75, tx] }) (xv : Value) (m : Nat) (news : List Value) (hs : Sc tx o.type xv m news w)
    (base : Nat) (v : Value) (n : Nat) (xs : List Value) (hs1 : a.eval s = v) (hx : a.eval x = xv) (hown : w.ownsRow base 5 1 v n xs) (h63 : n + m ≤ 1000000) (hbase : base ≤ w.heap.size)
    (h : ∀ ao cap w', w'.ownsRow base 5 1 (.slice ao (n + m) cap) (n + m) (xs ++ news) → w.grownBy w' v.ownBlock → (Value.ownBlock (.slice ao (n + m) cap) = v.ownBlock ∨ ∃ k, Value.ownBlock (.slice ao (n + m) cap) = some k ∧ w.heap.size ≤ k) → K (a.put o.dst (.slice ao (n + m) cap)) w') :
    Oper.wp Tryz.prog o a w K Q := by
  obtain ⟨v', w', hr, h2, h3, h4⟩ := app_own hs base v n xs hown h63 hbase
  obtain ⟨ao, cap, rfl⟩ := own_slice h2
  unfold Oper.wp execOp
  simp only [ho, resolve, invoke, builtin, Sem.run_bind, Sem.run_pure, Result.andThen_ok, List.map_toArray, List.map_cons, List.map_nil, hs1, hx, hr]
  exact h ao cap w' h2 h3 h4

/-- The state of memory while one byte is written: before the append, behind it, behind the store. -/
structure NPh (B : Nat) (v0 : Value) (l : List UInt8) (by1 : UInt8) (w : World) (done : Nat → Bool) (f : Nat → Value) (W : World) : Prop where
  no4 : done 4 = false → done 12 = false
  no11 : done 11 = false → done 12 = false
  no12 : done 12 = false → done 15 = false
  before : done 12 = false → W.cell? ⟨B, 0, none⟩ = some v0 ∧ Below w.heap.size w W ∧ (done 11 = true → ∃ k, f 11 = .slice (some ⟨k, 0, none⟩) 1 1 ∧ w.heap.size ≤ k ∧ W.cell? ⟨k, 0, none⟩ = some (.int .u8 (by1.toNat : Nat)))
  after : done 12 = true → done 15 = false → ∃ ao cap, f 12 = .slice ao (l.length + 1) cap ∧ W.cell? ⟨B, 0, none⟩ = some v0 ∧ W.frozen? ⟨B, 0, none⟩ = false ∧ Wr B v0 l [by1] w (.slice ao (l.length + 1) cap) (W.setCell ⟨B, 0, none⟩ (.slice ao (l.length + 1) cap))
  fin : done 15 = true → ∃ v', Wr B v0 l [by1] w v' W
theorem NPh.pure {B : Nat} {v0 : Value} {l : List UInt8} {by1 : UInt8} {w : World} {done : Nat → Bool} {f : Nat → Value} {W : World} (h : NPh B v0 l by1 w done f W) (i : Nat) (hi : i ≠ 11 ∧ i ≠ 12 ∧ i ≠ 15) (v : Value) :
    NPh B v0 l by1 w (updB done i) (upd f i v) W := by
  have a11 : updB done i 11 = done 11 := if_neg (Ne.symm hi.1)
  have a12 : updB done i 12 = done 12 := if_neg (Ne.symm hi.2.1)
  have a15 : updB done i 15 = done 15 := if_neg (Ne.symm hi.2.2)
  have b11 : upd f i v 11 = f 11 := if_neg (Ne.symm hi.1)
  have b12 : upd f i v 12 = f 12 := if_neg (Ne.symm hi.2.1)
  refine ⟨fun e => ?_, ?_, ?_, ?_, ?_, ?_⟩
  · rw [a12]
    refine h.no4 ?_
    unfold updB at e
    split at e
    · cases e
    · exact e
  · rw [a11, a12]; exact h.no11
  · rw [a12, a15]; exact h.no12
  · rw [a12, a11, b11]; exact h.before
  · rw [a12, a15, b12]; exact h.after
  · rw [a15]; exact h.fin
theorem NPh.built {B : Nat} {v0 : Value} {l : List UInt8} {by1 : UInt8} {w : World} {done : Nat → Bool} {f : Nat → Value} {W : World} (h : NPh B v0 l by1 w done f W) (h12 : done 12 = false) :
    NPh B v0 l by1 w (updB done 11) (upd f 11 (.slice (some ⟨W.heap.size, 0, none⟩) 1 1)) (W.alloc (.cells #[.int .u8 (by1.toNat : Nat)] 5)) := by
  obtain ⟨a, b, _⟩ := h.before h12
  have h15 := h.no12 h12
  refine ⟨h.no4, fun e => (by cases e), h.no12, fun _ => ⟨?_, ?_, fun _ => ⟨W.heap.size, rfl, b.size, by simp [go_sem]⟩⟩, fun e => ?_, fun e => ?_⟩
  · rw [World.cell?_alloc_past _ _ _ (World.block_lt_of_cell? W _ a)]; exact a
  · exact Below.alloc b b.size _
  · exact absurd (show done 12 = true from e) (by rw [h12]; decide)
  · exact absurd (show done 15 = true from e) (by rw [h15]; decide)
theorem NPh.appended {B : Nat} {v0 : Value} {l : List UInt8} {by1 : UInt8} {w : World} {done : Nat → Bool} {f : Nat → Value} {W W' : World} (h : NPh B v0 l by1 w done f W) (ho : OutIs w B v0 l) (e4 : done 4 = true) (e11 : done 11 = true) (h12 : done 12 = false)
    {ao : Option Addr} {cap : Nat} (h1 : W'.ownsRow (B + 1) 5 1 (.slice ao (l.length + 1) cap) (l.length + 1) (bcs l ++ [.int .u8 (by1.toNat : Nat)])) (h2 : W.grownBy W' v0.ownBlock) (h3 : Value.ownBlock (.slice ao (l.length + 1) cap) = v0.ownBlock ∨ ∃ k, Value.ownBlock (.slice ao (l.length + 1) cap) = some k ∧ W.heap.size ≤ k) :
    NPh B v0 l by1 w (updB done 12) (upd f 12 (.slice ao (l.length + 1) cap)) W' := by
  obtain ⟨a, b, _⟩ := h.before h12
  have h15 := h.no12 h12
  have hw := wr_store (new := [by1]) ho b h1 h2 h3
  refine ⟨fun e => absurd (show done 4 = false from e) (by rw [e4]; decide), fun e => absurd (show done 11 = false from e) (by rw [e11]; decide), fun e => (by cases e), fun e => (by cases e), fun _ _ => ⟨ao, cap, rfl, ?_, ?_, hw⟩, fun e => ?_⟩
  · exact h2.cell a (by intro e; have := (ho.own.lt B e.symm).1; omega)
  · have := hw.out.frz
    rwa [World.frozen?_setCell] at this
  · exact absurd (show done 15 = true from e) (by rw [h15]; decide)
theorem NPh.stored {B : Nat} {v0 : Value} {l : List UInt8} {by1 : UInt8} {w : World} {done : Nat → Bool} {f : Nat → Value} {W W' : World} {v' : Value} (h : NPh B v0 l by1 w done f W) (e12 : done 12 = true) (hw : Wr B v0 l [by1] w v' W') :
    NPh B v0 l by1 w (updB done 15) (upd f 15 undef) W' :=
  ⟨h.no4, h.no11, fun e => absurd (show done 12 = false from e) (by rw [e12]; decide), fun e => absurd (show done 12 = false from e) (by rw [e12]; decide), fun _ e => (by cases e), fun _ => ⟨v', hw⟩⟩

def wd (n : Int) : Nat := (max 0 (min n 8)).toNat
theorem wd_le (n : Int) : wd n ≤ 8 := by unfold wd; omega
theorem width_any (n : Int) (w : World) : Calls Tryz.prog 112 #[.int .i64 n] w fun e w' => e = .returned (.int .i64 (wd n : Nat)) ∧ w' = w := by
  go_enter Tryz.func112, Tryz.ntmps112
  go_wp2
  all_goals go_ret
  all_goals (refine ⟨congrArg (fun z => Ending.returned (Value.int IntKind.i64 z)) ?_, rfl⟩; unfold wd; omega)

/-- The lowest k bytes of x, the highest first. -/
def numB (x : Nat) : Nat → List UInt8
  | 0 => []
  | k + 1 => UInt8.ofNat (x / 256 ^ k) :: numB x k
theorem numB_length (x k : Nat) : (numB x k).length = k := by induction k with
  | zero => rfl
  | succ k ih => simp [numB, ih]
def NV (B x c sh by1 : Nat) (L : List UInt8) (ao0 : Option Addr) (cap0 : Nat) : Nat → Value → Prop
  | 0, v => v = .pointer (some ⟨B, 0, none⟩)
  | 1, v => v = .pointer (some ⟨B, 0, none⟩)
  | 2, v => v = .pointer (some ⟨B, 0, none⟩)
  | 3, v => v = .pointer (some ⟨B, 0, none⟩)
  | 4, v => v = .slice ao0 L.length cap0
  | 5, v => v = .int .u64 (x : Int)
  | 6, v => v = .int .i64 ((c + 1 : Nat) : Int)
  | 7, v => v = .int .i64 (c : Int)
  | 8, v => v = .int .i64 (8 * (c : Int))
  | 9, v => v = .int .u64 (sh : Nat)
  | 10, v => v = .int .u8 (by1 : Nat)
  | 11, _ => True
  | 12, _ => True
  | 13, v => v = .pointer (some ⟨B, 0, none⟩)
  | 14, v => v = .pointer (some ⟨B, 0, none⟩)
  | 15, _ => True
  | _, _ => True

set_option maxHeartbeats 800000 in
theorem num_any (B : Nat) (v : Value) (l : List UInt8) (x : Nat) (n : Int) (w : World) (ho : OutIs w B v l) (_hx : x < 18446744073709551616) (hl : l.length ≤ 100000) :
    Calls Tryz.prog 68 #[.pointer (some ⟨B, 0, none⟩), .int .u64 (x : Int), .int .i64 n] w fun e w' => e = .returned (.pointer (some ⟨B, 0, none⟩)) ∧ ∃ v', Wr B v l (numB x (wd n)) w v' w' := by
  have hw8 := wd_le n
  have hwc := width_any n w
  generalize wd n = k at *
  go_enter Tryz.func68, Tryz.ntmps68
  go_wp2_with fail
  go_call hwc as e w1 ⟨rfl, rfl⟩
  clear hwc
  go_wp2_with fail
  go_loopw [7] (fun i wr => ∃ (c : Nat) (new : List UInt8) (v' : Value), c ≤ k ∧ new.length + c = k ∧ new ++ numB x c = numB x k ∧ i = .int .i64 (c : Nat) ∧ Hid (Wr B v l new w1 v' wr))
    (fun i _ => (intOf i).toNat)
  case atStart => exact ⟨k, [], v, Nat.le_refl _, by simp, rfl, rfl, Wr.refl ho⟩
  case round =>
    obtain ⟨c, new, v', hc, hnk, hnew, rfl, hre⟩ := hrel
    clear ho
    cases c with
    | zero =>
      have hnn : new = numB x k := by simpa [numB] using hnew
      subst hnn
      clear hnew
      go_wp2
      go_ret
      exact ⟨rfl, v', hre.out⟩
    | succ c =>
      have hw2 := hre.out
      clear hre
      obtain ⟨L, hL⟩ : ∃ L, l ++ new = L := ⟨_, rfl⟩
      have ho2 : OutIs wr B v' L := by rw [← hL]; exact hw2.out
      have hLl : L.length ≤ 100008 := by rw [← hL, List.length_append]; omega
      obtain ⟨ao0, cap0, rfl⟩ := own_slice ho2.own
      obtain ⟨by1, hby⟩ : ∃ b : UInt8, UInt8.ofNat (x / 256 ^ c) = b := ⟨_, rfl⟩
      obtain ⟨sh, hsh⟩ : ∃ q : Nat, x / 256 ^ c = q := ⟨_, rfl⟩
      have hc0 := ho2.cell
      have HB : Hid (UInt8.ofNat (x / 256 ^ c) = by1 ∧ x / 256 ^ c = sh) := ⟨hby, hsh⟩
      have HW : Hid (l ++ new = L ∧ Wr B v l new w1 (.slice ao0 L.length cap0) wr ∧ new ++ numB x (c + 1) = numB x k) := ⟨hL, hw2, hnew⟩
      clear hby hsh hL hw2 hnew
      go_wp2
      have hq1 : IntKind.i64.wrap (c : Int) = (c : Int) := by rw [IntKind.wrap_i64]; omega
      have hq2 : IntKind.i64.wrap (8 * (c : Int)) = 8 * (c : Int) := by rw [IntKind.wrap_i64]; omega
      have hq3 : (x : Int) / 2 ^ (8 * (c : Int)).toNat = ((sh : Nat) : Int) := by
        have e1 : (8 * (c : Int)).toNat = 8 * c := by omega
        have e2 : (2 : Int) ^ (8 * c) = ((256 ^ c : Nat) : Int) := by
          rw [show (256 : Nat) ^ c = 2 ^ (8 * c) by rw [Nat.pow_mul], Int.natCast_pow]; rfl
        rw [e1, e2, ← HB.out.2]; rfl
      have hq4 : IntKind.u8.wrap ((sh : Nat) : Int) = ((by1.toNat : Nat) : Int) := by
        rw [IntKind.wrap_u8, ← HB.out.1, HB.out.2]; simp
      refine wp_region_ph (fun f => ⟨#[Value.pointer (some ⟨B, 0, none⟩), Value.int IntKind.u64 (x : Int), Value.int IntKind.i64 n, undef, undef, undef, Value.pointer none, Value.int IntKind.i64 ((c + 1 : Nat) : Int), Value.int IntKind.i64 n, Value.int IntKind.i64 (k : Int), Value.int IntKind.i64 ((c + 1 : Nat) : Int), Value.bool true, u12, u13, f 0, f 1, f 2, f 3, f 4, f 5, f 6, f 7, f 8, f 9, f 10, f 11, f 12, f 13, f 14, undef], []⟩) (NV B x c sh by1.toNat L ao0 cap0) (NPh B (.slice ao0 L.length cap0) L by1 wr) (fun i => [u14, u15, u16, u17, u18, u19, u20, u21, u22, u23, u24, u25, u26, u27, u28].getD i undef) (by kernel_rfl) rfl rfl ?hI ?hput ?step ?fin
      case hI => exact ⟨fun _ => rfl, fun _ => rfl, fun _ => rfl, fun _ => ⟨hc0, Below.drew (Below.refl _ _), fun e => by cases e⟩, fun e => (by cases e), fun e => (by cases e)⟩
      case fin =>
        intro f W hP hV
        obtain ⟨v2, hw3⟩ := hP.fin rfl
        obtain ⟨e1, e2, e3⟩ := HW.out
        have hw4 : Hid (Wr B v l (new ++ [by1]) w1 v2 W) := Wr.trans e2 (by rw [e1]; exact hw3)
        have hnew2 : (new ++ [by1]) ++ numB x c = numB x k := by rw [← e3, ← HB.out.1]; simp [numB]
        clear hP hV hw3 e1 e2 e3 HW ho2 hc0
        go_wp2
        go_roundw
        case rel => exact ⟨c, new ++ [by1], v2, by omega, by simp; omega, hnew2, by go_num, hw4⟩
        case measure => simp only [intOf]; omega
      case hput =>
        repeat (refine ⟨fun f v => rfl, ?_⟩)
        trivial
      case step =>
        refine ⟨?_, ?_⟩
        · intro done f W hP hdn hd K hK
          clear hd
          go_simp
          exact hK _ _ rfl (hP.pure _ (by decide) _)
        refine ⟨?_, ?_⟩
        · intro done f W hP hdn hd K hK
          clear hd
          go_simp
          exact hK _ _ rfl (hP.pure _ (by decide) _)
        refine ⟨?_, ?_⟩
        · intro done f W hP hdn hd K hK
          have d1 := (hd.1 rfl).2
          have e1 := (hd.1 rfl).1
          clear hd
          replace d1 : f 1 = .pointer (some ⟨B, 0, none⟩) := d1
          generalize f 1 = x1 at *
          subst d1
          clear e1
          go_simp
          exact hK _ _ rfl (hP.pure _ (by decide) _)
        refine ⟨?_, ?_⟩
        · intro done f W hP hdn hd K hK
          have d2 := (hd.1 rfl).2
          have e2 := (hd.1 rfl).1
          clear hd
          replace d2 : f 2 = .pointer (some ⟨B, 0, none⟩) := d2
          generalize f 2 = x2 at *
          subst d2
          clear e2
          go_simp
          exact hK _ _ rfl (hP.pure _ (by decide) _)
        refine ⟨?_, ?_⟩
        · intro done f W hP hdn hd K hK
          have d3 := (hd.1 rfl).2
          have e3 := (hd.1 rfl).1
          clear hd
          replace d3 : f 3 = .pointer (some ⟨B, 0, none⟩) := d3
          generalize f 3 = x3 at *
          subst d3
          clear e3
          have hcW := (hP.before (hP.no4 hdn)).1
          go_simp
          exact hK _ _ rfl (hP.pure _ (by decide) _)
        refine ⟨?_, ?_⟩
        · intro done f W hP hdn hd K hK
          clear hd
          go_simp
          exact hK _ _ rfl (hP.pure _ (by decide) _)
        refine ⟨?_, ?_⟩
        · intro done f W hP hdn hd K hK
          clear hd
          go_simp
          exact hK _ _ rfl (hP.pure _ (by decide) _)
        refine ⟨?_, ?_⟩
        · intro done f W hP hdn hd K hK
          have d6 := (hd.1 rfl).2
          have e6 := (hd.1 rfl).1
          clear hd
          replace d6 : f 6 = .int .i64 ((c + 1 : Nat) : Int) := d6
          generalize f 6 = x6 at *
          subst d6
          clear e6
          go_simp
          exact hK _ _ rfl (hP.pure _ (by decide) _)
        refine ⟨?_, ?_⟩
        · intro done f W hP hdn hd K hK
          have d7 := (hd.1 rfl).2
          have e7 := (hd.1 rfl).1
          clear hd
          replace d7 : f 7 = .int .i64 (c : Int) := d7
          generalize f 7 = x7 at *
          subst d7
          clear e7
          go_simp
          exact hK _ _ rfl (hP.pure _ (by decide) _)
        refine ⟨?_, ?_⟩
        · intro done f W hP hdn hd K hK
          have d5 := (hd.1 rfl).2
          have d8 := (hd.2.1 rfl).2
          have e5 := (hd.1 rfl).1
          have e8 := (hd.2.1 rfl).1
          clear hd
          replace d5 : f 5 = .int .u64 (x : Int) := d5
          replace d8 : f 8 = .int .i64 (8 * (c : Int)) := d8
          generalize f 5 = x5 at *
          subst d5
          clear e5
          generalize f 8 = x8 at *
          subst d8
          clear e8
          go_simp
          exact hK _ _ rfl (hP.pure _ (by decide) _)
        refine ⟨?_, ?_⟩
        · intro done f W hP hdn hd K hK
          have d9 := (hd.1 rfl).2
          have e9 := (hd.1 rfl).1
          clear hd
          replace d9 : f 9 = .int .u64 (sh : Nat) := d9
          generalize f 9 = x9 at *
          subst d9
          clear e9
          go_simp
          exact hK _ _ rfl (hP.pure _ (by decide) _)
        refine ⟨?_, ?_⟩
        · intro done f W hP hdn hd K hK
          have d10 := (hd.1 rfl).2
          have e10 := (hd.1 rfl).1
          clear hd
          replace d10 : f 10 = .int .u8 (by1.toNat : Nat) := d10
          generalize f 10 = x10 at *
          subst d10
          clear e10
          have h12 := hP.no11 hdn
          go_simp
          exact hK (.slice (some ⟨W.heap.size, 0, none⟩) 1 1) (W.alloc (.cells #[.int .u8 (by1.toNat : Nat)] 5)) trivial (hP.built h12)
        refine ⟨?_, ?_⟩
        · intro done f W hP hdn hd K hK
          have d4 := (hd.1 rfl).2
          have d11 := (hd.2.1 rfl).2
          have e4 := (hd.1 rfl).1
          have e11 := (hd.2.1 rfl).1
          clear hd
          replace d4 : f 4 = .slice ao0 L.length cap0 := d4
          obtain ⟨hcW, hbW, hbl⟩ := hP.before hdn
          obtain ⟨kk, e11', hkk, hck⟩ := hbl e11
          generalize f 11 = x11 at *
          subst e11'
          generalize f 4 = x4 at *
          subst d4
          rw [if_pos (show Region.wanted _ _ = true from rfl)]
          refine wp_app (.tmp 18) (.tmp 25) 75 rfl (.slice (some ⟨kk, 0, none⟩) 1 1) 1 [.int .u8 (by1.toNat : Nat)] (Sc.ofSrc (Src.ofSlice _ Tryz.underlying75 ⟨kk, 0, none⟩ 1 1 _ rfl (fun j u hj => ?_) (fun u hu => ?_))) (B + 1) _ _ _ rfl rfl (ownsRow_below ho2.own hbW) (by omega) (by have := hbW.size; have := ho2.lt; omega) (fun ao cap w' h1 h2 h3 => ?_)
          · match j, hj with
            | 0, hj => simp at hj; subst hj; simpa [Addr.add] using hck
          · simp at hu; subst hu; rfl
          · exact hK _ _ trivial (hP.appended ho2 e4 e11 hdn h1 h2 h3)
        refine ⟨?_, ?_⟩
        · intro done f W hP hdn hd K hK
          have d0 := (hd.1 rfl).2
          have e0 := (hd.1 rfl).1
          clear hd
          replace d0 : f 0 = .pointer (some ⟨B, 0, none⟩) := d0
          generalize f 0 = x0 at *
          subst d0
          clear e0
          go_simp
          exact hK _ _ rfl (hP.pure _ (by decide) _)
        refine ⟨?_, ?_⟩
        · intro done f W hP hdn hd K hK
          have d13 := (hd.1 rfl).2
          have e13 := (hd.1 rfl).1
          clear hd
          replace d13 : f 13 = .pointer (some ⟨B, 0, none⟩) := d13
          generalize f 13 = x13 at *
          subst d13
          clear e13
          go_simp
          exact hK _ _ rfl (hP.pure _ (by decide) _)
        refine ⟨?_, ?_⟩
        · intro done f W hP hdn hd K hK
          have d14 := (hd.1 rfl).2
          have d12 := (hd.2.1 rfl).2
          have e14 := (hd.1 rfl).1
          have e12 := (hd.2.1 rfl).1
          clear hd
          replace d14 : f 14 = .pointer (some ⟨B, 0, none⟩) := d14
          obtain ⟨ao, cap, e12', hc2, hf2, hwr⟩ := hP.after e12 hdn
          generalize f 12 = x12 at *
          subst e12'
          generalize f 14 = x14 at *
          subst d14
          clear e14
          go_simp
          exact hK undef (W.setCell ⟨B, 0, none⟩ (.slice ao (L.length + 1) cap)) trivial (hP.stored e12 hwr)
        trivial

theorem extract_all (s : ByteArray) : s.extract 0 s.size = s := by
  apply ByteArray.ext
  simp
theorem out_new (w : World) : OutIs (w.alloc (.cells #[.slice none 0 0] 158)) w.heap.size (.slice none 0 0) [] := by
  have h0 : (w.alloc (.cells #[.slice none 0 0] 158)).heap[w.heap.size]? = some (.cells #[.slice none 0 0] 158) := by
    show (w.heap.push _)[w.heap.size]? = _
    rw [Array.getElem?_push, if_pos rfl]
  refine ⟨by simp [go_sem], ?_, World.ownsRow_nil _ _ _ _⟩
  simp only [World.frozen?, h0]
  simp

end Go.Proofs.YtncfbocbigdhiaaGreat.O
