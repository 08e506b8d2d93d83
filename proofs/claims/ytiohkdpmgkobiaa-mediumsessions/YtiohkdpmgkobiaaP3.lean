/- What a device writes into a sector that is behind all loose ones, as a call. -/
import Derived.Test.YtiohkdpmgkobiaaT1
import Derived.Lib.BufferWrite
namespace Go.Proofs.Ytiohkdpmgkobiaa
open Go.RowKit
theorem wp_build_run {o : Oper} {a : Act} {w : World} {K : Act → World → Prop} {Q : Exit → Act → World → Prop} (t : TypeId) (parts : Array (Nat × Operand)) (ho : o.op = .build t parts) {v : Value} (vs : Array (Nat × Value)) (hvs : (parts.map fun (i, x) => (i, a.eval x)) = vs)
    (hr : (Instr.build t vs).run Try.prog w = .ok v w) (h : K (a.put o.dst v) w) : o.wp Try.prog a w K Q := by
  unfold Oper.wp execOp
  simp only [ho, Sem.run_bind, hvs, hr, Result.andThen_ok]
  exact h
theorem wp_buildSlice_run {o : Oper} {a : Act} {w w' : World} {K : Act → World → Prop} {Q : Exit → Act → World → Prop} (t : TypeId) (n : Nat) (parts : Array (Nat × Operand)) (ho : o.op = .buildSlice t n parts) {v : Value} (vs : Array (Nat × Value)) (hvs : (parts.map fun (i, x) => (i, a.eval x)) = vs)
    (hr : (Instr.buildSlice t n vs).run Try.prog w = .ok v w') (h : K (a.put o.dst v) w') : o.wp Try.prog a w K Q := by
  unfold Oper.wp execOp
  simp only [ho, Sem.run_bind, hvs, hr, Result.andThen_ok]
  exact h
def secl (st : St) (i : Nat) : List Value := (st.secs.toList.drop (i * 64)).take 64
def ent (st : St) (i : Nat) : List Value := .int .i64 (i : Nat) :: secl st i
def lsd (st : St) (i : Nat) : St := { st with ln := st.ln + 1, loose := st.loose ++ ent st i }
structure SecOk (st : St) : Prop where
  size : st.secs.size = st.n * 64
  bytes : ∀ u ∈ st.secs.toList, ∃ b : UInt8, u = .int .u8 (b.toNat : Nat)
theorem sec_length {st : St} {i : Nat} (h : SecOk st) (hi : i < st.n) : (secl st i).length = 64 := by
  unfold secl
  rw [List.length_take, List.length_drop, Array.length_toList, h.size]
  have : (i + 1) * 64 ≤ st.n * 64 := Nat.mul_le_mul_right _ hi
  omega
theorem sec_range {st : St} {i S : Nat} {W : World} (h : W.heap[S]? = some (.cells st.secs 147)) : W.rangeAt S (i * 64) (secl st i) := by
  intro j v hj
  rw [cell_of h]
  unfold secl at hj
  rw [List.getElem?_take] at hj
  split at hj
  · rw [List.getElem?_drop, Array.getElem?_toList] at hj; exact hj
  · cases hj
theorem ent_one {st : St} {i : Nat} (h : SecOk st) : ∀ u ∈ ent st i, u.oneCell' = true := by
  intro u hu
  rcases List.mem_cons.1 hu with rfl | hu
  · rfl
  · obtain ⟨b, rfl⟩ := h.bytes u (List.mem_of_mem_drop (List.mem_of_mem_take hu))
    rfl
def setSec (secs : Array Value) (i : Nat) (s : ByteArray) : Array Value := (secs.toList.take (i * 64) ++ Lib.byteCells s.data.toList ++ secs.toList.drop (i * 64 + 64)).toArray
def wrote (st : St) (i : Nat) (s : ByteArray) : St := { lsd st i with secs := setSec st.secs i s }
theorem size5 : (Try.prog.info? 5).map (·.size) = some 1 := by kernel_rfl
structure Sm (w W : World) : Prop where
  heap : W.heap = w.heap
  os : W.os = w.os
  tape : W.tape = w.tape
  output : W.output = w.output
theorem ent_range {st : St} {i : Nat} {w W : World} (h : Sm (w.alloc (.cells (ent st i).toArray 149)) W) : W.rangeAt w.heap.size 0 (ent st i) := by
  intro j v hj
  have : W.heap[w.heap.size]? = some (.cells (ent st i).toArray 149) := by rw [h.heap]; exact heap_new _ _
  rw [cell_of this, Nat.zero_add]
  simpa using hj
section
variable {b0 : Nat} {w0 : World} {L : Loc} {st : St} {lv : Value} {oth : List (Nat × Obj)} {w : World} {i : Nat}
theorem Sm.below {o : Obj} {W : World} (h : Sm (w.alloc o) W) : Below w.heap.size w W := by
  have b : Below w.heap.size w (w.alloc o) := Below.alloc (Below.refl _ _) (Nat.le_refl _) _
  exact ⟨h.os.trans b.os, h.tape.trans b.tape, h.output.trans b.output, by rw [h.heap]; exact b.size, fun k hk => by rw [h.heap]; exact b.block k hk⟩
theorem own_same (h : One b0 w0 L st lv oth w) {o : Obj} {W : World} (hs : Sm (w.alloc o) W) : W.ownsRow b0 149 65 lv st.ln st.loose := (h.ofBelow hs.below).own
theorem ent_base (h : One b0 w0 L st lv oth w) {o : Obj} {W : World} (hs : Sm (w.alloc o) W) : b0 ≤ W.heap.size := by
  have := hs.below.size; have := getElem?_lt h.pool; have := h.bP; omega
structure WPh (b0 : Nat) (w0 : World) (L : Loc) (st : St) (lv : Value) (oth : List (Nat × Obj)) (i : Nat) (w : World) (done : Nat → Bool) (f : Nat → Value) (W : World) : Prop where
  c3 : W.cell? ⟨L.D, 3, none⟩ = some (.slice (some ⟨L.S, 0, none⟩) st.n st.n)
  cS : W.heap[L.S]? = some (.cells st.secs 147)
  c4 : done 19 = false → W.cell? ⟨L.D, 4, none⟩ = some lv ∧ W.frozen? ⟨L.D, 4, none⟩ = false
  o4 : done 4 = false → done 16 = false
  o16 : done 16 = false → done 19 = false
  o15 : done 15 = false → done 16 = false
  a : done 15 = false → Sm w W
  b : done 15 = true → done 16 = false → Sm (w.alloc (.cells (ent st i).toArray 149)) W
  c : done 16 = true → done 19 = false → W.ownsRow b0 149 65 (f 16) (st.ln + 1) (st.loose ++ ent st i) ∧ KO L lv w W ∧ W.heap[L.P]? = w.heap[L.P]? ∧ W.heap[L.D]? = w.heap[L.D]?
  d : done 19 = true → ∃ v', One b0 w0 L (lsd st i) v' oth W
theorem WPh.start {f : Nat → Value} (h : One b0 w0 L st lv oth w) : WPh b0 w0 L st lv oth i w (fun _ => false) f w.drew :=
  ⟨h.dc.2.2.2.1, h.sec, fun _ => ⟨h.dc.2.2.2.2.1, h.df 4⟩, fun _ => rfl, fun _ => rfl, fun _ => rfl, fun _ => ⟨rfl, rfl, rfl, rfl⟩, (fun e => by cases e), (fun e => by cases e), (fun e => by cases e)⟩
variable {done : Nat → Bool} {f : Nat → Value} {W : World}
theorem WPh.pure (h : WPh b0 w0 L st lv oth i w done f W) (k : Nat) (hk : k ≠ 4 ∧ k ≠ 15 ∧ k ≠ 16 ∧ k ≠ 19) (v : Value) : WPh b0 w0 L st lv oth i w (updB done k) (upd f k v) W := by
  have a4 : updB done k 4 = done 4 := if_neg (Ne.symm hk.1)
  have a15 : updB done k 15 = done 15 := if_neg (Ne.symm hk.2.1)
  have a16 : updB done k 16 = done 16 := if_neg (Ne.symm hk.2.2.1)
  have a19 : updB done k 19 = done 19 := if_neg (Ne.symm hk.2.2.2)
  have f16 : upd f k v 16 = f 16 := if_neg (Ne.symm hk.2.2.1)
  exact ⟨h.c3, h.cS, by rw [a19]; exact h.c4, by rw [a4, a16]; exact h.o4, by rw [a16, a19]; exact h.o16, by rw [a15, a16]; exact h.o15, by rw [a15]; exact h.a, by rw [a15, a16]; exact h.b, by rw [a16, a19, f16]; exact h.c, by rw [a19]; exact h.d⟩
theorem WPh.pure4 (h : WPh b0 w0 L st lv oth i w done f W) (v : Value) : WPh b0 w0 L st lv oth i w (updB done 4) (upd f 4 v) W := by
  have a4 : updB done 4 4 = true := if_pos rfl
  have a15 : updB done 4 15 = done 15 := if_neg (by decide)
  have a16 : updB done 4 16 = done 16 := if_neg (by decide)
  have a19 : updB done 4 19 = done 19 := if_neg (by decide)
  have f16 : upd f 4 v 16 = f 16 := if_neg (by decide)
  exact ⟨h.c3, h.cS, by rw [a19]; exact h.c4, by rw [a4]; exact (fun e => by cases e), by rw [a16, a19]; exact h.o16, by rw [a15, a16]; exact h.o15, by rw [a15]; exact h.a, by rw [a15, a16]; exact h.b, by rw [a16, a19, f16]; exact h.c, by rw [a19]; exact h.d⟩
theorem WPh.laid (h : WPh b0 w0 L st lv oth i w done f W) (h15 : done 15 = false) (v : Value) : WPh b0 w0 L st lv oth i w (updB done 15) (upd f 15 v) (W.alloc (.cells (ent st i).toArray 149)) := by
  have a4 : updB done 15 4 = done 4 := if_neg (by decide)
  have a15 : updB done 15 15 = true := if_pos rfl
  have a16 : updB done 15 16 = done 16 := if_neg (by decide)
  have a19 : updB done 15 19 = done 19 := if_neg (by decide)
  have h16 := h.o15 h15
  have hsm := h.a h15
  have hD : L.D < W.heap.size := World.block_lt_of_cell? W _ h.c3
  refine ⟨?_, ?_, ?_, by rw [a4, a16]; exact h.o4, by rw [a16, a19]; exact h.o16, by rw [a15]; exact (fun e => by cases e), by rw [a15]; exact (fun e => by cases e), ?_, by rw [a16, h16]; exact (fun e => by cases e), by rw [a19, h.o16 h16]; exact (fun e => by cases e)⟩
  · rw [World.cell?_alloc_past _ _ _ hD]; exact h.c3
  · rw [Below.heap_alloc _ _ _ (getElem?_lt h.cS)]; exact h.cS
  · rw [a19]
    intro e
    rw [World.cell?_alloc_past _ _ _ hD, World.frozen?_alloc_past _ _ _ hD]
    exact h.c4 e
  · intro _ _
    exact ⟨by show W.heap.push _ = w.heap.push _; rw [hsm.heap], hsm.os, hsm.tape, hsm.output⟩
theorem WPh.grown {W' : World} {v' : Value} (h : WPh b0 w0 L st lv oth i w done f W) (h0 : One b0 w0 L st lv oth w) (hsm : Sm (w.alloc (.cells (ent st i).toArray 149)) W) (h16 : done 16 = false) (h15 : done 15 = true) (h4 : done 4 = true)
    (ho : W'.ownsRow b0 149 65 v' (st.ln + 1) (st.loose ++ ent st i)) (hg : W.grownBy W' lv.ownBlock) : WPh b0 w0 L st lv oth i w (updB done 16) (upd f 16 v') W' := by
  have a4 : updB done 16 4 = done 4 := if_neg (by decide)
  have a15 : updB done 16 15 = done 15 := if_neg (by decide)
  have a16 : updB done 16 16 = true := if_pos rfl
  have a19 : updB done 16 19 = done 19 := if_neg (by decide)
  have f16 : upd f 16 v' 16 = v' := if_pos rfl
  have h1 := h0.ofBelow hsm.below
  have kD : W'.heap[L.D]? = W.heap[L.D]? := hg.block _ (getElem?_lt h1.dev) (fun e => h1.lne h1.dev (apart_of (by decide)) e.symm)
  have kS : W'.heap[L.S]? = W.heap[L.S]? := hg.block _ (getElem?_lt h1.sec) (fun e => h1.lne h1.sec (apart_of (by decide)) e.symm)
  have kP : W'.heap[L.P]? = W.heap[L.P]? := hg.block _ (getElem?_lt h1.pool) (fun e => h1.lne h1.pool (apart_of (by decide)) e.symm)
  refine ⟨(World.cell?_of_block kD).trans h.c3, kS.trans h.cS, ?_, by rw [a4, h4]; exact (fun e => by cases e), by rw [a16]; exact (fun e => by cases e), by rw [a15, h15]; exact (fun e => by cases e), by rw [a15, h15]; exact (fun e => by cases e), by rw [a16]; exact (fun _ e => by cases e), ?_, by rw [a19, h.o16 h16]; exact (fun e => by cases e)⟩
  · rw [a19]
    intro e
    exact ⟨(World.cell?_of_block kD).trans (h.c4 e).1, (World.frozen?_of_block kD).trans (h.c4 e).2⟩
  · intro _ _
    rw [f16]
    have hb := hsm.below
    refine ⟨ho, ⟨hg.os.trans hb.os, hg.tape.trans hb.tape, hg.output.trans hb.output, Nat.le_trans hb.size hg.size, fun k hk _ _ _ hl => ?_⟩, ?_, ?_⟩
    · rw [hg.block k (Nat.lt_of_lt_of_le hk hb.size) (fun e => hl e.symm)]; exact hb.block k hk
    · rw [kP, h1.pool, h0.pool]
    · rw [kD, h1.dev, h0.dev]
theorem WPh.stored (h : WPh b0 w0 L st lv oth i w done f W) (h0 : One b0 w0 L st lv oth w) (hm : W.ownsRow b0 149 65 (f 16) (st.ln + 1) (st.loose ++ ent st i) ∧ KO L lv w W ∧ W.heap[L.P]? = w.heap[L.P]? ∧ W.heap[L.D]? = w.heap[L.D]?) (h16 : done 16 = true) {v16 : Value} (hv16 : f 16 = v16) (v : Value) :
    WPh b0 w0 L st lv oth i w (updB done 19) (upd f 19 v) (W.setCell ⟨L.D, 4, none⟩ v16) := by
  subst hv16
  have a4 : updB done 19 4 = done 4 := if_neg (by decide)
  have a15 : updB done 19 15 = done 15 := if_neg (by decide)
  have a16 : updB done 19 16 = done 16 := if_neg (by decide)
  have a19 : updB done 19 19 = true := if_pos rfl
  have h15 : done 15 = true := by
    cases hq : done 15 with
    | true => rfl
    | false => rw [h.o15 hq] at h16; cases h16
  have h4 : done 4 = true := by
    cases hq : done 4 with
    | true => rfl
    | false => rw [h.o4 hq] at h16; cases h16
  obtain ⟨m1, m2, m3, m4⟩ := hm
  obtain ⟨t1, t2, t3⟩ := h0.tne
  have hdv : W.heap[L.D]? = some (.cells #[.int .i64 st.serial, .int .i64 st.session, .bool st.there, .slice (some ⟨L.S, 0, none⟩) st.n st.n, lv, .bool st.aw, .int .i64 st.al, .bool st.ad] 102) := m4.trans h0.dev
  have hds : (W.setCell ⟨L.D, 4, none⟩ (f 16)).heap[L.D]? = some (.cells #[.int .i64 st.serial, .int .i64 st.session, .bool st.there, .slice (some ⟨L.S, 0, none⟩) st.n st.n, f 16, .bool st.aw, .int .i64 st.al, .bool st.ad] 102) := by rw [block_set hdv]; rfl
  refine ⟨cell_of hds 3, ?_, by rw [a19]; exact (fun e => by cases e), by rw [a4, h4]; exact (fun e => by cases e), by rw [a16, h16]; exact (fun e => by cases e), by rw [a15, h15]; exact (fun e => by cases e), by rw [a15, h15]; exact (fun e => by cases e), by rw [a16, h16]; exact (fun _ e => by cases e), by rw [a19]; exact (fun _ e => by cases e), ?_⟩
  · rw [Below.heap_setCell _ _ _ _ (by exact Ne.symm t2)]; exact h.cS
  · intro _
    refine ⟨f 16, h0.upd (m2.trans (KO.set (Or.inr (Or.inl rfl)) _)) ?_ hds ?_ ?_⟩
    · rw [Below.heap_setCell _ _ _ _ (by exact Ne.symm t1), m3]; exact h0.pool
    · rw [Below.heap_setCell _ _ _ _ (by exact Ne.symm t2)]; exact h.cS
    · refine ⟨m1.1, ?_⟩
      rcases m1.2 with h1 | ⟨g, cap, cur, e, h2, h3, h4⟩
      · exact Or.inl h1
      · refine Or.inr ⟨g, cap, cur, e, h2, ?_, h4⟩
        rw [Below.heap_setCell _ _ _ _ (by show g ≠ L.D; intro e2; rw [← e2, h3] at hdv; injection hdv with hdv; injection hdv with _ t _; exact absurd t (by decide))]
        exact h3
def WV (L : Loc) (st : St) (lv : Value) (i : Nat) (w : World) : Nat → Value → Prop
  | 0, v => v = .pointer (some ⟨L.D, 0, none⟩)
  | 1, v => v = .pointer (some ⟨L.D, 0, none⟩)
  | 2, v => v = .pointer (some ⟨L.D, 0, none⟩)
  | 3, v => v = .pointer (some ⟨L.D, 4, none⟩)
  | 4, v => v = lv
  | 5, v => v = .int .i64 (st.ln : Nat)
  | 6, v => v = .int .i64 (i : Nat)
  | 7, v => v = .pointer (some ⟨L.D, 0, none⟩)
  | 8, v => v = .pointer (some ⟨L.D, 0, none⟩)
  | 9, v => v = .pointer (some ⟨L.D, 3, none⟩)
  | 10, v => v = .slice (some ⟨L.S, 0, none⟩) st.n st.n
  | 11, v => v = .int .i64 (i : Nat)
  | 12, v => v = .pointer (some ⟨L.S, i * 64, none⟩)
  | 13, v => v = .agg (secl st i).toArray
  | 14, v => v = .agg (ent st i).toArray
  | 15, v => v = .slice (some ⟨w.heap.size, 0, none⟩) 1 1
  | 17, v => v = .pointer (some ⟨L.D, 0, none⟩)
  | 18, v => v = .pointer (some ⟨L.D, 4, none⟩)
  | _, _ => True
theorem One.setS (h : One b0 w0 L st lv oth w) (ss : Array Value) : One b0 w0 L { st with secs := ss } lv oth (w.setRow L.S ss) := by
  obtain ⟨t1, t2, t3⟩ := h.tne
  have ho : ∀ k, k ≠ L.S → (w.setRow L.S ss).heap[k]? = w.heap[k]? := fun k hk => setRow_other w L.S k ss (by omega)
  refine h.upd ⟨rfl, rfl, rfl, by simp [World.setRow], fun k _ _ _ h3 _ => ho k h3⟩ ?_ ?_ ?_ ⟨h.own.1, ?_⟩
  · rw [ho _ t3]; exact h.pool
  · rw [ho _ t2]; exact h.dev
  · exact setRow_heap w L.S _ ss 147 _ h.sec
  · rcases h.own.2 with h1 | ⟨g, cap, cur, e, h2, h3, h4⟩
    · exact Or.inl h1
    · refine Or.inr ⟨g, cap, cur, e, h2, ?_, h4⟩
      rw [ho g (by intro e2; have := h.sec; rw [← e2, h3] at this; injection this with this; injection this with _ t _; exact absurd t (by decide))]
      exact h3
set_option maxHeartbeats 1000000 in
set_option maxRecDepth 100000 in
theorem One.dwrite (h0 : One b0 w0 L st lv oth w) (i : Nat) (hi : i < st.n) (hs8 : SecOk st) (hln : st.ln ≤ 5000) (hnb : st.n ≤ 9223372036854775807) (s : ByteArray) (hs : s.size = 64) (hse : Calls Try.prog 107 #[lv, .int .i64 (i : Nat), .func (.func 108) #[] #[]] w fun e w' => e = .returned (.tuple #[.int .i64 (st.ln : Nat), .bool false]) ∧ Below w.heap.size w w') :
    Calls Try.prog 70 #[.pointer (some ⟨L.D, 0, none⟩), .int .i64 (i : Nat), .string s] w fun e w' => e = .returned (.tuple #[]) ∧ ∃ v', One b0 w0 L (wrote st i s) v' oth w' := by
  have d4 := h0.dc.2.2.2.2.1
  have hsl := sec_length hs8 hi
  have hel : (ent st i).length = 65 := by unfold ent; rw [List.length_cons, hsl]
  go_enter Try.func70, Try.ntmps70
  go_wp2_with fail
  go_call hse as e w1 ⟨rfl, hb⟩
  have h := h0.ofBelow hb
  clear hse hb h0 d4
  go_wp2_with fail
  refine wp_region_ph (fun f => ⟨#[.pointer (some ⟨L.D, 0, none⟩), .int .i64 (i : Nat), .string s, undef, undef, undef, .int .i64 (st.ln : Nat), .bool false, .tuple #[.int .i64 (st.ln : Nat), .bool false], .pointer (some ⟨L.D, 0, none⟩), .pointer (some ⟨L.D, 0, none⟩), .pointer (some ⟨L.D, 4, none⟩), lv, .int .i64 (i : Nat), .tuple #[.int .i64 (st.ln : Nat), .bool false], .int .i64 (st.ln : Nat), .bool false, .bool false, .bool true, f 0, f 1, f 2, f 3, f 4, f 5, f 6, f 7, f 8, f 9, f 10, f 11, f 12, f 13, f 14, f 15, f 16, f 17, f 18, undef, undef, undef, undef, undef, undef, undef, undef, undef], []⟩) (WV L st lv i w1) (WPh b0 w0 L st lv oth i w1) (fun _ => undef) (by kernel_rfl) rfl rfl ?hI ?hput ?step ?fin
  case hI => exact WPh.start h
  case fin =>
    intro f W hP hV
    obtain ⟨v', h2⟩ := hP.d rfl
    have hfit : i * 64 + s.size ≤ st.secs.size := by
      rw [hs8.size, hs]
      have : (i + 1) * 64 ≤ st.n * 64 := Nat.mul_le_mul_right _ hi
      omega
    have hcp := Lib.run_copy_row_string (P := Try.prog) W 75 9 3 5 L.S (i * 64) 64 64 s st.secs 147 Try.underlying75 size5 h2.sec (by omega) hfit
    have HF : Hid (One b0 w0 L (wrote st i s) v' oth (W.setRow L.S (setSec st.secs i s))) := h2.setS (setSec st.secs i s)
    have c3 := h2.dc.2.2.2.1
    have hns : st.n ≤ 9223372036854775807 := hnb
    clear hP hV h2
    rw [hs] at hcp
    change _ = Result.ok _ (W.setRow L.S (setSec st.secs i s)) at hcp
    generalize setSec st.secs i s = SS at *
    go_wp2
    go_returns
    exact ⟨rfl, v', HF.out⟩
  case hput =>
    repeat (refine ⟨fun f v => rfl, ?_⟩)
    trivial
  case step =>
    refine ⟨?_, ?_⟩
    · intro done f W hP hdn hd K hK
      clear hd
      go_simp
      exact hK _ _ rfl (hP.pure _ (by decide) _)
    refine ⟨?_, ?_⟩
    · intro done f W hP hdn hd K hK
      clear hd
      go_simp
      exact hK _ _ rfl (hP.pure _ (by decide) _)
    refine ⟨?_, ?_⟩
    · intro done f W hP hdn hd K hK
      have d1 := (hd.1 rfl).2
      have e1 := (hd.1 rfl).1
      clear hd
      replace d1 : f 1 = .pointer (some ⟨L.D, 0, none⟩) := d1
      generalize f 1 = x1 at *
      subst d1
      clear e1
      go_simp
      exact hK _ _ rfl (hP.pure _ (by decide) _)
    refine ⟨?_, ?_⟩
    · intro done f W hP hdn hd K hK
      have d2 := (hd.1 rfl).2
      have e2 := (hd.1 rfl).1
      clear hd
      replace d2 : f 2 = .pointer (some ⟨L.D, 0, none⟩) := d2
      generalize f 2 = x2 at *
      subst d2
      clear e2
      go_simp
      exact hK _ _ rfl (hP.pure _ (by decide) _)
    refine ⟨?_, ?_⟩
    · intro done f W hP hdn hd K hK
      have d3 := (hd.1 rfl).2
      have e3 := (hd.1 rfl).1
      clear hd
      replace d3 : f 3 = .pointer (some ⟨L.D, 4, none⟩) := d3
      generalize f 3 = x3 at *
      subst d3
      clear e3
      have hdn4 : done 4 = false := hdn
      have hc4 := (hP.c4 (hP.o16 (hP.o4 hdn4))).1
      go_simp
      exact hK _ _ rfl (hP.pure4 _)
    refine ⟨?_, ?_⟩
    · intro done f W hP hdn hd K hK
      clear hd
      go_simp
      exact hK _ _ rfl (hP.pure _ (by decide) _)
    refine ⟨?_, ?_⟩
    · intro done f W hP hdn hd K hK
      clear hd
      go_simp
      exact hK _ _ rfl (hP.pure _ (by decide) _)
    refine ⟨?_, ?_⟩
    · intro done f W hP hdn hd K hK
      clear hd
      go_simp
      exact hK _ _ rfl (hP.pure _ (by decide) _)
    refine ⟨?_, ?_⟩
    · intro done f W hP hdn hd K hK
      have d7 := (hd.1 rfl).2
      have e7 := (hd.1 rfl).1
      clear hd
      replace d7 : f 7 = .pointer (some ⟨L.D, 0, none⟩) := d7
      generalize f 7 = x7 at *
      subst d7
      clear e7
      go_simp
      exact hK _ _ rfl (hP.pure _ (by decide) _)
    refine ⟨?_, ?_⟩
    · intro done f W hP hdn hd K hK
      have d8 := (hd.1 rfl).2
      have e8 := (hd.1 rfl).1
      clear hd
      replace d8 : f 8 = .pointer (some ⟨L.D, 0, none⟩) := d8
      generalize f 8 = x8 at *
      subst d8
      clear e8
      go_simp
      exact hK _ _ rfl (hP.pure _ (by decide) _)
    refine ⟨?_, ?_⟩
    · intro done f W hP hdn hd K hK
      have d9 := (hd.1 rfl).2
      have e9 := (hd.1 rfl).1
      clear hd
      replace d9 : f 9 = .pointer (some ⟨L.D, 3, none⟩) := d9
      generalize f 9 = x9 at *
      subst d9
      clear e9
      have hc3 := hP.c3
      go_simp
      exact hK _ _ rfl (hP.pure _ (by decide) _)
    refine ⟨?_, ?_⟩
    · intro done f W hP hdn hd K hK
      clear hd
      go_simp
      exact hK _ _ rfl (hP.pure _ (by decide) _)
    refine ⟨?_, ?_⟩
    · intro done f W hP hdn hd K hK
      have d10 := (hd.1 rfl).2
      have d11 := (hd.2.1 rfl).2
      have e10 := (hd.1 rfl).1
      have e11 := (hd.2.1 rfl).1
      clear hd
      replace d10 : f 10 = .slice (some ⟨L.S, 0, none⟩) st.n st.n := d10
      replace d11 : f 11 = .int .i64 (i : Nat) := d11
      generalize f 10 = x10 at *
      subst d10
      clear e10
      generalize f 11 = x11 at *
      subst d11
      clear e11
      go_simp
      exact hK _ _ rfl (hP.pure _ (by decide) _)
    refine ⟨?_, ?_⟩
    · intro done f W hP hdn hd K hK
      have d12 := (hd.1 rfl).2
      have e12 := (hd.1 rfl).1
      clear hd
      replace d12 : f 12 = .pointer (some ⟨L.S, i * 64, none⟩) := d12
      generalize f 12 = x12 at *
      subst d12
      clear e12
      rw [if_pos (by rfl)]
      refine wp_load_mid 147 (.tmp 31) rfl L.S (i * 64) rfl (secl st i) _ (sec_range hP.cS) Try.underlying147 rfl (by rw [size147, hsl]) ?_
      exact hK _ _ rfl (hP.pure _ (by decide) _)
    refine ⟨?_, ?_⟩
    · intro done f W hP hdn hd K hK
      have d6 := (hd.1 rfl).2
      have d13 := (hd.2.1 rfl).2
      have e6 := (hd.1 rfl).1
      have e13 := (hd.2.1 rfl).1
      clear hd
      replace d6 : f 6 = .int .i64 (i : Nat) := d6
      replace d13 : f 13 = .agg (secl st i).toArray := d13
      generalize f 6 = x6 at *
      subst d6
      clear e6
      generalize f 13 = x13 at *
      subst d13
      clear e13
      rw [if_pos (by rfl)]
      refine wp_build_run 149 #[(0, .tmp 25), (1, .tmp 32)] rfl _ (by simp [Act.eval]) (past_built (i : Nat) (secl st i).toArray (by simpa using hsl) W) ?_
      exact hK _ _ (by show Value.agg _ = Value.agg _; simp [ent]) (hP.pure _ (by decide) _)
    refine ⟨?_, ?_⟩
    · intro done f W hP hdn hd K hK
      have d14 := (hd.1 rfl).2
      have e14 := (hd.1 rfl).1
      clear hd
      replace d14 : f 14 = .agg (ent st i).toArray := d14
      have hdn15 : done 15 = false := hdn
      have hsm := hP.a hdn15
      generalize f 14 = x14 at *
      subst d14
      clear e14
      rw [if_pos (by rfl)]
      refine wp_buildSlice_run 100 1 #[(0, .tmp 33)] rfl _ (by simp [Act.eval]) (past_slice (ent st i) hel W) ?_
      exact hK _ _ (by show Value.slice _ _ _ = _; rw [hsm.heap]) (hP.laid hdn15 _)
    refine ⟨?_, ?_⟩
    · intro done f W hP hdn hd K hK
      have d4 := (hd.1 rfl).2
      have d5 := (hd.2.1 rfl).2
      have d15 := (hd.2.2.1 rfl).2
      have e4 := (hd.1 rfl).1
      have e5 := (hd.2.1 rfl).1
      have e15 := (hd.2.2.1 rfl).1
      clear hd
      replace d4 : f 4 = lv := d4
      replace d5 : f 5 = .int .i64 (st.ln : Nat) := d5
      replace d15 : f 15 = .slice (some ⟨w1.heap.size, 0, none⟩) 1 1 := d15
      have hdn16 : done 16 = false := hdn
      have hsm := hP.b e15 hdn16
      have q4 := e4
      generalize f 4 = x4 at *
      subst x4
      clear e4
      generalize f 5 = x5 at *
      subst d5
      clear e5
      generalize f 15 = x15 at *
      subst d15
      go_simp
      refine Calls.mono (pinsert_end b0 W lv st.ln st.loose (ent st i) (own_same h hsm) hln w1.heap.size hel (ent_one hs8) (ent_range hsm) (ent_base h hsm)) ?_
      rintro e W' ⟨v', rfl, ho', hg'⟩
      exact hK _ _ trivial (hP.grown h hsm hdn16 e15 q4 ho' hg')
    refine ⟨?_, ?_⟩
    · intro done f W hP hdn hd K hK
      have d0 := (hd.1 rfl).2
      have e0 := (hd.1 rfl).1
      clear hd
      replace d0 : f 0 = .pointer (some ⟨L.D, 0, none⟩) := d0
      generalize f 0 = x0 at *
      subst d0
      clear e0
      go_simp
      exact hK _ _ rfl (hP.pure _ (by decide) _)
    refine ⟨?_, ?_⟩
    · intro done f W hP hdn hd K hK
      have d17 := (hd.1 rfl).2
      have e17 := (hd.1 rfl).1
      clear hd
      replace d17 : f 17 = .pointer (some ⟨L.D, 0, none⟩) := d17
      generalize f 17 = x17 at *
      subst d17
      clear e17
      go_simp
      exact hK _ _ rfl (hP.pure _ (by decide) _)
    refine ⟨?_, ?_⟩
    · intro done f W hP hdn hd K hK
      have d18 := (hd.1 rfl).2
      have d16 := (hd.2.1 rfl).2
      have e18 := (hd.1 rfl).1
      have e16 := (hd.2.1 rfl).1
      clear hd
      replace d18 : f 18 = .pointer (some ⟨L.D, 4, none⟩) := d18
      have hdn19 : done 19 = false := hdn
      have hmid := hP.c e16 hdn19
      obtain ⟨hc4, hf4⟩ := hP.c4 hdn19
      obtain ⟨ao, cp, hv16⟩ : ∃ ao cp, f 16 = .slice ao (st.ln + 1) cp := by
        rcases hmid.1.2 with ⟨_, hq⟩ | ⟨g, cp, _, hq, _⟩
        · omega
        · exact ⟨_, cp, hq⟩
      have hst := hP.stored h hmid e16 hv16
      generalize f 18 = x18 at *
      subst d18
      clear e18
      have hK2 := hK
      generalize f 16 = x16 at hv16 hK2 ⊢
      subst hv16
      go_simp
      exact hK2 undef _ trivial (hst undef)
    trivial
end
end Go.Proofs.Ytiohkdpmgkobiaa
