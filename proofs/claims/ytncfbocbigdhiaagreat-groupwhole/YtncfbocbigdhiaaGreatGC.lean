/- What a Commit's fields are taken with, as calls: a number among two; a box of six cells. -/
import Derived.Test.YtncfbocbigdhiaaGreatGB
namespace Go.Proofs.YtncfbocbigdhiaaGreat
set_option maxRecDepth 100000
open Go.RowKit
/-- One block apart all is as it was. -/
structure Off (B : Nat) (w W : World) : Prop where
  os : W.os = w.os
  tape : W.tape = w.tape
  output : W.output = w.output
  size : w.heap.size ≤ W.heap.size
  block : ∀ k, k ≠ B → W.heap[k]? = w.heap[k]?
theorem Off.refl (B : Nat) (w : World) : Off B w w := ⟨rfl, rfl, rfl, Nat.le_refl _, fun _ _ => rfl⟩
theorem Off.set {B : Nat} {w W : World} (h : Off B w W) (o : Nat) (v : Value) : Off B w (W.setCell ⟨B, o, none⟩ v) :=
  ⟨h.os, h.tape, h.output, by simpa [World.setCell] using h.size, fun k h1 => by
    rw [Below.heap_setCell _ _ _ _ (by exact h1)]; exact h.block k h1⟩
theorem Off.below {B b : Nat} {w0 w W : World} (h : Off B w W) (h0 : Below b w0 w) (h1 : b ≤ B) : Below b w0 W :=
  h0.trans ⟨h.os, h.tape, h.output, h.size, fun k hk => h.block k (by omega)⟩
theorem off_setCells (B : Nat) : ∀ (vs : List Value) (o : Nat) (w : World), Off B w (w.setCells B o vs)
  | [], _, w => Off.refl _ w
  | v :: r, o, w => by
    have h1 := (Off.refl B w).set o v
    have h2 := off_setCells B r (o + 1) (w.setCell ⟨B, o, none⟩ v)
    exact ⟨h2.os.trans h1.os, h2.tape.trans h1.tape, h2.output.trans h1.output, Nat.le_trans h1.size h2.size, fun k a => (h2.block k a).trans (h1.block k a)⟩
theorem size55 : (Tryz.prog.info? 55).map (·.size) = some 6 := by kernel_rfl
theorem store6 {W : World} {B : Nat} {x0 x1 x2 x3 x4 x5 : Value} {t : TypeId} (h : W.heap[B]? = some (.cells #[x0, x1, x2, x3, x4, x5] t)) (a b c d e f : Value) :
    ((((((W.setCell ⟨B, 0, none⟩ a).setCell ⟨B, 1, none⟩ b).setCell ⟨B, 2, none⟩ c).setCell ⟨B, 3, none⟩ d).setCell ⟨B, 4, none⟩ e).setCell ⟨B, 5, none⟩ f).heap[B]? = some (.cells #[a, b, c, d, e, f] t) := by
  rw [F.block_set (F.block_set (F.block_set (F.block_set (F.block_set (F.block_set h a) b) c) d) e) f]; rfl
theorem six_of {c : Array Value} (h : c.size = 6) : ∃ x0 x1 x2 x3 x4 x5, c = #[x0, x1, x2, x3, x4, x5] := by
  obtain ⟨l⟩ := c
  match l, h with
  | [a, b, c, d, e, f], _ => exact ⟨a, b, c, d, e, f, rfl⟩
section
variable {ops : Array Oper} {rest : List Oper} {op : Oper} {act : Act} {W : World} {Q : Exit → Act → World → Prop} {K : Act → World → Prop}
/-- A Commit is stored over its box. -/
theorem cst6p (x y : Operand) (ho : op.op = .store 55 x y) (B : Nat) (c : Array Value) (hc : c.size = 6) (hx : act.eval x = .pointer (some ⟨B, 0, none⟩)) (hy : act.eval y = .agg c) {c0 : Array Value} (hc0 : c0.size = 6) (h : W.heap[B]? = some (.cells c0 55)) (h1 : c.all (·.oneCell') = true)
    (k : ∀ W', Off B W W' → W'.heap[B]? = some (.cells c 55) → K (act.put op.dst undef) W') : op.wp Tryz.prog act W K Q := by
  obtain ⟨a, b, c', d, e, f, rfl⟩ := six_of hc
  obtain ⟨x0, x1, x2, x3, x4, x5, rfl⟩ := six_of hc0
  refine wp_store_mid 55 x y ho B 0 #[a, b, c', d, e, f] hx hy ?_ size55 h1 (k _ (off_setCells _ _ _ _) ?_)
  · intro j hj
    have hj5 : j < 6 := hj
    rw [Nat.zero_add, F.cell_of h, F.frz_of h]
    refine ⟨?_, rfl⟩
    rw [Array.getElem?_eq_getElem (by exact hj5)]; rfl
  · exact store6 h a b c' d e f
theorem cst6 (hgd : op.guard = none) (x y : Operand) (ho : op.op = .store 55 x y) (B : Nat) (c : Array Value) (hc : c.size = 6) (hx : act.eval x = .pointer (some ⟨B, 0, none⟩)) (hy : act.eval y = .agg c) {c0 : Array Value} (hc0 : c0.size = 6) (h : W.heap[B]? = some (.cells c0 55)) (h1 : c.all (·.oneCell') = true)
    (k : ∀ W', Off B W W' → W'.heap[B]? = some (.cells c 55) → wpList Tryz.prog ops Q rest (act.put op.dst undef) W') : wpList Tryz.prog ops Q (op :: rest) act W :=
  wpList_plain hgd fun _ hK => cst6p x y ho B c hc hx hy hc0 h h1 (fun W' a b => hK _ _ (k W' a b))
theorem pldp (x : Operand) (ho : op.op = .load 55 x) (B : Nat) (c : Array Value) (hc : c.size = 6) (hx : act.eval x = .pointer (some ⟨B, 0, none⟩)) (h : W.heap[B]? = some (.cells c 55)) (k : K (act.put op.dst (.agg c)) W) : op.wp Tryz.prog act W K Q :=
  wp_load_row 55 x ho B hx 55 c (0, 0) _ h Tryz.underlying55 rfl (by rw [size55, hc]) k
theorem pld (hgd : op.guard = none) (x : Operand) (ho : op.op = .load 55 x) (B : Nat) (c : Array Value) (hc : c.size = 6) (hx : act.eval x = .pointer (some ⟨B, 0, none⟩)) (h : W.heap[B]? = some (.cells c 55)) (k : wpList Tryz.prog ops Q rest (act.put op.dst (.agg c)) W) : wpList Tryz.prog ops Q (op :: rest) act W :=
  wpList_load_row hgd 55 x ho B hx 55 c (0, 0) _ h Tryz.underlying55 rfl (by rw [size55, hc]) k
end
theorem pret1 {fn : Func} {p : Tmp} (h : fn.results = #[.cell p 55]) (tmps : Array Value) (w : World) (B : Nat) (cs : Array Value) (hs : cs.size = 6) (hp : tmps.getD p undef = .pointer (some ⟨B, 0, none⟩)) (hg : w.heap[B]? = some (.cells cs 55)) :
    (results fn tmps).run Tryz.prog w = .ok (.agg cs) w := results_cell_row h tmps w B 55 cs (0, 0) _ hp hg Tryz.underlying55 rfl (by rw [size55, hs])
theorem pret2 {fn : Func} {p u : Tmp} (h : fn.results = #[.cell p 55, .tmp u]) (tmps : Array Value) (w : World) (B : Nat) (cs : Array Value) (v : Value) (hs : cs.size = 6) (hp : tmps.getD p undef = .pointer (some ⟨B, 0, none⟩)) (hg : w.heap[B]? = some (.cells cs 55)) (hu : tmps.getD u undef = v) :
    (results fn tmps).run Tryz.prog w = .ok (.tuple #[.agg cs, v]) w := by
  rw [results_cell_tmp h, hp, hu]
  simp [asAddr, run_loadVar_row w B 55 55 cs (0, 0) _ hg Tryz.underlying55 rfl (by rw [size55, hs]), Result.andThen]
theorem Cm.cs_size (p : Cm) : p.cs.size = 6 := rfl
theorem Cm.cs_one (p : Cm) : p.cs.all (·.oneCell') = true := by simp [Cm.cs, Value.oneCell']
/-! ### an In, beside a box -/
theorem KI.off {I B : Nat} {w W W' : World} (h : O.KI I w W) (ho : Off B W W') (hB : w.heap.size ≤ B) : O.KI I w W' :=
  ⟨ho.os.trans h.os, ho.tape.trans h.tape, ho.output.trans h.output, Nat.le_trans h.size ho.size, fun k hk hne => (ho.block k (by omega)).trans (h.block k hk hne)⟩
theorem InIs.off {I B : Nat} {W W' : World} {s : ByteArray} {y : Int} (h : O.InIs W I s y) (ho : Off B W W') (hB : I ≠ B) : O.InIs W' I s y :=
  ⟨(World.cell?_of_block (w := W) (ho.block I hB)).trans h.c0, (World.cell?_of_block (w := W) (ho.block I hB)).trans h.c1, (World.frozen?_of_block (w := W) (ho.block I hB)).trans h.f0, (World.frozen?_of_block (w := W) (ho.block I hB)).trans h.f1⟩
theorem drop_numB (x k : Nat) (r : List UInt8) : (O.numB x k ++ r).drop k = r := by
  have := List.drop_left (l₁ := O.numB x k) (l₂ := r)
  rwa [O.numB_length] at this
theorem tx_size (l : List UInt8) : (O.tx l).size = l.length := by
  rw [O.size_list]; show l.toArray.toList.length = _; rw [List.toList_toArray]
theorem num_step (I x k : Nat) (r : List UInt8) (w : World) (hk : O.wd (k : Nat) = k) (hx : x < 256 ^ k) (hl : k + r.length ≤ 1000000) (h : O.InIs w I (O.tx (O.numB x k ++ r)) 0) :
    Calls Tryz.prog 152 #[.pointer (some ⟨I, 0, none⟩), .int .i64 (k : Nat)] w fun e w' => e = .returned (.int .u64 (x : Nat)) ∧ O.InIs w' I (O.tx r) 0 ∧ O.KI I w w' := by
  have hs : (O.tx (O.numB x k ++ r)).size = k + r.length := by rw [tx_size, List.length_append, O.numB_length]
  refine (O.num_in I _ (k : Nat) (by rw [hk, hs]; omega) (by rw [hs]; exact hl) w h).mono ?_
  rintro e w' ⟨rfl, h1, h2⟩
  rw [hk] at h1 ⊢
  rw [O.extract_tx, drop_numB] at h1
  rw [O.nv_all, Nat.mod_eq_of_lt hx]
  exact ⟨rfl, h1, h2⟩
set_option maxRecDepth 100000 in
theorem fromone_ok (I x : Nat) (r : List UInt8) (w : World) (hx : x < 18446744073709551616) (h0 : x ≠ 0) (hl : r.length ≤ 1000) (h : O.InIs w I (O.tx (O.numB x 8 ++ r)) 0) :
    Calls Tryz.prog 165 #[.pointer (some ⟨I, 0, none⟩)] w fun e w' => e = .returned (.int .u64 (x : Nat)) ∧ O.InIs w' I (O.tx r) 0 ∧ O.KI I w w' := by
  have hn := num_step I x 8 r w (by decide) (by exact hx) (by omega) h
  replace hn : Calls Tryz.prog 152 #[.pointer (some ⟨I, 0, none⟩), .int .i64 8] w fun e w' => e = .returned (.int .u64 (x : Nat)) ∧ O.InIs w' I (O.tx r) 0 ∧ O.KI I w w' := hn
  clear h
  go_enter Tryz.func165, Tryz.ntmps165
  go_wp2_with fail
  go_call hn as e w2 ⟨rfl, h1, h2⟩
  have H1 : Hid _ := h1
  have H2 : Hid _ := h2
  clear hn h1 h2
  have hx0 : ¬ ((x : Nat) : Int) = 0 := by omega
  go_wp2
  go_returns
  exact ⟨rfl, H1.out, H2.out⟩
set_option maxRecDepth 100000 in
theorem among_ok (I x : Nat) (a b : Int) (r : List UInt8) (w : World) (hx : x < 256) (ha : a ≤ (x : Nat)) (hb : ((x : Nat) : Int) ≤ b) (hl : r.length ≤ 1000) (h : O.InIs w I (O.tx (O.numB x 1 ++ r)) 0) :
    Calls Tryz.prog 153 #[.pointer (some ⟨I, 0, none⟩), .int .i64 1, .int .i64 a, .int .i64 b] w fun e w' => e = .returned (.int .i64 (x : Nat)) ∧ O.InIs w' I (O.tx r) 0 ∧ O.KI I w w' := by
  have hn := num_step I x 1 r w (by decide) (by exact hx) (by omega) h
  replace hn : Calls Tryz.prog 152 #[.pointer (some ⟨I, 0, none⟩), .int .i64 1] w fun e w' => e = .returned (.int .u64 (x : Nat)) ∧ O.InIs w' I (O.tx r) 0 ∧ O.KI I w w' := hn
  clear h
  have hw : IntKind.i64.wrap ((x : Nat) : Int) = ((x : Nat) : Int) := by rw [IntKind.wrap_i64]; omega
  go_enter Tryz.func153, Tryz.ntmps153
  go_wp2_with fail
  go_call hn as e w2 ⟨rfl, h1, h2⟩
  have H1 : Hid _ := h1
  have H2 : Hid _ := h2
  clear hn h1 h2
  have hx0 : ¬ ((x : Nat) : Int) < a := by omega
  have hx1 : ¬ b < ((x : Nat) : Int) := by omega
  go_wp2
  go_returns
  exact ⟨rfl, H1.out, H2.out⟩
end Go.Proofs.YtncfbocbigdhiaaGreat
