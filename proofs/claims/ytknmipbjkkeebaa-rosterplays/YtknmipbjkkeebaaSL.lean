/- The rounds of RosterPlays: loads, and what holds ahead of each round. -/
import Derived.Test.YtknmipbjkkeebaaSK
import Derived.Test.YtknmipbjkkeebaaRF
namespace Go.Proofs.Ytknmipbjkkeebaa
open Go.RowKit
section
variable {ops : Array Oper} {rest : List Oper} {op : Oper} {act : Act} {W : World} {Q : Exit → Act → World → Prop} {K : Act → World → Prop}
theorem ld69 (hgd : op.guard = none) (x : Operand) (ho : op.op = .load 69 x) (B : Nat) (c : Array Value) (hc : c.size = 5) (hx : act.eval x = .pointer (some ⟨B, 0, none⟩)) (h : W.heap[B]? = some (.cells c 69)) (k : wpList Try.prog ops Q rest (act.put op.dst (.agg c)) W) : wpList Try.prog ops Q (op :: rest) act W :=
  wpList_load_row hgd 69 x ho B hx 69 c (0, 0) _ h Try.underlying69 rfl (by rw [size69, hc]) k
theorem ld72 (hgd : op.guard = none) (x : Operand) (ho : op.op = .load 72 x) (B : Nat) (c : Array Value) (hc : c.size = 5) (hx : act.eval x = .pointer (some ⟨B, 0, none⟩)) (h : W.heap[B]? = some (.cells c 72)) (k : wpList Try.prog ops Q rest (act.put op.dst (.agg c)) W) : wpList Try.prog ops Q (op :: rest) act W :=
  wpList_load_row hgd 72 x ho B hx 72 c (0, 0) _ h Try.underlying72 rfl (by rw [size72, hc]) k
theorem ld69p (x : Operand) (ho : op.op = .load 69 x) (B : Nat) (c : Array Value) (hc : c.size = 5) (hx : act.eval x = .pointer (some ⟨B, 0, none⟩)) (h : W.heap[B]? = some (.cells c 69)) (k : K (act.put op.dst (.agg c)) W) : op.wp Try.prog act W K Q :=
  wp_load_row 69 x ho B hx 69 c (0, 0) _ h Try.underlying69 rfl (by rw [size69, hc]) k
theorem ld72p (x : Operand) (ho : op.op = .load 72 x) (B : Nat) (c : Array Value) (hc : c.size = 5) (hx : act.eval x = .pointer (some ⟨B, 0, none⟩)) (h : W.heap[B]? = some (.cells c 72)) (k : K (act.put op.dst (.agg c)) W) : op.wp Try.prog act W K Q :=
  wp_load_row 72 x ho B hx 72 c (0, 0) _ h Try.underlying72 rfl (by rw [size72, hc]) k
theorem ld69g (hw : Region.wanted op (yielded ops act.tmps) = true) (x : Operand) (ho : op.op = .load 69 x) (B : Nat) (c : Array Value) (hc : c.size = 5) (hx : act.eval x = .pointer (some ⟨B, 0, none⟩)) (h : W.heap[B]? = some (.cells c 69)) (k : wpList Try.prog ops Q rest (act.put op.dst (.agg c)) W) : wpList Try.prog ops Q (op :: rest) act W :=
  wpList_step fun K hK => by
    rw [if_pos hw]
    exact ld69p x ho B c hc hx h (hK _ _ k)
theorem ld72g (hw : Region.wanted op (yielded ops act.tmps) = true) (x : Operand) (ho : op.op = .load 72 x) (B : Nat) (c : Array Value) (hc : c.size = 5) (hx : act.eval x = .pointer (some ⟨B, 0, none⟩)) (h : W.heap[B]? = some (.cells c 72)) (k : wpList Try.prog ops Q rest (act.put op.dst (.agg c)) W) : wpList Try.prog ops Q (op :: rest) act W :=
  wpList_step fun K hK => by
    rw [if_pos hw]
    exact ld72p x ho B c hc hx h (hK _ _ k)
end
theorem Ro.arr_size (r : Ro) (v : Value) : (r.arr v).size = 5 := rfl
/-- What holds ahead of round k. -/
def PInv (T : Nat) (w : World) (B3 B4 k : Nat) (jv : Value) (W : World) : Prop :=
  ∃ r vx vr js, Lot T w B3 B4 r vx vr jv js W ∧ r.Ok ∧ r.e ≤ k ∧ r.j ≤ k ∧ r.c ≤ k + 1 ∧ r.l ≤ 64 * k ∧ (∀ j ∈ js, j ≤ r.j) ∧ js.length ≤ k
theorem PInv.start {T : Nat} {w w1 : World} (hb : Below T w w1) (hT : T ≤ w1.heap.size) : PInv T w w1.heap.size (w1.heap.size + 1) 0 (.slice none 0 0) ((w1.alloc (.cells #[.int .u64 1, .int .u64 0, .int .u64 0, .int .u64 0, .slice none 0 0] 69)).alloc (.cells #[.int .u64 1, .int .u64 0, .int .u64 0, .int .u64 0, .slice none 0 0] 72)) :=
  ⟨⟨1, 0, 0, 0, []⟩, .slice none 0 0, .slice none 0 0, [], ⟨(hb.alloc hT _).alloc (by simp; omega) _, hT, by omega, (Below.heap_alloc _ _ _ (by simp)).trans (heap_new _ _), heap_alloc2_new w1 _ _, World.ownsRow_nil _ _ _ _, World.ownsRow_nil _ _ _ _, World.ownsRow_nil _ _ _ _⟩,
    ⟨by decide, by decide, fun k hk => absurd hk (Nat.not_lt_zero _), fun i k _ hk => absurd hk (Nat.not_lt_zero _)⟩, by decide, by decide, by decide, by decide, (fun j hj => by cases hj), by decide⟩
section
variable {T : Nat} {w : World} {B3 B4 B7 B9 B10 S : Nat} {ab : Array Value} {r q : Ro} {vx vr vy vz jv : Value} {js : List Nat} {W W' : World}
/-- All that lies there: both rosters, the call, the new ones. -/
structure Al (T : Nat) (w : World) (B3 B4 : Nat) (r : Ro) (vx vr jv : Value) (js : List Nat) (B7 : Nat) (ab : Array Value) (B9 B10 : Nat) (q : Ro) (vy vz : Value) (W : World) : Prop where
  lot : Lot T w B3 B4 r vx vr jv js W
  a : W.heap[B7]? = some (.cells ab 75)
  yz : YZ T B3 B4 B9 B10 q vy vz W
theorem Al.below (h : Al T w B3 B4 r vx vr jv js B7 ab B9 B10 q vy vz W) (hb : Below W.heap.size W W') : Al T w B3 B4 r vx vr jv js B7 ab B9 B10 q vy vz W' :=
  ⟨h.lot.below hb, (hb.block _ (getElem?_lt h.a)).trans h.a, h.yz.below hb⟩
/-- The document's new one is stored, the program's not yet. -/
structure Half (T : Nat) (w : World) (B3 B4 : Nat) (r : Ro) (vx vr jv : Value) (js : List Nat) (B7 : Nat) (ab : Array Value) (B9 B10 : Nat) (q : Ro) (vy : Value) (W : World) : Prop where
  lot : Lot T w B3 B4 r vx vr jv js W
  a : W.heap[B7]? = some (.cells ab 75)
  t9 : T ≤ B9
  t10 : T ≤ B10
  n9 : B9 ≠ B3
  n10 : B10 ≠ B4
  y : W.heap[B9]? = some (.cells (q.arr vy) 69)
  yi : XIs W T vy q.ms
  z : ∃ c, W.heap[B10]? = some (.cells c 72) ∧ c.size = 5
theorem Al.half {q0 : Ro} {vy0 vz0 : Value} (h : Al T w B3 B4 r vx vr jv js B7 ab B9 B10 q0 vy0 vz0 W) {b : Nat} (hb : T ≤ b) (hx : XIs W b vy q.ms) (ho : Off B9 B9 W W') (hk : W'.heap[B9]? = some (.cells (q.arr vy) 69)) : Half T w B3 B4 r vx vr jv js B7 ab B9 B10 q vy W' := by
  have n7 : B7 ≠ B9 := sep75 h.a h.yz.y (Or.inl rfl)
  have nz : B10 ≠ B9 := Ne.symm (sep6972 h.yz.y h.yz.z)
  exact ⟨h.lot.off ho h.yz.y (Or.inl rfl) h.yz.n9 (h.lot.sep2 h.yz.y) h.yz.t9, (ho.block _ n7 n7).trans h.a, h.yz.t9, h.yz.t10, h.yz.n9, h.yz.n10, hk, own_off (hx.least hb) ho h.yz.y (by decide), _, (ho.block _ nz nz).trans h.yz.z, rfl⟩
theorem Half.below (h : Half T w B3 B4 r vx vr jv js B7 ab B9 B10 q vy W) (hb : Below W.heap.size W W') : Half T w B3 B4 r vx vr jv js B7 ab B9 B10 q vy W' := by
  obtain ⟨c, z1, z2⟩ := h.z
  exact ⟨h.lot.below hb, (hb.block _ (getElem?_lt h.a)).trans h.a, h.t9, h.t10, h.n9, h.n10, (hb.block _ (getElem?_lt h.y)).trans h.y, h.yi.below hb, c, (hb.block _ (getElem?_lt z1)).trans z1, z2⟩
theorem Half.al (h : Half T w B3 B4 r vx vr jv js B7 ab B9 B10 q vy W) {b : Nat} (hb : T ≤ b) (hx : MIs W b vz q.ms) (ho : Off B10 B10 W W') (hk : W'.heap[B10]? = some (.cells (q.arr vz) 72)) : Al T w B3 B4 r vx vr jv js B7 ab B9 B10 q vy vz W' := by
  obtain ⟨c, z1, z2⟩ := h.z
  have n7 : B7 ≠ B10 := sep75 h.a z1 (Or.inr rfl)
  have ny : B9 ≠ B10 := sep6972 h.y z1
  exact ⟨h.lot.off ho z1 (Or.inr rfl) (h.lot.sep z1) h.n10 h.t10, (ho.block _ n7 n7).trans h.a, ⟨h.t9, h.t10, h.n9, h.n10, (ho.block _ ny ny).trans h.y, hk, own_off h.yi ho z1 (by decide), own_off (hx.least hb) ho z1 (by decide)⟩⟩
theorem P13.al {f : Nat → Value} (h : P13 T w B3 B4 r vx vr jv js B7 ab S (fun i => decide (i < 6)) f W) : ∃ B9 B10, f 2 = .pointer (some ⟨B9, 0, none⟩) ∧ f 3 = .pointer (some ⟨B10, 0, none⟩) ∧ Al T w B3 B4 r vx vr jv js B7 ab B9 B10 r vx vr W := by
  obtain ⟨B9, c, a1, a2, a3, a4, a5⟩ := h.y rfl
  obtain ⟨B10, d, b1, b2, b3, b4, b5⟩ := h.z rfl
  rw [a5 rfl] at a3
  rw [b5 rfl] at b3
  have := h.s3
  have := h.s4
  have := h.lot.t3
  exact ⟨B9, B10, a1, b1, h.lot, h.a, by omega, by omega, by omega, by omega, a3, b3, h.lot.xi, h.lot.mi⟩
theorem P25.al {f : Nat → Value} (h : P25 T w B3 B4 r vx vr jv js B7 ab B9 B10 q (fun i => decide (i < 6)) f W) : ∃ vy vz, Al T w B3 B4 r vx vr jv js B7 ab B9 B10 q vy vz W := by
  obtain ⟨vy, a1, a2⟩ := h.c1 rfl
  obtain ⟨vz, b1, b2⟩ := h.c3 rfl
  obtain ⟨cy, y1, y2, y3⟩ := h.y
  obtain ⟨cz, z1, z2, z3⟩ := h.z
  have e1 : cy = q.arr vy := by have := (y3 rfl).trans a1; injection this
  have e2 : cz = q.arr vz := by have := (z3 rfl).trans b1; injection this
  rw [e1] at y1
  rw [e2] at z1
  exact ⟨vy, vz, h.lot, h.a, h.t9, h.t10, h.n9, h.n10, y1, z1, a2, b2⟩
end
/-- Within a block, what comes behind it is a name. -/
theorem wp_block_hide {P : Program} {id : Nat} {c : Code} {K : Act → World → Prop} {Q : Exit → Act → World → Prop} {a : Act} {w : World}
    (h : ∀ Q0 : Exit → Act → World → Prop, (∀ a w, K a w → Q0 .normal a w) → (∀ a w, K a w → Q0 (.exit id) a w) → c.wp P Q0 a w) : (Code.block id c).wp P (Exit.then K Q) a w :=
  wp_block (h _ (fun _ _ hk => hk) (fun a w hk => by
    show (if id = id then Exit.then K Q .normal a w else _)
    rw [if_pos rfl]; exact hk))
end Go.Proofs.Ytknmipbjkkeebaa
