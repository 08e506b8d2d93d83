/- The rounds of RosterPlays: what lies in memory, and the phases of its statements. -/
import Derived.Test.YtknmipbjkkeebaaSJ
import Derived.Test.YtknmipbjkkeebaaSI
import Derived.Test.YtknmipbjkkeebaaPB
namespace Go.Proofs.Ytknmipbjkkeebaa
open Go.RowKit
theorem own_off {B b : Nat} {w W : World} {t : TypeId} {k n : Nat} {v : Value} {xs : List Value} (h : w.ownsRow b t k v n xs) (ho : Off B B w W) {c : Array Value} {u : TypeId} (h1 : w.heap[B]? = some (.cells c u)) (hu : u ≠ t) : W.ownsRow b t k v n xs := by
  refine ⟨h.1, ?_⟩
  rcases h.2 with h0 | ⟨g, cap, cur, e, hb, hg, hr⟩
  · exact Or.inl h0
  · have hne : g ≠ B := fun e2 => by rw [e2, h1] at hg; injection hg with hg; injection hg with _ ht _; exact hu ht
    exact Or.inr ⟨g, cap, cur, e, hb, (ho.block g hne hne).trans hg, hr⟩
theorem five_of {c : Array Value} (h : c.size = 5) : ∃ x0 x1 x2 x3 x4, c = #[x0, x1, x2, x3, x4] := by
  obtain ⟨l⟩ := c
  match l, h with
  | [a, b, c, d, e], _ => exact ⟨a, b, c, d, e, rfl⟩
theorem arr_one (r : Ro) {w : World} {b : Nat} {t : TypeId} {k : Nat} {v : Value} {n : Nat} {xs : List Value} (h : w.ownsRow b t k v n xs) : (r.arr v).all (·.oneCell') = true := by
  obtain ⟨ao, cp, rfl⟩ := own_slice h
  simp [Ro.arr, Value.oneCell']
/-- A roster of the program is stored over its box. -/
theorem rst5 {ops : Array Oper} {rest : List Oper} {op : Oper} {act : Act} {W : World} {Q : Exit → Act → World → Prop} (hgd : op.guard = none) (x y : Operand) (ho : op.op = .store 72 x y) (B : Nat) (c : Array Value) (hc : c.size = 5)
    (hx : act.eval x = .pointer (some ⟨B, 0, none⟩)) (hy : act.eval y = .agg c) {c0 : Array Value} (hc0 : c0.size = 5) (h : W.heap[B]? = some (.cells c0 72)) (h1 : c.all (·.oneCell') = true)
    (k : ∀ W', Off B B W W' → W'.heap[B]? = some (.cells c 72) → wpList Try.prog ops Q rest (act.put op.dst undef) W') : wpList Try.prog ops Q (op :: rest) act W := by
  obtain ⟨a, b, c', d, e, rfl⟩ := five_of hc
  obtain ⟨x0, x1, x2, x3, x4, rfl⟩ := five_of hc0
  refine wpList_store_mid hgd 72 x y ho B 0 #[a, b, c', d, e] hx hy ?_ size72 h1 (k _ (off_setCells _ _ _ _) ?_)
  · intro j hj
    have hj5 : j < 5 := hj
    rw [Nat.zero_add, cell_of h, frz_of h]
    refine ⟨?_, rfl⟩
    rw [Array.getElem?_eq_getElem (by exact hj5)]; rfl
  · exact store5 h a b c' d e
theorem rst5p {op : Oper} {act : Act} {W : World} {K : Act → World → Prop} {Q : Exit → Act → World → Prop} (x y : Operand) (ho : op.op = .store 72 x y) (B : Nat) (c : Array Value) (hc : c.size = 5)
    (hx : act.eval x = .pointer (some ⟨B, 0, none⟩)) (hy : act.eval y = .agg c) {c0 : Array Value} (hc0 : c0.size = 5) (h : W.heap[B]? = some (.cells c0 72)) (h1 : c.all (·.oneCell') = true)
    (k : ∀ W', Off B B W W' → W'.heap[B]? = some (.cells c 72) → K (act.put op.dst undef) W') : op.wp Try.prog act W K Q := by
  obtain ⟨a, b, c', d, e, rfl⟩ := five_of hc
  obtain ⟨x0, x1, x2, x3, x4, rfl⟩ := five_of hc0
  refine wp_store_mid 72 x y ho B 0 #[a, b, c', d, e] hx hy ?_ size72 h1 (k _ (off_setCells _ _ _ _) ?_)
  · intro j hj
    have hj5 : j < 5 := hj
    rw [Nat.zero_add, cell_of h, frz_of h]
    refine ⟨?_, rfl⟩
    rw [Array.getElem?_eq_getElem (by exact hj5)]; rfl
  · exact store5 h a b c' d e
theorem dst5 {ops : Array Oper} {rest : List Oper} {op : Oper} {act : Act} {W : World} {Q : Exit → Act → World → Prop} (hgd : op.guard = none) (x y : Operand) (ho : op.op = .store 69 x y) (B : Nat) (c : Array Value) (hc : c.size = 5)
    (hx : act.eval x = .pointer (some ⟨B, 0, none⟩)) (hy : act.eval y = .agg c) {c0 : Array Value} (hc0 : c0.size = 5) (h : W.heap[B]? = some (.cells c0 69)) (h1 : c.all (·.oneCell') = true)
    (k : ∀ W', Off B B W W' → W'.heap[B]? = some (.cells c 69) → wpList Try.prog ops Q rest (act.put op.dst undef) W') : wpList Try.prog ops Q (op :: rest) act W := by
  obtain ⟨a, b, c', d, e, rfl⟩ := five_of hc
  obtain ⟨x0, x1, x2, x3, x4, rfl⟩ := five_of hc0
  exact xst5 hgd x y ho B a b c' d e hx hy h h1 k
theorem dst5p {op : Oper} {act : Act} {W : World} {K : Act → World → Prop} {Q : Exit → Act → World → Prop} (x y : Operand) (ho : op.op = .store 69 x y) (B : Nat) (c : Array Value) (hc : c.size = 5)
    (hx : act.eval x = .pointer (some ⟨B, 0, none⟩)) (hy : act.eval y = .agg c) {c0 : Array Value} (hc0 : c0.size = 5) (h : W.heap[B]? = some (.cells c0 69)) (h1 : c.all (·.oneCell') = true)
    (k : ∀ W', Off B B W W' → W'.heap[B]? = some (.cells c 69) → K (act.put op.dst undef) W') : op.wp Try.prog act W K Q := by
  obtain ⟨a, b, c', d, e, rfl⟩ := five_of hc
  obtain ⟨x0, x1, x2, x3, x4, rfl⟩ := five_of hc0
  exact xst5p x y ho B a b c' d e hx hy h h1 k
def jcs (js : List Nat) : List Value := js.map (fun j => .int .u64 (j : Nat))
/-- Both rosters, and the joinings. -/
structure Lot (T : Nat) (w : World) (B3 B4 : Nat) (r : Ro) (vx vr jv : Value) (js : List Nat) (W : World) : Prop where
  bel : Below T w W
  t3 : T ≤ B3
  t4 : T ≤ B4
  x : W.heap[B3]? = some (.cells (r.arr vx) 69)
  p : W.heap[B4]? = some (.cells (r.arr vr) 72)
  xi : XIs W T vx r.ms
  mi : MIs W T vr r.ms
  jo : W.ownsRow T 66 1 jv js.length (jcs js)
section
variable {T : Nat} {w : World} {B3 B4 B7 B9 B10 S : Nat} {ab : Array Value} {r q : Ro} {vx vr vy vz jv : Value} {js : List Nat} {done : Nat → Bool} {f : Nat → Value} {W W' : World}
theorem Lot.ts (h : Lot T w B3 B4 r vx vr jv js W) : T ≤ W.heap.size := by have := getElem?_lt h.x; have := h.t3; omega
theorem Lot.below (h : Lot T w B3 B4 r vx vr jv js W) (hb : Below W.heap.size W W') : Lot T w B3 B4 r vx vr jv js W' :=
  ⟨h.bel.trans (hb.mono h.ts), h.t3, h.t4, (hb.block _ (getElem?_lt h.x)).trans h.x, (hb.block _ (getElem?_lt h.p)).trans h.p, h.xi.below hb, h.mi.below hb, own_below h.jo hb⟩
theorem Lot.off (h : Lot T w B3 B4 r vx vr jv js W) {B : Nat} (ho : Off B B W W') {c : Array Value} {u : TypeId} (hB : W.heap[B]? = some (.cells c u)) (hu : u = 69 ∨ u = 72) (h3 : B ≠ B3) (h4 : B ≠ B4) (ht : T ≤ B) : Lot T w B3 B4 r vx vr jv js W' :=
  ⟨ho.below h.bel ht ht, h.t3, h.t4, (ho.block _ (Ne.symm h3) (Ne.symm h3)).trans h.x, (ho.block _ (Ne.symm h4) (Ne.symm h4)).trans h.p, own_off h.xi ho hB (by rcases hu with rfl | rfl <;> decide), own_off h.mi ho hB (by rcases hu with rfl | rfl <;> decide), own_off h.jo ho hB (by rcases hu with rfl | rfl <;> decide)⟩
theorem Lot.sep (h : Lot T w B3 B4 r vx vr jv js W) {B : Nat} {c : Array Value} (hB : W.heap[B]? = some (.cells c 72)) : B ≠ B3 := fun e => by
  rw [e, h.x] at hB; injection hB with hB; injection hB with _ ht _; exact absurd ht (by decide)
theorem Lot.sep2 (h : Lot T w B3 B4 r vx vr jv js W) {B : Nat} {c : Array Value} (hB : W.heap[B]? = some (.cells c 69)) : B ≠ B4 := fun e => by
  rw [e, h.p] at hB; injection hB with hB; injection hB with _ ht _; exact absurd ht (by decide)
/-- The new ones. -/
structure YZ (T B3 B4 B9 B10 : Nat) (q : Ro) (vy vz : Value) (W : World) : Prop where
  t9 : T ≤ B9
  t10 : T ≤ B10
  n9 : B9 ≠ B3
  n10 : B10 ≠ B4
  y : W.heap[B9]? = some (.cells (q.arr vy) 69)
  z : W.heap[B10]? = some (.cells (q.arr vz) 72)
  yi : XIs W T vy q.ms
  zi : MIs W T vz q.ms
theorem YZ.below (h : YZ T B3 B4 B9 B10 q vy vz W) (hb : Below W.heap.size W W') : YZ T B3 B4 B9 B10 q vy vz W' :=
  ⟨h.t9, h.t10, h.n9, h.n10, (hb.block _ (getElem?_lt h.y)).trans h.y, (hb.block _ (getElem?_lt h.z)).trans h.z, h.yi.below hb, h.zi.below hb⟩
theorem sep6972 {A B : Nat} {c d : Array Value} (hA : W.heap[A]? = some (.cells c 69)) (hB : W.heap[B]? = some (.cells d 72)) : A ≠ B := fun e => by
  rw [e, hB] at hA; injection hA with hA; injection hA with _ ht _; exact absurd ht (by decide)
theorem sep75 {A B : Nat} {c d : Array Value} {u : TypeId} (hA : W.heap[A]? = some (.cells c 75)) (hB : W.heap[B]? = some (.cells d u)) (hu : u = 69 ∨ u = 72) : A ≠ B := fun e => by
  rw [e, hB] at hA; injection hA with hA; injection hA with _ ht _; rcases hu with rfl | rfl <;> exact absurd ht (by decide)
/-- Phases of 'y, z := x, r'. -/
structure P13 (T : Nat) (w : World) (B3 B4 : Nat) (r : Ro) (vx vr jv : Value) (js : List Nat) (B7 : Nat) (ab : Array Value) (S : Nat) (done : Nat → Bool) (f : Nat → Value) (W : World) : Prop where
  lot : Lot T w B3 B4 r vx vr jv js W
  a : W.heap[B7]? = some (.cells ab 75)
  s : S ≤ W.heap.size
  s3 : B3 < S
  s4 : B4 < S
  y : done 2 = true → ∃ B c, f 2 = .pointer (some ⟨B, 0, none⟩) ∧ S ≤ B ∧ W.heap[B]? = some (.cells c 69) ∧ c.size = 5 ∧ (done 4 = true → c = r.arr vx)
  z : done 3 = true → ∃ B c, f 3 = .pointer (some ⟨B, 0, none⟩) ∧ S ≤ B ∧ W.heap[B]? = some (.cells c 72) ∧ c.size = 5 ∧ (done 5 = true → c = r.arr vr)
  n4 : done 4 = true → done 2 = true
  n5 : done 5 = true → done 3 = true
theorem P13.pure (h : P13 T w B3 B4 r vx vr jv js B7 ab S done f W) (k : Nat) (hk : k = 0 ∨ k = 1) (v : Value) : P13 T w B3 B4 r vx vr jv js B7 ab S (O.updB done k) (O.upd f k v) W := by
  have a : ∀ j, j ≠ k → O.updB done k j = done j := fun j hj => if_neg hj
  have b : ∀ j, j ≠ k → O.upd f k v j = f j := fun j hj => if_neg hj
  have e2 : 2 ≠ k := by omega
  have e3 : 3 ≠ k := by omega
  have e4 : 4 ≠ k := by omega
  have e5 : 5 ≠ k := by omega
  exact ⟨h.lot, h.a, h.s, h.s3, h.s4, by rw [a 2 e2, a 4 e4, b 2 e2]; exact h.y, by rw [a 3 e3, a 5 e5, b 3 e3]; exact h.z, by rw [a 2 e2, a 4 e4]; exact h.n4, by rw [a 3 e3, a 5 e5]; exact h.n5⟩
theorem P13.ay (h : P13 T w B3 B4 r vx vr jv js B7 ab S done f W) (hd : done 2 = false) (c : Array Value) (hc : c.size = 5) : P13 T w B3 B4 r vx vr jv js B7 ab S (O.updB done 2) (O.upd f 2 (.pointer (some ⟨W.heap.size, 0, none⟩))) (W.alloc (.cells c 69)) := by
  have hb : Below W.heap.size W (W.alloc (.cells c 69)) := (Below.refl _ W).alloc (Nat.le_refl _) _
  have h4 : done 4 = false := by
    cases hq : done 4 with
    | false => rfl
    | true => rw [h.n4 hq] at hd; cases hd
  refine ⟨h.lot.below hb, (hb.block _ (getElem?_lt h.a)).trans h.a, Nat.le_trans h.s hb.size, h.s3, h.s4, fun _ => ⟨_, c, rfl, h.s, heap_new _ _, hc, fun e => by rw [show O.updB done 2 4 = done 4 from rfl, h4] at e; cases e⟩, fun e => ?_, fun _ => rfl, fun e => h.n5 e⟩
  obtain ⟨B, c', a1, a2, a3, a4, a5⟩ := h.z e
  exact ⟨B, c', a1, a2, (hb.block _ (getElem?_lt a3)).trans a3, a4, a5⟩
theorem P13.az (h : P13 T w B3 B4 r vx vr jv js B7 ab S done f W) (hd : done 3 = false) (c : Array Value) (hc : c.size = 5) : P13 T w B3 B4 r vx vr jv js B7 ab S (O.updB done 3) (O.upd f 3 (.pointer (some ⟨W.heap.size, 0, none⟩))) (W.alloc (.cells c 72)) := by
  have hb : Below W.heap.size W (W.alloc (.cells c 72)) := (Below.refl _ W).alloc (Nat.le_refl _) _
  have h5 : done 5 = false := by
    cases hq : done 5 with
    | false => rfl
    | true => rw [h.n5 hq] at hd; cases hd
  refine ⟨h.lot.below hb, (hb.block _ (getElem?_lt h.a)).trans h.a, Nat.le_trans h.s hb.size, h.s3, h.s4, fun e => ?_, fun _ => ⟨_, c, rfl, h.s, heap_new _ _, hc, fun e => by rw [show O.updB done 3 5 = done 5 from rfl, h5] at e; cases e⟩, fun e => h.n4 e, fun _ => rfl⟩
  obtain ⟨B, c', a1, a2, a3, a4, a5⟩ := h.y e
  exact ⟨B, c', a1, a2, (hb.block _ (getElem?_lt a3)).trans a3, a4, a5⟩
theorem P13.sy (h : P13 T w B3 B4 r vx vr jv js B7 ab S done f W) (hd : done 2 = true) {B : Nat} {c : Array Value} (hf : f 2 = .pointer (some ⟨B, 0, none⟩)) (hS : S ≤ B) (hB : W.heap[B]? = some (.cells c 69)) (ho : Off B B W W') (hW : W'.heap[B]? = some (.cells (r.arr vx) 69)) (v : Value) : P13 T w B3 B4 r vx vr jv js B7 ab S (O.updB done 4) (O.upd f 4 v) W' := by
  have n7 : B7 ≠ B := sep75 h.a hB (Or.inl rfl)
  refine ⟨h.lot.off ho hB (Or.inl rfl) (by have := h.s3; omega) (by have := h.s4; omega) (by have := h.s3; have := h.lot.t3; omega), (ho.block _ n7 n7).trans h.a, Nat.le_trans h.s ho.size, h.s3, h.s4, fun _ => ⟨B, _, hf, hS, hW, rfl, fun _ => rfl⟩, fun e => ?_, fun _ => hd, fun e => h.n5 e⟩
  obtain ⟨D, c', a1, a2, a3, a4, a5⟩ := h.z e
  have hne : D ≠ B := Ne.symm (sep6972 hB a3)
  exact ⟨D, c', a1, a2, (ho.block _ hne hne).trans a3, a4, a5⟩
theorem P13.sz (h : P13 T w B3 B4 r vx vr jv js B7 ab S done f W) (hd : done 3 = true) {B : Nat} {c : Array Value} (hf : f 3 = .pointer (some ⟨B, 0, none⟩)) (hS : S ≤ B) (hB : W.heap[B]? = some (.cells c 72)) (ho : Off B B W W') (hW : W'.heap[B]? = some (.cells (r.arr vr) 72)) (v : Value) : P13 T w B3 B4 r vx vr jv js B7 ab S (O.updB done 5) (O.upd f 5 v) W' := by
  have n7 : B7 ≠ B := sep75 h.a hB (Or.inr rfl)
  refine ⟨h.lot.off ho hB (Or.inr rfl) (by have := h.s3; omega) (by have := h.s4; omega) (by have := h.s3; have := h.lot.t3; omega), (ho.block _ n7 n7).trans h.a, Nat.le_trans h.s ho.size, h.s3, h.s4, fun e => ?_, fun _ => ⟨B, _, hf, hS, hW, rfl, fun _ => rfl⟩, fun e => h.n4 e, fun _ => hd⟩
  obtain ⟨D, c', a1, a2, a3, a4, a5⟩ := h.y e
  have hne : D ≠ B := sep6972 a3 hB
  exact ⟨D, c', a1, a2, (ho.block _ hne hne).trans a3, a4, a5⟩
/-- Phases of 'y, z = ref.Extend(x), r.Extend()'. -/
structure P25 (T : Nat) (w : World) (B3 B4 : Nat) (r : Ro) (vx vr jv : Value) (js : List Nat) (B7 : Nat) (ab : Array Value) (B9 B10 : Nat) (q : Ro) (done : Nat → Bool) (f : Nat → Value) (W : World) : Prop where
  lot : Lot T w B3 B4 r vx vr jv js W
  a : W.heap[B7]? = some (.cells ab 75)
  t9 : T ≤ B9
  t10 : T ≤ B10
  n9 : B9 ≠ B3
  n10 : B10 ≠ B4
  c1 : done 1 = true → ∃ vy, f 1 = .agg (q.arr vy) ∧ XIs W T vy q.ms
  c3 : done 3 = true → ∃ vz, f 3 = .agg (q.arr vz) ∧ MIs W T vz q.ms
  y : ∃ c, W.heap[B9]? = some (.cells c 69) ∧ c.size = 5 ∧ (done 4 = true → .agg c = f 1)
  z : ∃ c, W.heap[B10]? = some (.cells c 72) ∧ c.size = 5 ∧ (done 5 = true → .agg c = f 3)
  n4 : done 4 = true → done 1 = true
  n5 : done 5 = true → done 3 = true
theorem P25.pure (h : P25 T w B3 B4 r vx vr jv js B7 ab B9 B10 q done f W) (k : Nat) (hk : k = 0 ∨ k = 2) (v : Value) : P25 T w B3 B4 r vx vr jv js B7 ab B9 B10 q (O.updB done k) (O.upd f k v) W := by
  have a : ∀ j, j ≠ k → O.updB done k j = done j := fun j hj => if_neg hj
  have b : ∀ j, j ≠ k → O.upd f k v j = f j := fun j hj => if_neg hj
  have e1 : 1 ≠ k := by omega
  have e3 : 3 ≠ k := by omega
  have e4 : 4 ≠ k := by omega
  have e5 : 5 ≠ k := by omega
  exact ⟨h.lot, h.a, h.t9, h.t10, h.n9, h.n10, by rw [a 1 e1, b 1 e1]; exact h.c1, by rw [a 3 e3, b 3 e3]; exact h.c3, by rw [a 4 e4, b 1 e1]; exact h.y, by rw [a 5 e5, b 3 e3]; exact h.z, by rw [a 1 e1, a 4 e4]; exact h.n4, by rw [a 3 e3, a 5 e5]; exact h.n5⟩
theorem P25.k1 (h : P25 T w B3 B4 r vx vr jv js B7 ab B9 B10 q done f W) (hd : done 1 = false) {vy : Value} (hx : XIs W' W.heap.size vy q.ms) (hb : Below W.heap.size W W') : P25 T w B3 B4 r vx vr jv js B7 ab B9 B10 q (O.updB done 1) (O.upd f 1 (.agg (q.arr vy))) W' := by
  have h4 : done 4 = false := by
    cases hq : done 4 with
    | false => rfl
    | true => rw [h.n4 hq] at hd; cases hd
  obtain ⟨cy, y1, y2, y3⟩ := h.y
  obtain ⟨cz, z1, z2, z3⟩ := h.z
  refine ⟨h.lot.below hb, (hb.block _ (getElem?_lt h.a)).trans h.a, h.t9, h.t10, h.n9, h.n10, fun _ => ⟨vy, rfl, hx.least h.lot.ts⟩, fun e => ?_, ⟨cy, (hb.block _ (getElem?_lt y1)).trans y1, y2, fun e => by rw [show O.updB done 1 4 = done 4 from rfl, h4] at e; cases e⟩, ⟨cz, (hb.block _ (getElem?_lt z1)).trans z1, z2, z3⟩, fun _ => rfl, fun e => h.n5 e⟩
  obtain ⟨vz, a1, a2⟩ := h.c3 e
  exact ⟨vz, a1, a2.below hb⟩
theorem P25.k3 (h : P25 T w B3 B4 r vx vr jv js B7 ab B9 B10 q done f W) (hd : done 3 = false) {vz : Value} (hx : MIs W' W.heap.size vz q.ms) (hb : Below W.heap.size W W') : P25 T w B3 B4 r vx vr jv js B7 ab B9 B10 q (O.updB done 3) (O.upd f 3 (.agg (q.arr vz))) W' := by
  have h5 : done 5 = false := by
    cases hq : done 5 with
    | false => rfl
    | true => rw [h.n5 hq] at hd; cases hd
  obtain ⟨cy, y1, y2, y3⟩ := h.y
  obtain ⟨cz, z1, z2, z3⟩ := h.z
  refine ⟨h.lot.below hb, (hb.block _ (getElem?_lt h.a)).trans h.a, h.t9, h.t10, h.n9, h.n10, fun e => ?_, fun _ => ⟨vz, rfl, hx.least h.lot.ts⟩, ⟨cy, (hb.block _ (getElem?_lt y1)).trans y1, y2, y3⟩, ⟨cz, (hb.block _ (getElem?_lt z1)).trans z1, z2, fun e => by rw [show O.updB done 3 5 = done 5 from rfl, h5] at e; cases e⟩, fun e => h.n4 e, fun _ => rfl⟩
  obtain ⟨vy, a1, a2⟩ := h.c1 e
  exact ⟨vy, a1, a2.below hb⟩
theorem P25.sy (h : P25 T w B3 B4 r vx vr jv js B7 ab B9 B10 q done f W) (hd : done 1 = true) {vy : Value} (hf : f 1 = .agg (q.arr vy)) (ho : Off B9 B9 W W') (hW : W'.heap[B9]? = some (.cells (q.arr vy) 69)) (v : Value) : P25 T w B3 B4 r vx vr jv js B7 ab B9 B10 q (O.updB done 4) (O.upd f 4 v) W' := by
  obtain ⟨cy, y1, y2, y3⟩ := h.y
  obtain ⟨cz, z1, z2, z3⟩ := h.z
  have n7 : B7 ≠ B9 := sep75 h.a y1 (Or.inl rfl)
  have nz : B10 ≠ B9 := Ne.symm (sep6972 y1 z1)
  refine ⟨h.lot.off ho y1 (Or.inl rfl) h.n9 (h.lot.sep2 y1) h.t9, (ho.block _ n7 n7).trans h.a, h.t9, h.t10, h.n9, h.n10, fun e => ?_, fun e => ?_, ⟨_, hW, rfl, fun _ => hf.symm⟩, ⟨cz, (ho.block _ nz nz).trans z1, z2, z3⟩, fun _ => hd, fun e => h.n5 e⟩
  · obtain ⟨vy, a1, a2⟩ := h.c1 e
    exact ⟨vy, a1, own_off a2 ho y1 (by decide)⟩
  · obtain ⟨vz, a1, a2⟩ := h.c3 e
    exact ⟨vz, a1, own_off a2 ho y1 (by decide)⟩
theorem P25.sz (h : P25 T w B3 B4 r vx vr jv js B7 ab B9 B10 q done f W) (hd : done 3 = true) {vz : Value} (hf : f 3 = .agg (q.arr vz)) (ho : Off B10 B10 W W') (hW : W'.heap[B10]? = some (.cells (q.arr vz) 72)) (v : Value) : P25 T w B3 B4 r vx vr jv js B7 ab B9 B10 q (O.updB done 5) (O.upd f 5 v) W' := by
  obtain ⟨cy, y1, y2, y3⟩ := h.y
  obtain ⟨cz, z1, z2, z3⟩ := h.z
  have n7 : B7 ≠ B10 := sep75 h.a z1 (Or.inr rfl)
  have ny : B9 ≠ B10 := sep6972 y1 z1
  refine ⟨h.lot.off ho z1 (Or.inr rfl) (h.lot.sep z1) h.n10 h.t10, (ho.block _ n7 n7).trans h.a, h.t9, h.t10, h.n9, h.n10, fun e => ?_, fun e => ?_, ⟨cy, (ho.block _ ny ny).trans y1, y2, y3⟩, ⟨_, hW, rfl, fun _ => hf.symm⟩, fun e => h.n4 e, fun _ => hd⟩
  · obtain ⟨vy, a1, a2⟩ := h.c1 e
    exact ⟨vy, a1, own_off a2 ho z1 (by decide)⟩
  · obtain ⟨vz, a1, a2⟩ := h.c3 e
    exact ⟨vz, a1, own_off a2 ho z1 (by decide)⟩
/-- Phases of 'x, r = y, z'. -/
structure P31 (T : Nat) (w : World) (B3 B4 : Nat) (jv : Value) (js : List Nat) (B7 : Nat) (ab : Array Value) (B9 B10 : Nat) (q : Ro) (vy vz : Value) (done : Nat → Bool) (W : World) : Prop where
  bel : Below T w W
  t3 : T ≤ B3
  t4 : T ≤ B4
  yz : YZ T B3 B4 B9 B10 q vy vz W
  jo : W.ownsRow T 66 1 jv js.length (jcs js)
  a : W.heap[B7]? = some (.cells ab 75)
  x : ∃ c, W.heap[B3]? = some (.cells c 69) ∧ c.size = 5 ∧ (done 2 = true → c = q.arr vy)
  p : ∃ c, W.heap[B4]? = some (.cells c 72) ∧ c.size = 5 ∧ (done 3 = true → c = q.arr vz)
theorem P31.pure (h : P31 T w B3 B4 jv js B7 ab B9 B10 q vy vz done W) (k : Nat) (hk : k = 0 ∨ k = 1) : P31 T w B3 B4 jv js B7 ab B9 B10 q vy vz (O.updB done k) W := by
  have a : ∀ j, j ≠ k → O.updB done k j = done j := fun j hj => if_neg hj
  exact ⟨h.bel, h.t3, h.t4, h.yz, h.jo, h.a, by rw [a 2 (by omega)]; exact h.x, by rw [a 3 (by omega)]; exact h.p⟩
theorem P31.sx (h : P31 T w B3 B4 jv js B7 ab B9 B10 q vy vz done W) (ho : Off B3 B3 W W') (hW : W'.heap[B3]? = some (.cells (q.arr vy) 69)) : P31 T w B3 B4 jv js B7 ab B9 B10 q vy vz (O.updB done 2) W' := by
  obtain ⟨cx, x1, x2, x3⟩ := h.x
  obtain ⟨cp, p1, p2, p3⟩ := h.p
  have n7 : B7 ≠ B3 := sep75 h.a x1 (Or.inl rfl)
  have n4 : B4 ≠ B3 := Ne.symm (sep6972 x1 p1)
  have nz : B10 ≠ B3 := Ne.symm (sep6972 x1 h.yz.z)
  exact ⟨ho.below h.bel h.t3 h.t3, h.t3, h.t4, ⟨h.yz.t9, h.yz.t10, h.yz.n9, h.yz.n10, (ho.block _ h.yz.n9 h.yz.n9).trans h.yz.y, (ho.block _ nz nz).trans h.yz.z, own_off h.yz.yi ho x1 (by decide), own_off h.yz.zi ho x1 (by decide)⟩, own_off h.jo ho x1 (by decide), (ho.block _ n7 n7).trans h.a, ⟨_, hW, rfl, fun _ => rfl⟩, ⟨cp, (ho.block _ n4 n4).trans p1, p2, p3⟩⟩
theorem P31.sp (h : P31 T w B3 B4 jv js B7 ab B9 B10 q vy vz done W) (ho : Off B4 B4 W W') (hW : W'.heap[B4]? = some (.cells (q.arr vz) 72)) : P31 T w B3 B4 jv js B7 ab B9 B10 q vy vz (O.updB done 3) W' := by
  obtain ⟨cx, x1, x2, x3⟩ := h.x
  obtain ⟨cp, p1, p2, p3⟩ := h.p
  have n7 : B7 ≠ B4 := sep75 h.a p1 (Or.inr rfl)
  have n3 : B3 ≠ B4 := sep6972 x1 p1
  have ny : B9 ≠ B4 := sep6972 h.yz.y p1
  exact ⟨ho.below h.bel h.t4 h.t4, h.t3, h.t4, ⟨h.yz.t9, h.yz.t10, h.yz.n9, h.yz.n10, (ho.block _ ny ny).trans h.yz.y, (ho.block _ h.yz.n10 h.yz.n10).trans h.yz.z, own_off h.yz.yi ho p1 (by decide), own_off h.yz.zi ho p1 (by decide)⟩, own_off h.jo ho p1 (by decide), (ho.block _ n7 n7).trans h.a, ⟨cx, (ho.block _ n3 n3).trans x1, x2, x3⟩, ⟨_, hW, rfl, fun _ => rfl⟩⟩
theorem P31.lot (h : P31 T w B3 B4 jv js B7 ab B9 B10 q vy vz (fun i => decide (i < 4)) W) : Lot T w B3 B4 q vy vz jv js W := by
  obtain ⟨cx, x1, x2, x3⟩ := h.x
  obtain ⟨cp, p1, p2, p3⟩ := h.p
  rw [x3 rfl] at x1
  rw [p3 rfl] at p1
  exact ⟨h.bel, h.t3, h.t4, x1, p1, h.yz.yi, h.yz.zi, h.jo⟩
end
end Go.Proofs.Ytknmipbjkkeebaa
