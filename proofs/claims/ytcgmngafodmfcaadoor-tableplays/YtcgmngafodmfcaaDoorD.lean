/- A table's places are stored over; Get, Len and Steps, as calls. -/
import Derived.Test.YtcgmngafodmfcaaDoorC
namespace Go.Proofs.YtcgmngafodmfcaaDoor
open Go.RowKit
theorem block_set {w : World} {g i : Nat} {cs : Array Value} {t : TypeId} (h : w.heap[g]? = some (.cells cs t)) (v : Value) : (w.setCell ⟨g, i, none⟩ v).heap[g]? = some (.cells (cs.setIfInBounds i v) t) := by
  simp [World.setCell, Array.getElem?_modify, h]
/-- All blocks are as they were, but two. -/
structure Off (B1 B2 : Nat) (w W : World) : Prop where
  os : W.os = w.os
  tape : W.tape = w.tape
  output : W.output = w.output
  size : w.heap.size ≤ W.heap.size
  block : ∀ k, k ≠ B1 → k ≠ B2 → W.heap[k]? = w.heap[k]?
theorem Off.refl (B1 B2 : Nat) (w : World) : Off B1 B2 w w := ⟨rfl, rfl, rfl, Nat.le_refl _, fun _ _ _ => rfl⟩
theorem Off.set {B1 B2 : Nat} {w W : World} (h : Off B1 B2 w W) {a : Addr} (ha : a.block = B1 ∨ a.block = B2) (v : Value) : Off B1 B2 w (W.setCell a v) :=
  ⟨h.os, h.tape, h.output, by simpa [World.setCell] using h.size, fun k h1 h2 => by
    rw [← h.block k h1 h2]; exact Below.heap_setCell _ _ _ _ (by rcases ha with e | e <;> rw [e] <;> assumption)⟩
theorem Off.below {B1 B2 b : Nat} {w0 w W : World} (h : Off B1 B2 w W) (h0 : Below b w0 w) (h1 : b ≤ B1) (h2 : b ≤ B2) : Below b w0 W :=
  ⟨h.os.trans h0.os, h.tape.trans h0.tape, h.output.trans h0.output, Nat.le_trans h0.size h.size, fun k hk => (h.block k (by omega) (by omega)).trans (h0.block k hk)⟩
/-- All blocks that were there are as they were, but two. -/
structure Kp (B1 B2 : Nat) (w W : World) : Prop where
  os : W.os = w.os
  tape : W.tape = w.tape
  output : W.output = w.output
  size : w.heap.size ≤ W.heap.size
  block : ∀ k, k < w.heap.size → k ≠ B1 → k ≠ B2 → W.heap[k]? = w.heap[k]?
theorem Kp.refl (B1 B2 : Nat) (w : World) : Kp B1 B2 w w := ⟨rfl, rfl, rfl, Nat.le_refl _, fun _ _ _ _ => rfl⟩
theorem Kp.trans {A B1 B2 : Nat} {a b c : World} (h : Kp A B1 a b) (k : Kp A B2 b c) (hb : B2 = B1 ∨ a.heap.size ≤ B2) : Kp A B1 a c :=
  ⟨k.os.trans h.os, k.tape.trans h.tape, k.output.trans h.output, Nat.le_trans h.size k.size, fun i hi h1 h2 => (k.block i (Nat.lt_of_lt_of_le hi h.size) h1 (by rcases hb with e | e <;> omega)).trans (h.block i hi h1 h2)⟩
theorem Kp.ofBelow {B1 B2 n : Nat} {w W : World} (h : Below n w W) (hn : w.heap.size ≤ n) : Kp B1 B2 w W := ⟨h.os, h.tape, h.output, h.size, fun k hk _ _ => h.block k (by omega)⟩
theorem Kp.ofOff {B1 B2 : Nat} {w W : World} (h : Off B1 B2 w W) : Kp B1 B2 w W := ⟨h.os, h.tape, h.output, h.size, fun k _ h1 h2 => h.block k h1 h2⟩
theorem Kp.below {B1 B2 b : Nat} {w W : World} (h : Kp B1 B2 w W) (h0 : b ≤ w.heap.size) (h1 : b ≤ B1) (h2 : b ≤ B2) : Below b w W :=
  ⟨h.os, h.tape, h.output, h.size, fun k hk => h.block k (by omega) (by omega) (by omega)⟩
theorem Kp.thenBelow {B1 B2 n : Nat} {a b c : World} (h : Kp B1 B2 a b) (k : Below n b c) (hn : b.heap.size ≤ n) : Kp B1 B2 a c := h.trans (Kp.ofBelow (B1 := B1) (B2 := B2) k hn) (Or.inl rfl)
theorem size55 : (Tryd.prog.info? 55).map (·.size) = some 3 := by kernel_rfl
theorem pl_len (x : Option Ent) : (pl x).length = 3 := by cases x <;> rfl
theorem pl_one (x : Option Ent) : (pl x).toArray.all (·.oneCell') = true := by cases x <;> simp [pl, Value.oneCell']
theorem Row.set {C : Array Value} {n : Nat} {L : Nat → Option Ent} (h : Row C n L) {i : Nat} (hi : i < n) (x : Option Ent) {a b c : Value} (hx : pl x = [a, b, c]) :
    Row (((C.setIfInBounds (i * 3) a).setIfInBounds (i * 3 + 1) b).setIfInBounds (i * 3 + 1 + 1) c) n (up L i x) := by
  have hs := h.sz
  refine ⟨by simpa using hs, fun j hj k v hk => ?_⟩
  have hk3 : k < 3 := by
    have := (List.getElem?_eq_some_iff.1 hk).1
    rwa [pl_len] at this
  by_cases e : j = i
  · subst e
    rw [up_at, hx] at hk
    match k, hk3 with
    | 0, _ =>
      simp at hk
      subst hk
      rw [Array.getElem?_setIfInBounds, if_neg (by omega), Array.getElem?_setIfInBounds, if_neg (by omega), Array.getElem?_setIfInBounds, if_pos (by omega)]
      simp; omega
    | 1, _ =>
      simp at hk
      subst hk
      rw [Array.getElem?_setIfInBounds, if_neg (by omega), Array.getElem?_setIfInBounds, if_pos (by omega)]
      simp; omega
    | 2, _ =>
      simp at hk
      subst hk
      rw [Array.getElem?_setIfInBounds, if_pos (by omega)]
      simp; omega
  · rw [up_ne _ _ e] at hk
    have := h.at' j hj k v hk
    rw [Array.getElem?_setIfInBounds, if_neg (by omega), Array.getElem?_setIfInBounds, if_neg (by omega), Array.getElem?_setIfInBounds, if_neg (by omega)]
    exact this
theorem setCells3 {w : World} {pb n i : Nat} {C : Array Value} {L : Nat → Option Ent} (h1 : w.heap[pb]? = some (.cells C 55)) (h2 : Row C n L) (hi : i < n) (x : Option Ent) :
    Off pb pb w (w.setCells pb (i * 3) (pl x)) ∧ ∃ C', (w.setCells pb (i * 3) (pl x)).heap[pb]? = some (.cells C' 55) ∧ Row C' n (up L i x) := by
  obtain ⟨a, b, c, e⟩ : ∃ a b c, pl x = [a, b, c] := by cases x <;> exact ⟨_, _, _, rfl⟩
  rw [e]
  have e2 : w.setCells pb (i * 3) [a, b, c] = ((w.setCell ⟨pb, i * 3, none⟩ a).setCell ⟨pb, i * 3 + 1, none⟩ b).setCell ⟨pb, i * 3 + 1 + 1, none⟩ c := rfl
  rw [e2]
  exact ⟨(((Off.refl pb pb w).set (Or.inl rfl) a).set (Or.inl rfl) b).set (Or.inl rfl) c, _, block_set (block_set (block_set h1 a) b) c, h2.set hi x e⟩
section
variable {ops : Array Oper} {rest : List Oper} {op : Oper} {act : Act} {W : World} {Q : Exit → Act → World → Prop} {K : Act → World → Prop}
theorem there3 {pb n i : Nat} {C : Array Value} {L : Nat → Option Ent} (h1 : W.heap[pb]? = some (.cells C 55)) (h2 : Row C n L) (hi : i < n) : W.there pb (i * 3) 3 := by
  intro j hj
  rw [cell_of h1, frz_of h1]
  refine ⟨?_, rfl⟩
  have := h2.sz
  rw [Array.getElem?_eq_getElem (by omega)]; rfl
/-- A place is stored. -/
theorem st55 (x y : Operand) (ho : op.op = .store 55 x y) {pb n i : Nat} {C : Array Value} {L : Nat → Option Ent} (h1 : W.heap[pb]? = some (.cells C 55)) (h2 : Row C n L) (hi : i < n) (p : Option Ent)
    (hx : act.eval x = .pointer (some ⟨pb, i * 3, none⟩)) (hy : act.eval y = .agg (pl p).toArray)
    (k : ∀ W', Off pb pb W W' → (∃ C', W'.heap[pb]? = some (.cells C' 55) ∧ Row C' n (up L i p)) → K (act.put op.dst undef) W') : op.wp Tryd.prog act W K Q := by
  have h3 := setCells3 h1 h2 hi p
  refine wp_store_mid 55 x y ho pb (i * 3) (pl p).toArray hx hy ?_ ?_ (pl_one p) (k _ h3.1 h3.2)
  · rw [List.size_toArray, pl_len]; exact there3 h1 h2 hi
  · rw [size55, List.size_toArray, pl_len]
theorem st55l (hgd : op.guard = none) (x y : Operand) (ho : op.op = .store 55 x y) {pb n i : Nat} {C : Array Value} {L : Nat → Option Ent} (h1 : W.heap[pb]? = some (.cells C 55)) (h2 : Row C n L) (hi : i < n) (p : Option Ent)
    (hx : act.eval x = .pointer (some ⟨pb, i * 3, none⟩)) (hy : act.eval y = .agg (pl p).toArray)
    (k : ∀ W', Off pb pb W W' → (∃ C', W'.heap[pb]? = some (.cells C' 55) ∧ Row C' n (up L i p)) → wpList Tryd.prog ops Q rest (act.put op.dst undef) W') : wpList Tryd.prog ops Q (op :: rest) act W :=
  wpList_plain hgd fun _ hK => st55 x y ho h1 h2 hi p hx hy fun W' a b => hK _ _ (k W' a b)
theorem ld55 (x : Operand) (ho : op.op = .load 55 x) {pb i : Nat} (p : Option Ent) (hx : act.eval x = .pointer (some ⟨pb, i, none⟩)) (h : W.rangeAt pb i (pl p)) (k : K (act.put op.dst (.agg (pl p).toArray)) W) : op.wp Tryd.prog act W K Q :=
  wp_load_mid 55 x ho pb i hx (pl p) _ h Tryd.underlying55 rfl (by rw [size55, pl_len]) k
theorem ld55l (hgd : op.guard = none) (x : Operand) (ho : op.op = .load 55 x) {pb i : Nat} (p : Option Ent) (hx : act.eval x = .pointer (some ⟨pb, i, none⟩)) (h : W.rangeAt pb i (pl p)) (k : wpList Tryd.prog ops Q rest (act.put op.dst (.agg (pl p).toArray)) W) : wpList Tryd.prog ops Q (op :: rest) act W :=
  wpList_plain hgd fun _ hK => ld55 x ho p hx h (hK _ _ k)
end
section
variable {w : World} {tb pb sd n cnt : Nat} {L : Nat → Option Ent}
theorem Tab.off {w W : World} {B1 B2 : Nat} (h : Tab w) (ho : Off B1 B2 w W) (h1 : 0 < B1) (h2 : 0 < B2) : Tab W :=
  h.below (n := 1) (by decide) (ho.below (Below.refl 1 w) (by omega) (by omega))
theorem Tm.up {W : World} (h : Tm w tb pb sd n cnt L) (ho : Off pb pb w W) {i : Nat} {x : Option Ent} (hC : ∃ C', W.heap[pb]? = some (.cells C' 55) ∧ Row C' n (up L i x)) (hx : ∀ p, x = some p → p.1.size ≤ 4096) : Tm W tb pb sd n cnt (up L i x) :=
  ⟨(ho.block _ h.ne h.ne).trans h.t, hC, h.n4, h.nb, h.sdb, fun j hj p e => by
    by_cases e1 : j = i
    · rw [e1, up_at] at e; exact hx p e
    · rw [up_ne _ _ e1] at e; exact h.kz j hj p e, h.rt.off ho h.p0 h.p0, h.t0, h.p0⟩
theorem len_any (h : Tm w tb pb sd n cnt L) : Calls Tryd.prog 16 #[.pointer (some ⟨tb, 0, none⟩)] w fun e w' => e = .returned (.int .i64 (cnt : Nat)) ∧ w' = w := by
  obtain ⟨-, -, h2⟩ := h.tc
  clear h
  go_enter Tryd.func16, Tryd.ntmps16
  go_wp2
  go_returns
  exact ⟨rfl, rfl⟩
set_option maxHeartbeats 1000000 in
theorem steps_any (h : Tm w tb pb sd n cnt L) (hl : (ents n L).length < n) (k : ByteArray) (hk : k.size ≤ 4096) :
    Calls Tryd.prog 15 #[.pointer (some ⟨tb, 0, none⟩), .string k] w fun e w' => (∃ s : Nat, e = .returned (.int .i64 (s + 1 : Nat)) ∧ s ≤ (ents n L).length) ∧ Below w.heap.size w w' := by
  have hf := find_any h hl k hk
  have n4 := h.n4
  have HL : Hid (∀ k, hm sd n k < n) := hm_lt sd (by omega)
  clear h hl
  go_enter Tryd.func15, Tryd.ntmps15
  go_wp2_with fail
  go_call hf as e w1 ⟨a, s, is, rfl, hF, hb⟩
  have HF : Hid _ := hF
  have HB : Hid _ := hb
  clear hf hF hb
  go_wp2
  go_returns
  exact ⟨⟨s, rfl, HF.out.f.le HL.out⟩, HB.out⟩
set_option maxHeartbeats 1000000 in
theorem get_any (h : Tm w tb pb sd n cnt L) (hl : (ents n L).length < n) (k : ByteArray) (hk : k.size ≤ 4096) :
    Calls Tryd.prog 9 #[.pointer (some ⟨tb, 0, none⟩), .string k] w fun e w' => (∃ a s is, e = .returned (.tuple #[.int .i64 (vlo (L a)), .bool is]) ∧ Fd n sd L k a s is) ∧ Below w.heap.size w w' := by
  have hf := find_any h hl k hk
  have HT : Hid (Tm w tb pb sd n cnt L) := h
  have n4 := h.n4
  have nb := h.nb
  have HL : Hid (∀ k, hm sd n k < n) := hm_lt sd (by omega)
  clear h hl
  go_enter Tryd.func9, Tryd.ntmps9
  go_wp2_with fail
  go_call hf as e w1 ⟨a, s, is, rfl, hF, hb⟩
  have HF : Hid _ := hF
  have HB : Hid _ := hb
  have han := hF.f.lt
  obtain ⟨-, t1, -⟩ := (HT.out.below hb).tc
  obtain ⟨p0, p1, p2⟩ := (HT.out.below hb).lits han
  clear hf hF hb
  go_wp2
  go_returns
  exact ⟨⟨a, s, is, rfl, HF.out⟩, HB.out⟩
end
end Go.Proofs.YtcgmngafodmfcaaDoor
