/- The document's rosters: Extend, Fresh, as calls. -/
import Derived.Test.YtknmipbjkkeebaaSA
namespace Go.Proofs.Ytknmipbjkkeebaa
open Go.RowKit
theorem off_setCells (B : Nat) : ∀ (vs : List Value) (o : Nat) (w : World), Off B B w (w.setCells B o vs)
  | [], _, w => Off.refl _ _ w
  | v :: r, o, w => by
    have h1 := (Off.refl B B w).set (a := ⟨B, o, none⟩) (Or.inl rfl) v
    have h2 := off_setCells B r (o + 1) (w.setCell ⟨B, o, none⟩ v)
    exact ⟨h2.os.trans h1.os, h2.tape.trans h1.tape, h2.output.trans h1.output, Nat.le_trans h1.size h2.size, fun k a b => (h2.block k a b).trans (h1.block k a b)⟩
theorem Off.five {B1 B2 : Nat} {w W : World} (h : Off B1 B2 w W) (a b c d e : Value) : Off B1 B2 w (((((W.setCell ⟨B2, 0, none⟩ a).setCell ⟨B2, 1, none⟩ b).setCell ⟨B2, 2, none⟩ c).setCell ⟨B2, 3, none⟩ d).setCell ⟨B2, 4, none⟩ e) :=
  ((((h.set (a := ⟨B2, 0, none⟩) (Or.inr rfl) a).set (a := ⟨B2, 1, none⟩) (Or.inr rfl) b).set (a := ⟨B2, 2, none⟩) (Or.inr rfl) c).set (a := ⟨B2, 3, none⟩) (Or.inr rfl) d).set (a := ⟨B2, 4, none⟩) (Or.inr rfl) e
/-- A roster is stored over its box. -/
theorem xst5 {ops : Array Oper} {rest : List Oper} {op : Oper} {act : Act} {W : World} {Q : Exit → Act → World → Prop} (hgd : op.guard = none) (x y : Operand) (ho : op.op = .store 69 x y) (B : Nat) (a b c d e : Value)
    (hx : act.eval x = .pointer (some ⟨B, 0, none⟩)) (hy : act.eval y = .agg #[a, b, c, d, e]) {x0 x1 x2 x3 x4 : Value} (h : W.heap[B]? = some (.cells #[x0, x1, x2, x3, x4] 69)) (h1 : (#[a, b, c, d, e] : Array Value).all (·.oneCell') = true)
    (k : ∀ W', Off B B W W' → W'.heap[B]? = some (.cells #[a, b, c, d, e] 69) → wpList Try.prog ops Q rest (act.put op.dst undef) W') : wpList Try.prog ops Q (op :: rest) act W := by
  refine wpList_store_mid hgd 69 x y ho B 0 #[a, b, c, d, e] hx hy ?_ size69 h1 (k _ (off_setCells _ _ _ _) ?_)
  · intro j hj
    have hj5 : j < 5 := hj
    rw [Nat.zero_add, cell_of h, frz_of h]
    refine ⟨?_, rfl⟩
    rw [Array.getElem?_eq_getElem (by exact hj5)]; rfl
  · exact store5 h a b c d e
/-- The same at one operation. -/
theorem xst5p {op : Oper} {act : Act} {W : World} {K : Act → World → Prop} {Q : Exit → Act → World → Prop} (x y : Operand) (ho : op.op = .store 69 x y) (B : Nat) (a b c d e : Value)
    (hx : act.eval x = .pointer (some ⟨B, 0, none⟩)) (hy : act.eval y = .agg #[a, b, c, d, e]) {x0 x1 x2 x3 x4 : Value} (h : W.heap[B]? = some (.cells #[x0, x1, x2, x3, x4] 69)) (h1 : (#[a, b, c, d, e] : Array Value).all (·.oneCell') = true)
    (k : ∀ W', Off B B W W' → W'.heap[B]? = some (.cells #[a, b, c, d, e] 69) → K (act.put op.dst undef) W') : op.wp Try.prog act W K Q := by
  refine wp_store_mid 69 x y ho B 0 #[a, b, c, d, e] hx hy ?_ size69 h1 (k _ (off_setCells _ _ _ _) ?_)
  · intro j hj
    have hj5 : j < 5 := hj
    rw [Nat.zero_add, cell_of h, frz_of h]
    refine ⟨?_, rfl⟩
    rw [Array.getElem?_eq_getElem (by exact hj5)]; rfl
  · exact store5 h a b c d e
set_option maxRecDepth 100000 in
theorem xextend_any (r : Ro) (v : Value) (w : World) (h : XIs w 0 v r.ms) (hn : r.ms.length ≤ 1000) (he : r.e < 9223372036854775807) (hc : r.l < 9223372036854775807) :
    Calls Try.prog 34 #[r.val v] w fun e w' => ∃ v', e = .returned (r.extend.val v') ∧ XIs w' w.heap.size v' r.ms ∧ Below w.heap.size w w' := by
  have hnx := fun W (hW : Below w.heap.size w W) => xcopied_any r v W (h.below hW) hn he
  have HNX : Hid _ := hnx
  obtain ⟨ao, cp, hv⟩ := own_slice h
  subst hv
  have HB2 : Hid (∀ o1 o2, Below w.heap.size w ((w.alloc o1).alloc o2)) := fun o1 o2 => ((Below.refl _ w).alloc (Nat.le_refl _) _).alloc (by simp) _
  clear h hnx
  unfold Ro.val Ro.arr Ro.extend at *
  go_enter Try.func34, Try.ntmps34
  go_wp2_with fail
  go_call (HNX.out _ (HB2.out _ _)) as e w2 ⟨v2, rfl, hm2, hb2⟩
  clear HNX
  obtain ⟨ao2, cp2, rfl⟩ := own_slice hm2
  obtain ⟨k1, k2, k3⟩ := below_two hb2
  have HM2 : Hid (XIs w2 w.heap.size (.slice ao2 r.ms.length cp2) r.ms) := XIs.least hm2 (by simp; omega)
  have K1 : Hid _ := k1
  have K2 : Hid _ := k2
  have K3 : Hid _ := k3
  clear hb2 k1 k2 k3 hm2
  go_wp2_with (first | (refine xst5 rfl _ _ rfl _ _ _ _ _ _ rfl rfl K1.out (by simp [Value.oneCell']) ?c3) | (refine xst5p _ _ rfl _ _ _ _ _ _ rfl rfl K1.out (by simp [Value.oneCell']) ?c3))
  intro W hO1 hk1
  have hk2 := (hO1.block (w.heap.size + 1) (by omega) (by omega)).trans K2.out
  have hxm := XIs.off HM2.out hO1 K1.out K1.out (by decide) (by decide)
  have hbl := hO1.below K3.out (by omega) (by omega)
  have a0 := cell_of hk1 0
  have a1 := cell_of hk1 1
  have a2 := cell_of hk1 2
  have a3 := cell_of hk1 3
  have a4 := cell_of hk1 4
  have f2 := frz_of hk1 2
  simp at a0 a1 a2 a3 a4
  have d0 := cell_of hk2 0
  have g0 := frz_of hk2 0
  have d1 := cell_of hk2 1
  have g1 := frz_of hk2 1
  have d2 := cell_of hk2 2
  have g2 := frz_of hk2 2
  have d3 := cell_of hk2 3
  have g3 := frz_of hk2 3
  have d4 := cell_of hk2 4
  have g4 := frz_of hk2 4
  simp at d0 d1 d2 d3 d4
  have L1 : Hid _ := hk1
  have L2 : Hid _ := hk2
  have L3 : Hid _ := hxm
  have L4 : Hid _ := hbl
  clear K1 K2 K3 HM2 hk1 hk2 hxm hbl hO1 HB2
  go_wp2
  have hB : (W.setCell ⟨w.heap.size, 2, none⟩ (.int .u64 ((r.l : Int) + 64))).heap[w.heap.size + 1]? = _ := (Below.heap_setCell _ _ _ _ (by simp)).trans L2.out
  have hO : ∀ x a b c d e, Off w.heap.size (w.heap.size + 1) W ((((((W.setCell ⟨w.heap.size, 2, none⟩ x).setCell ⟨w.heap.size + 1, 0, none⟩ a).setCell ⟨w.heap.size + 1, 1, none⟩ b).setCell ⟨w.heap.size + 1, 2, none⟩ c).setCell ⟨w.heap.size + 1, 3, none⟩ d).setCell ⟨w.heap.size + 1, 4, none⟩ e) := fun x a b c d e =>
    ((((((Off.refl _ _ W).set (a := ⟨w.heap.size, 2, none⟩) (by simp) x).set (a := ⟨w.heap.size + 1, 0, none⟩) (by simp) a).set (a := ⟨w.heap.size + 1, 1, none⟩) (by simp) b).set (a := ⟨w.heap.size + 1, 2, none⟩) (by simp) c).set (a := ⟨w.heap.size + 1, 3, none⟩) (by simp) d).set (a := ⟨w.heap.size + 1, 4, none⟩) (by simp) e
  refine bodyPost_ret (xret1 Try.results34 _ _ (w.heap.size + 1) _ ?_ rfl (store5 hB _ _ _ _ _)) rfl ⟨.slice ao2 r.ms.length cp2, rfl, XIs.off L3.out (hO _ _ _ _ _ _) L1.out L2.out (by decide) (by decide), (hO _ _ _ _ _ _).below L4.out (by omega) (by omega)⟩
  rfl
set_option maxRecDepth 100000 in
theorem xfresh_any (r : Ro) (v : Value) (w : World) (h : XIs w 0 v r.ms) (hn : r.ms.length ≤ 1000) (he : r.e < 9223372036854775807) (hc : r.c < 9223372036854775807) :
    Calls Try.prog 36 #[r.val v] w fun e w' => e = .returned (r.fresh.val (.slice none 0 0)) ∧ Below w.heap.size w w' := by
  have hnx := fun W (hW : Below w.heap.size w W) => xcopied_any r v W (h.below hW) hn he
  have HNX : Hid _ := hnx
  obtain ⟨ao, cp, hv⟩ := own_slice h
  subst hv
  have HB2 : Hid (∀ o1 o2, Below w.heap.size w ((w.alloc o1).alloc o2)) := fun o1 o2 => ((Below.refl _ w).alloc (Nat.le_refl _) _).alloc (by simp) _
  clear h hnx
  unfold Ro.val Ro.arr Ro.fresh at *
  go_enter Try.func36, Try.ntmps36
  go_wp2_with fail
  go_call (HNX.out _ (HB2.out _ _)) as e w2 ⟨v2, rfl, hm2, hb2⟩
  clear HNX
  obtain ⟨ao2, cp2, rfl⟩ := own_slice hm2
  obtain ⟨k1, k2, k3⟩ := below_two hb2
  have HM2 : Hid (XIs w2 w.heap.size (.slice ao2 r.ms.length cp2) r.ms) := XIs.least hm2 (by simp; omega)
  have K1 : Hid _ := k1
  have K2 : Hid _ := k2
  have K3 : Hid _ := k3
  clear hb2 k1 k2 k3 hm2
  go_wp2_with (first | (refine xst5 rfl _ _ rfl _ _ _ _ _ _ rfl rfl K1.out (by simp [Value.oneCell']) ?c3) | (refine xst5p _ _ rfl _ _ _ _ _ _ rfl rfl K1.out (by simp [Value.oneCell']) ?c3))
  intro W hO1 hk1
  have hk2 := (hO1.block (w.heap.size + 1) (by omega) (by omega)).trans K2.out
  have hxm := XIs.off HM2.out hO1 K1.out K1.out (by decide) (by decide)
  have hbl := hO1.below K3.out (by omega) (by omega)
  have a0 := cell_of hk1 0
  have a1 := cell_of hk1 1
  have a2 := cell_of hk1 2
  have a3 := cell_of hk1 3
  have a4 := cell_of hk1 4
  have f0 := frz_of hk1 0
  have f4 := frz_of hk1 4
  simp at a0 a1 a2 a3 a4
  have d0 := cell_of hk2 0
  have g0 := frz_of hk2 0
  have d1 := cell_of hk2 1
  have g1 := frz_of hk2 1
  have d2 := cell_of hk2 2
  have g2 := frz_of hk2 2
  have d3 := cell_of hk2 3
  have g3 := frz_of hk2 3
  have d4 := cell_of hk2 4
  have g4 := frz_of hk2 4
  simp at d0 d1 d2 d3 d4
  have L1 : Hid _ := hk1
  have L2 : Hid _ := hk2
  have L3 : Hid _ := hxm
  have L4 : Hid _ := hbl
  clear K1 K2 K3 HM2 hk1 hk2 hxm hbl hO1 HB2
  go_wp2
  have hB : ((W.setCell ⟨w.heap.size, 0, none⟩ (.int .u64 ((r.c : Int) + 1))).setCell ⟨w.heap.size, 4, none⟩ (.slice none 0 0)).heap[w.heap.size + 1]? = _ := (Below.heap_setCell _ _ _ _ (by simp)).trans ((Below.heap_setCell _ _ _ _ (by simp)).trans L2.out)
  have hO := fun x y a b c d e => (((Off.refl w.heap.size (w.heap.size + 1) W).set (a := ⟨w.heap.size, 0, none⟩) (by simp) x).set (a := ⟨w.heap.size, 4, none⟩) (by simp) y).five a b c d e
  refine bodyPost_ret (xret1 Try.results36 _ _ (w.heap.size + 1) _ ?_ rfl (store5 hB _ _ _ _ _)) rfl ⟨rfl, (hO _ _ _ _ _ _ _).below L4.out (by omega) (by omega)⟩
  rfl
end Go.Proofs.Ytknmipbjkkeebaa
