/- The text that lies in a slot, as a call. -/
import Derived.Test.YtknmipbjkkeebaaGreatIG
namespace Go.Proofs.YtknmipbjkkeebaaGreat
open Go.RowKit
def datL (g : Nat → Pg) : Nat → List UInt8
  | 0 => []
  | k + 1 => datL g k ++ (g k).d.data.toList
theorem datL_length (g : Nat → Pg) (t : Nat) (h : ∀ j, j < t → (g j).d.size ≤ 40) : ∀ k, k ≤ t → (datL g k).length ≤ k * 40
  | 0, _ => Nat.zero_le _
  | k + 1, hk => by
    rw [datL, List.length_append, ← O.size_list]
    have := datL_length g t h k (by omega)
    have := h k (by omega)
    omega
/-- What lies there behind so many bytes. -/
structure TI (w : World) (g : Nat → Pg) (l : List UInt8) (W : World) : Prop where
  bel : Below w.heap.size w W
  x : W.heap[w.heap.size]? = some (.cells (parr g) 77)
  b : F.Bld (w.heap.size + 1) l W
  s : w.heap.size + 2 ≤ W.heap.size
theorem TI.below {w : World} {g : Nat → Pg} {l : List UInt8} {W W' : World} (h : TI w g l W) (hb : Below W.heap.size W W') : TI w g l W' := by
  have hl := h.s
  exact ⟨h.bel.trans (hb.mono (by omega)), (hb.block _ (by omega)).trans h.x, Bld_below h.b hb, by have := hb.size; omega⟩
theorem TI.off {w : World} {g : Nat → Pg} {l : List UInt8} {W W' : World} (h : TI w g l W) {B : Nat} {c : Array Value} {t : TypeId} (ho : Off B W W') (hB : W.heap[B]? = some (.cells c t)) (ht : t ≠ 5) (hne : w.heap.size + 2 ≤ B) : TI w g l W' :=
  ⟨ho.below h.bel (by omega), (ho.block _ (by omega)).trans h.x, Bld_off h.b ho hB ht (by omega), Nat.le_trans h.s ho.size⟩
theorem TI.cell {w : World} {g : Nat → Pg} {l : List UInt8} {W : World} (h : TI w g l W) (m : Nat) (hm : m < 4) : W.cell? ⟨w.heap.size, m, none⟩ = (g 0).cs[m]? := by
  rw [F.cell_of h.x]
  have q := parr_get g 0 m (by omega) hm
  rw [Nat.zero_mul, Nat.zero_add] at q; exact q
/-- Is the slot whole? -/
def Whl (g : Nat → Pg) : Prop := 0 < (g 0).n ∧ ∀ j, j < (g 0).n → g j = gk (spP (O.tx (datL g (g 0).n)) (g 0).q) (spT (O.tx (datL g (g 0).n)).size) j
set_option maxHeartbeats 4000000 in
set_option maxRecDepth 100000 in
theorem text_any (g : Nat → Pg) (t : Nat) (ht : (g 0).n = t) (ht16 : t ≤ 16) (hd : ∀ j, j < t → (g j).d.size ≤ 40) (w : World) :
    Calls Tryz.prog 53 #[.agg (parr g)] w fun e w' => ∃ b : Bool, (b = true ↔ Whl g) ∧ e = .returned (.tuple #[.string (if b then O.tx (datL g t) else ⟨#[]⟩), .bool b]) ∧ Below w.heap.size w w' := by
  have HW : Hid (Whl g ↔ (0 < t ∧ ∀ j, j < t → g j = gk (spP (O.tx (datL g t)) (g 0).q) (spT (O.tx (datL g t)).size) j)) := by unfold Whl; rw [ht]; exact Iff.rfl
  have HL : Hid (∀ k, k ≤ t → (datL g k).length ≤ k * 40) := datL_length g t hd
  obtain ⟨pa, hpa⟩ : ∃ pa, pa = parr g := ⟨_, rfl⟩
  have HS0 : Hid (TI w g [] ((w.alloc (.cells pa 77)).alloc (.cells #[.pointer none, .slice none 0 0] 123))) := by
    rw [hpa]
    have e : (w.alloc (.cells (parr g) 77)).heap.size = w.heap.size + 1 := by simp
    refine ⟨(Below.alloc (Below.refl _ _) (Nat.le_refl _) _).alloc (by simp) _, (Below.heap_alloc _ _ _ (by simp)).trans (F.heap_new _ _), ?_, by simp⟩
    rw [← e]; exact F.bld_new _
  have c2 : (w.alloc (.cells pa 77)).cell? ⟨w.heap.size, 2, none⟩ = some (.int .i64 (t : Nat)) := by
    rw [F.cell_of (F.heap_new _ _), hpa]
    have h := parr_get g 0 2 (by omega) (by omega)
    rw [Nat.zero_mul, Nat.zero_add] at h
    rw [h]
    show some (Value.int .i64 ((g 0).n : Nat)) = _
    rw [ht]
  rw [← hpa]
  have HD : Hid _ := hd
  clear hpa hd ht
  go_enter Tryz.func53, Tryz.ntmps53
  have hsl := fun W => slice77 w.heap.size t W ht16
  go_wp2
  clear c2 hsl
  go_loopw [16] (fun i wr => ∃ k : Nat, k ≤ t ∧ i = .int .i64 (k : Nat) ∧ Hid (TI w g (datL g k) wr)) (fun i _ => t - (intOf i).toNat)
  case atStart => exact ⟨0, by omega, rfl, HS0.out⟩
  case round =>
    clear HS0
    obtain ⟨k, hk, rfl, HI⟩ := hrel
    rcases Nat.lt_or_ge k t with hkt | hkt
    · have hk16 : k < 16 := by omega
      have hb1 : Below wr.heap.size wr (wr.alloc (.cells #[.int .u64 0, .int .i64 0, .int .i64 0, .string ⟨#[]⟩] 75)) := Below.alloc (Below.refl _ _) (Nat.le_refl _) _
      have I1 : Hid _ := HI.out.below hb1
      have N1 : Hid ((wr.alloc (.cells #[.int .u64 0, .int .i64 0, .int .i64 0, .string ⟨#[]⟩] 75)).heap[wr.heap.size]? = _) := F.heap_new _ _
      have HWS : Hid (w.heap.size + 2 ≤ wr.heap.size) := HI.out.s
      have HX : Hid _ := HI.out.x
      clear hb1 HI
      go_wp2_with (first | (refine wpList_plain rfl fun _ hK => pldAtp _ rfl w.heap.size k hk16 rfl HX.out (hK _ _ ?_)) | (refine pldAtp _ rfl w.heap.size k hk16 rfl HX.out ?_) | (refine pst4 rfl _ _ rfl _ _ (Pg.cs_size _) rfl rfl (by rfl) N1.out (Pg.cs_one _) ?c1) | (refine pst4p _ _ rfl _ _ (Pg.cs_size _) rfl rfl (by rfl) N1.out (Pg.cs_one _) ?c1))
      intro w3 ho3 hx3
      have I3 : Hid _ := I1.out.off ho3 N1.out (by decide) HWS.out
      have c3 : w3.cell? ⟨wr.heap.size, 3, none⟩ = some (.string (g k).d) := F.cell_of hx3 3
      clear ho3 hx3 I1 N1 HX
      have hdk := HD.out k hkt
      have hbw := F.bld_write (w.heap.size + 1) (datL g k) (g k).d w3 I3.out.b (by have := HL.out k hk; omega)
      have HNX : Hid (datL g (k + 1) = datL g k ++ (g k).d.data.toList) := rfl
      go_wp2_with fail
      go_call hbw as e w5 ⟨rfl, b5, k5, l5⟩
      have I5 : Hid (TI w g (datL g (k + 1)) w5) := ⟨I3.out.bel.trans (l5.mono (by omega)), (l5.block _ (by omega)).trans I3.out.x, b5, Nat.le_trans I3.out.s l5.size⟩
      clear hbw b5 k5 l5 I3 c3
      go_wp2
      go_roundw
      case rel => exact ⟨k + 1, by omega, rfl, I5.out⟩
      case measure => simp only [intOf]; omega
    · obtain rfl : k = t := by omega
      have hbs := F.bld_string (w.heap.size + 1) (datL g k) wr HI.out.b
      replace hbs : Calls Tryz.prog 68 #[.pointer (some ⟨w.heap.size + 1, 0, none⟩)] wr fun e w' => e = .returned (.string (O.tx (datL g k))) ∧ Lib.OthersKept 5 (some (w.heap.size + 1)) wr w' ∧ Below (w.heap.size + 1) wr w' := hbs
      have hxs : (O.tx (datL g k)).size ≤ 640 := by rw [tx_size]; have := HL.out k hk; omega
      generalize hy : O.tx (datL g k) = y at *
      go_wp2_with fail
      go_call hbs as e w5 ⟨rfl, k5, l5⟩
      have X5 : Hid (Below w.heap.size w w5 ∧ w5.heap[w.heap.size]? = some (.cells (parr g) 77) ∧ w.heap.size + 2 ≤ w5.heap.size) := ⟨HI.out.bel.trans (l5.mono (by omega)), (l5.block _ (by omega)).trans HI.out.x, Nat.le_trans HI.out.s l5.size⟩
      clear hbs k5 l5 HI
      have c5 : w5.cell? ⟨w.heap.size, 0, none⟩ = some (.int .u64 ((g 0).q : Nat)) := by
        rw [F.cell_of X5.out.2.1]
        have q := parr_get g 0 0 (by omega) (by omega)
        rw [Nat.zero_mul, Nat.zero_add] at q; exact q
      have hsp := split_any y hxs (g 0).q w5
      go_wp2_with fail
      go_call hsp as e w6 ⟨rfl, hb6⟩
      have X6 : Hid (Below w.heap.size w w6 ∧ w6.heap[w.heap.size]? = some (.cells (parr g) 77) ∧ w.heap.size + 2 ≤ w6.heap.size) := ⟨X5.out.1.trans (hb6.mono (by have := X5.out.2.2; omega)), (hb6.block _ (by have := X5.out.2.2; omega)).trans X5.out.2.1, Nat.le_trans X5.out.2.2 hb6.size⟩
      clear hsp hb6 X5 c5
      obtain ⟨hh, hhh⟩ : ∃ hh, hh = gk (spP y (g 0).q) (spT y.size) := ⟨_, rfl⟩
      rw [← hhh] at HW ⊢
      clear hhh
      obtain ⟨pb, hpb⟩ : ∃ pb, pb = parr hh := ⟨_, rfl⟩
      have HPB : Hid _ := hpb
      rw [← hpb]
      clear hpb
      have HST : Hid (∀ {op : Oper} {act : Act} {W : World} {Q : Exit → Act → World → Prop} {K : Act → World → Prop} (x y : Operand) (ho : op.op = .store 77 x y) (hx : act.eval x = .pointer (some ⟨w6.heap.size, 0, none⟩)) (hy : act.eval y = .agg pb) (c0 : Array Value) (hc0 : c0.size = 64) (h : W.heap[w6.heap.size]? = some (.cells c0 77)) (k : ∀ W', Off w6.heap.size W W' → W'.heap[w6.heap.size]? = some (.cells pb 77) → K (act.put op.dst undef) W'), op.wp Tryz.prog act W K Q) := by
        intro op act W Q K x y ho hx hy c0 hc0 h k
        refine ast77p x y ho w6.heap.size hh hx (by rw [← HPB.out]; exact hy) hc0 h (fun W' a b => k W' a (by rw [← HPB.out] at b; exact b))
      have HAL : Hid (∀ o : Obj, Below w6.heap.size w6 (w6.alloc o)) := fun o => Below.alloc (Below.refl _ _) (Nat.le_refl _) _
      have HY : Hid _ := hy
      clear hy
      rcases Nat.eq_zero_or_pos k with h0 | h0
      · subst h0
        go_wp2_with (first | (refine wpList_plain rfl fun _ hK => HST.out _ _ rfl rfl rfl _ (by rfl) (F.heap_new _ _) (fun w7 ho7 hr7 => hK _ _ ?_)) | (refine HST.out _ _ rfl rfl rfl _ (by rfl) (F.heap_new _ _) (fun w7 ho7 hr7 => ?_)))
        have B7 : Hid (Below w.heap.size w w7) := ho7.below (X6.out.1.trans ((HAL.out _).mono (by have := X6.out.2.2; omega))) (by have := X6.out.2.2; omega)
        go_returns
        exact ⟨false, ⟨fun e => (by cases e), fun h => absurd (HW.out.1 h).1 (Nat.lt_irrefl _)⟩, rfl, B7.out⟩
      · have hsl := fun W => slice77 w6.heap.size k W ht16
        have hk0 : ¬ ((k : Nat) : Int) = 0 := by omega
        go_wp2_with (first | (refine wpList_plain rfl fun _ hK => HST.out _ _ rfl rfl rfl _ (by rfl) (F.heap_new _ _) (fun w7 ho7 hr7 => hK _ _ ?_)) | (refine HST.out _ _ rfl rfl rfl _ (by rfl) (F.heap_new _ _) (fun w7 ho7 hr7 => ?_)))
        have hA : w7.heap[w.heap.size]? = some (.cells (parr g) 77) := (ho7.block _ (by have := X6.out.2.2; omega)).trans (((HAL.out _).block _ (by have := X6.out.2.2; omega)).trans X6.out.2.1)
        have B7 : Hid (Below w.heap.size w w7) := ho7.below (X6.out.1.trans ((HAL.out _).mono (by have := X6.out.2.2; omega))) (by have := X6.out.2.2; omega)
        have heq := equal_any g hh w.heap.size w6.heap.size k ht16 w7 hA (by rw [← HPB.out]; exact hr7)
        go_call heq as e w8 ⟨b, rfl, hb, hb8⟩
        have B8 : Hid (Below w.heap.size w w8) := B7.out.trans (hb8.mono (by have := B7.out.size; omega))
        have HBI : Hid _ := hb
        clear heq hb hb8 hA hsl
        cases b with
        | false =>
          go_wp2
          go_returns
          exact ⟨false, ⟨fun e => (by cases e), fun h => by have := HBI.out.2 (HW.out.1 h).2; cases this⟩, rfl, B8.out⟩
        | true =>
          go_wp2
          go_returns
          exact ⟨true, ⟨fun _ => HW.out.2 ⟨h0, HBI.out.1 (by first | rfl | trivial)⟩, fun _ => rfl⟩, by rw [HY.out]; rfl, B8.out⟩
end Go.Proofs.YtknmipbjkkeebaaGreat
