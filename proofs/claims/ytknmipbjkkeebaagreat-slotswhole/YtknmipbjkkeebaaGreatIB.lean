/- What lies in a slot of these bytes, as a call. -/
import Derived.Test.YtknmipbjkkeebaaGreatIA
namespace Go.Proofs.YtknmipbjkkeebaaGreat
open Go.RowKit
/-- The first k of them. -/
def gk (g : Nat → Pg) (k : Nat) : Nat → Pg := fun j => if j < k then g j else zp
theorem gk_zero (g : Nat → Pg) : gk g 0 = fun _ => zp := by funext j; unfold gk; rw [if_neg (Nat.not_lt_zero _)]
theorem gk_succ (g : Nat → Pg) (k : Nat) : updP (gk g k) k (g k) = gk g (k + 1) := by
  funext j; unfold updP gk
  by_cases h : j = k
  · subst h; rw [if_pos rfl, if_pos (by omega)]
  · rw [if_neg h]
    by_cases h2 : j < k
    · rw [if_pos h2, if_pos (by omega)]
    · rw [if_neg h2, if_neg (by omega)]
theorem parr_congr {f g : Nat → Pg} (h : ∀ j, j < 16 → f j = g j) : parr f = parr g :=
  parr_of g (parr f) (parr_size f) (fun j m hj hm => by rw [parr_get f j m hj hm, h j hj])
theorem gk_all (g : Nat → Pg) : parr (gk g 16) = parr g := parr_congr (fun _j hj => if_pos hj)
/-- Two boxes. -/
structure PgI (w : World) (g : Nat → Pg) (k : Nat) (W : World) : Prop where
  bel : Below w.heap.size w W
  r : W.heap[w.heap.size]? = some (.cells (parr fun _ => zp) 77)
  x : W.heap[w.heap.size + 1]? = some (.cells (parr (gk g k)) 77)
theorem PgI.below {w : World} {g : Nat → Pg} {k : Nat} {W W' : World} (h : PgI w g k W) (hb : Below W.heap.size W W') : PgI w g k W' := by
  have hl := (Array.getElem?_eq_some_iff.1 h.x).1
  exact ⟨h.bel.trans (hb.mono (by omega)), (hb.block _ (by omega)).trans h.r, (hb.block _ (by omega)).trans h.x⟩
/-- A sector tells a Page (or none: the zero one). -/
def Tells (x : ByteArray) (p : Pg) : Prop := ∀ w, Calls Tryz.prog 77 #[.string x] w fun e w' => ∃ er, e = .returned (.tuple #[.agg p.cs, .int .i64 er]) ∧ Below w.heap.size w w'
theorem tells_page (p : Pg) (hp : p.Ok) : Tells p.sec p := fun w => (topage_back p hp w).mono (by rintro e w' ⟨rfl, hb⟩; exact ⟨0, rfl, hb⟩)
theorem tells_zero : Tells zsec zp := fun w => (topage_zero w).mono (by rintro e w' ⟨rfl, hb⟩; exact ⟨5, rfl, hb⟩)
set_option maxHeartbeats 4000000 in
set_option maxRecDepth 100000 in
theorem pagesof_any (s : ByteArray) (hs : s.size = 1024) (g : Nat → Pg) (h : ∀ j, j < 16 → Tells (s.extract (j * 64) (j * 64 + 64)) (g j)) (w : World) :
    Calls Tryz.prog 51 #[.string s] w fun e w' => e = .returned (.agg (parr g)) ∧ Below w.heap.size w w' := by
  have HT : Hid _ := h
  have HZ : Hid (∀ o1 : Array Value, o1 = parr (fun _ => zp) → PgI w g 0 ((w.alloc (.cells o1 77)).alloc (.cells o1 77))) := fun o1 he => by
    subst he
    refine ⟨(Below.alloc (Below.refl _ _) (Nat.le_refl _) _).alloc (by simp) _, (Below.heap_alloc _ _ _ (by simp)).trans (F.heap_new _ _), ?_⟩
    rw [gk_zero]
    have e : (w.alloc (.cells (parr fun _ => zp) 77)).heap.size = w.heap.size + 1 := by simp
    rw [← e]; exact F.heap_new _ _
  clear h
  go_enter Tryz.func51, Tryz.ntmps51
  go_wp2
  go_loopw [5] (fun i wr => ∃ k : Nat, k ≤ 16 ∧ i = .int .i64 (k : Nat) ∧ Hid (PgI w g k wr)) (fun i _ => 16 - (intOf i).toNat)
  case atStart => exact ⟨0, by omega, rfl, HZ.out _ (by rfl)⟩
  case round =>
    clear HZ
    obtain ⟨k, hk, rfl, HI⟩ := hrel
    rcases Nat.lt_or_ge k 16 with hk16 | hk16
    · have hq1 : ((k : Int) * 64).toNat = k * 64 := by omega
      have hq2 : k * 64 + 64 ≤ 1024 := by omega
      have hex : (s.extract (k * 64) 1024).extract 0 64 = s.extract (k * 64) (k * 64 + 64) := by
        rw [ByteArray.extract_extract]; congr 1; omega
      have hc := HT.out k hk16 wr
      rw [← hex] at hc
      have HC : Hid _ := hc
      clear hex hc
      go_wp2_with fail
      go_call HC.out as e w2 ⟨er, rfl, hb2⟩
      have I2 : Hid _ := HI.out.below hb2
      clear hb2 HI HC
      go_wp2_with (first | (refine pstAt rfl _ _ rfl (w.heap.size + 1) k hk16 (g k) rfl rfl I2.out.x ?c1) | (refine pstAtp _ _ rfl (w.heap.size + 1) k hk16 (g k) rfl rfl I2.out.x ?c1))
      intro w3 ho3 hx3
      rw [gk_succ] at hx3
      have I3 : Hid (PgI w g (k + 1) w3) := ⟨ho3.below I2.out.bel (by omega), (ho3.block _ (by omega)).trans I2.out.r, hx3⟩
      clear ho3 hx3 I2
      go_wp2
      go_roundw
      case rel => exact ⟨k + 1, by omega, rfl, I3.out⟩
      case measure => simp only [intOf]; omega
    · obtain rfl : k = 16 := by omega
      have IE : Hid (Below w.heap.size w wr ∧ wr.heap[w.heap.size]? = some (.cells (parr fun _ => zp) 77) ∧ wr.heap[w.heap.size + 1]? = some (.cells (parr g) 77)) := ⟨HI.out.bel, HI.out.r, by rw [← gk_all]; exact HI.out.x⟩
      clear HI
      generalize hpa : parr g = pa at *
      have hps : pa.size = 64 := by rw [← hpa]; exact parr_size g
      have HPA : Hid _ := hpa
      clear hpa
      have hst : ∀ {op : Oper} {act : Act} {W : World} {Q : Exit → Act → World → Prop} {K : Act → World → Prop} (x y : Operand) (ho : op.op = .store 77 x y) (hx : act.eval x = .pointer (some ⟨w.heap.size, 0, none⟩)) (hy : act.eval y = .agg pa) (h : W.heap[w.heap.size]? = some (.cells (parr fun _ => zp) 77)) (k : ∀ W', Off w.heap.size W W' → W'.heap[w.heap.size]? = some (.cells pa 77) → K (act.put op.dst undef) W'), op.wp Tryz.prog act W K Q := by
        intro op act W Q K x y ho hx hy h k
        refine ast77p x y ho w.heap.size g hx (by rw [HPA.out]; exact hy) (parr_size _) h (fun W' a b => k W' a (by rw [HPA.out] at b; exact b))
      have hld : ∀ {op : Oper} {act : Act} {W : World} {Q : Exit → Act → World → Prop} {K : Act → World → Prop} (x : Operand) (ho : op.op = .load 77 x) (hx : act.eval x = .pointer (some ⟨w.heap.size + 1, 0, none⟩)) (h : W.heap[w.heap.size + 1]? = some (.cells pa 77)) (k : K (act.put op.dst (.agg pa)) W), op.wp Tryz.prog act W K Q := by
        intro op act W Q K x ho hx h k
        refine wp_load_row 77 x ho _ hx 77 pa (0, 0) _ h Tryz.underlying77 rfl (by rw [size77, hps]) k
      have HST : Hid _ := @hst
      have HLD : Hid _ := @hld
      clear hst hld
      go_wp2_with (first | (refine wpList_plain rfl fun _ hK => HLD.out _ rfl rfl IE.out.2.2 (hK _ _ ?_)) | (refine HLD.out _ rfl rfl IE.out.2.2 ?_) | (refine wpList_plain rfl fun _ hK => HST.out _ _ rfl rfl rfl IE.out.2.1 (fun w4 ho4 hr4 => hK _ _ ?_)) | (refine HST.out _ _ rfl rfl rfl IE.out.2.1 (fun w4 ho4 hr4 => ?_)))
      have B4 := ho4.below IE.out.1 (Nat.le_refl _)
      rw [HPA.out]
      refine bodyPost_ret (results_cell_row Tryz.results51 _ _ w.heap.size 77 pa (0, 0) _ rfl hr4 Tryz.underlying77 rfl (by rw [size77, hps])) rfl ⟨rfl, B4⟩
end Go.Proofs.YtknmipbjkkeebaaGreat
