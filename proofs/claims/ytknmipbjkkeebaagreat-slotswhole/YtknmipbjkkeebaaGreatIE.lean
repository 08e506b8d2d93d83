/- The greatest Seq of a slot's Pages, as a call. -/
import Derived.Test.YtknmipbjkkeebaaGreatID
namespace Go.Proofs.YtknmipbjkkeebaaGreat
open Go.RowKit
theorem part77 (g : Nat → Pg) (k : Nat) (hk : k < 16) : (parr g).extract (k * 4) (k * 4 + 4) = (g k).cs := by
  have hs := parr_size g
  have hg := fun m hm => parr_get g k m hk hm
  generalize parr g = pa at *
  apply Array.ext_getElem?
  intro m
  rcases Nat.lt_or_ge m 4 with hm | hm
  · rw [← hg m hm, Array.getElem?_extract]
    rw [if_pos (by omega)]
  · rw [Array.getElem?_eq_none (by rw [Array.size_extract]; omega), Array.getElem?_eq_none (by show 4 ≤ m; exact hm)]
theorem index77 (g : Nat → Pg) (k : Nat) (hk : k < 16) (w : World) : (Instr.index 77 (.agg (parr g)) (.int .i64 (k : Nat))).run Tryz.prog w = .ok (.agg (g k).cs) w := by
  have hn : (0 : Int) ≤ (k : Nat) ∧ ((k : Nat) : Int) < ((16 : Nat) : Int) := by omega
  have hu : Tryz.prog.underlying 77 = some (.array 16 75) := by kernel_rfl
  have hs : (sizeOf 75).run Tryz.prog w = .ok 4 w := by kernel_rfl
  have ha : (isAgg 75).run Tryz.prog w = .ok true w := by kernel_rfl
  simp [Instr.index, run_underlying hu, asIntOf, hn, go_sem, hs]
  rw [if_pos hk, part77 g k hk]
def mostN (g : Nat → Pg) : Nat → Nat
  | 0 => 0
  | k + 1 => max (mostN g k) (g k).q
set_option maxHeartbeats 2000000 in
set_option maxRecDepth 100000 in
theorem most_any (g : Nat → Pg) (w : World) :
    Calls Tryz.prog 52 #[.agg (parr g)] w fun e w' => e = .returned (.int .u64 (mostN g 16 : Nat)) ∧ Below w.heap.size w w' := by
  have HIX : Hid _ := index77 g
  obtain ⟨pa, hpa⟩ : ∃ pa, pa = parr g := ⟨_, rfl⟩
  have hps : pa.size = 64 := by rw [hpa]; exact parr_size g
  rw [← hpa] at HIX ⊢
  have HB0 : Hid (Below w.heap.size w (w.alloc (.cells pa 77))) := Below.alloc (Below.refl _ _) (Nat.le_refl _) _
  have N0 : Hid ((w.alloc (.cells pa 77)).heap[w.heap.size]? = some (.cells pa 77)) := F.heap_new _ _
  have HLD : Hid (∀ {op : Oper} {act : Act} {W : World} {Q : Exit → Act → World → Prop} {K : Act → World → Prop} (x : Operand) (ho : op.op = .load 77 x) (hx : act.eval x = .pointer (some ⟨w.heap.size, 0, none⟩)) (h : W.heap[w.heap.size]? = some (.cells pa 77)) (k : K (act.put op.dst (.agg pa)) W), op.wp Tryz.prog act W K Q) := by
    intro op act W Q K x ho hx h k
    refine wp_load_row 77 x ho _ hx 77 pa (0, 0) _ h Tryz.underlying77 rfl (by rw [size77, hps]) k
  clear hpa hps
  go_enter Tryz.func52, Tryz.ntmps52
  go_wp2_with (first | (refine wpList_plain rfl fun _ hK => HLD.out _ rfl rfl N0.out (hK _ _ ?_)) | (refine HLD.out _ rfl rfl N0.out ?_))
  clear HLD N0
  go_loopw [3, 7] (fun m i wr => ∃ k : Nat, k ≤ 16 ∧ m = .int .u64 (mostN g k : Nat) ∧ i = .int .i64 (k : Nat) ∧ Hid (Below w.heap.size w wr)) (fun _ i _ => 16 - (intOf i).toNat)
  case atStart => exact ⟨0, by omega, rfl, rfl, HB0.out⟩
  case round =>
    clear HB0
    obtain ⟨k, hk, rfl, rfl, HI⟩ := hrel
    rcases Nat.lt_or_ge k 16 with hkt | hkt
    · have hix := HIX.out k hkt
      have N1 : Hid ((wr.alloc (.cells #[.int .u64 0, .int .i64 0, .int .i64 0, .string ⟨#[]⟩] 75)).heap[wr.heap.size]? = _) := F.heap_new _ _
      have B1 : Hid (Below w.heap.size w (wr.alloc (.cells #[.int .u64 0, .int .i64 0, .int .i64 0, .string ⟨#[]⟩] 75))) := HI.out.alloc HI.out.size _
      have HS1 : Hid (w.heap.size ≤ wr.heap.size) := HI.out.size
      clear HI
      go_wp2_with (first | (refine pst4 rfl _ _ rfl _ _ (Pg.cs_size _) rfl rfl (by rfl) N1.out (Pg.cs_one _) ?c1) | (refine pst4p _ _ rfl _ _ (Pg.cs_size _) rfl rfl (by rfl) N1.out (Pg.cs_one _) ?c1))
      intro w3 ho3 hx3
      have B3 : Hid _ := ho3.below B1.out HS1.out
      have c3 : w3.cell? ⟨wr.heap.size, 0, none⟩ = some (.int .u64 ((g k).q : Nat)) := F.cell_of hx3 0
      have HM : Hid (mostN g (k + 1) = max (mostN g k) (g k).q) := rfl
      have hmx : max ((mostN g k : Nat) : Int) (((g k).q : Nat) : Int) = ((max (mostN g k) (g k).q : Nat) : Int) := by omega
      clear ho3 hx3 B1 N1 hix
      generalize (g k).q = b at *
      generalize mostN g k = a at *
      go_wp2
      go_roundw
      case rel => exact ⟨k + 1, by omega, by rw [HM.out], rfl, B3.out⟩
      case measure => simp only [intOf]; omega
    · obtain rfl : k = 16 := by omega
      go_wp2
      go_returns
      exact ⟨rfl, HI.out⟩
end Go.Proofs.YtknmipbjkkeebaaGreat
