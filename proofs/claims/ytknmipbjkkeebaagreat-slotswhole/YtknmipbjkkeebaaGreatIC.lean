/- The Pages of a text, as a call. -/
import Derived.Test.YtknmipbjkkeebaaGreatIB
import Derived.Lib.MinMax
namespace Go.Proofs.YtknmipbjkkeebaaGreat
open Go.RowKit
/-- How many Pages a text has. -/
def spT (n : Nat) : Nat := max 1 ((n + 39) / 40)
theorem spT_pos (n : Nat) : 1 ≤ spT n := by unfold spT; omega
theorem spT_le (n : Nat) (h : n ≤ 640) : spT n ≤ 16 := by unfold spT; omega
/-- The Page j of a text. -/
def spP (x : ByteArray) (q j : Nat) : Pg := ⟨q, j, spT x.size, x.extract (j * 40) (j * 40 + 40)⟩
theorem ext_min (y : ByteArray) (a b : Nat) (h : y.size ≤ b) : y.extract a b = y.extract a y.size := by
  apply ByteArray.ext
  rw [ByteArray.data_extract, ByteArray.data_extract]
  apply Array.ext'
  rw [Array.toList_extract, Array.toList_extract, List.extract_eq_take_drop, List.extract_eq_take_drop]
  rw [List.take_of_length_le (by rw [List.length_drop, ← O.size_list]; omega), List.take_of_length_le (by rw [List.length_drop, ← O.size_list]; omega)]
theorem sp_data (x : ByteArray) (k : Nat) (hk : k * 40 ≤ x.size) : (x.extract (k * 40) x.size).extract 0 (min (x.size - k * 40) 40) = x.extract (k * 40) (k * 40 + 40) := by
  rw [ByteArray.extract_extract, Nat.add_zero]
  rcases Nat.lt_or_ge (x.size - k * 40) 40 with h | h
  · rw [show min (k * 40 + min (x.size - k * 40) 40) x.size = x.size by omega]; exact (ext_min x _ _ (by omega)).symm
  · rw [show min (k * 40 + min (x.size - k * 40) 40) x.size = k * 40 + 40 by omega]
theorem ext_none (x : ByteArray) (a : Nat) (h : x.size ≤ a) : x.extract a x.size = ⟨#[]⟩ := by
  apply ByteArray.size_eq_zero_iff.1
  rw [ByteArray.size_extract]; omega
theorem sp_rest (x : ByteArray) (k : Nat) (hk : k * 40 ≤ x.size) : (x.extract (k * 40) x.size).extract (min (x.size - k * 40) 40) (x.size - k * 40) = x.extract ((k + 1) * 40) x.size := by
  rw [ByteArray.extract_extract, show min (k * 40 + (x.size - k * 40)) x.size = x.size by omega]
  rcases Nat.lt_or_ge (x.size - k * 40) 40 with h | h
  · rw [ext_none x _ (by omega), ext_none x _ (by omega)]
  · rw [show k * 40 + min (x.size - k * 40) 40 = (k + 1) * 40 by omega]
theorem ext_sz (x : ByteArray) (k : Nat) : (x.extract (k * 40) x.size).size = x.size - k * 40 := by rw [ByteArray.size_extract]; omega
set_option maxHeartbeats 2000000 in
set_option maxRecDepth 100000 in
theorem split_any (x : ByteArray) (hx : x.size ≤ 640) (q : Nat) (w : World) :
    Calls Tryz.prog 40 #[.string x, .int .u64 (q : Nat)] w fun e w' => e = .returned (.agg (parr (gk (spP x q) (spT x.size)))) ∧ Below w.heap.size w w' := by
  have HZ : Hid (∀ o1 : Array Value, o1 = parr (fun _ => zp) → PgI w (spP x q) 0 ((w.alloc (.cells o1 77)).alloc (.cells o1 77))) := fun o1 he => by
    subst he
    refine ⟨(Below.alloc (Below.refl _ _) (Nat.le_refl _) _).alloc (by simp) _, (Below.heap_alloc _ _ _ (by simp)).trans (F.heap_new _ _), ?_⟩
    rw [gk_zero]
    have e : (w.alloc (.cells (parr fun _ => zp) 77)).heap.size = w.heap.size + 1 := by simp
    rw [← e]; exact F.heap_new _ _
  obtain ⟨n, hn⟩ : ∃ n, n = x.size := ⟨_, rfl⟩
  have hn40 : n ≤ 640 := by omega
  obtain ⟨t, ht⟩ : ∃ t, t = spT n := ⟨_, rfl⟩
  have ht1 : t = max 1 ((n + 39) / 40) := ht
  have HT : Hid (t = spT x.size) := by rw [← hn]; exact ht
  have HN : Hid _ := hn
  have hX0 : x.extract (0 * 40) x.size = x := by rw [Nat.zero_mul]; exact O.extract_all x
  have HX0 : Hid _ := hX0
  have hmx : max 1 (((n : Int) + 40 - 1) / 40) = ((t : Nat) : Int) := by omega
  have ht16 : t ≤ 16 := by omega
  have htn : ∀ k, k < t → k * 40 ≤ n := fun k hk => by omega
  have hlen : x.size = n := hn.symm
  rw [← HT.out]
  have HMX : Hid _ := hmx
  have HTN : Hid _ := htn
  have HT1 : Hid _ := ht1
  clear ht hX0 hx hn hmx htn ht1
  go_enter Tryz.func40, Tryz.ntmps40
  go_wp2
  rw [HMX.out]
  clear HMX
  go_loopw [0, 16] (fun tv i wr => ∃ k : Nat, k ≤ t ∧ tv = .string (x.extract (k * 40) x.size) ∧ i = .int .i64 (k : Nat) ∧ Hid (PgI w (spP x q) k wr)) (fun _ i _ => t - (intOf i).toNat)
  case atStart => exact ⟨0, by omega, by rw [HX0.out], rfl, HZ.out _ (by rfl)⟩
  case round =>
    clear HZ HX0
    obtain ⟨k, hk, rfl, rfl, HI⟩ := hrel
    rcases Nat.lt_or_ge k t with hkt | hkt
    · have hk40 := HTN.out k hkt
      have hd := sp_data x k (by omega)
      have hr := sp_rest x k (by omega)
      have hz := ext_sz x k
      have hpg : (spP x q k).cs = #[.int .u64 (q : Nat), .int .i64 (k : Nat), .int .i64 (t : Nat), .string (x.extract (k * 40) (k * 40 + 40))] := by rw [HT.out]; rfl
      rw [hlen] at hd hr hz
      have hrest : Hid (x.extract ((k + 1) * 40) n = x.extract ((k + 1) * 40) x.size) := by rw [hlen]; rfl
      have hk16 : k < 16 := by omega
      have HPG : Hid _ := hpg
      rw [hlen]
      generalize hm : n - k * 40 = m at *
      have hmi : min ((m : Nat) : Int) 40 = ((min m 40 : Nat) : Int) := by omega
      have hmn : ((min m 40 : Nat) : Int).toNat = min m 40 := by omega
      have hml : min m 40 ≤ m := by omega
      generalize min m 40 = c at *
      generalize hy : x.extract (k * 40) n = y at *
      generalize x.extract (k * 40) (k * 40 + 40) = dd at *
      have HY : Hid _ := hy
      clear hy hm hpg
      go_wp2_with (first | (refine pstAt rfl _ _ rfl (w.heap.size + 1) k hk16 (spP x q k) rfl (by rw [HPG.out]; rfl) HI.out.x ?c1) | (refine pstAtp _ _ rfl (w.heap.size + 1) k hk16 (spP x q k) rfl (by rw [HPG.out]; rfl) HI.out.x ?c1))
      intro w3 ho3 hx3
      rw [gk_succ] at hx3
      have I3 : Hid (PgI w (spP x q) (k + 1) w3) := ⟨ho3.below HI.out.bel (by omega), (ho3.block _ (by omega)).trans HI.out.r, hx3⟩
      clear ho3 hx3 HI
      go_wp2
      go_roundw
      case rel => exact ⟨k + 1, by omega, by first | rfl | rw [hlen], rfl, I3.out⟩
      case measure => simp only [intOf]; omega
    · obtain rfl : k = t := by omega
      have hex : x.extract (k * 40) x.size = x.extract (k * 40) x.size := rfl
      have IE : Hid (Below w.heap.size w wr ∧ wr.heap[w.heap.size]? = some (.cells (parr fun _ => zp) 77) ∧ wr.heap[w.heap.size + 1]? = some (.cells (parr (gk (spP x q) k)) 77)) := ⟨HI.out.bel, HI.out.r, HI.out.x⟩
      clear HI hex
      generalize hpa : parr (gk (spP x q) k) = pa at *
      have hps : pa.size = 64 := by rw [← hpa]; exact parr_size _
      have HPA : Hid _ := hpa
      clear hpa
      have HST : Hid (∀ {op : Oper} {act : Act} {W : World} {Q : Exit → Act → World → Prop} {K : Act → World → Prop} (x y : Operand) (ho : op.op = .store 77 x y) (hx : act.eval x = .pointer (some ⟨w.heap.size, 0, none⟩)) (hy : act.eval y = .agg pa) (h : W.heap[w.heap.size]? = some (.cells (parr fun _ => zp) 77)) (k : ∀ W', Off w.heap.size W W' → W'.heap[w.heap.size]? = some (.cells pa 77) → K (act.put op.dst undef) W'), op.wp Tryz.prog act W K Q) := by
        intro op act W Q K x y ho hx hy h k
        refine ast77p x y ho w.heap.size _ hx (by rw [HPA.out]; exact hy) (parr_size _) h (fun W' a b => k W' a (by rw [HPA.out] at b; exact b))
      have HLD : Hid (∀ {op : Oper} {act : Act} {W : World} {Q : Exit → Act → World → Prop} {K : Act → World → Prop} (x : Operand) (ho : op.op = .load 77 x) (hx : act.eval x = .pointer (some ⟨w.heap.size + 1, 0, none⟩)) (h : W.heap[w.heap.size + 1]? = some (.cells pa 77)) (k : K (act.put op.dst (.agg pa)) W), op.wp Tryz.prog act W K Q) := by
        intro op act W Q K x ho hx h k
        refine wp_load_row 77 x ho _ hx 77 pa (0, 0) _ h Tryz.underlying77 rfl (by rw [size77, hps]) k
      go_wp2_with (first | (refine wpList_plain rfl fun _ hK => HLD.out _ rfl rfl IE.out.2.2 (hK _ _ ?_)) | (refine HLD.out _ rfl rfl IE.out.2.2 ?_) | (refine wpList_plain rfl fun _ hK => HST.out _ _ rfl rfl rfl IE.out.2.1 (fun w4 ho4 hr4 => hK _ _ ?_)) | (refine HST.out _ _ rfl rfl rfl IE.out.2.1 (fun w4 ho4 hr4 => ?_)))
      have B4 := ho4.below IE.out.1 (Nat.le_refl _)
      rw [HPA.out]
      refine bodyPost_ret (results_cell_row Tryz.results40 _ _ w.heap.size 77 pa (0, 0) _ rfl hr4 Tryz.underlying77 rfl (by rw [size77, hps])) rfl ⟨rfl, B4⟩
end Go.Proofs.YtknmipbjkkeebaaGreat
