/- The sectors of a slot's Pages, as a call. -/
import Derived.Test.YtknmipbjkkeebaaGreatIC
namespace Go.Proofs.YtknmipbjkkeebaaGreat
open Go.RowKit
theorem Bld_below {b : Nat} {l : List UInt8} {w w' : World} (h : F.Bld b l w) (hb : Below w.heap.size w w') : F.Bld b l w' :=
  h.of_blocks (fun k _o hk _ => (hb.block k (Array.getElem?_eq_some_iff.1 hk).1).trans hk)
theorem Bld_off {b B : Nat} {l : List UInt8} {w w' : World} {c : Array Value} {t : TypeId} (h : F.Bld b l w) (ho : Off B w w') (hB : w.heap[B]? = some (.cells c t)) (ht : t ≠ 5) (hne : b ≠ B) : F.Bld b l w' :=
  h.of_blocks (fun k o hk hq => (ho.block k (fun e => by
    rcases hq with rfl | ⟨c', fz, rfl⟩
    · exact hne e
    · rw [e, hB] at hk; injection hk with hk; injection hk with _ hk _; exact ht hk)).trans hk)
def secsL (g : Nat → Pg) : Nat → List UInt8
  | 0 => []
  | k + 1 => secsL g k ++ (g k).sec.data.toList
theorem secsL_length (g : Nat → Pg) (t : Nat) (h : ∀ j, j < t → (g j).Ok) : ∀ k, k ≤ t → (secsL g k).length = k * 64
  | 0, _ => rfl
  | k + 1, hk => by
    rw [secsL, List.length_append, secsL_length g t h k (by omega), ← O.size_list, (g k).sec_size (h k (by omega))]; omega
theorem range_of {W : World} {B : Nat} {g : Nat → Pg} (h : W.heap[B]? = some (.cells (parr g) 77)) (i : Nat) (hi : i < 16) : W.rangeAt B (i * 4) (g i).cs.toList := by
  intro j v hj
  have hj4 : j < 4 := (List.getElem?_eq_some_iff.1 hj).1
  rw [F.cell_of h, parr_get g i j hi hj4]
  rw [Array.getElem?_toList] at hj; exact hj
section
variable {ops : Array Oper} {rest : List Oper} {op : Oper} {act : Act} {W : World} {Q : Exit → Act → World → Prop} {K : Act → World → Prop}
/-- A Page is loaded from its place. -/
theorem pldAtp (x : Operand) (ho : op.op = .load 75 x) (B i : Nat) (hi : i < 16) (hx : act.eval x = .pointer (some ⟨B, i * 4, none⟩)) {g : Nat → Pg} (h : W.heap[B]? = some (.cells (parr g) 77)) (k : K (act.put op.dst (.agg (g i).cs)) W) : op.wp Tryz.prog act W K Q :=
  wp_load_mid 75 x ho B (i * 4) hx (g i).cs.toList _ (range_of h i hi) Tryz.underlying75 rfl (by rw [size75]; rfl) (by rw [Array.toArray_toList]; exact k)
end
theorem slice77 (B m : Nat) (w1 : World) (hm : m ≤ 16) : (Instr.sliceAt 77 (.pointer (some ⟨B, 0, none⟩)) none (some (.int .i64 (m : Int))) none).run Tryz.prog w1 = .ok (.slice (some ⟨B, 0, none⟩) m 16) w1 := by
  have hlen : Tryz.prog.arrayLen 77 = 16 := by kernel_rfl
  rw [run_sliceAt_array_h w1 77 ⟨B, 0, none⟩ (by kernel_rfl) .i64 (m : Int) (by omega) (by rw [hlen]; omega), show (sizeOf (Tryz.prog.elem 77)).run Tryz.prog w1 = .ok 4 w1 by kernel_rfl, hlen]
  simp only [Result.andThen_ok, slicedAt]
  rw [Int.toNat_natCast, if_neg (by omega), Nat.zero_mul, Addr.add_mid]
  rfl
/-- What lies there behind k sectors. -/
structure SI (w : World) (g : Nat → Pg) (k : Nat) (W : World) : Prop where
  bel : Below w.heap.size w W
  x : W.heap[w.heap.size]? = some (.cells (parr g) 77)
  b : F.Bld (w.heap.size + 1) (secsL g k) W
  s : w.heap.size + 2 ≤ W.heap.size
theorem SI.below {w : World} {g : Nat → Pg} {k : Nat} {W W' : World} (h : SI w g k W) (hb : Below W.heap.size W W') : SI w g k W' := by
  have hl := h.s
  exact ⟨h.bel.trans (hb.mono (by omega)), (hb.block _ (by omega)).trans h.x, Bld_below h.b hb, by have := hb.size; omega⟩
theorem SI.off {w : World} {g : Nat → Pg} {k : Nat} {W W' : World} (h : SI w g k W) {B : Nat} {c : Array Value} {t : TypeId} (ho : Off B W W') (hB : W.heap[B]? = some (.cells c t)) (ht : t ≠ 5) (hne : w.heap.size + 2 ≤ B) : SI w g k W' :=
  ⟨ho.below h.bel (by omega), (ho.block _ (by omega)).trans h.x, Bld_off h.b ho hB ht (by omega), Nat.le_trans h.s ho.size⟩
set_option maxHeartbeats 2000000 in
set_option maxRecDepth 100000 in
theorem sectors_any (g : Nat → Pg) (t : Nat) (ht : (g 0).n = t) (ht16 : t ≤ 16) (hok : ∀ j, j < t → (g j).Ok) (w : World) :
    Calls Tryz.prog 41 #[.agg (parr g)] w fun e w' => e = .returned (.string (O.tx (secsL g t))) ∧ Below w.heap.size w w' := by
  have HOK : Hid _ := hok
  have HL : Hid (∀ k, k ≤ t → (secsL g k).length = k * 64) := secsL_length g t hok
  obtain ⟨pa, hpa⟩ : ∃ pa, pa = parr g := ⟨_, rfl⟩
  have HPA : Hid (pa = parr g) := hpa
  have HS0 : Hid (SI w g 0 ((w.alloc (.cells pa 77)).alloc (.cells #[.pointer none, .slice none 0 0] 123))) := by
    rw [hpa]
    have e : (w.alloc (.cells (parr g) 77)).heap.size = w.heap.size + 1 := by simp
    refine ⟨(Below.alloc (Below.refl _ _) (Nat.le_refl _) _).alloc (by simp) _, (Below.heap_alloc _ _ _ (by simp)).trans (F.heap_new _ _), ?_, by simp⟩
    rw [← e]; exact F.bld_new _
  have c2 : ∀ o, ((w.alloc (.cells pa 77)).alloc o).cell? ⟨w.heap.size, 2, none⟩ = some (.int .i64 (t : Nat)) := fun o => by
    rw [World.cell?_alloc_past _ _ _ (by simp), F.cell_of (F.heap_new _ _), hpa]
    have h := parr_get g 0 2 (by omega) (by omega)
    rw [Nat.zero_mul, Nat.zero_add] at h
    rw [h]
    show some (Value.int .i64 ((g 0).n : Nat)) = _
    rw [ht]
  rw [← hpa]
  clear hpa hok
  go_enter Tryz.func41, Tryz.ntmps41
  have hsl := fun W => slice77 w.heap.size t W ht16
  go_wp2
  clear c2 hsl
  go_loopw [11] (fun i wr => ∃ k : Nat, k ≤ t ∧ i = .int .i64 (k : Nat) ∧ Hid (SI w g k wr)) (fun i _ => t - (intOf i).toNat)
  case atStart => exact ⟨0, by omega, rfl, HS0.out⟩
  case round =>
    clear HS0
    obtain ⟨k, hk, rfl, HI⟩ := hrel
    rcases Nat.lt_or_ge k t with hkt | hkt
    · have hk16 : k < 16 := by omega
      have hb1 : Below wr.heap.size wr (wr.alloc (.cells #[.int .u64 0, .int .i64 0, .int .i64 0, .string ⟨#[]⟩] 75)) := Below.alloc (Below.refl _ _) (Nat.le_refl _) _
      have I1 : Hid _ := HI.out.below hb1
      have N1 : Hid ((wr.alloc (.cells #[.int .u64 0, .int .i64 0, .int .i64 0, .string ⟨#[]⟩] 75)).heap[wr.heap.size]? = _) := F.heap_new _ _
      have HWS : Hid (w.heap.size + 2 ≤ wr.heap.size) := HI.out.s
      have HX : Hid _ := HI.out.x
      clear hb1 HI
      go_wp2_with (first | (refine wpList_plain rfl fun _ hK => pldAtp _ rfl w.heap.size k hk16 rfl HX.out (hK _ _ ?_)) | (refine pldAtp _ rfl w.heap.size k hk16 rfl HX.out ?_) | (refine pst4 rfl _ _ rfl _ _ (Pg.cs_size _) rfl rfl (by rfl) N1.out (Pg.cs_one _) ?c1) | (refine pst4p _ _ rfl _ _ (Pg.cs_size _) rfl rfl (by rfl) N1.out (Pg.cs_one _) ?c1))
      intro w3 ho3 hx3
      have I3 : Hid _ := I1.out.off ho3 N1.out (by decide) HWS.out
      have X3 : Hid _ := hx3
      clear ho3 hx3 I1 N1 HX
      go_wp2_with (first | (refine pld rfl _ rfl _ _ (Pg.cs_size _) rfl X3.out ?_) | (refine pldp _ rfl _ _ (Pg.cs_size _) rfl X3.out ?_))
      go_call (ppack_any (g k) (HOK.out k hkt) w3) as e w4 ⟨rfl, hb4⟩
      have I4 : Hid _ := I3.out.below hb4
      clear hb4 I3 X3
      have hsz : (g k).sec.size = 64 := (g k).sec_size (HOK.out k hkt)
      have hbw := F.bld_write (w.heap.size + 1) (secsL g k) (g k).sec w4 I4.out.b (by rw [HL.out k hk, hsz]; omega)
      rw [hsz] at hbw
      go_wp2_with fail
      go_call hbw as e w5 ⟨rfl, b5, k5, l5⟩
      have I5 : Hid (SI w g (k + 1) w5) := ⟨I4.out.bel.trans (l5.mono (by omega)), (l5.block _ (by omega)).trans I4.out.x, b5, Nat.le_trans I4.out.s l5.size⟩
      clear hbw b5 k5 l5 I4 hsz
      go_wp2
      go_roundw
      case rel => exact ⟨k + 1, by omega, rfl, I5.out⟩
      case measure => simp only [intOf]; omega
    · obtain rfl : k = t := by omega
      have hbs := F.bld_string (w.heap.size + 1) (secsL g k) wr HI.out.b
      have B0 : Hid _ := HI.out.bel
      clear HI
      replace hbs : Calls Tryz.prog 68 #[.pointer (some ⟨w.heap.size + 1, 0, none⟩)] wr fun e w' => e = .returned (.string (O.tx (secsL g k))) ∧ Lib.OthersKept 5 (some (w.heap.size + 1)) wr w' ∧ Below (w.heap.size + 1) wr w' := hbs
      generalize hy : O.tx (secsL g k) = y at hbs
      have HY : Hid _ := hy
      clear hy
      go_wp2_with fail
      go_call hbs as e w5 ⟨rfl, k5, l5⟩
      have B5 : Hid (Below w.heap.size w w5) := B0.out.trans (l5.mono (by omega))
      clear hbs k5 l5
      go_wp2
      go_returns
      exact ⟨by show Ending.returned (.string y) = _; rw [← HY.out], B5.out⟩
end Go.Proofs.YtknmipbjkkeebaaGreat
