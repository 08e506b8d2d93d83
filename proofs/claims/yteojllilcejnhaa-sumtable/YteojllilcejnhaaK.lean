/- The law SumTable as a call: for every byte and every number it returns true, and nothing that was in memory is changed; the condition is that the byte is below 256. -/
import Derived.Test.YteojllilcejnhaaG
import Derived.Test.YteojllilcejnhaaR
import Derived.Deep.MidRow
namespace Go.Proofs.Yteojllilcejnhaa
open Go.RowKit

theorem zero29 (w : World) : (zeroValue 29).run Try.prog w = .ok (.agg (Array.replicate 256 (.int .u32 0))) w := by kernel_rfl
theorem zero29' : ∃ Z : Array Value, (∀ w : World, (zeroValue 29).run Try.prog w = .ok (.agg Z) w) ∧ Z.size = 256 ∧ ∀ j, j < 256 → Z[j]? = some (.int .u32 0) :=
  ⟨_, zero29, by simp, fun j hj => by simp [hj]⟩

def tb (n j : Nat) : Nat := if j < n then it 8 j else 0

theorem tb_other (n j : Nat) (h : j ≠ n) : tb (n + 1) j = tb n j := by
  unfold tb
  by_cases h1 : j < n
  · rw [if_pos h1, if_pos (by omega)]
  · rw [if_neg h1, if_neg (by omega)]
theorem tb_new (n : Nat) : tb (n + 1) n = it 8 n := by unfold tb; rw [if_pos (by omega)]

structure TRel (w wr : World) (n : Nat) : Prop where
  cell : ∀ j, j < 256 → wr.cell? ⟨w.heap.size + 1, j, none⟩ = some (.int .u32 (tb n j : Int))
  frozen : ∀ j, j < 256 → wr.frozen? ⟨w.heap.size + 1, j, none⟩ = false
  there : wr.there w.heap.size 0 256
  below : Below w.heap.size w wr
theorem TRel.start (w : World) (Z : Array Value) (hz : ∀ j, j < 256 → Z[j]? = some (.int .u32 0)) : TRel w ((w.alloc (.cells Z 29)).alloc (.cells Z 29)) 0 := by
  have h1 : ((w.alloc (.cells Z 29)).alloc (.cells Z 29)).heap[w.heap.size + 1]? = some (.cells Z 29) := by
    show ((w.heap.push _).push _)[w.heap.size + 1]? = _
    rw [Array.getElem?_push, if_pos (by simp)]
  have h0 : ((w.alloc (.cells Z 29)).alloc (.cells Z 29)).heap[w.heap.size]? = some (.cells Z 29) := by
    show ((w.heap.push _).push _)[w.heap.size]? = _
    rw [Array.getElem?_push, if_neg (by simp), Array.getElem?_push, if_pos rfl]
  refine ⟨fun j hj => ?_, fun j hj => ?_, fun j hj => ⟨?_, ?_⟩, ?_⟩
  · simp only [World.cell?, h1]
    simp [hz j hj, tb]
  · simp only [World.frozen?, h1]
    simp
  · simp only [World.cell?, h0]
    simp [hz j hj]
  · simp only [World.frozen?, h0]
    simp
  · exact Below.alloc (Below.alloc (Below.refl _ _) (Nat.le_refl _) _) (by simp) _
theorem TRel.store {w wr : World} {n : Nat} (h : TRel w wr n) : TRel w (wr.setCell ⟨w.heap.size + 1, n, none⟩ (.int .u32 (it 8 n : Int))) (n + 1) := by
  refine ⟨fun j hj => ?_, fun j hj => ?_, fun j hj => ⟨?_, ?_⟩, ?_⟩
  · by_cases e : j = n
    · subst e
      rw [tb_new]
      exact World.cell?_setCell_same wr _ _ (h.cell j hj)
    · rw [World.cell?_setCell_other wr _ _ _ (by intro q; exact e (congrArg Addr.off q).symm), h.cell j hj, tb_other _ _ e]
  · rw [World.frozen?_setCell]; exact h.frozen j hj
  · rw [World.cell?_setCell_other wr _ _ _ (by intro q; have := congrArg Addr.block q; simp at this)]
    exact (h.there j hj).1
  · rw [World.frozen?_setCell]; exact (h.there j hj).2
  · exact Below.setCell h.below (by show w.heap.size ≤ w.heap.size + 1; omega) _

def tableCells : List Value := (List.range 256).map fun j => .int .u32 (it 8 j : Int)
theorem tableCells_len : tableCells.length = 256 := by simp [tableCells]
theorem tableCells_get (j : Nat) (hj : j < 256) : tableCells[j]? = some (.int .u32 (it 8 j : Int)) := by simp [tableCells, hj]
theorem info29 : (Try.prog.info? 29).map (·.size) = some 256 := by kernel_rfl
theorem TRel.range {w wr : World} (h : TRel w wr 256) : wr.rangeAt (w.heap.size + 1) 0 tableCells := fun j v hv => by
  have hj : j < 256 := by have := (List.getElem?_eq_some_iff.1 hv).1; rwa [tableCells_len] at this
  rw [Nat.zero_add, h.cell j hj, ← hv, tableCells_get j hj]
  simp [tb, hj]
theorem cells_one : tableCells.toArray.all (·.oneCell') = true := all_oneCell_toArray (fun v hv => by
  simp only [tableCells, List.mem_map] at hv
  obtain ⟨j, _, rfl⟩ := hv
  rfl)
theorem TRel.put {w wr : World} (h : TRel w wr 256) : (storeCells ⟨w.heap.size, 0, none⟩ tableCells).run Try.prog wr = .ok () (wr.setCells w.heap.size 0 tableCells) := by
  have ht := h.there
  have := run_storeCells_cells (P := Try.prog) w.heap.size 0 tableCells 0 wr (fun j hj => by simpa using (ht j (by rwa [tableCells_len] at hj)).1) (fun j hj => by simpa using (ht j (by rwa [tableCells_len] at hj)).2)
    (fun v hv => (Array.all_eq_true_iff_forall_mem.1 cells_one) v (by simpa using hv))
  simpa using this
theorem below_setCells {w wr : World} (h : Below w.heap.size w wr) : ∀ vs : List Value, Below w.heap.size w (wr.setCells w.heap.size 0 vs) := by
  have key : ∀ (vs : List Value) (o : Nat) (u : World), Below w.heap.size w u → Below w.heap.size w (u.setCells w.heap.size o vs) := by
    intro vs
    induction vs with
    | nil => intro o u h; exact h
    | cons v r ih => intro o u h; exact ih (o + 1) _ (Below.setCell h (Nat.le_refl _) _)
  exact fun vs => key vs 0 wr h
theorem TRel.thereC {w wr : World} (h : TRel w wr 256) : wr.there w.heap.size 0 tableCells.toArray.size := by
  have := h.there
  simpa [tableCells_len] using this

theorem results12 {tmps : Array Value} {w : World} {b : Nat} {v : Value} (h0 : tmps.getD 0 undef = .pointer (some ⟨b, 0, none⟩)) (hl : (loadVar 29 ⟨b, 0, none⟩).run Try.prog w = .ok v w) :
    (results Try.f12 tmps).run Try.prog w = .ok v w := by
  have h1 : tmps[0]?.getD undef = .pointer (some ⟨b, 0, none⟩) := by simpa [Array.getD_eq_getD_getElem?] using h0
  simp only [results, Try.results12]
  simp [h1, hl, asAddr]

set_option maxRecDepth 100000 in
set_option maxHeartbeats 400000 in
theorem table_any (w : World) :
    Calls Try.prog 12 #[] w fun e w' => e = .returned (.agg tableCells.toArray) ∧ Below w.heap.size w w' := by
  obtain ⟨Z, hz, hzs, hzc⟩ := zero29'
  have hst : Hid (TRel w ((w.alloc (.cells Z 29)).alloc (.cells Z 29)) 0) := TRel.start w Z hzc
  clear hzc hzs
  go_enter Try.func12, Try.ntmps12
  go_wp2_with fail
  go_loopw [3] (fun i wr => ∃ n : Nat, n ≤ 256 ∧ i = .int .i64 n ∧ Hid (TRel w wr n))
    (fun i _ => 256 - (intOf i).toNat)
  case atStart => exact ⟨0, Nat.zero_le _, rfl, hst⟩
  case round =>
    obtain ⟨n, hn, rfl, hre⟩ := hrel
    clear hst hz
    by_cases hlt : n < 256
    · have hc1 := hre.out.cell n hlt
      have hf1 := hre.out.frozen n hlt
      have hnx : Hid (TRel w (wr.setCell ⟨w.heap.size + 1, n, none⟩ (.int .u32 (it 8 n : Int))) (n + 1)) := hre.out.store
      clear hre
      go_wp2_with fail
      go_call (eight_any n (by omega) wr) as e w2 ⟨rfl, rfl⟩
      go_wp2
      go_roundw
      case rel => exact ⟨n + 1, by omega, by go_num, hnx⟩
      case measure => simp only [intOf]; omega
    · have hn2 : n = 256 := by omega
      subst hn2
      have hr : Hid (wr.rangeAt (w.heap.size + 1) 0 tableCells) := hre.out.range
      have hp := hre.out.put
      have hb : Hid (Below w.heap.size w (wr.setCells w.heap.size 0 tableCells)) := below_setCells hre.out.below _
      have hres : Hid ((wr.setCells w.heap.size 0 tableCells).rangeAt w.heap.size 0 tableCells) := World.rangeAt_setCells_same wr _ _ _ (by rw [tableCells_len]; exact hre.out.there)
      have hlen := tableCells_len
      clear hre hn hlt
      go_wp2
      refine wp_load_mid 29 (.tmp 1) rfl (w.heap.size + 1) 0 rfl tableCells _ hr.out Try.underlying29 rfl (by rw [tableCells_len]; exact info29) ?_
      go_wp2
      exact bodyPost_ret (results12 rfl (run_loadVar_mid _ _ 0 29 tableCells _ hres.out Try.underlying29 rfl (by rw [tableCells_len]; exact info29))) rfl ⟨rfl, hb.out⟩

/-- A new array, the table's cells stored into it: what the world is behind both. -/
theorem lay_table (w : World) (Z : Array Value) (hz : ∀ j, j < 256 → Z[j]? = some (.int .u32 0)) :
    (storeCells ⟨w.heap.size, 0, none⟩ tableCells).run Try.prog (w.alloc (.cells Z 29)) = .ok () ((w.alloc (.cells Z 29)).setCells w.heap.size 0 tableCells) ∧
    ((w.alloc (.cells Z 29)).setCells w.heap.size 0 tableCells).rangeAt w.heap.size 0 tableCells ∧ Below w.heap.size w ((w.alloc (.cells Z 29)).setCells w.heap.size 0 tableCells) := by
  have h0 : (w.alloc (.cells Z 29)).heap[w.heap.size]? = some (.cells Z 29) := by
    show (w.heap.push _)[w.heap.size]? = _
    rw [Array.getElem?_push, if_pos rfl]
  have ht : (w.alloc (.cells Z 29)).there w.heap.size 0 256 := fun j hj => by
    refine ⟨?_, ?_⟩
    · simp only [World.cell?, h0]
      simp [hz j hj]
    · simp only [World.frozen?, h0]
      simp
  refine ⟨?_, World.rangeAt_setCells_same _ _ _ _ (by rw [tableCells_len]; exact ht), below_setCells (Below.alloc (Below.refl _ _) (Nat.le_refl _) _) _⟩
  have := run_storeCells_cells (P := Try.prog) w.heap.size 0 tableCells 0 (w.alloc (.cells Z 29)) (fun j hj => by simpa using (ht j (by rwa [tableCells_len] at hj)).1) (fun j _ => by simp)
    (fun v hv => (Array.all_eq_true_iff_forall_mem.1 cells_one) v (by simpa using hv))
  simpa using this

theorem beq_nat (a b : Nat) : (((a : Nat) : Int) == ((b : Nat) : Int)) = decide (a = b) := by
  rw [Bool.eq_iff_iff]; simp; omega
def one (b : Nat) : ByteArray := ⟨#[UInt8.ofNat b]⟩
theorem bn_one (b : Nat) (hb : b < 256) : bn (one b) 0 = b := by
  rw [bn_eq]; simp [one]; exact hb
theorem refOn_one (b : Nat) (hb : b < 256) (w : World) :
    Calls Try.prog 13 #[.int .u32 0, .string (one b)] w fun e w' => e = .returned (.int .u32 (it 8 b)) ∧ w' = w := by
  have h := refOn_any 0 (one b) (by decide) (show (1 : Nat) ≤ 9223372036854775807 by decide) w
  have e : st (bn (one b)) 0 (one b).size = it 8 b := by
    show st (bn (one b)) 0 1 = _
    simp only [st, bn_one b hb, zero_xr]
  rw [e] at h
  exact h
theorem conv_byte (b i : Nat) (W : World) (hi : i < 256) (hc : W.cell? ⟨b, 0, none⟩ = some (.int .u8 (i : Int))) :
    (convert 31 9 (.slice (some ⟨b, 0, none⟩) 1 1)).run Try.prog W = .ok (.string (one i)) W := by
  have := run_convert_bytes_back (P := Try.prog) W 31 9 5 ⟨b, 0, none⟩ 1 [UInt8.ofNat i] Try.underlying31 Try.underlying5 Try.underlying9 (by
    intro j hj
    match j, hj with
    | 0, _ => simp [Addr.add, Nat.mod_eq_of_lt hi, hc])
  simpa [one] using this
def TT (B : Nat) (W : World) : Prop := ∀ j, j < 256 → W.cell? ⟨B, j, none⟩ = some (.int .u32 (it 8 j : Int))
theorem TT.alloc {B : Nat} {W : World} (h : TT B W) (o : Obj) : TT B (W.alloc o) := fun j hj => by
  rw [World.cell?_alloc_lt _ _ _ (World.block_lt_of_cell? W _ (h j hj))]
  exact h j hj
def IsByte (i : Nat) (v : Value) (W : World) : Prop := ∃ b, v = .slice (some ⟨b, 0, none⟩) 1 1 ∧ W.cell? ⟨b, 0, none⟩ = some (.int .u8 (i : Int))
theorem IsByte.stay {i : Nat} {v : Value} {W W' : World} (h : IsByte i v W) (hb : Below W.heap.size W W') : IsByte i v W' := by
  obtain ⟨b, rfl, hc⟩ := h
  exact ⟨b, rfl, by rw [hb.cell (World.block_lt_of_cell? W _ hc)]; exact hc⟩
/-- What each operation of the last statement yields. -/
def VT (i k B : Nat) : Nat → Value → World → Prop
  | 0, v, _ => v = .int .u8 i
  | 1, v, _ => v = .pointer (some ⟨B, i, none⟩)
  | 2, v, _ => v = .int .u32 (it 8 i)
  | 3, v, _ => v = .int .u8 i
  | 4, v, W => IsByte i v W
  | 5, v, _ => v = .string (one i)
  | 6, v, _ => v = .int .u32 (it 8 i)
  | 7, v, _ => v = .bool true
  | 8, v, _ => v = .bool true
  | 9, v, _ => v = .int .u8 i
  | 10, v, _ => v = .int .u8 k
  | 11, v, _ => v = .int .u8 (xr i k)
  | 12, v, _ => v = .pointer (some ⟨B, xr i k, none⟩)
  | 13, v, _ => v = .int .u32 (it 8 (xr i k))
  | 14, v, _ => v = .int .u8 i
  | 15, v, _ => v = .pointer (some ⟨B, i, none⟩)
  | 16, v, _ => v = .int .u32 (it 8 i)
  | 17, v, _ => v = .int .u8 k
  | 18, v, _ => v = .pointer (some ⟨B, k, none⟩)
  | 19, v, _ => v = .int .u32 (it 8 k)
  | 20, v, _ => v = .int .u32 (it 8 (xr i k))
  | 21, v, _ => v = .bool true
  | 22, v, _ => v = .bool true
  | 23, v, _ => v = .bool true
  | 24, v, _ => v = .pointer (some ⟨B, 0, none⟩)
  | 25, v, _ => v = .int .u32 0
  | 26, v, _ => v = .bool true
  | 27, v, _ => v = .bool true
  | _, v, _ => v = .bool true
theorem VT.stay {i k B : Nat} (n : Nat) (v : Value) (W W' : World) (h : VT i k B n v W) (hb : Below W.heap.size W W') : VT i k B n v W' := by
  unfold VT at *
  split at h <;> first | exact h | exact IsByte.stay h hb

set_option maxRecDepth 100000 in
set_option maxHeartbeats 400000 in
theorem sumTable_walk (i x : Nat) (hi : i < 256) (w : World) :
    Calls Try.prog 4 #[.int .u8 i, .int .u32 x] w fun e w' => e = .returned (.bool true) ∧ Below w.heap.size w w' := by
  obtain ⟨Z, hz, _, hzc⟩ := zero29'
  have HZ : Hid (∀ j, j < 256 → Z[j]? = some (.int .u32 0)) := hzc
  clear hzc
  go_enter Try.func4, Try.ntmps4
  go_wp2_with fail
  go_call (awake_below w) as e w1 ⟨rfl, g1⟩
  go_wp2_with fail
  go_call (table_any w1) as e w2 ⟨rfl, g2⟩
  obtain ⟨hp, hr, hb⟩ := lay_table w2 Z HZ.out
  have HR : Hid (((w2.alloc (.cells Z 29)).setCells w2.heap.size 0 tableCells).rangeAt w2.heap.size 0 tableCells) := hr
  have HB : Hid (Below w2.heap.size w2 ((w2.alloc (.cells Z 29)).setCells w2.heap.size 0 tableCells)) := hb
  clear hr hb
  have hlen := tableCells_len
  obtain ⟨k, hk, hk2⟩ : ∃ k : Nat, (x : Int) % 256 = (k : Int) ∧ k < 256 := ⟨x % 256, by omega, by omega⟩
  have hxk : xr i k < 256 := Nat.xor_lt_two_pow (n := 8) hi hk2
  go_wp2_with fail
  rw [hk]
  have hTT : TT w2.heap.size ((w2.alloc (.cells Z 29)).setCells w2.heap.size 0 tableCells) := fun j hj => by
    have := HR.out j _ (tableCells_get j hj); rwa [Nat.zero_add] at this
  have hBB : Below w.heap.size w ((w2.alloc (.cells Z 29)).setCells w2.heap.size 0 tableCells) := by
    have h1 : w.heap.size ≤ w1.heap.size := g1.size
    have h2 : w1.heap.size ≤ w2.heap.size := g2.size
    exact (g1.trans (g2.mono h1)).trans (HB.out.mono (by omega))
  clear hp HR HB HZ hlen
  generalize (w2.alloc (.cells Z 29)).setCells w2.heap.size 0 tableCells = W3 at *
  generalize w2.heap.size = B at *
  generalize tableCells.toArray = T at *
  clear g1 g2 hz
  refine wp_region_slots (fun f => ⟨#[.int .u8 i, .int .u32 x, undef, undef, f 28, .pointer (some ⟨B, 0, none⟩), .int .u8 k, .bool true, .bool false, .agg T, .int .u32 x, .int .u8 k, f 0, f 1, f 2, f 3, f 4, f 5, f 6, f 7, f 8, f 9, f 10, f 11, f 12, f 13, f 14, f 15, f 16, f 17, f 18, f 19, f 20, f 21, f 22, f 23, f 24, f 25, f 26, f 27], []⟩) (VT i k B) (fun W => TT B W ∧ Below w.heap.size w W) (fun W W' => Below W.heap.size W W') (fun n => if n = 28 then .bool false else undef) (by kernel_rfl) (by kernel_rfl) rfl ⟨hTT, hBB.drew⟩ VT.stay ?hput ?step ?fin
  case hput =>
    repeat (refine ⟨fun f v => rfl, ?_⟩)
    trivial
  case fin =>
    intro f W hI hV
    have h28 : f 28 = .bool true := hV 28 (by decide)
    obtain ⟨_, hbW⟩ := hI
    clear hV hTT hBB
    go_wp2
    go_ret
    exact ⟨by rw [h28]; rfl, hbW⟩
  case step =>
    have li : it 8 i < 4294967296 := it_lt _ _ (by omega)
    have lk : it 8 k < 4294967296 := it_lt _ _ (by omega)
    have x1 : bits .xor .u8 (i : Int) (k : Int) = ((xr i k : Nat) : Int) := u8_xor_nat i k hi hk2
    have x2 : bits .xor .u32 (it 8 i : Int) (it 8 k : Int) = ((it 8 (xr i k) : Nat) : Int) := by rw [xr_bits _ _ li lk, it_xr]
    have hz0 : it 8 0 = 0 := it_zero 8
    have hi3 : (i : Int) < 256 := by omega
    have hk3 : (k : Int) < 256 := by omega
    have hxk3 : ((xr i k : Nat) : Int) < 256 := by omega
    clear hTT hBB
    refine ⟨?_, ?_⟩
    · intro f W hI hd K hK
      clear hd
      go_simp
      exact hK _ _ hI (Below.refl _ _) rfl
    refine ⟨?_, ?_⟩
    · intro f W hI hd K hK
      have d0 := hd.1 rfl
      clear hd
      replace d0 : f 0 = .int .u8 i := d0
      generalize f 0 = x0 at *
      subst d0
      go_simp
      exact hK _ _ hI (Below.refl _ _) rfl
    refine ⟨?_, ?_⟩
    · intro f W hI hd K hK
      have d1 := hd.1 rfl
      clear hd
      replace d1 : f 1 = .pointer (some ⟨B, i, none⟩) := d1
      generalize f 1 = x1 at *
      subst d1
      have hcc := hI.1 i hi
      go_simp
      exact hK _ _ hI (Below.refl _ _) rfl
    refine ⟨?_, ?_⟩
    · intro f W hI hd K hK
      clear hd
      go_simp
      exact hK _ _ hI (Below.refl _ _) rfl
    refine ⟨?_, ?_⟩
    · intro f W hI hd K hK
      have d3 := hd.1 rfl
      clear hd
      replace d3 : f 3 = .int .u8 i := d3
      generalize f 3 = x3 at *
      subst d3
      go_simp
      exact hK (.slice (some ⟨W.heap.size, 0, none⟩) 1 1) (W.alloc (.cells #[.int .u8 i] 5)) ⟨TT.alloc hI.1 _, Below.alloc hI.2 hI.2.size _⟩ (Below.alloc (Below.refl _ _) (Nat.le_refl _) _) ⟨W.heap.size, rfl, by simp [go_sem]⟩
    refine ⟨?_, ?_⟩
    · intro f W hI hd K hK
      have d4 := hd.1 rfl
      clear hd
      obtain ⟨bk, e4, c4⟩ := d4
      generalize f 4 = x4 at *
      subst e4
      have hcW := conv_byte bk i W hi c4
      go_simp
      exact hK _ _ hI (Below.refl _ _) rfl
    refine ⟨?_, ?_⟩
    · intro f W hI hd K hK
      have d5 := hd.1 rfl
      clear hd
      replace d5 : f 5 = .string (one i) := d5
      generalize f 5 = x5 at *
      subst d5
      go_simp
      go_call (refOn_one i hi W) as e w' ⟨rfl, rfl⟩
      exact hK _ _ hI (Below.refl _ _) rfl
    refine ⟨?_, ?_⟩
    · intro f W hI hd K hK
      have d2 := hd.1 rfl
      have d6 := hd.2.1 rfl
      clear hd
      replace d2 : f 2 = .int .u32 (it 8 i) := d2
      generalize f 2 = x2 at *
      subst d2
      replace d6 : f 6 = .int .u32 (it 8 i) := d6
      generalize f 6 = x6 at *
      subst d6
      go_simp
      exact hK _ _ hI (Below.refl _ _) rfl
    refine ⟨?_, ?_⟩
    · intro f W hI hd K hK
      have d7 := hd.1 rfl
      clear hd
      replace d7 : f 7 = .bool true := d7
      generalize f 7 = x7 at *
      subst d7
      go_simp
      exact hK _ _ hI (Below.refl _ _) rfl
    refine ⟨?_, ?_⟩
    · intro f W hI hd K hK
      have d8 := hd.1 rfl
      clear hd
      replace d8 : f 8 = .bool true := d8
      generalize f 8 = x8 at *
      subst d8
      go_simp
      exact hK _ _ hI (Below.refl _ _) rfl
    refine ⟨?_, ?_⟩
    · intro f W hI hd K hK
      have d8 := hd.1 rfl
      clear hd
      replace d8 : f 8 = .bool true := d8
      generalize f 8 = x8 at *
      subst d8
      go_simp
      exact hK _ _ hI (Below.refl _ _) rfl
    refine ⟨?_, ?_⟩
    · intro f W hI hd K hK
      have d9 := hd.1 rfl
      have d10 := hd.2.1 rfl
      have d8 := hd.2.2.1 rfl
      clear hd
      replace d9 : f 9 = .int .u8 i := d9
      generalize f 9 = x9 at *
      subst d9
      replace d10 : f 10 = .int .u8 k := d10
      generalize f 10 = x10 at *
      subst d10
      replace d8 : f 8 = .bool true := d8
      generalize f 8 = x8 at *
      subst d8
      go_simp
      exact hK _ _ hI (Below.refl _ _) rfl
    refine ⟨?_, ?_⟩
    · intro f W hI hd K hK
      have d11 := hd.1 rfl
      have d8 := hd.2.1 rfl
      clear hd
      replace d11 : f 11 = .int .u8 (xr i k) := d11
      generalize f 11 = x11 at *
      subst d11
      replace d8 : f 8 = .bool true := d8
      generalize f 8 = x8 at *
      subst d8
      go_simp
      exact hK _ _ hI (Below.refl _ _) rfl
    refine ⟨?_, ?_⟩
    · intro f W hI hd K hK
      have d12 := hd.1 rfl
      have d8 := hd.2.1 rfl
      clear hd
      replace d12 : f 12 = .pointer (some ⟨B, xr i k, none⟩) := d12
      generalize f 12 = x12 at *
      subst d12
      replace d8 : f 8 = .bool true := d8
      generalize f 8 = x8 at *
      subst d8
      have hcc := hI.1 (xr i k) hxk
      go_simp
      exact hK _ _ hI (Below.refl _ _) rfl
    refine ⟨?_, ?_⟩
    · intro f W hI hd K hK
      have d8 := hd.1 rfl
      clear hd
      replace d8 : f 8 = .bool true := d8
      generalize f 8 = x8 at *
      subst d8
      go_simp
      exact hK _ _ hI (Below.refl _ _) rfl
    refine ⟨?_, ?_⟩
    · intro f W hI hd K hK
      have d14 := hd.1 rfl
      have d8 := hd.2.1 rfl
      clear hd
      replace d14 : f 14 = .int .u8 i := d14
      generalize f 14 = x14 at *
      subst d14
      replace d8 : f 8 = .bool true := d8
      generalize f 8 = x8 at *
      subst d8
      go_simp
      exact hK _ _ hI (Below.refl _ _) rfl
    refine ⟨?_, ?_⟩
    · intro f W hI hd K hK
      have d15 := hd.1 rfl
      have d8 := hd.2.1 rfl
      clear hd
      replace d15 : f 15 = .pointer (some ⟨B, i, none⟩) := d15
      generalize f 15 = x15 at *
      subst d15
      replace d8 : f 8 = .bool true := d8
      generalize f 8 = x8 at *
      subst d8
      have hcc := hI.1 i hi
      go_simp
      exact hK _ _ hI (Below.refl _ _) rfl
    refine ⟨?_, ?_⟩
    · intro f W hI hd K hK
      have d8 := hd.1 rfl
      clear hd
      replace d8 : f 8 = .bool true := d8
      generalize f 8 = x8 at *
      subst d8
      go_simp
      exact hK _ _ hI (Below.refl _ _) rfl
    refine ⟨?_, ?_⟩
    · intro f W hI hd K hK
      have d17 := hd.1 rfl
      have d8 := hd.2.1 rfl
      clear hd
      replace d17 : f 17 = .int .u8 k := d17
      generalize f 17 = x17 at *
      subst d17
      replace d8 : f 8 = .bool true := d8
      generalize f 8 = x8 at *
      subst d8
      go_simp
      exact hK _ _ hI (Below.refl _ _) rfl
    refine ⟨?_, ?_⟩
    · intro f W hI hd K hK
      have d18 := hd.1 rfl
      have d8 := hd.2.1 rfl
      clear hd
      replace d18 : f 18 = .pointer (some ⟨B, k, none⟩) := d18
      generalize f 18 = x18 at *
      subst d18
      replace d8 : f 8 = .bool true := d8
      generalize f 8 = x8 at *
      subst d8
      have hcc := hI.1 k hk2
      go_simp
      exact hK _ _ hI (Below.refl _ _) rfl
    refine ⟨?_, ?_⟩
    · intro f W hI hd K hK
      have d16 := hd.1 rfl
      have d19 := hd.2.1 rfl
      have d8 := hd.2.2.1 rfl
      clear hd
      replace d16 : f 16 = .int .u32 (it 8 i) := d16
      generalize f 16 = x16 at *
      subst d16
      replace d19 : f 19 = .int .u32 (it 8 k) := d19
      generalize f 19 = x19 at *
      subst d19
      replace d8 : f 8 = .bool true := d8
      generalize f 8 = x8 at *
      subst d8
      go_simp
      exact hK _ _ hI (Below.refl _ _) rfl
    refine ⟨?_, ?_⟩
    · intro f W hI hd K hK
      have d13 := hd.1 rfl
      have d20 := hd.2.1 rfl
      have d8 := hd.2.2.1 rfl
      clear hd
      replace d13 : f 13 = .int .u32 (it 8 (xr i k)) := d13
      generalize f 13 = x13 at *
      subst d13
      replace d20 : f 20 = .int .u32 (it 8 (xr i k)) := d20
      generalize f 20 = x20 at *
      subst d20
      replace d8 : f 8 = .bool true := d8
      generalize f 8 = x8 at *
      subst d8
      go_simp
      exact hK _ _ hI (Below.refl _ _) rfl
    refine ⟨?_, ?_⟩
    · intro f W hI hd K hK
      have d8 := hd.1 rfl
      have d21 := hd.2.1 rfl
      clear hd
      replace d8 : f 8 = .bool true := d8
      generalize f 8 = x8 at *
      subst d8
      replace d21 : f 21 = .bool true := d21
      generalize f 21 = x21 at *
      subst d21
      go_simp
      exact hK _ _ hI (Below.refl _ _) rfl
    refine ⟨?_, ?_⟩
    · intro f W hI hd K hK
      have d22 := hd.1 rfl
      clear hd
      replace d22 : f 22 = .bool true := d22
      generalize f 22 = x22 at *
      subst d22
      go_simp
      exact hK _ _ hI (Below.refl _ _) rfl
    refine ⟨?_, ?_⟩
    · intro f W hI hd K hK
      have d23 := hd.1 rfl
      clear hd
      replace d23 : f 23 = .bool true := d23
      generalize f 23 = x23 at *
      subst d23
      go_simp
      exact hK _ _ hI (Below.refl _ _) rfl
    refine ⟨?_, ?_⟩
    · intro f W hI hd K hK
      have d24 := hd.1 rfl
      have d23 := hd.2.1 rfl
      clear hd
      replace d24 : f 24 = .pointer (some ⟨B, 0, none⟩) := d24
      generalize f 24 = x24 at *
      subst d24
      replace d23 : f 23 = .bool true := d23
      generalize f 23 = x23 at *
      subst d23
      have hcc := hI.1 0 (by decide)
      rw [hz0] at hcc
      go_simp
      exact hK _ _ hI (Below.refl _ _) rfl
    refine ⟨?_, ?_⟩
    · intro f W hI hd K hK
      have d25 := hd.1 rfl
      have d23 := hd.2.1 rfl
      clear hd
      replace d25 : f 25 = .int .u32 0 := d25
      generalize f 25 = x25 at *
      subst d25
      replace d23 : f 23 = .bool true := d23
      generalize f 23 = x23 at *
      subst d23
      go_simp
      exact hK _ _ hI (Below.refl _ _) rfl
    refine ⟨?_, ?_⟩
    · intro f W hI hd K hK
      have d23 := hd.1 rfl
      have d26 := hd.2.1 rfl
      clear hd
      replace d23 : f 23 = .bool true := d23
      generalize f 23 = x23 at *
      subst d23
      replace d26 : f 26 = .bool true := d26
      generalize f 26 = x26 at *
      subst d26
      go_simp
      exact hK _ _ hI (Below.refl _ _) rfl
    refine ⟨?_, ?_⟩
    · intro f W hI hd K hK
      have d27 := hd.1 rfl
      clear hd
      replace d27 : f 27 = .bool true := d27
      generalize f 27 = x27 at *
      subst d27
      go_simp
      exact hK _ _ hI (Below.refl _ _) rfl
    trivial
end Go.Proofs.Yteojllilcejnhaa
