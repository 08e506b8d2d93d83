/- What the statements' pay answers, as a call: so many bytes of a text, filled up, marked; of every text and every number of sectors from 1 on. -/
import Derived.Test.YtncfbocbigdhiaaGreatGX
import Derived.Lib.BufferWrite
namespace Go.Proofs.YtncfbocbigdhiaaGreat
open Go.RowKit
/-- 'copy(dst, s)', dst being a whole row of bytes: as many of s's bytes go over as there is room. -/
theorem run_copy_bytes (w : World) (g N cp : Nat) (s : ByteArray) (cur : Array Value) (hg : w.heap[g]? = some (.cells cur 5)) (hN : cur.size = N) (ty : TypeId) :
    (Builtin.copy_ #[75, 9] ty #[.slice (some ⟨g, 0, none⟩) N cp, .string s]).run Tryz.prog w =
      .ok (goInt (Nat.min s.size N)) (w.setRow g (Lib.byteCells (s.data.toList.take N) ++ cur.toList.drop (Nat.min s.size N)).toArray) := by
  have hlen : (Lib.byteCells (s.data.toList.take N)).length = Nat.min s.size N := by
    rw [Lib.byteCells_length, List.length_take, ← Lib.size_eq]; exact Nat.min_comm _ _
  have hst := run_storeCells_at Tryz.prog g 0 5 (Lib.byteCells (s.data.toList.take N)) 0 cur w hg (by rw [hlen, hN, Nat.add_zero, Nat.zero_add]; exact Nat.min_le_right _ _) (Lib.byteCells_one _)
  have htk : List.take (Nat.min s.size N) (List.map (fun b : UInt8 => Value.int IntKind.u8 (b.toNat : Int)) s.data.toList) = Lib.byteCells (s.data.toList.take N) := by
    unfold Lib.byteCells
    rw [← List.map_take]
    congr 1
    rcases Nat.le_total s.size N with h | h
    · rw [show Nat.min s.size N = s.size from Nat.min_eq_left h, List.take_of_length_le (by rw [← Lib.size_eq]; exact Nat.le_refl _), List.take_of_length_le (by rw [← Lib.size_eq]; exact h)]
    · rw [show Nat.min s.size N = N from Nat.min_eq_right h]
  rw [hlen] at hst
  simp only [Nat.add_zero] at hst
  have hs : (Tryz.prog.info? 5).map (·.size) = some 1 := by kernel_rfl
  cases hq : Tryz.prog.info? 5 with
  | none => simp [hq] at hs
  | some i =>
    simp [Builtin.copy_, run_underlying Tryz.underlying75, Builtin.lenOf, Builtin.firstCells, sizeOf, typeInfo, hq]
    rw [htk, hst]
    simp [Result.andThen]
/-- What pay answers. -/
def payN (s : ByteArray) (n : Nat) : ByteArray := O.tx (((s.data.toList.take (63 * n)) ++ List.replicate (63 * n - s.size) 0).set 62 (UInt8.ofNat n))
theorem payN_size (s : ByteArray) (n : Nat) : (payN s n).size = 63 * n := by
  unfold payN
  rw [tx_size, List.length_set, List.length_append, List.length_take, List.length_replicate, ← Lib.size_eq]
  omega
def zb (n : Nat) : Array Value := Array.replicate n (.int .u8 0)
theorem info5 : (Tryz.prog.info? 5).map (fun i => (i.zero, i.size, i.bytes)) = some (some (.int .u8 0), 1, 1) := by kernel_rfl
theorem mk_bytes (n : Nat) (hn : n ≤ 100000) (w : World) : (Instr.makeSlice 75 (.int .i64 (n : Nat)) (.int .i64 (n : Nat))).run Tryz.prog w = .ok (.slice (some ⟨w.heap.size, 0, none⟩) n n) (w.alloc (.cells (zb n) 5)) := by
  obtain ⟨i, hi, hz, hs, hb⟩ := info_parts info5
  have := run_make (P := Tryz.prog) w 75 5 i (.int .u8 0) Tryz.underlying75 hi hz .i64 .i64 n n (by omega) (by omega) (by rw [hb]; omega) (by omega)
  rw [hs] at this
  simp only [Int.toNat_natCast] at this
  have e : madeCells (Value.int .u8 0).cells (n * 1) = zb n := by
    have hz : (Value.int .u8 0).cells = #[.int .u8 0] := rfl
    rw [hz]
    unfold madeCells zb
    apply Array.ext
    · simp
    · intro k h1 h2
      simp [Nat.mod_one]
  rw [e] at this
  exact this
/-- The bytes, ahead of the mark. -/
def pl0 (s : ByteArray) (n : Nat) : List UInt8 := (s.data.toList.take (63 * n)) ++ List.replicate (63 * n - s.size) 0
theorem pl0_len (s : ByteArray) (n : Nat) : (pl0 s n).length = 63 * n := by
  unfold pl0
  rw [List.length_append, List.length_take, List.length_replicate, ← Lib.size_eq]
  omega
theorem pl0_cells (s : ByteArray) (n : Nat) : (Lib.byteCells (s.data.toList.take (63 * n)) ++ (zb (63 * n)).toList.drop (Nat.min s.size (63 * n))) = Lib.byteCells (pl0 s n) := by
  unfold pl0 zb Lib.byteCells
  rw [List.map_append, List.map_replicate, Array.toList_replicate, List.drop_replicate]
  congr 2
  show 63 * n - min s.size (63 * n) = _
  omega
set_option maxHeartbeats 1000000 in
set_option maxRecDepth 100000 in
theorem pay_any (s : ByteArray) (n : Nat) (h1 : 1 ≤ n) (h2 : n ≤ 100) (w : World) : Calls Tryz.prog 18 #[.string s, .int .i64 (n : Nat)] w fun e w' => e = .returned (.string (payN s n)) ∧ Below w.heap.size w w' := by
  have hmk := mk_bytes (63 * n) (by omega) w
  have e63 : (63 : Int) * (n : Int) = ((63 * n : Nat) : Int) := by omega
  have hcp := run_copy_bytes (w.alloc (.cells (zb (63 * n)) 5)) w.heap.size (63 * n) (63 * n) s (zb (63 * n)) (F.heap_new _ _) (by unfold zb; simp) 3
  rw [pl0_cells] at hcp
  obtain ⟨w2, hw2⟩ : ∃ w2, w2 = (w.alloc (.cells (zb (63 * n)) 5)).setRow w.heap.size (Lib.byteCells (pl0 s n)).toArray := ⟨_, rfl⟩
  rw [← hw2] at hcp
  have hb2 : w2.heap[w.heap.size]? = some (.cells (Lib.byteCells (pl0 s n)).toArray 5) := by rw [hw2]; exact setRow_heap _ _ _ _ _ _ (F.heap_new _ _)
  have hl2 : (Lib.byteCells (pl0 s n)).length = 63 * n := by rw [Lib.byteCells_length, pl0_len]
  have q0 : ∃ x, w2.cell? ⟨w.heap.size, 62, none⟩ = some x := by
    rw [F.cell_of hb2]
    exact ⟨_, Array.getElem?_eq_getElem (by rw [List.size_toArray, hl2]; omega)⟩
  obtain ⟨x0, q0⟩ := q0
  have f0 : w2.frozen? ⟨w.heap.size, 62, none⟩ = false := F.frz_of hb2 62
  have hb3 := F.block_set (i := 62) hb2 (.int .u8 (n : Int))
  obtain ⟨w3, hw3⟩ : ∃ w3, w3 = w2.setCell ⟨w.heap.size, 62, none⟩ (.int .u8 (n : Int)) := ⟨_, rfl⟩
  rw [← hw3] at hb3
  have hcv : (convert 75 9 (.slice (some ⟨w.heap.size, 0, none⟩) (63 * n) (63 * n))).run Tryz.prog w3 = .ok (.string (payN s n)) w3 := by
    have h := run_convert_bytes_back (P := Tryz.prog) w3 75 9 5 ⟨w.heap.size, 0, none⟩ (63 * n) ((pl0 s n).set 62 (UInt8.ofNat n)) Tryz.underlying75 Tryz.underlying5 Tryz.underlying9 (fun j hj => by
      have hj2 : j < 63 * n := by rw [List.length_set, pl0_len] at hj; exact hj
      rw [Addr.add_lit, Nat.zero_add, F.cell_of hb3, Array.getElem?_setIfInBounds]
      by_cases e : 62 = j
      · subst e
        rw [if_pos rfl, if_pos (by rw [List.size_toArray, hl2]; omega), List.getElem_set_self]
        congr 2
        rw [UInt8.toNat_ofNat']; omega
      · rw [if_neg e, List.getElem?_toArray, List.getElem?_eq_getElem (by rw [hl2]; exact hj2), List.getElem_set_ne e]
        unfold Lib.byteCells
        rw [List.getElem_map])
    rw [List.length_set, pl0_len] at h
    exact h
  have HB : Hid (Below w.heap.size w w3) := by
    rw [hw3, hw2]
    have hb1 : Below w.heap.size w (w.alloc (.cells (zb (63 * n)) 5)) := (Below.refl _ _).alloc (Nat.le_refl _) _
    have hb4 : Below w.heap.size w ((w.alloc (.cells (zb (63 * n)) 5)).setRow w.heap.size (Lib.byteCells (pl0 s n)).toArray) := ⟨hb1.os, hb1.tape, hb1.output, by rw [size_setRow]; exact hb1.size, fun k hk => by rw [setRow_other _ _ _ _ (by omega)]; exact hb1.block k hk⟩
    exact hb4.setCell (Nat.le_refl _) _
  rw [← e63] at hmk
  rw [hw3] at hcv HB
  clear hb2 hl2 hb3 hw2 e63 hw3
  go_enter Tryz.func18, Tryz.ntmps18
  go_wp2
  go_returns
  exact ⟨rfl, HB.out⟩
end Go.Proofs.YtncfbocbigdhiaaGreat
