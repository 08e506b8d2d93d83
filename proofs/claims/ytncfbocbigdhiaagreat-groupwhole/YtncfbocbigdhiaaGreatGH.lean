/- Builder's WriteByte; a payload's sectors, and back, as calls. -/
import Derived.Test.YtncfbocbigdhiaaGreatGG
namespace Go.Proofs
open Go.Shelf
set_option maxRecDepth 100000
def Tryz.lays167_ren : Go.Shelf.Ren := ⟨fun | 167 => 94 | 240 => 127 | 276 => 148 | n => n, fun | 0 => 0 | 4 => 4 | 5 => 5 | 9 => 9 | 20 => 20 | 37 => 75 | 70 => 139 | 72 => 141 | 75 => 143 | 80 => 57 | 164 => 188 | n => n, fun | n => n⟩
theorem Tryz.lays167 : Go.Proofs.Lays.n167 Tryz.prog Tryz.lays167_ren := {
  mixed := by kernel_rfl
  f167 := Tryz.func94.trans (congrArg some (by kernel_rfl))
  f240 := Tryz.func127.trans (congrArg some (by kernel_rfl))
  f276 := Tryz.func148.trans (congrArg some (by kernel_rfl))
  t0 := Tryz.underlying0
  a0 := Tryz.isAgg0
  z0 := Tryz.sizeOf0
  v0 := Tryz.zeroValue0
  t4 := Tryz.underlying4
  a4 := Tryz.isAgg4
  z4 := Tryz.sizeOf4
  v4 := Tryz.zeroValue4
  t5 := Tryz.underlying5
  a5 := Tryz.isAgg5
  z5 := Tryz.sizeOf5
  v5 := Tryz.zeroValue5
  t9 := Tryz.underlying9
  a9 := Tryz.isAgg9
  z9 := Tryz.sizeOf9
  v9 := Tryz.zeroValue9
  t20 := Tryz.underlying20
  a20 := Tryz.isAgg20
  z20 := Tryz.sizeOf20
  v20 := Tryz.zeroValue20
  t37 := Tryz.underlying75
  a37 := Tryz.isAgg75
  z37 := Tryz.sizeOf75
  v37 := Tryz.zeroValue75
  t70 := Tryz.underlying139
  a70 := Tryz.isAgg139
  z70 := Tryz.sizeOf139
  v70 := Tryz.zeroValue139
  t72 := Tryz.underlying141
  a72 := Tryz.isAgg141
  z72 := Tryz.sizeOf141
  v72 := Tryz.zeroValue141
  t75 := Tryz.underlying143
  a75 := Tryz.isAgg143
  z75 := Tryz.sizeOf143
  v75 := Tryz.zeroValue143
  t164 := Tryz.underlying188
  a164 := Tryz.isAgg188
  z164 := Tryz.sizeOf188
  v164 := Tryz.zeroValue188 }
theorem Tryz.extra167 : Builder.Extra Tryz.prog Tryz.lays167_ren := {
  sizeBuilder := by kernel_rfl
  liesBuilder := by kernel_rfl
  t5 := Tryz.underlying5
  a5 := Tryz.isAgg5
  z5 := Tryz.sizeOf5
  v5 := Tryz.zeroValue5
  infoByte := by kernel_rfl
  cellsByte := by kernel_rfl
  sizeByte := by kernel_rfl
  neB5 := by decide }
end Go.Proofs
namespace Go.Proofs.YtncfbocbigdhiaaGreat
open Go.RowKit
theorem F.bld_byte (b : Nat) (l : List UInt8) (c : UInt8) (w : World) (h : F.Bld b l w) (hl : l.length ≤ 1000000) :
    Calls Tryz.prog 94 #[.pointer (some ⟨b, 0, none⟩), .int .u8 (c.toNat : Nat)] w fun e w' => e = .returned .nilIface ∧ F.Bld b (l ++ [c]) w' ∧ Lib.OthersKept 5 (some b) w w' ∧ Below b w w' := by
  have hb : b ≤ w.heap.size := by
    rcases h with ⟨_, v, h1, _⟩ | ⟨_, v, h1, _⟩ <;> exact Nat.le_of_lt (F.getElem?_lt h1)
  have hlen : (Lib.byteCells l).length = l.length := by rw [Lib.byteCells_length]
  refine (Any.Builder_WriteByte_k Tryz.lays167 Tryz.extra167 b b (Lib.byteCells l) (c.toNat : Nat) w h (by rw [hlen]; omega) hb).mono ?_
  rintro e w' ⟨he, h1, h2, h3⟩
  refine ⟨he, Or.inr ?_, h3, h2⟩
  have e2 : Lib.byteCells l ++ [.int .u8 (c.toNat : Nat)] = Lib.byteCells (l ++ [c]) := by
    unfold Lib.byteCells
    rw [List.map_append]; rfl
  rw [e2] at h1
  exact h1
/-- What is left of a payload behind k sectors. -/
def plf (x : ByteArray) (k : Nat) : ByteArray := x.extract (63 * k) x.size
theorem plf_size (x : ByteArray) (k : Nat) : (plf x k).size = x.size - 63 * k := by unfold plf; simp [ByteArray.size_extract]
theorem plf_zero (x : ByteArray) : plf x 0 = x := by
  unfold plf
  apply ByteArray.ext
  simp
theorem plf_next (x : ByteArray) (k : Nat) : (plf x k).extract 63 (plf x k).size = plf x (k + 1) := by
  unfold plf
  rw [ByteArray.extract_extract, ByteArray.size_extract]
  congr 1 <;> omega
/-- The bytes of a payload's sector. -/
def ppart (x : ByteArray) (k : Nat) : ByteArray := x.extract (63 * k) (63 * k + 63)
theorem plf_part (x : ByteArray) (k : Nat) (h : 63 * k + 63 ≤ x.size) : (plf x k).extract 0 63 = ppart x k := by
  unfold plf ppart
  rw [ByteArray.extract_extract]
  congr 1; omega
theorem ppart_size (x : ByteArray) (k : Nat) (h : 63 * k + 63 ≤ x.size) : (ppart x k).size = 63 := by unfold ppart; rw [ByteArray.size_extract]; omega
/-- The first k sectors of a payload. -/
def secP (x : ByteArray) : Nat → List UInt8
  | 0 => []
  | k + 1 => (secP x k ++ [68]) ++ (ppart x k).data.toList
theorem secP_length (x : ByteArray) : ∀ k, 63 * k ≤ x.size → (secP x k).length = 64 * k
  | 0, _ => rfl
  | k + 1, h => by
    rw [secP, List.length_append, List.length_append, secP_length x k (by omega), ← O.size_list, ppart_size x k (by omega)]
    simp; omega
theorem ne_empty {t : ByteArray} (h : 0 < t.size) : t.toList.isEmpty = false := by
  rw [Lib.toList_data]
  have : t.data.toList.length = t.size := by rw [Array.length_toList]; rfl
  cases hd : t.data.toList with
  | nil => rw [hd] at this; simp at this; omega
  | cons _ _ => rfl
theorem is_empty {t : ByteArray} (h : t.size = 0) : t.toList.isEmpty = true := by
  rw [Lib.toList_data]
  have h1 : t.data.toList.length = t.size := by rw [Array.length_toList]; rfl
  rw [h] at h1
  rw [List.eq_nil_of_length_eq_zero h1]; rfl
theorem Bld_below {b : Nat} {l : List UInt8} {w w' : World} (h : F.Bld b l w) (hb : Below w.heap.size w w') : F.Bld b l w' :=
  h.of_blocks (fun k _o hk _ => (hb.block k (Array.getElem?_eq_some_iff.1 hk).1).trans hk)
set_option maxHeartbeats 2000000 in
set_option maxRecDepth 100000 in
theorem sectors_any (x : ByteArray) (n : Nat) (hn : x.size = 63 * n) (hn2 : n ≤ 100) (w : World) :
    Calls Tryz.prog 54 #[.string x] w fun e w' => e = .returned (.string (O.tx (secP x n))) ∧ Below w.heap.size w w' := by
  have H0 : Hid (Below w.heap.size w (w.alloc (.cells #[.pointer none, .slice none 0 0] 141)) ∧ F.Bld w.heap.size (secP x 0) (w.alloc (.cells #[.pointer none, .slice none 0 0] 141))) := ⟨Below.alloc (Below.refl _ _) (Nat.le_refl _) _, F.bld_new w⟩
  have HLN : Hid (∀ k, k ≤ n → (secP x k).length ≤ 6400) := fun k hk => by rw [secP_length x k (by omega)]; omega
  go_enter Tryz.func54, Tryz.ntmps54
  go_wp2
  go_loopw [0] (fun t wr => ∃ k : Nat, k ≤ n ∧ t = .string (plf x k) ∧ Hid (Below w.heap.size w wr ∧ F.Bld w.heap.size (secP x k) wr)) (fun t _ => match t with | .string b => b.size | _ => 0)
  case atStart => exact ⟨0, by omega, by rw [plf_zero], H0.out⟩
  case round =>
    obtain ⟨k, hk, rfl, HI⟩ := hrel
    clear H0
    have hps := plf_size x k
    rcases Nat.lt_or_ge k n with hlt | hge
    · have hpn := plf_next x k
      have hpp := plf_part x k (by omega)
      obtain ⟨t, ht⟩ : ∃ t, t = plf x k := ⟨_, rfl⟩
      rw [← ht] at hps hpn hpp ⊢
      have hts : t.size ≤ 6300 := by rw [hps]; omega
      have ht63 : 63 ≤ t.size := by rw [hps]; omega
      have hne := ne_empty (t := t) (by omega)
      have HN : Hid _ := hpn
      have HP : Hid _ := hpp
      have HPS : Hid _ := hps
      have h63i : (63 : Int) ≤ (t.size : Int) := by omega
      have hwb := F.bld_byte w.heap.size (secP x k) 68 wr HI.out.2 (by have := HLN.out k hk; omega)
      replace hwb : Calls Tryz.prog 94 #[.pointer (some ⟨w.heap.size, 0, none⟩), .int .u8 68] wr fun e w' => e = .returned .nilIface ∧ F.Bld w.heap.size (secP x k ++ [68]) w' ∧ Lib.OthersKept 5 (some w.heap.size) wr w' ∧ Below w.heap.size wr w' := hwb
      clear ht hpn hpp hps
      go_wp2_with fail
      go_call hwb as e w2 ⟨rfl, b2, k2, l2⟩
      have B2 : Hid (Below w.heap.size w w2) := HI.out.1.trans l2
      have hws := F.bld_write w.heap.size (secP x k ++ [68]) (t.extract 0 63) w2 b2 (by rw [List.length_append, ByteArray.size_extract]; have := HLN.out k hk; simp; omega)
      clear hwb b2 k2 l2 HI
      go_wp2_with fail
      go_call hws as e w3 ⟨rfl, b3, k3, l3⟩
      have B3 : Hid (Below w.heap.size w w3 ∧ F.Bld w.heap.size (secP x (k + 1)) w3) := ⟨B2.out.trans l3, by rw [HP.out] at b3; exact b3⟩
      clear hws b3 k3 l3 B2
      go_wp2
      go_roundw
      case rel => exact ⟨k + 1, by omega, by rw [HN.out], B3⟩
      case measure =>
        show (t.extract 63 t.size).size < t.size
        rw [ByteArray.size_extract]; omega
    · obtain rfl : k = n := by omega
      have hemp := is_empty (t := plf x k) (by rw [hps]; omega)
      generalize plf x k = t at *
      have hst := F.bld_string w.heap.size (secP x k) wr HI.out.2
      replace hst : Calls Tryz.prog 96 #[.pointer (some ⟨w.heap.size, 0, none⟩)] wr fun e w' => e = .returned (.string (O.tx (secP x k))) ∧ Lib.OthersKept 5 (some w.heap.size) wr w' ∧ Below w.heap.size wr w' := hst
      generalize hy : O.tx (secP x k) = y at hst
      have HY : Hid _ := hy
      clear hy hps
      go_wp2_with fail
      go_call hst as e w2 ⟨rfl, k2, l2⟩
      have B2 : Hid (Below w.heap.size w w2) := HI.out.1.trans l2
      clear hst k2 l2
      go_wp2
      go_returns
      exact ⟨by show Ending.returned (.string y) = _; rw [← HY.out], B2.out⟩
end Go.Proofs.YtncfbocbigdhiaaGreat
