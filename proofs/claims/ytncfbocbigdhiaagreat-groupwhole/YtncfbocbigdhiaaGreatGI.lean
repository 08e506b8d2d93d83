/- The payload of its sectors, as a call. -/
import Derived.Test.YtncfbocbigdhiaaGreatGH
namespace Go.Proofs.YtncfbocbigdhiaaGreat
open Go.RowKit
theorem idx0 (t : ByteArray) (b : UInt8) (h : t[0]? = some b) (W : World) : (Instr.index 9 (.string t) (.int .i64 0)).run Tryz.prog W = .ok (.int .u8 (b.toNat : Nat)) W := by
  simp [Instr.index, asIntOf, run_underlying Tryz.underlying9, h]
/-- What is left of sectors behind k of them. -/
def slf (y : ByteArray) (k : Nat) : ByteArray := y.extract (64 * k) y.size
theorem slf_size (y : ByteArray) (k : Nat) : (slf y k).size = y.size - 64 * k := by unfold slf; simp [ByteArray.size_extract]
theorem slf_zero (y : ByteArray) : slf y 0 = y := by
  unfold slf
  apply ByteArray.ext
  simp
theorem slf_next (y : ByteArray) (k : Nat) : (slf y k).extract 64 (slf y k).size = slf y (k + 1) := by
  unfold slf
  rw [ByteArray.extract_extract, ByteArray.size_extract]
  congr 1 <;> omega
/-- The payload's bytes of sector k. -/
def spart (y : ByteArray) (k : Nat) : ByteArray := y.extract (64 * k + 1) (64 * k + 64)
theorem slf_part (y : ByteArray) (k : Nat) (h : 64 * k + 64 ≤ y.size) : (slf y k).extract 1 64 = spart y k := by
  unfold slf spart
  rw [ByteArray.extract_extract]
  congr 1; omega
theorem spart_size (y : ByteArray) (k : Nat) (h : 64 * k + 64 ≤ y.size) : (spart y k).size = 63 := by unfold spart; rw [ByteArray.size_extract]; omega
theorem slf_first (y : ByteArray) (k : Nat) (h : 64 * k < y.size) : (slf y k)[0]? = some y[64 * k] := by
  have h0 : 0 < (y.extract (64 * k) y.size).size := by rw [ByteArray.size_extract]; omega
  unfold slf
  rw [getElem?_pos (y.extract (64 * k) y.size) 0 h0, ByteArray.getElem_extract]
  rfl
/-- The payload of the first k sectors. -/
def payL (y : ByteArray) : Nat → List UInt8
  | 0 => []
  | k + 1 => payL y k ++ (spart y k).data.toList
theorem payL_length (y : ByteArray) : ∀ k, 64 * k ≤ y.size → (payL y k).length = 63 * k
  | 0, _ => rfl
  | k + 1, h => by
    rw [payL, List.length_append, payL_length y k (by omega), ← O.size_list, spart_size y k (by omega)]; omega
/-- Is sector k one of payload? -/
def Mk (y : ByteArray) (k : Nat) : Prop := y[64 * k]? = some 68
set_option maxHeartbeats 2000000 in
set_option maxRecDepth 100000 in
/-- All sectors are of payload, or one isn't. -/
theorem payof_any (y : ByteArray) (n : Nat) (hn : y.size = 64 * n) (hn2 : n ≤ 100) (w : World) :
    Calls Tryz.prog 100 #[.string y] w fun e w' => (((∀ k, k < n → Mk y k) ∧ e = .returned (.string (O.tx (payL y n)))) ∨ ((∃ k, k < n ∧ ¬ Mk y k) ∧ e = .returned (.string ⟨#[]⟩))) ∧ Below w.heap.size w w' := by
  have H0 : Hid (Below w.heap.size w (w.alloc (.cells #[.pointer none, .slice none 0 0] 141)) ∧ F.Bld w.heap.size (payL y 0) (w.alloc (.cells #[.pointer none, .slice none 0 0] 141)) ∧ ∀ k, k < 0 → Mk y k) := ⟨Below.alloc (Below.refl _ _) (Nat.le_refl _) _, F.bld_new w, fun k hk => absurd hk (Nat.not_lt_zero _)⟩
  have HLN : Hid (∀ k, k ≤ n → (payL y k).length ≤ 6300) := fun k hk => by rw [payL_length y k (by omega)]; omega
  go_enter Tryz.func100, Tryz.ntmps100
  go_wp2
  go_loopw [0] (fun t wr => ∃ k : Nat, k ≤ n ∧ t = .string (slf y k) ∧ Hid (Below w.heap.size w wr ∧ F.Bld w.heap.size (payL y k) wr ∧ ∀ j, j < k → Mk y j)) (fun t _ => match t with | .string b => b.size | _ => 0)
  case atStart => exact ⟨0, by omega, by rw [slf_zero], H0⟩
  case round =>
    obtain ⟨k, hk, rfl, HI⟩ := hrel
    clear H0
    have hps := slf_size y k
    rcases Nat.lt_or_ge k n with hlt | hge
    · have hpn := slf_next y k
      have hpp := slf_part y k (by omega)
      have hf := slf_first y k (by omega)
      obtain ⟨t, ht⟩ : ∃ t, t = slf y k := ⟨_, rfl⟩
      obtain ⟨b, hb⟩ : ∃ b, b = y[64 * k]'(by omega) := ⟨_, rfl⟩
      rw [← ht] at hps hpn hpp hf ⊢
      rw [← hb] at hf
      have HMK : Hid (Mk y k ↔ b = 68) := by
        show Mk y k ↔ b = 68
        unfold Mk
        rw [getElem?_pos y (64 * k) (by omega), ← hb]
        exact Option.some_inj
      have hix := fun W => idx0 t b hf W
      have hts : t.size ≤ 6400 := by rw [hps]; omega
      have ht64 : 64 ≤ t.size := by rw [hps]; omega
      have hne := ne_empty (t := t) (by omega)
      have HN : Hid _ := hpn
      have HP : Hid _ := hpp
      have h64i : (64 : Int) ≤ (t.size : Int) := by omega
      clear ht hpn hpp hps hb hf
      by_cases hb : b = 68
      · subst hb
        have hix2 : ∀ W, (Instr.index 9 (.string t) (.int .i64 0)).run Tryz.prog W = .ok (.int .u8 68) W := hix
        have hws := F.bld_write w.heap.size (payL y k) (t.extract 1 64) wr HI.out.2.1 (by rw [ByteArray.size_extract]; have := HLN.out k hk; omega)
        clear hix
        go_wp2_with fail
        go_call hws as e w3 ⟨rfl, b3, k3, l3⟩
        have B3 : Hid (Below w.heap.size w w3 ∧ F.Bld w.heap.size (payL y (k + 1)) w3 ∧ ∀ j, j < k + 1 → Mk y j) := ⟨HI.out.1.trans l3, by rw [HP.out] at b3; exact b3, fun j hj => by
          rcases Nat.lt_or_ge j k with h | h
          · exact HI.out.2.2 j h
          · obtain rfl : j = k := by omega
            exact HMK.out.2 (by first | rfl | trivial)⟩
        clear hws b3 k3 l3 HI
        go_wp2
        go_roundw
        case rel => exact ⟨k + 1, by omega, by rw [HN.out], B3⟩
        case measure =>
          show (t.extract 64 t.size).size < t.size
          rw [ByteArray.size_extract]; omega
      · have hbn : ¬ ((b.toNat : Nat) : Int) = 68 := fun e => hb (by
          apply UInt8.toNat_inj.1
          show b.toNat = 68
          omega)
        go_wp2
        go_returns
        exact ⟨Or.inr ⟨⟨k, hlt, fun q => hb (HMK.out.1 q)⟩, rfl⟩, HI.out.1⟩
    · obtain rfl : k = n := by omega
      have hemp := is_empty (t := slf y k) (by rw [hps]; omega)
      generalize slf y k = t at *
      have hst := F.bld_string w.heap.size (payL y k) wr HI.out.2.1
      replace hst : Calls Tryz.prog 96 #[.pointer (some ⟨w.heap.size, 0, none⟩)] wr fun e w' => e = .returned (.string (O.tx (payL y k))) ∧ Lib.OthersKept 5 (some w.heap.size) wr w' ∧ Below w.heap.size wr w' := hst
      generalize hy : O.tx (payL y k) = z at hst
      have HY : Hid _ := hy
      clear hy hps
      go_wp2_with fail
      go_call hst as e w2 ⟨rfl, k2, l2⟩
      have B2 : Hid (Below w.heap.size w w2) := HI.out.1.trans l2
      clear hst k2 l2
      go_wp2
      go_returns
      exact ⟨Or.inl ⟨HI.out.2.2, by show Ending.returned (.string z) = _; rw [← HY.out]⟩, B2.out⟩
end Go.Proofs.YtncfbocbigdhiaaGreat
