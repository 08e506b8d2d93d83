/- What MediumBack hands to Guard first, as a call; what is read of what was written. -/
import Derived.Test.YtiohkdpmgkobiaaX2
namespace Go.Proofs.Ytiohkdpmgkobiaa
open Go.RowKit
theorem ent30 (args : Array Value) (W : World) : (callFunc 30 args).run Try.prog W = .ok (.enter 30 args) W := enter_of Try.func30 (by kernel_rfl) (by kernel_rfl) args W
theorem ent32 (args : Array Value) (W : World) : (callFunc 32 args).run Try.prog W = .ok (.enter 32 args) W := enter_of Try.func32 (by kernel_rfl) (by kernel_rfl) args W
/-- A text with noughts up to whole sectors. -/
def filledL (l : List UInt8) : List UInt8 := l ++ List.replicate (64 * ((l.length + 63) / 64) - l.length) 0
theorem chunk_list (s : ByteArray) (k : Nat) : (chunk s k).data.toList = (s.data.toList.drop (64 * k)).take 64 := by
  unfold chunk part
  rw [ByteArray.data_extract, ByteArray.data_extract]
  simp only [Array.toList_extract, ByteArray.size_extract, List.extract_eq_take_drop, List.drop_zero, Nat.sub_zero]
  have e : s.data.toList.length = s.size := by rw [Array.length_toList]; rfl
  rw [show min s.size s.size - 64 * k = s.size - 64 * k by simp]
  rw [List.take_take]
  rw [List.take_eq_take_iff]
  rw [List.length_drop, e]; omega
theorem pad_list (s : ByteArray) : (pad s).data.toList = s.data.toList ++ List.replicate (64 - s.size) 0 := by
  unfold pad
  rw [ByteArray.data_append]
  simp
theorem pad_chunk (s : ByteArray) (k : Nat) (hk : k < parts s) : (pad (chunk s k)).data.toList = ((filledL s.data.toList).drop (64 * k)).take 64 := by
  have e : s.data.toList.length = s.size := by rw [Array.length_toList]; rfl
  have hp : parts s = (s.size + 63) / 64 := rfl
  have hcs : (chunk s k).size = min 64 (s.size - 64 * k) := by
    have := congrArg List.length (chunk_list s k)
    rw [List.length_take, List.length_drop, e] at this
    rw [← this, Array.length_toList]; rfl
  rw [pad_list, chunk_list, hcs]
  unfold filledL
  rw [e]
  rw [List.drop_append_of_le_length (by omega), List.take_append, List.length_drop, e, List.take_replicate]
  refine congrArg (fun m => List.take 64 (List.drop (64 * k) s.data.toList) ++ List.replicate m 0) ?_
  omega
theorem rds_filled (s : ByteArray) (st : St) (frm : Nat) (hc : ∀ j, j < parts s → rd st (frm + j) = pad (chunk s j)) : ∀ k, k ≤ parts s → rdsL st frm k = (filledL s.data.toList).take (64 * k)
  | 0, _ => by simp [rdsL]
  | k + 1, h => by
    show rdsL st frm k ++ rdB st (frm + k) = _
    rw [rds_filled s st frm hc k (by omega)]
    have e : rdB st (frm + k) = (pad (chunk s k)).data.toList := by
      rw [← hc k (by omega)]; rfl
    rw [e, pad_chunk s k (by omega), show 64 * (k + 1) = 64 * k + 64 by omega, List.take_add]
theorem filledL_length (l : List UInt8) : (filledL l).length = 64 * ((l.length + 63) / 64) := by
  unfold filledL
  rw [List.length_append, List.length_replicate]; omega
theorem rds_all (s : ByteArray) (st : St) (frm : Nat) (hc : ∀ j, j < parts s → rd st (frm + j) = pad (chunk s j)) : rdsL st frm (parts s) = filledL s.data.toList := by
  rw [rds_filled s st frm hc _ (Nat.le_refl _)]
  have e : s.data.toList.length = s.size := by rw [Array.length_toList]; rfl
  rw [List.take_of_length_le (by rw [filledL_length, e]; exact Nat.le_refl _)]
/-- What is sure of the device behind what was written, or wasn't. -/
structure BackInv (m : Int) (c : ByteArray) (f : Int) (st : St) : Prop where
  serial : st.serial = 4
  session : st.session = 1
  there : st.there = true
  down : st.down = false
  hw : st.hw = false
  aw : st.aw = false
  n : st.n = 9
  ok : SecOk st
  count : 0 ≤ st.count ∧ st.count ≤ m
  put : ¬ parts c = 0 → 0 ≤ f ∧ f + (parts c : Int) ≤ 9 ∧ ∀ j, j < parts c → rd st (f.toNat + j) = pad (chunk c j)
section
variable (b0 : Nat) (w0 : World) (L : Loc) (oth : List (Nat × Obj)) (M : Nat) (hM : (M, med L.P 4 1) ∈ oth) (c : ByteArray) (hs : c.size ≤ 400) (w : World)
include hM hs
theorem bk_write_ok (f : Int) (hf : -2 ≤ f ∧ f ≤ 12) (hfit : parts c = 0 ∨ (0 ≤ f ∧ f + (parts c : Int) ≤ 9)) (lv : Value) (h : One b0 w0 L (st0 4 9) lv oth w) :
    Calls Try.prog 31 #[.pointer (some ⟨M, 0, none⟩), .int .i64 f, .string c] w fun e w' => e = .returned (.tuple #[]) ∧ ∃ st lv, One b0 w0 L st lv oth w' ∧ BackInv 100 c f st := by
  by_cases hz : parts c = 0
  · refine (mwrite_any M L.P 4 1 f c (by omega) (by omega) (fun k W => ∃ lv, One b0 w0 L (st0 4 9) lv oth W) (fun k => 0)
      (fun k W W' ⟨lv, h⟩ hb => ⟨lv, h.ofBelow hb⟩) (fun k W ⟨lv, h⟩ => (h.oth _ hM).1) (fun k W hk => by omega) w ⟨lv, h⟩).mono ?_
    rintro e w' (⟨k, hk, hz, hne, rfl, hX⟩ | ⟨_, rfl, lv, hX⟩)
    · exact absurd rfl hne
    · exact ⟨rfl, st0 4 9, lv, hX, ⟨rfl, rfl, rfl, rfl, rfl, rfl, rfl, st0_ok 4 9, ⟨Int.le_refl _, by decide⟩, fun h => absurd hz h⟩⟩
  · obtain ⟨h1, h2⟩ : 0 ≤ f ∧ f + (parts c : Int) ≤ 9 := by
      rcases hfit with h | h
      · exact absurd h hz
      · exact h
    obtain ⟨frm, rfl⟩ : ∃ frm : Nat, f = (frm : Int) := ⟨f.toNat, by omega⟩
    refine (put_write b0 w0 L oth M 4 hM c (by omega) 9 frm (by omega) (by decide) w ⟨_, _, h, put_start 4 9 frm c⟩).mono ?_
    rintro e w' ⟨rfl, st, lv, o, i⟩
    exact ⟨rfl, st, lv, o, ⟨i.serial, i.session, i.there, i.down, i.hw, i.aw, i.n, i.ok, by rw [i.count]; omega, fun _ => ⟨by omega, h2, fun j hj => by simpa using i.cont j hj⟩⟩⟩
/-- Where a Write stands that goes beyond. -/
structure BadInv (f : Int) (k : Nat) (st : St) : Prop where
  serial : st.serial = 4
  session : st.session = 1
  there : st.there = true
  down : st.down = false
  n : st.n = 9
  put : 0 ≤ f → f + (k : Int) ≤ 9 → PutInv 4 9 f.toNat c k st
omit hM hs in
theorem put_step (sr : Int) (nn frm : Nat) (s : ByteArray) (k : Nat) (st : St) (lv : Value) (W : World) (hk : k ≤ 100) (hnn : nn ≤ 1000) (hin0 : frm + k < nn) (h : One b0 w0 L st lv oth W) (hi : PutInv sr nn frm s k st) :
    Calls Try.prog 17 #[.pointer (some ⟨L.P, 0, none⟩), hnd sr 1, .int .i64 ((frm : Int) + (k : Nat)), .string (pad (chunk s k))] W fun e W' => e = .returned (.int .i64 0) ∧ ∃ st lv, One b0 w0 L st lv oth W' ∧ PutInv sr nn frm s (k + 1) st := by
  have hps := pad_size (chunk s k) (chunk_size s k)
  have hin : frm + k < st.n := by rw [hi.n]; omega
  have hw := h.pwrite_ok (frm + k) (pad (chunk s k)) hps hi.down hi.there hi.aw hi.hw hin hi.ok hi.le (by rw [hi.n]; omega) (by rw [hi.count]; omega)
  rw [show hnd st.serial st.session = hnd sr 1 by rw [hi.serial, hi.session], show (((frm + k : Nat) : Int)) = (frm : Int) + (k : Nat) by omega] at hw
  refine hw.mono ?_
  rintro e W' ⟨rfl, lv', h'⟩
  have n1 := hi.ok.wrote hin (pad (chunk s k)) hps
  have n2 := hi.le.next hi.ok hin (show frm + k < frm + (k + 1) by omega) (by rw [hi.ln]; omega) (pad (chunk s k))
  refine ⟨rfl, _, lv', h', ⟨hi.serial, hi.session, hi.there, hi.down, hi.hw, hi.aw, hi.n, ⟨n1.size, n1.bytes⟩, ⟨n2.len, n2.few, n2.at0⟩, ?_, ?_, fun j hj => ?_⟩⟩
  · show st.ln + 1 = k + 1; rw [hi.ln]
  · show st.count + 1 = _; rw [hi.count]; omega
  · show rd (wrote st (frm + k) (pad (chunk s k))) (frm + j) = _
    rcases Nat.lt_or_ge j k with hlt | hge
    · rw [rd_other st (frm + k) (frm + j) _ hi.ok hin (by omega) (by omega) hps]
      exact hi.cont j hlt
    · obtain rfl : j = k := by omega
      exact rd_wrote st (frm + j) _ hi.ok hin hps
theorem bk_write_no (f : Int) (hf : -2 ≤ f ∧ f ≤ 12) (hno : ¬ parts c = 0 ∧ ¬ (0 ≤ f ∧ f + (parts c : Int) ≤ 9)) (lv : Value) (h : One b0 w0 L (st0 4 9) lv oth w) :
    Calls Try.prog 31 #[.pointer (some ⟨M, 0, none⟩), .int .i64 f, .string c] w fun e w' => e = .panicked [fl 4 6] ∧ ∃ st lv, One b0 w0 L st lv oth w' := by
  have hp8 : parts c ≤ 7 := by unfold parts; omega
  refine (mwrite_any M L.P 4 1 f c (by omega) (by omega) (fun k W => ∃ st lv, One b0 w0 L st lv oth W ∧ BadInv c f k st) (fun k => if 0 ≤ f + (k : Int) ∧ f + (k : Int) < 9 then 0 else 6)
    (fun k W W' ⟨st, lv, h, hi⟩ hb => ⟨st, lv, h.ofBelow hb, hi⟩) (fun k W ⟨st, lv, h, _⟩ => (h.oth _ hM).1) ?_ w ⟨_, lv, h, ⟨rfl, rfl, rfl, rfl, rfl, fun _ _ => put_start 4 9 _ c⟩⟩).mono ?_
  · rintro k W hk hz ⟨st, lv, h, hi⟩
    have hps := pad_size (chunk c k) (chunk_size c k)
    by_cases hin : 0 ≤ f + (k : Int) ∧ f + (k : Int) < 9
    · rw [if_pos hin]
      have hf0 : 0 ≤ f := by
        by_cases h1 : f < 0
        · have := hz 0 (by omega)
          rw [if_neg (by omega)] at this
          exact absurd this (by decide)
        · omega
      obtain ⟨frm, rfl⟩ : ∃ frm : Nat, f = (frm : Int) := ⟨f.toNat, by omega⟩
      have hpi := hi.put hf0 (by omega)
      refine (put_step b0 w0 L oth 4 9 frm c k st lv W (by omega) (by decide) (by omega) h (by simpa using hpi)).mono ?_
      rintro e W' ⟨rfl, st', lv', o', i'⟩
      exact ⟨rfl, st', lv', o', ⟨i'.serial, i'.session, i'.there, i'.down, i'.n, fun _ _ => by simpa using i'⟩⟩
    · rw [if_neg hin]
      have hw := h.pwrite_no (f + (k : Int)) (pad (chunk c k)) hps hi.down hi.there (by rw [hi.n]; exact hin)
      rw [show hnd st.serial st.session = hnd 4 1 by rw [hi.serial, hi.session]] at hw
      refine hw.mono ?_
      rintro e W' ⟨rfl, h'⟩
      exact ⟨rfl, st, lv, h', ⟨hi.serial, hi.session, hi.there, hi.down, hi.n, fun h1 h2 => absurd ⟨by omega, by omega⟩ hin⟩⟩
  · rintro e w' (⟨k, hk, hz, hne, rfl, st, lv, hX, _⟩ | ⟨hz, rfl, hX⟩)
    · refine ⟨?_, st, lv, hX⟩
      by_cases hin : 0 ≤ f + (k : Int) ∧ f + (k : Int) < 9
      · exact absurd (if_pos hin) hne
      · rw [if_neg hin]
    · exfalso
      have h0 := hz 0 (by omega)
      have h1 := hz (parts c - 1) (by omega)
      by_cases hin : 0 ≤ f + ((0 : Nat) : Int) ∧ f + ((0 : Nat) : Int) < 9
      · by_cases hin2 : 0 ≤ f + ((parts c - 1 : Nat) : Int) ∧ f + ((parts c - 1 : Nat) : Int) < 9
        · exact hno.2 ⟨by omega, by omega⟩
        · rw [if_neg hin2] at h1; exact absurd h1 (by decide)
      · rw [if_neg hin] at h0; exact absurd h0 (by decide)
end
end Go.Proofs.Ytiohkdpmgkobiaa
