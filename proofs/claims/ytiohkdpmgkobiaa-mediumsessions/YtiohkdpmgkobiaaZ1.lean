/- What medium.Write lays where nothing is armed, and what lies there behind it. -/
import Derived.Test.YtiohkdpmgkobiaaV1
import Derived.Test.YtiohkdpmgkobiaaY2
import Derived.Test.YtiohkdpmgkobiaaW2
namespace Go.Proofs.Ytiohkdpmgkobiaa
open Go.RowKit
theorem secl_other (st : St) (i j : Nat) (s : ByteArray) (h : SecOk st) (hi : i < st.n) (hj : j < st.n) (hij : ¬ j = i) (hs : s.size = 64) : secl (wrote st i s) j = secl st j := by
  have hm : (i + 1) * 64 ≤ st.n * 64 := Nat.mul_le_mul_right _ hi
  have hl : st.secs.toList.length = st.n * 64 := by rw [Array.length_toList]; exact h.size
  have hb : (Lib.byteCells s.data.toList).length = 64 := by rw [Lib.byteCells_length, Array.length_toList]; exact hs
  show ((st.secs.toList.take (i * 64) ++ Lib.byteCells s.data.toList ++ st.secs.toList.drop (i * 64 + 64)).drop (j * 64)).take 64 = (st.secs.toList.drop (j * 64)).take 64
  generalize st.secs.toList = l at *
  generalize Lib.byteCells s.data.toList = b at *
  apply List.ext_getElem?
  intro m
  by_cases hm64 : m < 64
  · rw [List.getElem?_take_of_lt hm64, List.getElem?_take_of_lt hm64, List.getElem?_drop, List.getElem?_drop]
    rcases Nat.lt_or_gt_of_ne hij with hlt | hgt
    · have : (j + 1) * 64 ≤ i * 64 := Nat.mul_le_mul_right _ hlt
      rw [List.append_assoc, List.getElem?_append_left (by rw [List.length_take, hl]; omega), List.getElem?_take_of_lt (by omega)]
    · have : (i + 1) * 64 ≤ j * 64 := Nat.mul_le_mul_right _ hgt
      rw [List.getElem?_append_right (by rw [List.length_append, List.length_take, hl, hb]; omega), List.getElem?_drop]
      congr 1
      rw [List.length_append, List.length_take, hl, hb]; omega
  · rw [List.getElem?_take_eq_none (by omega), List.getElem?_take_eq_none (by omega)]
theorem rd_other (st : St) (i j : Nat) (s : ByteArray) (h : SecOk st) (hi : i < st.n) (hj : j < st.n) (hij : ¬ j = i) (hs : s.size = 64) : rd (wrote st i s) j = rd st j := by
  unfold rd rdB
  rw [secl_other st i j s h hi hj hij hs]
/-- Where the work stands behind k sectors of a text that is written from 'frm' on. -/
structure PutInv (sr : Int) (nn frm : Nat) (s : ByteArray) (k : Nat) (st : St) : Prop where
  serial : st.serial = sr
  session : st.session = 1
  there : st.there = true
  down : st.down = false
  hw : st.hw = false
  aw : st.aw = false
  n : st.n = nn
  ok : SecOk st
  le : LooseEnd st (frm + k)
  ln : st.ln = k
  count : st.count = (k : Int)
  cont : ∀ j, j < k → rd st (frm + j) = pad (chunk s j)
theorem put_start (sr : Int) (nn frm : Nat) (s : ByteArray) : PutInv sr nn frm s 0 (st0 sr nn) :=
  ⟨rfl, rfl, rfl, rfl, rfl, rfl, rfl, st0_ok sr nn, ⟨rfl, Nat.zero_le _, fun j hj => absurd hj (Nat.not_lt_zero _)⟩, rfl, rfl, fun j hj => absurd hj (Nat.not_lt_zero _)⟩
theorem put_write (b0 : Nat) (w0 : World) (L : Loc) (oth : List (Nat × Obj)) (M : Nat) (sr : Int) (hM : (M, med L.P sr 1) ∈ oth) (s : ByteArray) (hs : s.size ≤ 1000) (nn frm : Nat) (hfit : frm + parts s ≤ nn) (hnn : nn ≤ 1000) (w : World) (h0 : ∃ st lv, One b0 w0 L st lv oth w ∧ PutInv sr nn frm s 0 st) :
    Calls Try.prog 31 #[.pointer (some ⟨M, 0, none⟩), .int .i64 (frm : Nat), .string s] w fun e w' => e = .returned (.tuple #[]) ∧ ∃ st lv, One b0 w0 L st lv oth w' ∧ PutInv sr nn frm s (parts s) st := by
  have hp8 : parts s ≤ 16 := by unfold parts; omega
  refine (mwrite_any M L.P sr 1 (frm : Nat) s (by omega) (by omega) (fun k W => ∃ st lv, One b0 w0 L st lv oth W ∧ PutInv sr nn frm s k st) (fun k => 0)
    (fun k W W' ⟨st, lv, h, hi⟩ hb => ⟨st, lv, h.ofBelow hb, hi⟩) (fun k W ⟨st, lv, h, _⟩ => (h.oth _ hM).1) ?_ w h0).mono ?_
  · rintro k W hk hz ⟨st, lv, h, hi⟩
    have hps := pad_size (chunk s k) (chunk_size s k)
    have hin : frm + k < st.n := by rw [hi.n]; omega
    have hw := h.pwrite_ok (frm + k) (pad (chunk s k)) hps hi.down hi.there hi.aw hi.hw hin hi.ok hi.le (by rw [hi.n]; omega) (by rw [hi.count]; omega)
    rw [show hnd st.serial st.session = hnd sr 1 by rw [hi.serial, hi.session], show (((frm + k : Nat) : Int)) = (frm : Int) + (k : Nat) by omega] at hw
    refine hw.mono ?_
    rintro e W' ⟨rfl, lv', h'⟩
    have n1 := hi.ok.wrote hin (pad (chunk s k)) hps
    have n2 := hi.le.next hi.ok hin (show frm + k < frm + (k + 1) by omega) (by rw [hi.ln]; omega) (pad (chunk s k))
    refine ⟨rfl, _, lv', h', ⟨hi.serial, hi.session, hi.there, hi.down, hi.hw, hi.aw, hi.n, ⟨n1.size, n1.bytes⟩, ⟨n2.len, n2.few, n2.at0⟩, ?_, ?_, fun j hj => ?_⟩⟩
    · show st.ln + 1 = k + 1; rw [hi.ln]
    · show st.count + 1 = _; rw [hi.count]; omega
    · show rd (wrote st (frm + k) (pad (chunk s k))) (frm + j) = _
      rcases Nat.lt_or_ge j k with hlt | hge
      · rw [rd_other st (frm + k) (frm + j) _ hi.ok hin (by omega) (by omega) hps]
        exact hi.cont j hlt
      · obtain rfl : j = k := by omega
        exact rd_wrote st (frm + j) _ hi.ok hin hps
  · rintro e w' (⟨k, hk, hz, hne, rfl, hX⟩ | ⟨hz, rfl, hX⟩)
    · exact absurd rfl hne
    · exact ⟨rfl, hX⟩
end Go.Proofs.Ytiohkdpmgkobiaa
