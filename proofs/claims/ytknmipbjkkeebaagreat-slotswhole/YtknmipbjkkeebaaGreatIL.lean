/- What medium.Write lays where nothing is loose, of any count, and that the rest is as it was; makeSure, as calls. -/
import Derived.Test.YtknmipbjkkeebaaGreatIK
namespace Go.Proofs.YtknmipbjkkeebaaGreat.F
open Go.RowKit
/-- Where the work stands behind k sectors. -/
structure PutG (sr ses : Int) (nn frm : Nat) (c0 : Int) (r0 : Nat → ByteArray) (s : ByteArray) (k : Nat) (st : St) : Prop where
  serial : st.serial = sr
  session : st.session = ses
  there : st.there = true
  down : st.down = false
  hw : st.hw = false
  aw : st.aw = false
  n : st.n = nn
  ok : SecOk st
  le : LooseEnd st (frm + k)
  ln : st.ln = k
  count : st.count = c0 + (k : Int)
  cont : ∀ j, j < k → rd st (frm + j) = pad (chunk s j)
  rest : ∀ j, j < nn → (j < frm ∨ frm + k ≤ j) → rd st j = r0 j
theorem putg_write (b0 : Nat) (w0 : World) (L : Loc) (oth : List (Nat × Obj)) (M : Nat) (sr ses : Int) (hM : (M, med L.P sr ses) ∈ oth) (s : ByteArray) (hs : s.size ≤ 1024) (nn frm : Nat) (c0 : Int) (r0 : Nat → ByteArray) (hc0 : 0 ≤ c0 ∧ c0 ≤ 90000) (hfit : frm + parts s ≤ nn) (hnn : nn ≤ 1000) (w : World) (h0 : ∃ st lv, One b0 w0 L st lv oth w ∧ PutG sr ses nn frm c0 r0 s 0 st) :
    Calls Tryz.prog 39 #[.pointer (some ⟨M, 0, none⟩), .int .i64 (frm : Nat), .string s] w fun e w' => e = .returned (.tuple #[]) ∧ ∃ st lv, One b0 w0 L st lv oth w' ∧ PutG sr ses nn frm c0 r0 s (parts s) st := by
  have hp8 : parts s ≤ 16 := by unfold parts; omega
  refine (mwrite_any M L.P sr ses (frm : Nat) s (by omega) (by omega) (fun k W => ∃ st lv, One b0 w0 L st lv oth W ∧ PutG sr ses nn frm c0 r0 s k st) (fun k => 0)
    (fun k W W' ⟨st, lv, h, hi⟩ hb => ⟨st, lv, h.ofBelow hb, hi⟩) (fun k W ⟨st, lv, h, _⟩ => (h.oth _ hM).1) ?_ w h0).mono ?_
  · rintro k W hk hz ⟨st, lv, h, hi⟩
    have hps := pad_size (chunk s k) (chunk_size s k)
    have hin : frm + k < st.n := by rw [hi.n]; omega
    have hw := h.pwrite_ok (frm + k) (pad (chunk s k)) hps hi.down hi.there hi.aw hi.hw hin hi.ok hi.le (by rw [hi.n]; omega) (by rw [hi.count]; omega)
    rw [show hnd st.serial st.session = hnd sr ses by rw [hi.serial, hi.session], show (((frm + k : Nat) : Int)) = (frm : Int) + (k : Nat) by omega] at hw
    refine hw.mono ?_
    rintro e W' ⟨rfl, lv', h'⟩
    have n1 := hi.ok.wrote hin (pad (chunk s k)) hps
    have n2 := hi.le.next hi.ok hin (show frm + k < frm + (k + 1) by omega) (by rw [hi.ln]; omega) (pad (chunk s k))
    refine ⟨rfl, _, lv', h', ⟨hi.serial, hi.session, hi.there, hi.down, hi.hw, hi.aw, hi.n, ⟨n1.size, n1.bytes⟩, ⟨n2.len, n2.few, n2.at0⟩, ?_, ?_, fun j hj => ?_, fun j hj hjk => ?_⟩⟩
    · show st.ln + 1 = k + 1; rw [hi.ln]
    · show st.count + 1 = _; rw [hi.count]; omega
    · show rd (wrote st (frm + k) (pad (chunk s k))) (frm + j) = _
      rcases Nat.lt_or_ge j k with hlt | hge
      · rw [rd_other st (frm + k) (frm + j) _ hi.ok hin (by omega) (by omega) hps]
        exact hi.cont j hlt
      · obtain rfl : j = k := by omega
        exact rd_wrote st (frm + j) _ hi.ok hin hps
    · show rd (wrote st (frm + k) (pad (chunk s k))) j = _
      rw [rd_other st (frm + k) j _ hi.ok hin (by rw [hi.n]; exact hj) (by omega) hps]
      exact hi.rest j hj (by omega)
  · rintro e w' (⟨k, hk, hz, hne, rfl, hX⟩ | ⟨hz, rfl, hX⟩)
    · exact absurd rfl hne
    · exact ⟨rfl, hX⟩
end Go.Proofs.YtknmipbjkkeebaaGreat.F
namespace Go.Proofs.YtknmipbjkkeebaaGreat
open Go.RowKit
set_option maxRecDepth 100000 in
theorem sure_no (s : Sl) (hs : s.unsure = false) (S M : Nat) (w : World) (h : w.heap[S]? = some (.cells (s.cs M) 72)) : Calls Tryz.prog 37 #[.pointer (some ⟨S, 0, none⟩)] w fun e w' => e = .returned (.tuple #[]) ∧ w' = w := by
  have c4 : w.cell? ⟨S, 4, none⟩ = some (.bool false) := by have := F.cell_of h 4; rw [← hs]; exact this
  clear h
  go_enter Tryz.func37, Tryz.ntmps37
  go_wp2
  go_returns
  exact ⟨rfl, rfl⟩
set_option maxRecDepth 100000 in
/-- The text of now is flushed first, if it may be loose. -/
theorem sure_yes (s : Sl) (hs : s.unsure = true) (S M : Nat) (w : World) (h : w.heap[S]? = some (.cells (s.cs M) 72)) (R : World → Prop)
    (hfl : Calls Tryz.prog 42 #[.pointer (some ⟨M, 0, none⟩)] w fun e w' => e = .returned (.tuple #[]) ∧ R w' ∧ w'.heap[S]? = some (.cells (s.cs M) 72)) :
    Calls Tryz.prog 37 #[.pointer (some ⟨S, 0, none⟩)] w fun e w' => e = .returned (.tuple #[]) ∧ ∃ w2, R w2 ∧ SB S M { s with unsure := false } w2 w' := by
  have c4 : w.cell? ⟨S, 4, none⟩ = some (.bool true) := by have := F.cell_of h 4; rw [← hs]; exact this
  have c0 : w.cell? ⟨S, 0, none⟩ = some (.pointer (some ⟨M, 0, none⟩)) := F.cell_of h 0
  clear h
  go_enter Tryz.func37, Tryz.ntmps37
  go_wp2_with fail
  go_call hfl as e w2 ⟨rfl, hr, hb⟩
  have b4 : w2.cell? ⟨S, 4, none⟩ = some (.bool s.unsure) := F.cell_of hb 4
  have f4 := F.frz_of hb 4
  have HR : Hid _ := hr
  have HB : Hid (SB S M { s with unsure := false } w2 (w2.setCell ⟨S, 4, none⟩ (.bool false))) := SB.set (s := s) ⟨KS.refl _ _, hb⟩ 4 _ rfl
  clear hfl hr hb c4 c0
  go_wp2
  go_returns
  exact ⟨rfl, w2, HR.out, HB.out⟩
end Go.Proofs.YtknmipbjkkeebaaGreat
