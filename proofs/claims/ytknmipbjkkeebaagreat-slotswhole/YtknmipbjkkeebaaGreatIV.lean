/- The two Writes of awake, within Guard, as a call. -/
import Derived.Test.YtknmipbjkkeebaaGreatIU
namespace Go.Proofs.YtknmipbjkkeebaaGreat
open Go.RowKit
set_option maxHeartbeats 1000000 in
set_option maxRecDepth 100000 in
theorem op32 {b0 : Nat} {w0 : World} {L : F.Loc} {st : F.St} {lv : Value} {rest : List (Nat × Obj)} {w : World} {Sb S M : Nat} (s : Sl) (h : F.One b0 w0 L st lv ((S, .cells (s.cs M) 72) :: rest) w)
    (hSb : (Sb, .cells #[.pointer (some ⟨S, 0, none⟩)] 29) ∈ rest) (hm : (M, F.med L.P st.serial st.session) ∈ rest) (hr : ∀ p ∈ rest, p.1 ≠ S)
    (hs : s.slot ≤ 1) (hmost : s.most < 1000) (hq : Quiet st) (hc : 0 ≤ st.count ∧ st.count ≤ 70000) :
    Calls Tryz.prog 32 #[.pointer (some ⟨Sb, 0, none⟩)] w fun e w' => e = .returned (.tuple #[]) ∧ ∃ st1 st' lv', F.One b0 w0 L st' lv' ((S, .cells (s.next.next.cs M) 72) :: rest) w' ∧ Wrt st st1 (s.other * 16) ⟨#[97]⟩ (s.most + 1) ∧ Wrt st1 st' (s.next.other * 16) ⟨#[98]⟩ (s.next.most + 1) := by
  have hw := swrite_one s h hm hr hs (by omega) ⟨#[97]⟩ (by show (1 : Nat) ≤ 640; decide) hq.ln hq.loose hq.ok hq.n hq.n1 hq.down hq.there hq.aw hq.hw ⟨hc.1, by omega⟩
  have c1 : w.cell? ⟨Sb, 0, none⟩ = some (.pointer (some ⟨S, 0, none⟩)) := F.cell_of (h.oth (Sb, .cells #[.pointer (some ⟨S, 0, none⟩)] 29) (by simp [hSb])).1 0
  have ho : s.other ≤ 1 := by unfold Sl.other; split <;> omega
  clear h
  go_enter Tryz.func32, Tryz.ntmps32
  go_wp2_with fail
  go_call hw as e w2 ⟨rfl, st1, lv1, o2, hwr⟩
  replace o2 : F.One b0 w0 L st1 lv1 ((S, .cells (s.next.cs M) 72) :: rest) w2 := o2
  have hq1 := hwr.quiet hq
  have hw2 := swrite_one s.next o2 (by rw [hwr.serial, hwr.session]; exact hm) hr ho (by show s.most + 1 < _; omega) ⟨#[98]⟩ (by show (1 : Nat) ≤ 640; decide) hq1.ln hq1.loose hq1.ok hq1.n hq1.n1 hq1.down hq1.there hq1.aw hq1.hw ⟨by have := hwr.c0; omega, by have := hwr.c1; omega⟩
  have c2 : w2.cell? ⟨Sb, 0, none⟩ = some (.pointer (some ⟨S, 0, none⟩)) := F.cell_of (o2.oth (Sb, .cells #[.pointer (some ⟨S, 0, none⟩)] 29) (by simp [hSb])).1 0
  have HW1 : Hid _ := hwr
  clear hw o2 hq1 hwr c1
  go_wp2_with fail
  go_call hw2 as e w3 ⟨rfl, st', lv', o3, hwr2⟩
  have O3 : Hid _ := o3
  have HW2 : Hid _ := hwr2
  clear hw2 o3 hwr2 c2
  go_wp2
  go_returns
  exact ⟨rfl, st1, st', lv', O3.out, HW1.out, HW2.out⟩
end Go.Proofs.YtknmipbjkkeebaaGreat
