/- An operation on a device that is gone; filled; Of; as calls. -/
import Derived.Test.YtiohkdpmgkobiaaH
import Derived.Test.YtiohkdpmgkobiaaS
namespace Go.Proofs.Ytiohkdpmgkobiaa
open Go.RowKit
def hnd (s q : Int) : Value := .agg #[.int .i64 s, .int .i64 q]
section
variable {b0 : Nat} {w0 : World} {L : Loc} {st : St} {lv : Value} {oth : List (Nat × Obj)} {w : World}
theorem One.drewN (h : One b0 w0 L st lv oth w) (n : Nat) : One b0 w0 L st lv oth (w.drewN n) := h.ofBelow ⟨rfl, rfl, rfl, Nat.le_refl _, fun _ _ => rfl⟩
set_option maxHeartbeats 1000000 in
theorem One.operate_gone (h : One b0 w0 L st lv oth w) (q : Int) (hdn : st.down = false) (hg : (decide (st.there = false) || decide (¬ st.session = q)) = true) (v1 v2 : Value) :
    Calls Try.prog 66 #[.pointer (some ⟨L.P, 0, none⟩), hnd st.serial q, v1, v2] w fun e w' => e = .returned (.int .i64 8) ∧ One b0 w0 L st lv oth w' := by
  have hl := fun o => h.laid o
  have hf := fun o => (hl o).find
  have hd1 := fun o => (hl o).dc.2.1
  have hd2 := fun o => (hl o).dc.2.2.1
  have hp3 := fun o => (hl o).pc.2.2.2.1
  rw [hdn] at hp3
  have HL : Hid _ := hl
  clear hl h
  unfold hnd
  by_cases ht : st.there = false
  · rw [ht] at hd2
    go_enter Try.func66, Try.ntmps66
    go_wp2_with fail
    go_call (hf _) as e w1 ⟨rfl, rfl⟩
    clear hf
    go_wp2
    go_quiet (fail)
    go_wp2
    go_returns
    exact ⟨rfl, (HL.out _).drewN _⟩
  · have ht2 : st.there = true := by simpa using ht
    have hs : ¬ st.session = q := by simpa [ht2] using hg
    rw [ht2] at hd2
    go_enter Try.func66, Try.ntmps66
    go_wp2_with fail
    go_call (hf _) as e w1 ⟨rfl, rfl⟩
    clear hf
    go_wp2
    go_quiet (fail)
    go_wp2
    go_returns
    exact ⟨rfl, (HL.out _).drewN _⟩
end
end Go.Proofs.Ytiohkdpmgkobiaa
