/- A past put behind the last one; what a device writes where that is so. -/
import Derived.Test.YtiohkdpmgkobiaaP1
namespace Go.Proofs.Ytiohkdpmgkobiaa
open Go.RowKit
def zpast : Value := .agg (#[.int .i64 0] ++ Array.replicate 64 (.int .u8 0))
theorem info149 : (Try.prog.info? 149).map (fun i => (i.zero, i.size, i.bytes)) = some (some zpast, 65, 72) := by kernel_rfl
set_option maxRecDepth 100000 in
theorem pinsert_end (b0 : Nat) (w : World) (v : Value) (n : Nat) (xs c : List Value) (hown : w.ownsRow b0 149 65 v n xs) (hn : n ≤ 5000) (vb : Nat) (hc : c.length = 65) (h1 : ∀ u ∈ c, u.oneCell' = true) (hvb : w.rangeAt vb 0 c) (hb : b0 ≤ w.heap.size) :
    Calls Try.prog 109 #[v, .int .i64 (n : Nat), .slice (some ⟨vb, 0, none⟩) 1 1] w fun e w' => ∃ v', e = .returned v' ∧ w'.ownsRow b0 149 65 v' (n + 1) (xs ++ c) ∧ w.grownBy w' v.ownBlock := by
  obtain ⟨i, hi, hz, hs, hby⟩ := info_parts info149
  obtain ⟨ao, cap, rfl, hnc, hm⟩ : ∃ ao cap, v = .slice ao n cap ∧ n ≤ cap ∧ cap ≤ maxLen := by
    rcases hown.2 with ⟨rfl, rfl⟩ | ⟨g, cap, cur, rfl, _, _, h3, h4, _⟩
    · exact ⟨none, 0, rfl, Nat.le_refl _, by unfold maxLen; omega⟩
    · exact ⟨_, cap, rfl, h3, h4⟩
  have hm2 : cap ≤ 9223372036854775807 := hm
  rcases Nat.eq_or_lt_of_le hnc with rfl | hlt
  · go_enter Try.func109, Try.ntmps109
    go_wp2_with (at_builtin; refine wpList_append_own _ rfl _ _ 100 rfl b0 149 i zpast 65 72 Try.underlying100 hi hz hs hby (by kernel_rfl) (by decide) _ n xs rfl hown ⟨vb, 0, none⟩ 1 1 c rfl (by rw [hc]) ?c1 h1 (by unfold maxLen; omega) (by omega) hb ?c3)
    case c1 =>
      intro j u hj
      have := hvb j u hj
      rw [Addr.add_mid]; simpa using this
    case c3 =>
      intro v' w' h1 h2 h3
      have H : Hid _ := And.intro h1 h2
      clear h1 h2 h3
      go_wp2
      go_returns
      exact ⟨v', rfl, H.out.1, H.out.2⟩
  · go_enter Try.func109, Try.ntmps109
    go_wp2_with (at_builtin; refine wpList_append_own _ rfl _ _ 100 rfl b0 149 i zpast 65 72 Try.underlying100 hi hz hs hby (by kernel_rfl) (by decide) _ n xs rfl hown ⟨vb, 0, none⟩ 1 1 c rfl (by rw [hc]) ?c1 h1 (by unfold maxLen; omega) (by omega) hb ?c3)
    case c1 =>
      intro j u hj
      have := hvb j u hj
      rw [Addr.add_mid]; simpa using this
    case c3 =>
      intro v' w' h1 h2 h3
      have H : Hid _ := And.intro h1 h2
      clear h1 h2 h3
      go_wp2
      go_returns
      exact ⟨v', rfl, H.out.1, H.out.2⟩
section
variable {b0 : Nat} {w0 : World} {L : Loc} {st : St} {lv : Value} {oth : List (Nat × Obj)} {w : World}
end
end Go.Proofs.Ytiohkdpmgkobiaa
