/- Add, Insert behind the last, Open, Loose, Size, as calls. -/
import Derived.Test.YtiohkdpmgkobiaaB
namespace Go.Proofs.Ytiohkdpmgkobiaa
open Go.RowKit

def zsec : Value := .agg (Array.replicate 64 (.int .u8 0))
theorem info147 : (Try.prog.info? 147).map (fun i => (i.zero, i.size, i.bytes)) = some (some zsec, 64, 64) := by kernel_rfl
theorem info98 : (Try.prog.info? 98).map (fun i => (i.zero, i.size, i.bytes)) = some (some (.pointer none), 1, 8) := by kernel_rfl
def secs0 (n : Nat) : Array Value := Array.replicate (n * 64) (.int .u8 0)
theorem made_secs (n : Nat) : madeCells zsec.cells (n * 64) = secs0 n := by
  have hz : zsec.cells = Array.replicate 64 (.int .u8 0) := rfl
  rw [hz]
  unfold madeCells secs0
  apply Array.ext
  · simp
  · intro k h1 h2
    simp
    rw [getElem!_pos _ _ (by simp; omega)]
    simp
theorem mk_secs (n : Nat) (hn : n ≤ 4096) (w : World) : (Instr.makeSlice 99 (.int .i64 (n : Nat)) (.int .i64 (n : Nat))).run Try.prog w = .ok (.slice (some ⟨w.heap.size, 0, none⟩) n n) (w.alloc (.cells (secs0 n) 147)) := by
  obtain ⟨i, hi, hz, hs, hb⟩ := info_parts info147
  have := run_make (P := Try.prog) w 99 147 i zsec Try.underlying99 hi hz .i64 .i64 n n (by omega) (by omega) (by rw [hb]; omega) (by omega)
  rw [hs] at this
  simp only [Int.toNat_natCast] at this
  rw [made_secs] at this
  exact this

set_option maxRecDepth 100000 in
theorem insert_end (b0 : Nat) (w : World) (v : Value) (n : Nat) (xs : List Value) (hown : w.ownsRow b0 98 1 v n xs) (hn : n ≤ 1000) (vb : Nat) (p : Option Addr) (hvb : w.cell? ⟨vb, 0, none⟩ = some (.pointer p)) (hb : b0 ≤ w.heap.size) :
    Calls Try.prog 64 #[v, .int .i64 (n : Nat), .slice (some ⟨vb, 0, none⟩) 1 1] w fun e w' => ∃ v', e = .returned v' ∧ w'.ownsRow b0 98 1 v' (n + 1) (xs ++ [.pointer p]) ∧ w.grownBy w' v.ownBlock := by
  obtain ⟨i, hi, hz, hs, hby⟩ := info_parts info98
  obtain ⟨ao, cap, rfl, hnc, hm⟩ : ∃ ao cap, v = .slice ao n cap ∧ n ≤ cap ∧ cap ≤ maxLen := by
    rcases hown.2 with ⟨rfl, rfl⟩ | ⟨g, cap, cur, rfl, _, _, h3, h4, _⟩
    · exact ⟨none, 0, rfl, Nat.le_refl _, by unfold maxLen; omega⟩
    · exact ⟨_, cap, rfl, h3, h4⟩
  have hm2 : cap ≤ 9223372036854775807 := hm
  rcases Nat.eq_or_lt_of_le hnc with rfl | hlt
  · go_enter Try.func64, Try.ntmps64
    go_wp2_with (at_builtin; refine wpList_append_own _ rfl _ _ 91 rfl b0 98 i (.pointer none) 1 8 Try.underlying91 hi hz hs hby rfl (by decide) _ n xs rfl hown ⟨vb, 0, none⟩ 1 1 [.pointer p] rfl rfl ?c1 ?c2 (by unfold maxLen; omega) (by omega) hb ?c3)
    case c1 =>
      intro j u hj
      cases j with
      | zero => simp at hj; subst hj; exact hvb
      | succ j => simp at hj
    case c2 =>
      intro u hu
      simp at hu
      subst hu
      rfl
    case c3 =>
      intro v' w' h1 h2 h3
      have H : Hid _ := And.intro h1 h2
      clear h1 h2 h3
      go_wp2
      go_returns
      exact ⟨v', rfl, H.out.1, H.out.2⟩
  · go_enter Try.func64, Try.ntmps64
    go_wp2_with (at_builtin; refine wpList_append_own _ rfl _ _ 91 rfl b0 98 i (.pointer none) 1 8 Try.underlying91 hi hz hs hby rfl (by decide) _ n xs rfl hown ⟨vb, 0, none⟩ 1 1 [.pointer p] rfl rfl ?c1 ?c2 (by unfold maxLen; omega) (by omega) hb ?c3)
    case c1 =>
      intro j u hj
      cases j with
      | zero => simp at hj; subst hj; exact hvb
      | succ j => simp at hj
    case c2 =>
      intro u hu
      simp at hu
      subst hu
      rfl
    case c3 =>
      intro v' w' h1 h2 h3
      have H : Hid _ := And.intro h1 h2
      clear h1 h2 h3
      go_wp2
      go_returns
      exact ⟨v', rfl, H.out.1, H.out.2⟩
end Go.Proofs.Ytiohkdpmgkobiaa
