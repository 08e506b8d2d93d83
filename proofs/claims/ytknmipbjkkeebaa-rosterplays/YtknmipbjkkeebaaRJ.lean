/- slices.Grow, slices.Concat of two, as calls. -/
import Derived.Test.YtknmipbjkkeebaaRH
namespace Go.Proofs.Ytknmipbjkkeebaa
open Go.RowKit
set_option maxRecDepth 100000 in
theorem grow_any (n : Nat) (hn : n ≤ 1000) (w : World) : Calls Try.prog 103 #[.slice none 0 0, .int .i64 (n : Nat)] w fun e w' => ∃ v', e = .returned v' ∧ w'.ownsRow w.heap.size 85 3 v' 0 [] ∧ Below w.heap.size w w' := by
  obtain ⟨i, hi, hz, hs, hby⟩ := info_parts mbinfo
  rcases Nat.eq_zero_or_pos n with rfl | hpos
  · go_enter Try.func103, Try.ntmps103
    go_wp2
    go_returns
    exact ⟨_, rfl, World.ownsRow_nil _ _ _ _, Below.refl _ _⟩
  · have hap := fun ty => Lib.run_append_nil_zeros (P := Try.prog) w 70 3 ty 85 i mbz .i64 .i64 Try.underlying70 Try.underlying3 hi hz n hpos (by rw [hs]; decide) (by omega) (by rw [hby]; omega)
    have hzc : (mbz.cells).size = 3 := by kernel_rfl
    obtain ⟨G, hG⟩ : ∃ G, G = grownCap w n 0 85 := ⟨_, rfl⟩
    have hGn : n ≤ G := by rw [hG]; exact grownCap_ge w _ _ _
    have hGm : G ≤ maxLen := by rw [hG]; exact grownCap_le_maxLen w n 0 85 (by unfold maxLen; omega)
    rw [← hG] at hap
    obtain ⟨ROW, hROW⟩ : ∃ ROW : Array Value, ROW = Builtin.zeroCells mbz.cells n ++ Builtin.zeroCells mbz.cells (G - n) := ⟨_, rfl⟩
    rw [← hROW] at hap
    have hRs : ROW.size = G * 3 := by rw [hROW, Array.size_append, size_zeroCells, size_zeroCells, hzc, ← Nat.add_mul]; congr 1; omega
    have HF : Hid ((w.drew.alloc (.cells ROW 85)).ownsRow w.heap.size 85 3 (.slice (some ⟨w.heap.size, 0, none⟩) 0 G) 0 [] ∧ Below w.heap.size w (w.drew.alloc (.cells ROW 85))) :=
      ⟨World.ownsRow_made w.drew ROW G (Nat.le_refl _) hGm hRs, (Below.refl _ w).drew.alloc (Nat.le_refl _) _⟩
    have hGp : 0 < G := by omega
    have hG63 : G ≤ 9223372036854775807 := hGm
    clear hG hROW hRs hzc hGm
    go_enter Try.func103, Try.ntmps103
    go_wp2_with (at_builtin; refine Lib.wpList_append_run _ rfl _ _ _ _ rfl _ _ rfl rfl _ _ (hap _) ?_)
    go_returns
    exact ⟨_, rfl, HF.out⟩
def cN (nn : Nat → Nat) : Nat → Nat
  | 0 => 0
  | k + 1 => cN nn k + nn k
def cL (xs : Nat → List Value) : Nat → List Value
  | 0 => []
  | k + 1 => cL xs k ++ xs k
set_option maxHeartbeats 2000000 in
set_option maxRecDepth 100000 in
theorem concat_any (Q : Nat) (aa : Nat → Addr) (nn cc : Nat → Nat) (xs : Nat → List Value) (w : World) (hQ : ∀ k, k < 2 → w.cell? ⟨Q, k, none⟩ = some (.slice (some (aa k)) (nn k) (cc k))) (hn : nn 0 + nn 1 ≤ 500)
    (hl : ∀ k, k < 2 → (xs k).length = nn k * 3) (h1 : ∀ k, k < 2 → ∀ u ∈ xs k, u.oneCell' = true) (hx : ∀ k, k < 2 → ∀ j u, (xs k)[j]? = some u → w.cell? ((aa k).add j) = some u ∧ (aa k).block < w.heap.size) (hQl : Q < w.heap.size) :
    Calls Try.prog 80 #[.slice (some ⟨Q, 0, none⟩) 2 2] w fun e w' => ∃ v', e = .returned v' ∧ w'.ownsRow w.heap.size 85 3 v' (nn 0 + nn 1) (xs 0 ++ xs 1) ∧ Below w.heap.size w w' := by
  obtain ⟨i0, hi0, hz0, hs0, hby0⟩ := info_parts mbinfo
  have q0 := hQ 0 (by decide)
  have q1 := hQ 1 (by decide)
  have HX : Hid _ := hx
  have HL : Hid _ := hl
  have HO : Hid _ := h1
  have HQ : Hid _ := hQ
  clear hx hl h1 hQ
  have e0 : nn 0 ≤ 500 := by omega
  have e1 : nn 1 ≤ 500 := by omega
  have hgr := grow_any (nn 0 + nn 1) (by omega) w
  rw [show ((nn 0 + nn 1 : Nat) : Int) = (nn 0 : Int) + (nn 1 : Int) by omega] at hgr
  go_enter Try.func80, Try.ntmps80
  go_wp2
  go_loop [3, 11] (fun s i => (i = .int .i64 0 ∧ s = .int .i64 0) ∨ (i = .int .i64 1 ∧ s = .int .i64 (nn 0 : Nat)) ∨ (i = .int .i64 2 ∧ s = .int .i64 ((nn 0 : Int) + (nn 1 : Int)))) (fun _ i => 2 - (intOf i).toNat)
  case atStart => exact Or.inl ⟨rfl, rfl⟩
  case round =>
    rcases hrel with ⟨rfl, rfl⟩ | ⟨rfl, rfl⟩ | ⟨rfl, rfl⟩
    · clear hgr
      go_wp2
      go_round
      case rel => exact Or.inr (Or.inl ⟨rfl, rfl⟩)
      case measure => simp [intOf]
    · clear hgr
      go_wp2
      go_round
      case rel => exact Or.inr (Or.inr ⟨rfl, rfl⟩)
      case measure => simp [intOf]
    · go_wp2_with fail
      go_call hgr as e w1 ⟨v1, rfl, ho1, hb1⟩
      clear hgr q0 q1
      have H0 : Hid (Below w.heap.size w w1 ∧ w1.ownsRow w.heap.size 85 3 v1 0 []) := ⟨hb1, ho1⟩
      clear ho1 hb1
      go_wp2
      go_loopw [6, 27] (fun v i wr => ∃ k : Nat, k ≤ 2 ∧ i = .int .i64 (k : Nat) ∧ Hid (Below w.heap.size w wr ∧ wr.ownsRow w.heap.size 85 3 v (cN nn k) (cL xs k))) (fun _ i _ => 2 - (intOf i).toNat)
      case atStart => exact ⟨0, by omega, rfl, H0⟩
      case round =>
        clear H0
        obtain ⟨k, hk, rfl, HI⟩ := hrel
        rcases Nat.lt_or_ge k 2 with hk2 | hk2
        · have hcn : cN nn k ≤ 500 := by
            rcases Nat.lt_or_ge k 1 with h | h
            · obtain rfl : k = 0 := by omega
              exact Nat.zero_le _
            · obtain rfl : k = 1 := by omega
              show 0 + nn 0 ≤ 500; omega
          have hnk : nn k ≤ 500 := by
            rcases Nat.lt_or_ge k 1 with h | h
            · obtain rfl : k = 0 := by omega
              exact e0
            · obtain rfl : k = 1 := by omega
              exact e1
          have qk := (HI.out.1.cell (by exact hQl)).trans (HQ.out k hk2)
          have hown := HI.out.2
          have HB : Hid (Below w.heap.size w wr) := HI.out.1
          have hxk : ∀ j u, (xs k)[j]? = some u → wr.cell? ((aa k).add j) = some u := fun j u hj => by
            have h2 := HX.out k hk2 j u hj
            exact (HB.out.cell (by unfold Addr.add; split <;> exact h2.2)).trans h2.1
          have hlk := HL.out k hk2
          have h1k := HO.out k hk2
          have HE : Hid (cN nn (k + 1) = cN nn k + nn k ∧ cL xs (k + 1) = cL xs k ++ xs k) := ⟨rfl, rfl⟩
          generalize xs k = ys at *
          generalize nn k = m at *
          generalize aa k = av at *
          generalize cc k = cv at *
          generalize cN nn k = N at *
          generalize cL xs k = Ls at *
          obtain ⟨la, lc, rfl⟩ := own_slice hown
          clear HI
          go_wp2_with (at_builtin; refine wpList_append_own _ rfl _ _ 70 rfl w.heap.size 85 i0 mbz 3 24 Try.underlying70 hi0 hz0 hs0 hby0 (by kernel_rfl) (by decide) _ N Ls rfl hown av m cv ys rfl hlk hxk h1k (by unfold maxLen; omega) (by omega) HB.out.size ?c3)
          case c3 =>
            intro v' w' g1 g2 g3
            have H1 : Hid (Below w.heap.size w w' ∧ w'.ownsRow w.heap.size 85 3 v' (N + m) (Ls ++ ys)) := ⟨HB.out.grown g2 HB.out.size (fun q hq => (hown.lt q hq).1), g1⟩
            clear g1 g2 g3 hown
            go_wp2
            go_roundw
            case rel => exact ⟨k + 1, by omega, rfl, H1.out.1, by rw [HE.out.1, HE.out.2]; exact H1.out.2⟩
            case measure => simp only [intOf]; omega
        · obtain rfl : k = 2 := by omega
          obtain ⟨la, lc, hlv⟩ := own_slice HI.out.2
          have HE : Hid _ := HI.out
          clear HI
          go_wp2
          go_returns
          refine ⟨_, rfl, ?_, HE.out.1⟩
          have h2 := HE.out.2
          have e2 : cN nn 2 = nn 0 + nn 1 := by show 0 + nn 0 + nn 1 = _; omega
          have e3 : cL xs 2 = xs 0 ++ xs 1 := by show [] ++ xs 0 ++ xs 1 = _; simp
          rw [e2, e3] at h2
          exact h2
end Go.Proofs.Ytknmipbjkkeebaa
