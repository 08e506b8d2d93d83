/- Active, as a call. -/
import Derived.Test.YtknmipbjkkeebaaRG
namespace Go.Proofs.Ytknmipbjkkeebaa
open Go.RowKit
/-- The serials of those that are active. -/
def acs : List Mb → List Value
  | [] => []
  | m :: l => (if m.t = 1 then [.int .i64 m.s] else []) ++ acs l
theorem acs_append : ∀ a b, acs (a ++ b) = acs a ++ acs b
  | [], _ => rfl
  | m :: l, b => by rw [List.cons_append, acs, acs, acs_append l b, List.append_assoc]
theorem acs_succ (l : List Mb) (k : Nat) (hk : k < l.length) : acs (l.take (k + 1)) = acs (l.take k) ++ acs [mbAt l k] := by
  rw [List.take_add_one, acs_append, List.getElem?_eq_getElem hk]
  unfold mbAt
  rw [show l.getD k ⟨0, 0, 0⟩ = l[k] by simp [hk]]
  rfl
theorem acs_len : ∀ l, (acs l).length ≤ l.length
  | [] => Nat.le_refl _
  | m :: l => by
    rw [acs, List.length_append, List.length_cons]
    have := acs_len l
    split <;> simp <;> omega
theorem acs_le (l : List Mb) (k : Nat) : (acs (l.take k)).length ≤ k := by
  have := acs_len (l.take k)
  rw [List.length_take] at this
  omega
set_option maxHeartbeats 2000000 in
set_option maxRecDepth 100000 in
theorem active_any (r : Ro) (v : Value) (w : World) (h : MIs w 0 v r.ms) (hn : r.ms.length ≤ 16) : Calls Try.prog 84 #[r.val v] w fun e w' => ∃ v', e = .returned v' ∧ w'.ownsRow w.heap.size 3 1 v' (acs r.ms).length (acs r.ms) ∧ Below w.heap.size w w' := by
  obtain ⟨i0, hi0, hz0, hs0, hby0⟩ := info_parts info3
  obtain ⟨ao, cp, hv⟩ := own_slice h
  have HM : Hid _ := h
  subst hv
  clear h
  obtain ⟨n, hnn⟩ : ∃ n, n = r.ms.length := ⟨_, rfl⟩
  have HN : Hid _ := hnn
  unfold Ro.val Ro.arr
  rw [← hnn] at hn ⊢
  clear hnn
  have H0 : Hid (∃ W : World, W = w.alloc (.cells #[.int .u64 (r.c : Nat), .int .u64 (r.e : Nat), .int .u64 (r.l : Nat), .int .u64 (r.j : Nat), .slice ao n cp] 72) ∧ Below w.heap.size w W) := ⟨_, rfl, (Below.refl _ w).alloc (Nat.le_refl _) _⟩
  go_enter Try.func84, Try.ntmps84
  go_wp2
  go_loopw [3, 9] (fun l i wr => ∃ k : Nat, k ≤ n ∧ i = .int .i64 (k : Nat) ∧ Hid (Below w.heap.size w wr ∧ wr.ownsRow w.heap.size 3 1 l (acs (r.ms.take k)).length (acs (r.ms.take k)))) (fun _ i _ => n - (intOf i).toNat)
  case atStart =>
    obtain ⟨W, rfl, h1⟩ := H0.out
    exact ⟨0, by omega, rfl, h1, by simp only [List.take_zero]; exact World.ownsRow_nil _ _ _ _⟩
  case round =>
    clear H0
    obtain ⟨k, hk, rfl, HI⟩ := hrel
    rcases Nat.lt_or_ge k n with hkn | hkn
    · obtain ⟨g, hg⟩ : ∃ g, ao = some ⟨g, 0, none⟩ := by
        rcases HM.out.2 with ⟨_, h0⟩ | ⟨g, cap, cur, e0, _⟩
        · have := HN.out; omega
        · injection e0 with e0 _ _; exact ⟨g, e0⟩
      subst hg
      have hmem : k < r.ms.length := by rw [← HN.out]; exact hkn
      have hgT : g < w.heap.size := (HM.out.lt g rfl).2
      obtain ⟨c0, c1, c2⟩ := MIs.at3 HM.out k hmem
      replace c0 := (HI.out.1.cell (by exact hgT)).trans c0
      replace c1 := (HI.out.1.cell (by exact hgT)).trans c1
      replace c2 := (HI.out.1.cell (by exact hgT)).trans c2
      obtain ⟨la, lc, hlv⟩ := own_slice HI.out.2
      have hown := HI.out.2
      have HS : Hid (acs (r.ms.take (k + 1)) = acs (r.ms.take k) ++ acs [mbAt r.ms k]) := acs_succ _ _ hmem
      have HLn : Hid ((acs (r.ms.take k)).length ≤ k) := acs_le _ _
      have HB : Hid (Below w.heap.size w wr) := HI.out.1
      generalize mbAt r.ms k = m at *
      generalize acs (r.ms.take k) = xs at *
      obtain ⟨q, hq⟩ : ∃ q, q = xs.length := ⟨_, rfl⟩
      rw [← hq] at hown hlv HLn
      have HQ : Hid _ := hq
      clear hq
      have hqk : q ≤ k := HLn.out
      subst hlv
      have ho2 : ∀ o1 o2, ((wr.alloc o1).alloc o2).ownsRow w.heap.size 3 1 (.slice la q lc) q xs := fun o1 o2 => (hown.alloc o1).alloc o2
      have hsz : ∀ o1 o2, w.heap.size ≤ ((wr.alloc o1).alloc o2).heap.size := fun o1 o2 => by have := HB.out.size; simp; omega
      have hnew : ∀ o1 (x : Value) t, ((wr.alloc o1).alloc (.cells #[x] t)).cell? ⟨wr.heap.size + 1, 0, none⟩ = some x := fun o1 x t => by rw [cell_of (heap_alloc2_new wr o1 _)]; rfl
      have HO1 : Hid (∀ o, (wr.alloc o).ownsRow w.heap.size 3 1 (.slice la q lc) q xs) := fun o => hown.alloc o
      have HO2 : Hid _ := ho2
      have HSZ : Hid _ := hsz
      have HNW : Hid _ := hnew
      clear HI hown ho2 hsz hnew
      by_cases ht1 : m.t = 1
      · rw [ht1] at c2
        clear HLn
        go_wp2_with (at_builtin; refine wpList_append_own _ rfl _ _ 23 rfl w.heap.size 3 i0 (.int .i64 0) 1 8 Try.underlying23 hi0 hz0 hs0 hby0 rfl (by decide) _ q xs rfl (HO2.out _ _) ⟨wr.heap.size + 1, 0, none⟩ 1 1 [.int .i64 m.s] rfl rfl ?c1 ?c2 (by unfold maxLen; omega) (by omega) (HSZ.out _ _) ?c3)
        case c1 =>
          intro j u hj
          cases j with
          | zero => simp at hj; subst hj; exact HNW.out _ _ _
          | succ j => simp at hj
        case c2 =>
          intro u hu
          simp at hu
          subst hu
          rfl
        case c3 =>
          intro v' w' h1 h2 h3
          have H1 : Hid (Below w.heap.size w w' ∧ w'.ownsRow w.heap.size 3 1 v' (q + 1) (xs ++ [.int .i64 m.s])) := by
            refine ⟨(((HB.out.alloc HB.out.size _).alloc (by have := HB.out.size; simp; omega) _)).grown h2 (HSZ.out _ _) (fun q hq => ((HO2.out (.cells #[] 3) (.cells #[] 3)).lt q hq).1), h1⟩
          clear h1 h2 h3 HO2 HSZ HNW c0 c1 c2
          go_wp2
          go_roundw
          case rel => exact ⟨k + 1, by omega, rfl, H1.out.1, by rw [HS.out, show acs [m] = [.int .i64 m.s] by simp [acs, ht1]]; rw [List.length_append, ← HQ.out]; exact H1.out.2⟩
          case measure => simp only [intOf]; omega
      · have HBN : Hid (∀ o, Below w.heap.size w (wr.alloc o) ∧ (wr.alloc o).ownsRow w.heap.size 3 1 (.slice la q lc) q xs) := fun o => ⟨HB.out.alloc HB.out.size _, HO1.out o⟩
        clear HO2 HSZ HNW
        go_wp2
        go_roundw
        case rel => exact ⟨k + 1, by omega, rfl, (HBN.out _).1, by rw [HS.out, show acs [m] = [] by simp [acs, ht1], List.append_nil, ← HQ.out]; exact (HBN.out _).2⟩
        case measure => simp only [intOf]; omega
    · obtain rfl : k = n := by omega
      obtain ⟨la, lc, hlv⟩ := own_slice HI.out.2
      have HE : Hid _ := HI.out
      clear HI
      go_wp2
      go_returns
      have q2 := HE.out.2
      rw [List.take_of_length_le (by rw [← HN.out]; exact Nat.le_refl _)] at q2
      exact ⟨_, rfl, q2, HE.out.1⟩
end Go.Proofs.Ytknmipbjkkeebaa
