/- The sums of one, two and three texts, the cutting of a text, and the fixed fact, as calls; no conditions but that texts are as long as a text may be. -/
import Derived.Test.YteojllilcejnhaaB
namespace Go.Proofs.Yteojllilcejnhaa
open Go.RowKit

theorem Grown.step {W a b : World} (h : Grown W a) (k : Grown a b) : Grown W b :=
  ⟨World.keptBut_trans h.1 k.1, fun x => (k.2.1 x).trans (h.2.1 x), Nat.le_trans h.2.2 k.2.2⟩

theorem of1 (s : ByteArray) (b : Nat) (w : World) (hs : s.size ≤ 9223372036854775807) (h0 : w.cell? ⟨b, 0, none⟩ = some (.string s)) :
    Calls Try.prog 9 #[.slice (some ⟨b, 0, none⟩) 1 1] w fun e w' => e = .returned (.int .u32 (onN 0 s)) ∧ w' = w :=
  of_any (fun _ => s) 1 b (by decide) (fun _ => hs) _ (fun j hj => by
    obtain rfl : j = 0 := by omega
    exact h0)
theorem of2 (s t : ByteArray) (b : Nat) (w : World) (hs : s.size ≤ 9223372036854775807) (ht : t.size ≤ 9223372036854775807) (h0 : w.cell? ⟨b, 0, none⟩ = some (.string s)) (h1 : w.cell? ⟨b, 1, none⟩ = some (.string t)) :
    Calls Try.prog 9 #[.slice (some ⟨b, 0, none⟩) 2 2] w fun e w' => e = .returned (.int .u32 (onN (onN 0 s) t)) ∧ w' = w :=
  of_any (fun j => if j = 0 then s else t) 2 b (by decide) (fun j => by split <;> assumption) _ (fun j hj => by
    rcases (show j = 0 ∨ j = 1 by omega) with rfl | rfl
    · exact h0
    · exact h1)
theorem of3 (s t u : ByteArray) (b : Nat) (w : World) (hs : s.size ≤ 9223372036854775807) (ht : t.size ≤ 9223372036854775807) (hu : u.size ≤ 9223372036854775807) (h0 : w.cell? ⟨b, 0, none⟩ = some (.string s)) (h1 : w.cell? ⟨b, 1, none⟩ = some (.string t)) (h2 : w.cell? ⟨b, 2, none⟩ = some (.string u)) :
    Calls Try.prog 9 #[.slice (some ⟨b, 0, none⟩) 3 3] w fun e w' => e = .returned (.int .u32 (onN (onN (onN 0 s) t) u)) ∧ w' = w :=
  of_any (fun j => if j = 0 then s else if j = 1 then t else u) 3 b (by decide) (fun j => by split; assumption; split <;> assumption) _ (fun j hj => by
    rcases (show j = 0 ∨ j = 1 ∨ j = 2 by omega) with rfl | rfl | rfl
    · exact h0
    · exact h1
    · exact h2)

theorem extract_all (s : ByteArray) (n : Nat) (h : s.size ≤ n) : s.extract 0 n = s := by
  apply ByteArray.ext
  rw [ByteArray.data_extract, Array.extract_eq_self_of_le h]

set_option maxHeartbeats 400000 in
theorem cut_any (s : ByteArray) (n : Nat) (hn : n ≤ 1000) (w : World) :
    Calls Try.prog 8 #[.string s, .int .i64 n] w fun e w' => e = .returned (.string (s.extract 0 n)) ∧ w' = w := by
  go_enter Try.func8, Try.ntmps8
  go_wp2
  · go_ret
    exact ⟨rfl, rfl⟩
  · have hge : ¬ n < s.size := by assumption
    go_ret
    refine ⟨?_, rfl⟩
    rw [extract_all s n (by omega)]
    rfl
theorem cut_200 (s : ByteArray) (w : World) :
    Calls Try.prog 8 #[.string s, .int .i64 200] w fun e w' => e = .returned (.string (s.extract 0 200)) ∧ w' = w := cut_any s 200 (by decide) w

theorem sum9 : onN 0 ⟨#[49, 50, 51, 52, 53, 54, 55, 56, 57]⟩ = 3808858755 := by decide +kernel

set_option maxHeartbeats 400000 in
theorem awake_any (w : World) :
    Calls Try.prog 7 #[] w fun e w' => e = .returned (.bool true) ∧ Grown w w' := by
  have h9 := sum9
  go_enter Try.func7, Try.ntmps7
  go_wp2_with fail
  go_call (of1 ⟨#[49, 50, 51, 52, 53, 54, 55, 56, 57]⟩ w.heap.size _ (by decide) (by simp [go_sem])) as e w1 ⟨rfl, rfl⟩
  go_wp2_with fail
  go_call (of_nil _) as e w2 ⟨rfl, rfl⟩
  go_wp2
  go_ret
  exact ⟨rfl, by go_grown⟩
end Go.Proofs.Yteojllilcejnhaa
