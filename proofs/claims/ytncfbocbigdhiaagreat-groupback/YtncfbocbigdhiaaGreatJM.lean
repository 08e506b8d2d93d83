/- same: texts held against themselves, as they lie in two rows. -/
import Derived.Test.YtncfbocbigdhiaaGreatJL
namespace Go.Proofs.YtncfbocbigdhiaaGreat
open Go.RowKit
theorem Txs.cellN {v : Value} {xs : List ByteArray} {ol : List (Nat × Obj)} (h : Txs v xs ol) {W : World} (ho : ∀ p ∈ ol, W.heap[p.1]? = some p.2) :
    ∃ ao cp g, v = .slice ao xs.length cp ∧ (0 < xs.length → ao = some ⟨g, 0, none⟩) ∧ ∀ k j (hj : j < xs.length), (W.drewN k).cell? ⟨g, j, none⟩ = some (.string xs[j]) := by
  obtain ⟨ao, cp, g, h1, h2, h3⟩ := h.cell ho
  exact ⟨ao, cp, g, h1, h2, fun k j hj => h3 j hj⟩
set_option maxHeartbeats 2000000 in
set_option maxRecDepth 100000 in
theorem same_yes {v u : Value} {xs : List ByteArray} {ol ol2 : List (Nat × Obj)} (h : Txs v xs ol) (h2 : Txs u xs ol2) (hl : xs.length ≤ 1000) (W : World) (ho : ∀ p ∈ ol, W.heap[p.1]? = some p.2) (ho2 : ∀ p ∈ ol2, W.heap[p.1]? = some p.2) :
    Calls Tryz.prog 21 #[v, u] W fun e w' => e = .returned (.bool true) ∧ Below W.heap.size W w' := by
  obtain ⟨ao, cp, g, rfl, ha, hc⟩ := h.cellN ho
  obtain ⟨ao2, cp2, g2, rfl, ha2, hc2⟩ := h2.cellN ho2
  have HA : Hid _ := ha
  have HA2 : Hid _ := ha2
  have HC : Hid _ := hc
  have HC2 : Hid _ := hc2
  obtain ⟨n, hn⟩ : ∃ n, n = xs.length := ⟨_, rfl⟩
  have HN : Hid _ := hn
  rw [← hn] at hl ⊢
  clear h h2 ho ho2 ha ha2 hc hc2 hn
  go_enter Tryz.func21, Tryz.ntmps21
  go_wp2
  go_loopw [13] (fun iv wr => ∃ i : Nat, iv = .int .i64 (i : Nat) ∧ i ≤ n ∧ Hid (∃ k, wr = W.drewN k)) (fun iv _ => n - (intOf iv).toNat)
  case atStart => exact ⟨0, rfl, Nat.zero_le _, ⟨0, rfl⟩⟩
  case round =>
    obtain ⟨i, rfl, hin, HW⟩ := hrel
    rcases Nat.eq_or_lt_of_le hin with rfl | hlt
    · go_wp2
      go_returns
      obtain ⟨k, rfl⟩ := HW.out
      exact ⟨rfl, ⟨rfl, rfl, rfl, Nat.le_refl _, fun _ _ => rfl⟩⟩
    · obtain ⟨k, hk⟩ := HW.out
      have hi : i < xs.length := by rw [← HN.out]; exact hlt
      obtain rfl := HA.out (by omega)
      obtain rfl := HA2.out (by omega)
      obtain ⟨x, hx⟩ : ∃ x, x = xs[i] := ⟨_, rfl⟩
      have q1 : ∀ m, (wr.drewN m).cell? ⟨g, i, none⟩ = some (.string x) := fun m => by rw [hx, hk]; exact HC.out (k + m) i hi
      have q2 : ∀ m, (wr.drewN m).cell? ⟨g2, i, none⟩ = some (.string x) := fun m => by rw [hx, hk]; exact HC2.out (k + m) i hi
      clear hx hk
      go_wp2_with fail
      go_quiet (fail)
      have HW2 : Hid (∃ k2, wr.drewN nq = W.drewN k2) := by
        obtain ⟨k, hk⟩ := HW.out
        exact ⟨k + nq, by rw [hk]; first | rfl | (simp [World.drewN]; omega) | simp⟩
      clear q1 q2
      go_wp2
      go_roundw
      case rel => exact ⟨i + 1, by congr 1, by omega, HW2⟩
      case measure =>
        show n - ((i : Int) + 1).toNat < n - ((i : Nat) : Int).toNat
        omega
end Go.Proofs.YtncfbocbigdhiaaGreat
