/- Open of slots on a device that does all, as a call. -/
import Derived.Test.YtknmipbjkkeebaaGreatIN
namespace Go.Proofs.YtknmipbjkkeebaaGreat
open Go.RowKit
theorem rdB_len {st : F.St} {i : Nat} (h : F.SecOk st) (hi : i < st.n) : (F.rdB st i).length = 64 := by
  unfold F.rdB; rw [List.length_map]; exact F.sec_length h hi
/-- The sectors of what was read together. -/
theorem rds_at (st : F.St) (hs : F.SecOk st) (i : Nat) : ∀ k, i < k → k ≤ st.n → ((F.rdsL st 0 k).drop (i * 64)).take 64 = F.rdB st i
  | 0, h, _ => absurd h (Nat.not_lt_zero _)
  | k + 1, h, hk => by
    have hl := F.rdsL_length st 0 hs k (by omega)
    rw [F.rdsL, Nat.zero_add]
    rcases Nat.lt_or_ge i k with h1 | h1
    · rw [List.drop_append_of_le_length (by omega), List.take_append_of_le_length (by rw [List.length_drop]; omega)]
      exact rds_at st hs i k h1 (by omega)
    · obtain rfl : i = k := by omega
      rw [List.drop_append, List.drop_of_length_le (by omega), hl, show i * 64 - 64 * i = 0 by omega, List.nil_append, List.drop_zero]
      exact List.take_of_length_le (by rw [rdB_len hs (by omega)]; exact Nat.le_refl _)
theorem rds_ext (st : F.St) (hs : F.SecOk st) (i k : Nat) (h : i < k) (hk : k ≤ st.n) : (O.tx (F.rdsL st 0 k)).extract (i * 64) (i * 64 + 64) = F.rd st i := by
  apply ByteArray.ext
  apply Array.ext'
  rw [ext_list, tx_list, show i * 64 + 64 - i * 64 = 64 by omega, rds_at st hs i k h hk]
  unfold F.rd; simp
/-- What lies on the anchor. -/
structure Anc (G : Nat → Nat → Pg) (st : F.St) : Prop where
  n : 32 ≤ st.n
  n1 : st.n ≤ 1000
  ok : F.SecOk st
  tells : ∀ k, k < 2 → ∀ j, j < 16 → Tells (F.rd st (k * 16 + j)) (G k j)
  few : ∀ k, k < 2 → (G k 0).n ≤ 16
  dat : ∀ k, k < 2 → ∀ j, j < (G k 0).n → (G k j).d.size ≤ 40
theorem sopen {b0 : Nat} {w0 : World} {L : F.Loc} {st : F.St} {lv : Value} {oth : List (Nat × Obj)} {w : World} (h : F.One b0 w0 L st lv oth w) (M : Nat) (hm : (M, F.med L.P st.serial st.session) ∈ oth) (h5 : ∀ p ∈ oth, ∀ c fz, p.2 ≠ .cells c 5 fz) (G : Nat → Nat → Pg) (ha : Anc G st) (hdn : st.down = false) (ht : st.there = true) (haw : st.aw = false) (hhw : st.hw = false) (hc : 0 ≤ st.count ∧ st.count ≤ 100000) :
    Calls Tryz.prog 27 #[.pointer (some ⟨M, 0, none⟩)] w fun e w' => e = .returned (.tuple #[.pointer (some ⟨w.heap.size, 0, none⟩), .string (scan G 2).text, .bool (decide (0 < (scan G 2).found))]) ∧ ∃ lv', F.One b0 w0 L { st with count := st.count + 32 } lv' ((w.heap.size, .cells (Sl.cs { (scan G 2).sl with unsure := decide ((scan G 2).found = 2) } M) 72) :: oth) w' := by
  have h1 := h.alloc (.cells #[.pointer (some ⟨M, 0, none⟩), .int .i64 0, .int .u64 0, .int .u64 0, .bool false] 72) (F.apart_of (by decide))
  have hrd := h1.mread M (List.mem_cons_of_mem _ hm) (by
    intro p hp c fz
    rcases List.mem_cons.1 hp with rfl | hp
    · intro e; injection e with _ e _; exact absurd e (by decide)
    · exact h5 p hp c fz) 0 32 (by have := ha.n; omega) ha.n1 hdn ht haw hhw ha.ok hc
  have hx : (O.tx (F.rdsL st 0 32)).size = 2048 := by rw [tx_size, F.rdsL_length st 0 ha.ok 32 (by have := ha.n; omega)]
  refine (open_any M (O.tx (F.rdsL st 0 32)) hx G (fun w' => ∃ lv', F.One b0 w0 L { st with count := st.count + 32 } lv' ((w.heap.size, .cells #[.pointer (some ⟨M, 0, none⟩), .int .i64 0, .int .u64 0, .int .u64 0, .bool false] 72) :: oth) w') w (hrd.mono ?_) ?_ ha.few ha.dat).mono ?_
  · rintro e w' ⟨rfl, lv', ho⟩
    exact ⟨rfl, ⟨lv', ho⟩, (ho.oth _ (List.mem_cons_self ..)).1⟩
  · intro k hk j hj
    have e : ((O.tx (F.rdsL st 0 32)).extract (k * 1024) (k * 1024 + 1024)).extract (j * 64) (j * 64 + 64) = F.rd st (k * 16 + j) := by
      rw [ByteArray.extract_extract, show min (k * 1024 + (j * 64 + 64)) (k * 1024 + 1024) = (k * 16 + j) * 64 + 64 by omega, show k * 1024 + j * 64 = (k * 16 + j) * 64 by omega]
      exact rds_ext st ha.ok (k * 16 + j) 32 (by omega) ha.n
    rw [e]; exact ha.tells k hk j hj
  · rintro e w' ⟨w2, ⟨lv', ho⟩, rfl, hsb⟩
    have hlt := h.lts
    exact ⟨rfl, lv', ho.other (fun p hp => Nat.ne_of_lt (hlt p hp)) hsb.k.os hsb.k.tape hsb.k.output hsb.k.size hsb.k.block hsb.b (F.apart_of (by decide))⟩
end Go.Proofs.YtknmipbjkkeebaaGreat
