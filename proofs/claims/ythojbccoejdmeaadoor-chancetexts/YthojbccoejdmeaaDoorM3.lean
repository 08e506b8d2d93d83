/- What ParseUint answers of sixteen digits, and its public way. -/
import Derived.Test.YthojbccoejdmeaaDoorM
import Derived.Test.YthojbccoejdmeaaDoorM2
namespace Go.Proofs.YthojbccoejdmeaaDoor
open Go.RowKit

theorem dg_hxd (k : Nat) (hk : k < 16) : dg (hxd k) = some k := by
  have : ∀ k, k < 16 → dg (hxd k) = some k := by decide
  exact this k hk
theorem dg_lt {c d : Nat} (h : dg c = some d) : d < 16 := by
  unfold dg at h
  split at h
  · injection h; omega
  · split at h
    · injection h; omega
    · cases h
theorem ph_lt (l : List UInt8) : ∀ acc u, acc < 18446744073709551616 → ph acc l = .ok u → u < 18446744073709551616 := by
  induction l with
  | nil => intro acc u ha h; rw [ph] at h; injection h; omega
  | cons c cs ih =>
    intro acc u ha h
    rw [ph] at h
    cases hd : dg c.toNat with
    | none => rw [hd] at h; cases h
    | some d =>
      rw [hd] at h
      have := dg_lt hd
      simp only at h
      split at h
      · cases h
      · exact ih _ _ (by omega) h
theorem htl_succ (u n : Nat) : htl u (n + 1) = UInt8.ofNat (hxd (ud u n)) :: htl u n := by
  unfold htl
  simp [List.range_succ_eq_map, Function.comp_def]
  intro a ha
  congr 3
  omega
theorem ph_hex (a : Nat) (ha : a < 18446744073709551616) (n : Nat) (hn : n ≤ 16) : ph (ux a n) (htl a n) = .ok a := by
  induction n with
  | zero => rw [ux_zero]; rfl
  | succ n ih =>
    rw [htl_succ, ph]
    have hl := ud_lt a n
    have e1 : (UInt8.ofNat (hxd (ud a n))).toNat = hxd (ud a n) := by
      have := hxd_lt _ hl
      simp [UInt8.toNat_ofNat']
      omega
    have hs := ux_succ a n
    have hle := ux_le a n
    have hud : ux a n % 16 = ud a n := rfl
    rw [e1, dg_hxd _ hl]
    simp only
    rw [if_neg (by omega), show ux a (n + 1) * 16 + ud a n = ux a n by omega]
    exact ih (by omega)
theorem ph_hex16 (a : Nat) (ha : a < 18446744073709551616) : ph 0 (htx a 16).data.toList = .ok a := by
  have h := ph_hex a ha 16 (by omega)
  have h0 : ux a 16 = 0 := by unfold ux; omega
  rw [h0] at h
  exact h

set_option maxRecDepth 100000 in
theorem pu_empty (w : World) :
    Calls Tryd.prog 50 #[.string ⟨#[]⟩, .int .i64 16, .int .i64 64] w fun e w' => e = .returned (tup .syn) ∧ w' = w := by
  go_enter Tryd.func50, Tryd.ntmps50
  go_wp2
  go_returns
  exact ⟨rfl, rfl⟩
def phs (s : ByteArray) : PR := if s.size = 0 then .syn else ph 0 s.data.toList
theorem pu_any (s : ByteArray) (hs : s.size ≤ 1000) (w : World) :
    Calls Tryd.prog 50 #[.string s, .int .i64 16, .int .i64 64] w fun e w' => e = .returned (tup (phs s)) ∧ Below w.heap.size w w' := by
  by_cases h : s.size = 0
  · have : s = ⟨#[]⟩ := by
      apply ByteArray.ext
      exact Array.eq_empty_of_size_eq_zero h
    subst this
    exact Calls.mono (pu_empty w) fun e w' ⟨h1, h2⟩ => by subst h2; exact ⟨h1, Below.refl _ _⟩
  · refine Calls.mono (pu_in s h hs w) fun e w' ⟨h1, h2⟩ => ?_
    subst h2
    exact ⟨by rw [h1]; unfold phs; rw [if_neg h], Lib.bytesWorld_below _ _ _⟩

structure Errs (w : World) : Prop where
  syn : ∃ ev, w.cell? ⟨2, 0, none⟩ = some ev ∧ (ev = .nilIface ∨ ∃ te pe, ev = .iface te pe)
  rng : ∃ ev, w.cell? ⟨3, 0, none⟩ = some ev ∧ (ev = .nilIface ∨ ∃ te pe, ev = .iface te pe)
  big : 6 < w.heap.size
theorem Errs.below {w w' : World} (h : Errs w) (hb : Below w.heap.size w w') : Errs w' := by
  obtain ⟨⟨e1, a1, b1⟩, ⟨e2, a2, b2⟩, h3⟩ := h
  refine ⟨⟨e1, ?_, b1⟩, ⟨e2, ?_, b2⟩, Nat.lt_of_lt_of_le h3 hb.size⟩
  · rw [hb.cell (show 2 < w.heap.size by omega)]; exact a1
  · rw [hb.cell (show 3 < w.heap.size by omega)]; exact a2

def PuSays (s : ByteArray) (e : Ending) : Prop :=
  (∃ u : Nat, phs s = .ok u ∧ e = .returned (.tuple #[.int .u64 (u : Nat), .nilIface])) ∨
  ((∀ u, phs s ≠ .ok u) ∧ ∃ (v N : Nat), v < 18446744073709551616 ∧ e = .returned (.tuple #[.int .u64 (v : Nat), .iface 87 (.pointer (some ⟨N, 0, none⟩))]))
set_option maxRecDepth 100000 in
theorem pub_any (s : ByteArray) (hs : s.size ≤ 1000) (w : World) (he : Errs w) :
    Calls Tryd.prog 40 #[.string s, .int .i64 16, .int .i64 64] w fun e w' => PuSays s e ∧ Below w.heap.size w w' := by
  have hpu := pu_any s hs w
  cases hr : phs s with
  | ok u =>
    rw [hr] at hpu
    go_enter Tryd.func40, Tryd.ntmps40
    go_wp2_with fail
    go_call hpu as e w1 ⟨rfl, hb⟩
    have HB : Hid (Below w.heap.size w w1) := hb
    clear hb
    simp only [tup]
    go_wp2
    go_returns
    exact ⟨Or.inl ⟨u, hr, rfl⟩, HB.out⟩
  | syn =>
    rw [hr] at hpu
    go_enter Tryd.func40, Tryd.ntmps40
    go_wp2_with fail
    go_call hpu as e w1 ⟨rfl, hb⟩
    obtain ⟨⟨ev, hv, hev⟩, _, _⟩ := he.below hb
    have HB : Hid (Below w.heap.size w w1) := hb
    clear hb
    simp only [tup]
    go_wp2_with fail
    go_call (terr_syn _ s _ _ ev w1 (by omega) hv hev) as e w2 ⟨⟨N, rfl⟩, hb2⟩
    have HB2 : Hid (Below w.heap.size w w2) := HB.out.trans (hb2.mono HB.out.size)
    clear hb2
    go_wp2
    go_returns
    exact ⟨Or.inr ⟨(by rw [hr]; intro u h; cases h), 0, N, by omega, rfl⟩, HB2.out⟩
  | rng =>
    rw [hr] at hpu
    go_enter Tryd.func40, Tryd.ntmps40
    go_wp2_with fail
    go_call hpu as e w1 ⟨rfl, hb⟩
    obtain ⟨_, ⟨ev, hv, hev⟩, _⟩ := he.below hb
    have HB : Hid (Below w.heap.size w w1) := hb
    clear hb
    simp only [tup]
    go_wp2_with fail
    go_call (terr_rng _ s _ _ ev w1 (by omega) hv hev) as e w2 ⟨⟨N, rfl⟩, hb2⟩
    have HB2 : Hid (Below w.heap.size w w2) := HB.out.trans (hb2.mono HB.out.size)
    clear hb2
    go_wp2
    go_returns
    exact ⟨Or.inr ⟨(by rw [hr]; intro u h; cases h), 18446744073709551615, N, by omega, rfl⟩, HB2.out⟩
end Go.Proofs.YthojbccoejdmeaaDoor
