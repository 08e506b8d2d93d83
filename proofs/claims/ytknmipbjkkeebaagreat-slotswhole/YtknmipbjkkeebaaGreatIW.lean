/- awake of the slots' statements, as a call. -/
import Derived.Test.YtknmipbjkkeebaaGreatIV
namespace Go.Proofs.YtknmipbjkkeebaaGreat
open Go.RowKit
/-- Two Writes, one behind the other, and what the anchor has then. -/
theorem two_cur {st st1 st' : F.St} {G : Nat → Nat → Pg} (h : Emp G st) (h1 : Wrt st st1 ((Sl.mk 0 0 0 false).other * 16) ⟨#[97]⟩ 1) (h2 : Wrt st1 st' ((Sl.mk 0 0 0 false).next.other * 16) ⟨#[98]⟩ 2) : ∃ G', Cur G' st' (Sl.mk 0 0 0 false).next.next ⟨#[98]⟩ := by
  have c1 := cur_next (s := ⟨0, 0, 0, false⟩) h.anc (fun a ha j hj => by rw [h.none a ha j hj]; exact Nat.le_refl _) (Nat.zero_le _) (by show (1 : Nat) ≤ 640; decide) (by decide) h1
  exact ⟨_, cur_next (s := (Sl.mk 0 0 0 false).next) c1.anc c1.le c1.slot (by show (1 : Nat) ≤ 640; decide) (by decide) h2⟩
set_option maxHeartbeats 2000000 in
set_option maxRecDepth 100000 in
theorem awake9 (w : World) : Calls Tryz.prog 7 #[] w fun e w' => e = .returned (.bool true) ∧ Below w.heap.size w w' := by
  have hmk := F.made_any w.heap.size w w [] (Below.refl _ _) (Nat.le_refl _) (by intro p hp; cases hp) 1 (by decide) (by decide) 32 (by decide) (by decide)
  go_enter Tryz.func7, Tryz.ntmps7
  go_wp2_with fail
  go_call hmk as e w1 ⟨L, M0, rfl, o1⟩
  have he := emp0 1 32 (by decide) (by decide)
  have hop := opened_one o1 rfl (by
    intro p hp c fz
    simp only [List.mem_cons, List.not_mem_nil, or_false] at hp
    subst hp
    intro e; unfold F.med at e; injection e with _ e _; exact absurd e (by decide)) (fun _ _ => zp) he.anc rfl rfl rfl rfl (by decide)
  have hf := he.found
  rw [hf.1, hf.2.2.2.2] at hop
  have hsl : ({ (scan (fun _ _ => zp) 2).sl with unsure := decide ((0 : Nat) = 2) } : Sl) = ⟨0, 0, 0, false⟩ := by
    rw [show (scan (fun _ _ => zp) 2).sl = ⟨(scan (fun _ _ => zp) 2).sl.slot, (scan (fun _ _ => zp) 2).sl.seq, (scan (fun _ _ => zp) 2).sl.most, (scan (fun _ _ => zp) 2).sl.unsure⟩ from rfl, hf.2.1, hf.2.2.1, hf.2.2.2.1]
    rfl
  rw [hsl] at hop
  have l1 := o1.lts (M0, F.med L.P 1 1) (by simp)
  have HE : Hid _ := he
  clear hmk hf hsl he o1
  go_wp2_with fail
  go_call hop as e w2 ⟨S, M, lv2, rfl, hS, hMS, o2⟩
  clear hop
  have l2S := o2.lts (S, .cells (Sl.cs ⟨0, 0, 0, false⟩ M) 72) (by simp)
  have l2M := o2.lts (M, F.med L.P (F.st0 1 32).serial (F.st0 1 32).session) (by simp)
  have o3 := o2.alloc (.cells #[.pointer (some ⟨S, 0, none⟩)] 29) (F.apart_of (by decide))
  have hsq := seq_any ⟨0, 0, 0, false⟩ S M _ (o3.oth (S, .cells (Sl.cs ⟨0, 0, 0, false⟩ M) 72) (by simp)).1
  replace hsq : Calls Tryz.prog 15 #[.pointer (some ⟨S, 0, none⟩)] (w2.alloc (.cells #[.pointer (some ⟨S, 0, none⟩)] 29)) fun e w' => e = .returned (.int .u64 0) ∧ w' = w2.alloc (.cells #[.pointer (some ⟨S, 0, none⟩)] 29) := hsq
  have O3 : Hid _ := o3
  have HL : Hid (M0 < w1.heap.size ∧ w1.heap.size ≤ S ∧ M ≠ S ∧ S < w2.heap.size ∧ M < w2.heap.size) := ⟨l1, hS, hMS, l2S, l2M⟩
  clear o2 o3 l1 hS hMS l2S l2M
  go_wp2_with fail
  go_call hsq as e w3 ⟨rfl, hw3⟩
  rw [← hw3] at O3
  have e3 : w3.heap.size = w2.heap.size + 1 := by rw [hw3]; simp
  clear hsq hw3
  have hl := HL.out
  have o6 := O3.out.guarded
  rw [e3] at o6
  have o7 := o6.forget (oth' := (S, .cells (Sl.cs ⟨0, 0, 0, false⟩ M) 72) :: (w2.heap.size + 1 + 1, F.iob) :: (w2.heap.size + 1, F.bob) :: (w2.heap.size, .cells #[.pointer (some ⟨S, 0, none⟩)] 29) :: (M, F.med L.P (F.st0 1 32).serial (F.st0 1 32).session) :: (M0, F.med L.P 1 1) :: []) (by
    intro p hp
    simp only [F.gob, List.mem_cons] at hp ⊢
    rcases hp with rfl | rfl | rfl | rfl | rfl | rfl | hp <;> simp [*])
  have hdo := op32 (Sb := w2.heap.size) ⟨0, 0, 0, false⟩ o7 (by simp) (by simp) (by
    intro p hp
    simp only [List.mem_cons, List.not_mem_nil, or_false] at hp
    rcases hp with rfl | rfl | rfl | rfl | rfl
    · show w2.heap.size + 1 + 1 ≠ S; omega
    · show w2.heap.size + 1 ≠ S; omega
    · show w2.heap.size ≠ S; omega
    · show M ≠ S; omega
    · show M0 ≠ S; omega) (Nat.zero_le _) (by decide) (by
      have q := quiet0 1 32 (by decide) (by decide)
      exact ⟨q.ln, q.loose, ⟨q.ok.size, q.ok.bytes⟩, q.n, q.n1, q.down, q.there, q.aw, q.hw⟩) (by decide)
  have hgd := F.guard_ok 32 #[.pointer (some ⟨w2.heap.size, 0, none⟩)] (fun W => ∃ st1 st' lv', F.One w.heap.size w L st' lv' ((S, .cells (Sl.cs (Sl.mk 0 0 0 false).next.next M) 72) :: (w2.heap.size + 1 + 1, F.iob) :: (w2.heap.size + 1, F.bob) :: (w2.heap.size, .cells #[.pointer (some ⟨S, 0, none⟩)] 29) :: (M, F.med L.P (F.st0 1 32).serial (F.st0 1 32).session) :: (M0, F.med L.P 1 1) :: []) W ∧ Wrt { F.st0 1 32 with count := (F.st0 1 32).count + 32 } st1 ((Sl.mk 0 0 0 false).other * 16) ⟨#[97]⟩ 1 ∧ Wrt st1 st' ((Sl.mk 0 0 0 false).next.other * 16) ⟨#[98]⟩ 2) w3 ent32 (hdo.mono (by
    rintro e W ⟨rfl, st1, st', lv', ho, hw1, hw2⟩
    rw [e3]
    exact ⟨rfl, (ho.oth (w2.heap.size + 1, F.bob) (by simp)).1, (ho.oth (w2.heap.size + 1 + 1, F.iob) (by simp)).1, st1, st', lv', ho, hw1, hw2⟩))
  rw [e3] at hgd
  clear hdo o6 o7 O3
  go_wp2_with fail
  go_call hgd as e w4 ⟨rfl, W, ⟨st1, st', lv', ho, hw1, hw2⟩, hkt⟩
  have o8 := (ho.forget (oth' := F.gob (w2.heap.size + 1) ((S, .cells (Sl.cs (Sl.mk 0 0 0 false).next.next M) 72) :: (w2.heap.size, .cells #[.pointer (some ⟨S, 0, none⟩)] 29) :: [])) (by
    intro p hp
    simp only [F.gob, List.mem_cons, List.not_mem_nil, or_false] at hp ⊢
    rcases hp with rfl | rfl | rfl | rfl <;> simp [*])).kt2 (by
    intro p hp
    simp only [List.mem_cons, List.not_mem_nil, or_false] at hp
    rcases hp with rfl | rfl
    · exact ⟨by show S ≠ _; omega, by show S ≠ _; omega⟩
    · exact ⟨by show w2.heap.size ≠ _; omega, by show w2.heap.size ≠ _; omega⟩) hkt
  have hE : Emp (fun _ _ => zp) { F.st0 1 32 with count := (F.st0 1 32).count + 32 } := ⟨⟨HE.out.anc.n, HE.out.anc.n1, ⟨HE.out.anc.ok.size, HE.out.anc.ok.bytes⟩, HE.out.anc.tells, HE.out.anc.few, HE.out.anc.dat⟩, HE.out.none⟩
  obtain ⟨G', hcur⟩ := two_cur hE hw1 hw2
  have hfd := hcur.found
  have hcnt : 0 ≤ st'.count ∧ st'.count ≤ 100000 := by
    have a := hw1.c0
    have b := hw2.c0
    have a' := hw1.c1
    have b' := hw2.c1
    have c : ({ F.st0 1 32 with count := (F.st0 1 32).count + 32 } : F.St).count = 32 := rfl
    rw [c] at a a'
    omega
  have HOP : Hid (∀ o, Calls Tryz.prog 9 #[.pointer (some ⟨L.P, 0, none⟩)] (w4.alloc o) fun e w' => ∃ S2 M2 lv2, e = .returned (.tuple #[.pointer (some ⟨S2, 0, none⟩), .string ⟨#[98]⟩, .bool true, .bool true]) ∧ F.One w.heap.size w L { st' with count := st'.count + 32 } lv2 ((S, .cells (Sl.cs (Sl.mk 0 0 0 false).next.next M) 72) :: (w2.heap.size, .cells #[.pointer (some ⟨S, 0, none⟩)] 29) :: []) w') := fun o => by
    have o9 := o8.ofBelow (Below.alloc (Below.refl _ _) (Nat.le_refl _) o)
    refine (opened_one o9 (hw2.serial.trans (hw1.serial.trans rfl)) (by
      intro p hp c fz
      simp only [List.mem_cons, List.not_mem_nil, or_false] at hp
      rcases hp with rfl | rfl
      · intro e; injection e with _ e _; exact absurd e (by decide)
      · intro e; injection e with _ e _; exact absurd e (by decide)) G' hcur.anc hw2.down hw2.there hw2.aw hw2.hw hcnt).mono ?_
    rintro e w' ⟨S2, M2, lv2, rfl, _, _, ho2⟩
    rw [hfd.1, decide_eq_true hfd.2.2.2.2]
    exact ⟨S2, M2, lv2, rfl, ho2.forget (by intro p hp; simp only [List.mem_cons] at hp ⊢; rcases hp with rfl | rfl | hp <;> simp [*])⟩
  clear hgd ho hw1 hw2 hkt o8 hE hcur hfd HE
  go_wp2_with fail
  go_call (HOP.out _) as e w5 ⟨S2, M2, lv5, rfl, o5⟩
  clear HOP
  have c5 : w5.cell? ⟨w2.heap.size, 0, none⟩ = some (.pointer (some ⟨S, 0, none⟩)) := F.cell_of (o5.oth (w2.heap.size, .cells #[.pointer (some ⟨S, 0, none⟩)] 29) (by simp)).1 0
  have hsq2 := seq_any (Sl.mk 0 0 0 false).next.next S M w5 (o5.oth (S, .cells (Sl.cs (Sl.mk 0 0 0 false).next.next M) 72) (by simp)).1
  replace hsq2 : Calls Tryz.prog 15 #[.pointer (some ⟨S, 0, none⟩)] w5 fun e w' => e = .returned (.int .u64 2) ∧ w' = w5 := hsq2
  have B5 : Hid _ := o5.below
  clear o5 hl
  go_wp2_with fail
  go_call hsq2 as e w6 ⟨rfl, hw6⟩
  rw [← hw6] at B5
  clear hsq2 hw6
  go_wp2
  go_returns
  exact ⟨rfl, B5.out⟩
end Go.Proofs.YtknmipbjkkeebaaGreat
