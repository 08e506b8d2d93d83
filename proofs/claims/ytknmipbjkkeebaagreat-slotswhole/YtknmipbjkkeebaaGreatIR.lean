/- What opened's function does within Guard, as a call. -/
import Derived.Test.YtknmipbjkkeebaaGreatIQ
namespace Go.Proofs.YtknmipbjkkeebaaGreat
open Go.RowKit
theorem ent35 (args : Array Value) (W : World) : (callFunc 35 args).run Tryz.prog W = .ok (.enter 35 args) W := O.enter_of Tryz.func35 (by kernel_rfl) (by kernel_rfl) args W
set_option maxHeartbeats 1000000 in
set_option maxRecDepth 100000 in
theorem op35 {b0 : Nat} {w0 : World} {L : F.Loc} {st : F.St} {lv : Value} {rest : List (Nat × Obj)} {w : World} {Mb Sb Tb Ib M : Nat} (h : F.One b0 w0 L st lv ((Sb, .cells #[.pointer none] 29) :: (Tb, .cells #[.string ⟨#[]⟩] 9) :: (Ib, .cells #[.bool false] 4) :: rest) w)
    (hMb : (Mb, .cells #[.pointer (some ⟨M, 0, none⟩)] 26) ∈ rest) (hm : (M, F.med L.P st.serial st.session) ∈ rest) (h5 : ∀ p ∈ rest, ∀ c fz, p.2 ≠ .cells c 5 fz) (hr : ∀ p ∈ rest, p.1 ≠ Sb ∧ p.1 ≠ Tb ∧ p.1 ≠ Ib) (h12 : Sb ≠ Tb) (h13 : Sb ≠ Ib) (h23 : Tb ≠ Ib)
    (G : Nat → Nat → Pg) (ha : Anc G st) (hdn : st.down = false) (ht : st.there = true) (haw : st.aw = false) (hhw : st.hw = false) (hc : 0 ≤ st.count ∧ st.count ≤ 100000) :
    Calls Tryz.prog 35 #[.pointer (some ⟨Mb, 0, none⟩), .pointer (some ⟨Sb, 0, none⟩), .pointer (some ⟨Tb, 0, none⟩), .pointer (some ⟨Ib, 0, none⟩)] w fun e w' => e = .returned (.tuple #[]) ∧ ∃ S lv', w.heap.size ≤ S ∧ F.One b0 w0 L { st with count := st.count + 32 } lv' ((S, .cells (Sl.cs { (scan G 2).sl with unsure := decide ((scan G 2).found = 2) } M) 72) :: (Sb, .cells #[.pointer (some ⟨S, 0, none⟩)] 29) :: (Tb, .cells #[.string (scan G 2).text] 9) :: (Ib, .cells #[.bool (decide (0 < (scan G 2).found))] 4) :: rest) w' := by
  have ho := sopen h M (by simp [hm]) (by
    intro p hp c fz
    rcases List.mem_cons.1 hp with rfl | hp
    · intro e; injection e with _ e _; exact absurd e (by decide)
    · rcases List.mem_cons.1 hp with rfl | hp
      · intro e; injection e with _ e _; exact absurd e (by decide)
      · rcases List.mem_cons.1 hp with rfl | hp
        · intro e; injection e with _ e _; exact absurd e (by decide)
        · exact h5 p hp c fz) G ha hdn ht haw hhw hc
  have cM : w.cell? ⟨Mb, 0, none⟩ = some (.pointer (some ⟨M, 0, none⟩)) := F.cell_of (h.oth (Mb, .cells #[.pointer (some ⟨M, 0, none⟩)] 26) (by simp [hMb])).1 0
  have hlt := h.lts
  have l1 : Sb < w.heap.size := hlt (Sb, _) (List.mem_cons_self ..)
  have l2 : Tb < w.heap.size := hlt (Tb, .cells #[.string ⟨#[]⟩] 9) (by simp)
  have l3 : Ib < w.heap.size := hlt (Ib, .cells #[.bool false] 4) (by simp)
  have lr : ∀ p ∈ rest, p.1 < w.heap.size := fun p hp => hlt p (by simp [hp])
  have HLR : Hid _ := lr
  have HR : Hid _ := hr
  clear h hlt lr hr hMb hm h5
  generalize (scan G 2).text = tt at *
  generalize decide (0 < (scan G 2).found) = ii at *
  generalize hsl : (Obj.cells (Sl.cs { (scan G 2).sl with unsure := decide ((scan G 2).found = 2) } M) 72) = sl at *
  have hts : ∀ c fz, sl ≠ .cells c 133 fz := fun c fz e => by rw [← hsl] at e; injection e with _ e _; exact absurd e (by decide)
  have HTS : Hid _ := hts
  clear hsl hts
  go_enter Tryz.func35, Tryz.ntmps35
  go_wp2_with fail
  go_call ho as e w2 ⟨rfl, lv', o2⟩
  have a1 := o2.forget (oth' := (Sb, .cells #[.pointer none] 29) :: (w.heap.size, sl) :: (Tb, .cells #[.string ⟨#[]⟩] 9) :: (Ib, .cells #[.bool false] 4) :: rest) (by intro p hp; simp only [List.mem_cons] at hp ⊢; rcases hp with rfl | rfl | rfl | rfl | hp <;> simp [*])
  have a2 := a1.setOther (v := .pointer (some ⟨w.heap.size, 0, none⟩)) (by
    intro p hp
    simp at hp
    rcases hp with rfl | rfl | rfl | hp
    · show w.heap.size ≠ Sb; omega
    · exact Ne.symm h12
    · exact Ne.symm h13
    · exact (HR.out p hp).1) (by decide)
  have a3 := a2.forget (oth' := (Tb, .cells #[.string ⟨#[]⟩] 9) :: (w.heap.size, sl) :: (Sb, .cells #[.pointer (some ⟨w.heap.size, 0, none⟩)] 29) :: (Ib, .cells #[.bool false] 4) :: rest) (by intro p hp; simp only [List.mem_cons] at hp ⊢; rcases hp with rfl | rfl | rfl | rfl | hp <;> simp [*])
  have a4 := a3.setOther (v := .string tt) (by
    intro p hp
    simp at hp
    rcases hp with rfl | rfl | rfl | hp
    · show w.heap.size ≠ Tb; omega
    · exact h12
    · exact Ne.symm h23
    · exact (HR.out p hp).2.1) (by decide)
  have a5 := a4.forget (oth' := (Ib, .cells #[.bool false] 4) :: (w.heap.size, sl) :: (Sb, .cells #[.pointer (some ⟨w.heap.size, 0, none⟩)] 29) :: (Tb, .cells #[.string tt] 9) :: rest) (by intro p hp; simp only [List.mem_cons] at hp ⊢; rcases hp with rfl | rfl | rfl | rfl | hp <;> simp [*])
  have a6 := a5.setOther (v := .bool ii) (by
    intro p hp
    simp at hp
    rcases hp with rfl | rfl | rfl | hp
    · show w.heap.size ≠ Ib; omega
    · exact h13
    · exact h23
    · exact (HR.out p hp).2.2) (by decide)
  have a7 := a6.forget (oth' := (w.heap.size, sl) :: (Sb, .cells #[.pointer (some ⟨w.heap.size, 0, none⟩)] 29) :: (Tb, .cells #[.string tt] 9) :: (Ib, .cells #[.bool ii] 4) :: rest) (by intro p hp; simp only [List.mem_cons] at hp ⊢; rcases hp with rfl | rfl | rfl | rfl | hp <;> simp [*])
  have A7 : Hid _ := a7
  have q1 := F.cell_of (o2.oth (Sb, .cells #[.pointer none] 29) (by simp)).1 0
  have q2 := F.cell_of (o2.oth (Tb, .cells #[.string ⟨#[]⟩] 9) (by simp)).1 0
  have q3 := F.cell_of (o2.oth (Ib, .cells #[.bool false] 4) (by simp)).1 0
  have z1 := F.frz_of (o2.oth (Sb, .cells #[.pointer none] 29) (by simp)).1 0
  have z2 := F.frz_of (o2.oth (Tb, .cells #[.string ⟨#[]⟩] 9) (by simp)).1 0
  have z3 := F.frz_of (o2.oth (Ib, .cells #[.bool false] 4) (by simp)).1 0
  simp at q1 q2 q3
  clear a1 a2 a3 a4 a5 a6 a7 o2 ho
  go_wp2
  go_returns
  exact ⟨rfl, w.heap.size, lv', Nat.le_refl _, A7.out⟩
end Go.Proofs.YtknmipbjkkeebaaGreat
