/- opened of the slots' statements on a device that does all, as a call. -/
import Derived.Test.YtknmipbjkkeebaaGreatIR
namespace Go.Proofs.YtknmipbjkkeebaaGreat.F
open Go.RowKit
section
variable {b0 : Nat} {w0 : World} {L : Loc} {st : St} {lv : Value} {oth : List (Nat × Obj)} {w : World}
theorem One.kt2 {B : Nat} {w' : World} (h : One b0 w0 L st lv (gob B oth) w) (hne : ∀ p ∈ oth, p.1 ≠ B ∧ p.1 ≠ B + 1) (k : KT B w w') : One b0 w0 L st lv oth w' := by
  obtain ⟨i1, i2, i3, i4⟩ := h.oth (B + 1, iob) (by simp [gob])
  obtain ⟨j1, j2, j3, j4⟩ := h.oth (B, bob) (by simp [gob])
  have same : ∀ {j : Nat} {o : Obj}, w.heap[j]? = some o → j ≠ B → j ≠ B + 1 → w'.heap[j]? = some o := fun e h1 h2 => (k.block _ (getElem?_lt e) h1 h2).trans e
  refine ⟨?_, h.bP, h.bR, h.bD, h.bS, same h.pool j2.1.symm i2.1.symm, same h.rowb j2.2.1.symm i2.2.1.symm, h.rc0, same h.dev j2.2.2.1.symm i2.2.2.1.symm, same h.sec j2.2.2.2.symm i2.2.2.2.symm, ⟨h.own.1, ?_⟩, ?_⟩
  · refine ⟨k.os.trans h.below.os, k.tape.trans h.below.tape, k.output.trans h.below.output, Nat.le_trans h.below.size k.size, fun j hj => ?_⟩
    have j4' : b0 ≤ B := j4
    have hs : j < w.heap.size := by have := getElem?_lt h.pool; have := h.bP; omega
    rw [k.block j hs (by omega) (by omega)]
    exact h.below.block j hj
  · rcases h.own.2 with h1 | ⟨g, cap, cur, e, h2, h3, h4⟩
    · exact Or.inl h1
    · refine Or.inr ⟨g, cap, cur, e, h2, same h3 ?_ ?_, h4⟩
      · intro e2; rw [e2] at h3; rw [h3] at j1; injection j1 with j1; exact j3 _ j1.symm
      · intro e2; rw [e2] at h3; rw [h3] at i1; injection i1 with i1; exact i3 _ i1.symm
  · intro p hp
    obtain ⟨o1, o2, o3, o4⟩ := h.oth p (by simp [gob, hp])
    have := hne p hp
    exact ⟨same o1 this.1 this.2, o2, o3, o4⟩
end
end Go.Proofs.YtknmipbjkkeebaaGreat.F
namespace Go.Proofs.YtknmipbjkkeebaaGreat
open Go.RowKit
def OdV (S : Nat) (tt : ByteArray) (ii : Bool) : Nat → Value → Prop
  | 0, v => v = .pointer (some ⟨S, 0, none⟩)
  | 1, v => v = .string tt
  | 2, v => v = .bool ii
  | 3, v => v = .bool false
  | 4, v => v = .bool true
  | 5, v => v = .bool true
  | 6, v => v = .pointer (some ⟨S, 0, none⟩)
  | 7, v => v = .bool true
  | 8, v => v = .bool true
  | 9, v => v = .pointer (some ⟨S, 0, none⟩)
  | 10, v => v = .string tt
  | 11, v => v = .bool ii
  | 12, v => v = .bool true
  | _, _ => True
set_option maxHeartbeats 2000000 in
set_option maxRecDepth 100000 in
theorem opened_one {b0 : Nat} {w0 : World} {L : F.Loc} {st : F.St} {lv : Value} {oth : List (Nat × Obj)} {w : World} (h : F.One b0 w0 L st lv oth w) (hser : st.serial = 1) (h5 : ∀ p ∈ oth, ∀ c fz, p.2 ≠ .cells c 5 fz)
    (G : Nat → Nat → Pg) (ha : Anc G st) (hdn : st.down = false) (ht : st.there = true) (haw : st.aw = false) (hhw : st.hw = false) (hc : 0 ≤ st.count ∧ st.count ≤ 100000) :
    Calls Tryz.prog 9 #[.pointer (some ⟨L.P, 0, none⟩)] w fun e w' => ∃ S M lv', e = .returned (.tuple #[.pointer (some ⟨S, 0, none⟩), .string (scan G 2).text, .bool (decide (0 < (scan G 2).found)), .bool true]) ∧ w.heap.size ≤ S ∧ M ≠ S ∧ F.One b0 w0 L { st with count := st.count + 32 } lv' ((S, .cells (Sl.cs { (scan G 2).sl with unsure := decide ((scan G 2).found = 2) } M) 72) :: (M, F.med L.P st.serial st.session) :: oth) w' := by
  have hlt := h.lts
  have e1 : (w.alloc (.cells #[.pointer none] 29)).heap.size = w.heap.size + 1 := by simp
  have e2 : ((w.alloc (.cells #[.pointer none] 29)).alloc (.cells #[.string ⟨#[]⟩] 9)).heap.size = w.heap.size + 1 + 1 := by simp
  have h1 := ((h.alloc (.cells #[.pointer none] 29) (F.apart_of (by decide))).alloc (.cells #[.string ⟨#[]⟩] 9) (F.apart_of (by decide))).alloc (.cells #[.bool false] 4) (F.apart_of (by decide))
  rw [e1, e2] at h1
  have hof := h1.of_any ht
  rw [hser] at hof
  have HLT : Hid _ := hlt
  clear h h1 e1 e2 hlt
  go_enter Tryz.func9, Tryz.ntmps9
  go_wp2_with fail
  go_call hof as e w4 ⟨M, rfl, o4⟩
  rw [← hser] at o4
  have hsep : ∀ {k : Nat} {c : Array Value} {t : TypeId}, w4.heap[k]? = some (.cells c t) → t ≠ 96 → M ≠ k := fun {k c t} hk htt e => by
    have := (o4.oth (M, F.med L.P st.serial st.session) (List.mem_cons_self ..)).1
    rw [e, hk] at this
    injection this with this
    injection this with _ this _
    exact htt this
  have n1 : M ≠ w.heap.size := hsep (o4.oth (w.heap.size, .cells #[.pointer none] 29) (by simp)).1 (by decide)
  have n2 : M ≠ w.heap.size + 1 := hsep (o4.oth (w.heap.size + 1, .cells #[.string ⟨#[]⟩] 9) (by simp)).1 (by decide)
  have n3 : M ≠ w.heap.size + 1 + 1 := hsep (o4.oth (w.heap.size + 1 + 1, .cells #[.bool false] 4) (by simp)).1 (by decide)
  have l4 : w.heap.size + 1 + 1 < w4.heap.size := o4.lts (w.heap.size + 1 + 1, .cells #[.bool false] 4) (by simp)
  have lM : M < w4.heap.size := o4.lts (M, _) (List.mem_cons_self ..)
  have o5 := o4.alloc (.cells #[.pointer (some ⟨M, 0, none⟩)] 26) (F.apart_of (by decide))
  have e5 : (w4.alloc (.cells #[.pointer (some ⟨M, 0, none⟩)] 26)).heap.size = w4.heap.size + 1 := by simp
  have o6 := o5.guarded
  rw [e5] at o6
  have o7 := o6.forget (oth' := (w.heap.size, .cells #[.pointer none] 29) :: (w.heap.size + 1, .cells #[.string ⟨#[]⟩] 9) :: (w.heap.size + 1 + 1, .cells #[.bool false] 4) :: (w4.heap.size + 1 + 1, F.iob) :: (w4.heap.size + 1, F.bob) :: (w4.heap.size, .cells #[.pointer (some ⟨M, 0, none⟩)] 26) :: (M, F.med L.P st.serial st.session) :: oth) (by
    intro p hp
    simp only [F.gob, List.mem_cons] at hp ⊢
    rcases hp with rfl | rfl | rfl | rfl | rfl | rfl | rfl | hp <;> simp [*])
  have hdo := op35 (Mb := w4.heap.size) (M := M) o7 (by simp) (by simp) (by
    intro p hp c fz
    simp only [List.mem_cons] at hp
    rcases hp with rfl | rfl | rfl | rfl | hp
    · intro e; unfold F.iob at e; injection e with _ e _; exact absurd e (by decide)
    · intro e; unfold F.bob at e; injection e with _ e _; exact absurd e (by decide)
    · intro e; injection e with _ e _; exact absurd e (by decide)
    · intro e; unfold F.med at e; injection e with _ e _; exact absurd e (by decide)
    · exact h5 p hp c fz) (by
    intro p hp
    simp only [List.mem_cons] at hp
    rcases hp with rfl | rfl | rfl | rfl | hp
    · exact ⟨by show w4.heap.size + 1 + 1 ≠ _; omega, by show w4.heap.size + 1 + 1 ≠ _; omega, by show w4.heap.size + 1 + 1 ≠ _; omega⟩
    · exact ⟨by show w4.heap.size + 1 ≠ _; omega, by show w4.heap.size + 1 ≠ _; omega, by show w4.heap.size + 1 ≠ _; omega⟩
    · exact ⟨by show w4.heap.size ≠ _; omega, by show w4.heap.size ≠ _; omega, by show w4.heap.size ≠ _; omega⟩
    · exact ⟨n1, n2, n3⟩
    · have := HLT.out p hp; exact ⟨by omega, by omega, by omega⟩) (by omega) (by omega) (by omega) G ha hdn ht haw hhw hc
  have hgd := F.guard_ok 35 #[.pointer (some ⟨w4.heap.size, 0, none⟩), .pointer (some ⟨w.heap.size, 0, none⟩), .pointer (some ⟨w.heap.size + 1, 0, none⟩), .pointer (some ⟨w.heap.size + 1 + 1, 0, none⟩)] (fun W => ∃ S lv', (F.G0 (w4.alloc (.cells #[.pointer (some ⟨M, 0, none⟩)] 26))).heap.size ≤ S ∧ F.One b0 w0 L { st with count := st.count + 32 } lv' ((S, .cells (Sl.cs { (scan G 2).sl with unsure := decide ((scan G 2).found = 2) } M) 72) :: (w.heap.size, .cells #[.pointer (some ⟨S, 0, none⟩)] 29) :: (w.heap.size + 1, .cells #[.string (scan G 2).text] 9) :: (w.heap.size + 1 + 1, .cells #[.bool (decide (0 < (scan G 2).found))] 4) :: (w4.heap.size + 1 + 1, F.iob) :: (w4.heap.size + 1, F.bob) :: (w4.heap.size, .cells #[.pointer (some ⟨M, 0, none⟩)] 26) :: (M, F.med L.P st.serial st.session) :: oth) W) (w4.alloc (.cells #[.pointer (some ⟨M, 0, none⟩)] 26)) ent35 (hdo.mono (by
    rintro e W ⟨rfl, S, lv', hS, ho⟩
    rw [e5]
    exact ⟨rfl, (ho.oth (w4.heap.size + 1, F.bob) (by simp)).1, (ho.oth (w4.heap.size + 1 + 1, F.iob) (by simp)).1, S, lv', hS, ho⟩))
  have eG : (F.G0 (w4.alloc (.cells #[.pointer (some ⟨M, 0, none⟩)] 26))).heap.size = w4.heap.size + 3 := by simp [F.G0]
  rw [eG, e5] at hgd
  have HSM : Hid (M < w4.heap.size ∧ w.heap.size + 1 + 1 < w4.heap.size) := ⟨lM, l4⟩
  clear hdo o4 o5 o6 o7 hof hsep eG e5 n1 n2 n3 lM l4
  generalize htt : (scan G 2).text = tt at hgd
  generalize hii : decide (0 < (scan G 2).found) = ii at hgd
  generalize hsl : (Obj.cells (Sl.cs { (scan G 2).sl with unsure := decide ((scan G 2).found = 2) } M) 72) = sl at hgd
  have HTT : Hid _ := htt
  have HII : Hid _ := hii
  have HSL : Hid _ := hsl
  clear htt hii hsl
  go_wp2_with fail
  go_call hgd as e w6 ⟨rfl, W, ⟨S, lv', hS, ho⟩, hkt⟩
  have o8 := (ho.forget (oth' := F.gob (w4.heap.size + 1) ((S, sl) :: (w.heap.size, .cells #[.pointer (some ⟨S, 0, none⟩)] 29) :: (w.heap.size + 1, .cells #[.string tt] 9) :: (w.heap.size + 1 + 1, .cells #[.bool ii] 4) :: (M, F.med L.P st.serial st.session) :: oth)) (by
    intro p hp
    simp only [F.gob, List.mem_cons] at hp ⊢
    rcases hp with rfl | rfl | rfl | rfl | rfl | rfl | rfl | hp <;> simp [*])).kt2 (by
    intro p hp
    have hsm := HSM.out
    simp only [List.mem_cons] at hp
    rcases hp with rfl | rfl | rfl | rfl | rfl | hp
    · exact ⟨by show S ≠ _; omega, by show S ≠ _; omega⟩
    · exact ⟨by show w.heap.size ≠ _; omega, by show w.heap.size ≠ _; omega⟩
    · exact ⟨by show w.heap.size + 1 ≠ _; omega, by show w.heap.size + 1 ≠ _; omega⟩
    · exact ⟨by show w.heap.size + 1 + 1 ≠ _; omega, by show w.heap.size + 1 + 1 ≠ _; omega⟩
    · exact ⟨by show M ≠ _; omega, by show M ≠ _; omega⟩
    · have := HLT.out p hp; exact ⟨by omega, by omega⟩) hkt
  have b8 : ∀ o, Below w6.heap.size w6 (w6.alloc o) := fun o => Below.alloc (Below.refl _ _) (Nat.le_refl _) _
  have O9 : Hid (∀ o, F.One b0 w0 L { st with count := st.count + 32 } lv' ((S, sl) :: (w.heap.size, .cells #[.pointer (some ⟨S, 0, none⟩)] 29) :: (w.heap.size + 1, .cells #[.string tt] 9) :: (w.heap.size + 1 + 1, .cells #[.bool ii] 4) :: (M, F.med L.P st.serial st.session) :: oth) (w6.alloc o)) := fun o => o8.ofBelow (b8 o)
  have y1 : ∀ o, (w6.alloc o).cell? ⟨w.heap.size, 0, none⟩ = some (.pointer (some ⟨S, 0, none⟩)) := fun o => F.cell_of ((O9.out o).oth (w.heap.size, .cells #[.pointer (some ⟨S, 0, none⟩)] 29) (by simp)).1 0
  have y2 : ∀ o, (w6.alloc o).cell? ⟨w.heap.size + 1, 0, none⟩ = some (.string tt) := fun o => F.cell_of ((O9.out o).oth (w.heap.size + 1, .cells #[.string tt] 9) (by simp)).1 0
  have y3 : ∀ o, (w6.alloc o).cell? ⟨w.heap.size + 1 + 1, 0, none⟩ = some (.bool ii) := fun o => F.cell_of ((O9.out o).oth (w.heap.size + 1 + 1, .cells #[.bool ii] 4) (by simp)).1 0
  have HSS : Hid (w.heap.size ≤ S ∧ M ≠ S) := by have := HSM.out; show _ ∧ _; omega
  clear hgd ho hkt o8 b8 hS
  go_wp2
  refine F.wp_region_pb (fun f => ⟨#[.pointer (some ⟨L.P, 0, none⟩), undef, f 9, f 10, f 11, f 12, .pointer (some ⟨w.heap.size, 0, none⟩), .pointer (some ⟨w.heap.size + 1, 0, none⟩), .pointer (some ⟨w.heap.size + 1 + 1, 0, none⟩), .pointer (some ⟨w4.heap.size, 0, none⟩), .int .i64 0, .pointer (some ⟨w6.heap.size, 0, none⟩), .bool false, .tuple #[.pointer (some ⟨M, 0, none⟩), .int .i64 0], .pointer (some ⟨L.P, 0, none⟩), .tuple #[.pointer (some ⟨M, 0, none⟩), .int .i64 0], .pointer (some ⟨M, 0, none⟩), .int .i64 0, .int .i64 0, .bool false, .tuple #[.agg #[.int .i64 0, .int .i64 0], .bool false], .func (.func 35) #[] #[.pointer (some ⟨w4.heap.size, 0, none⟩), .pointer (some ⟨w.heap.size, 0, none⟩), .pointer (some ⟨w.heap.size + 1, 0, none⟩), .pointer (some ⟨w.heap.size + 1 + 1, 0, none⟩)], .tuple #[.agg #[.int .i64 0, .int .i64 0], .bool false], .agg #[.int .i64 0, .int .i64 0], .bool false, f 0, f 1, f 2, f 3, f 4, f 5, f 6, f 7, f 8], []⟩) (OdV S tt ii) (fun _ _ W => W = (w6.alloc (.cells #[.int .i64 0, .int .i64 0] 35)).drew) (fun i => [undef, undef, undef, undef, undef, undef, undef, undef, undef, .pointer none, .string ⟨#[]⟩, .bool false, .bool false].getD i undef) (by kernel_rfl) rfl rfl ?hI8 ?hput8 ?step8 ?fin8
  case hI8 => rfl
  case fin8 =>
    intro f W hP hV
    have u0 : f 0 = .pointer (some ⟨S, 0, none⟩) := hV 0 (by decide)
    have u1 : f 1 = .string tt := hV 1 (by decide)
    have u2 : f 2 = .bool ii := hV 2 (by decide)
    have u3 : f 3 = .bool false := hV 3 (by decide)
    have u4 : f 4 = .bool true := hV 4 (by decide)
    have u5 : f 5 = .bool true := hV 5 (by decide)
    have u6 : f 6 = .pointer (some ⟨S, 0, none⟩) := hV 6 (by decide)
    have u7 : f 7 = .bool true := hV 7 (by decide)
    have u8 : f 8 = .bool true := hV 8 (by decide)
    have u9 : f 9 = .pointer (some ⟨S, 0, none⟩) := hV 9 (by decide)
    have u10 : f 10 = .string tt := hV 10 (by decide)
    have u11 : f 11 = .bool ii := hV 11 (by decide)
    have u12 : f 12 = .bool true := hV 12 (by decide)
    clear hV
    generalize f 0 = x0 at *
    subst u0
    generalize f 1 = x1 at *
    subst u1
    generalize f 2 = x2 at *
    subst u2
    generalize f 3 = x3 at *
    subst u3
    generalize f 4 = x4 at *
    subst u4
    generalize f 5 = x5 at *
    subst u5
    generalize f 6 = x6 at *
    subst u6
    generalize f 7 = x7 at *
    subst u7
    generalize f 8 = x8 at *
    subst u8
    generalize f 9 = x9 at *
    subst u9
    generalize f 10 = x10 at *
    subst u10
    generalize f 11 = x11 at *
    subst u11
    generalize f 12 = x12 at *
    subst u12
    subst hP
    have O10 : Hid _ := ((O9.out (.cells #[.int .i64 0, .int .i64 0] 35)).ofBelow (Below.refl _ _).drew).forget (oth' := (S, sl) :: (M, F.med L.P st.serial st.session) :: oth) (by
      intro p hp
      simp only [List.mem_cons] at hp ⊢
      rcases hp with rfl | rfl | hp <;> simp [*])
    go_wp2
    go_returns
    exact ⟨S, M, lv', by rw [HTT.out, HII.out], HSS.out.1, HSS.out.2, by rw [HSL.out]; exact O10.out⟩
  case hput8 =>
    repeat (refine ⟨fun f v => rfl, ?_⟩)
    trivial
  case step8 =>
    refine ⟨?_, ?_⟩
    · intro done f W hP hdn hd K hK
      clear hd
      subst hP
      go_simp
      exact hK _ _ rfl rfl
    refine ⟨?_, ?_⟩
    · intro done f W hP hdn hd K hK
      clear hd
      subst hP
      go_simp
      exact hK _ _ rfl rfl
    refine ⟨?_, ?_⟩
    · intro done f W hP hdn hd K hK
      clear hd
      subst hP
      go_simp
      exact hK _ _ rfl rfl
    refine ⟨?_, ?_⟩
    · intro done f W hP hdn hd K hK
      clear hd
      subst hP
      go_simp
      exact hK _ _ rfl rfl
    refine ⟨?_, ?_⟩
    · intro done f W hP hdn hd K hK
      have d3 := (hd.1 rfl).2
      have e3 : done 3 = true := (hd.1 rfl).1
      clear hd
      replace d3 : f 3 = .bool false := d3
      subst hP
      generalize f 3 = x3 at *
      subst d3
      clear e3
      go_simp
      exact hK _ _ rfl rfl
    refine ⟨?_, ?_⟩
    · intro done f W hP hdn hd K hK
      have d4 := (hd.1 rfl).2
      have e4 : done 4 = true := (hd.1 rfl).1
      clear hd
      replace d4 : f 4 = .bool true := d4
      subst hP
      generalize f 4 = x4 at *
      subst d4
      clear e4
      go_simp
      exact hK _ _ rfl rfl
    refine ⟨?_, ?_⟩
    · intro done f W hP hdn hd K hK
      have d5 := (hd.1 rfl).2
      have e5 : done 5 = true := (hd.1 rfl).1
      clear hd
      replace d5 : f 5 = .bool true := d5
      subst hP
      generalize f 5 = x5 at *
      subst d5
      clear e5
      go_simp
      exact hK _ _ rfl rfl
    refine ⟨?_, ?_⟩
    · intro done f W hP hdn hd K hK
      have d6 := (hd.1 rfl).2
      have e6 : done 6 = true := (hd.1 rfl).1
      have d5 := (hd.2.1 rfl).2
      have e5 : done 5 = true := (hd.2.1 rfl).1
      clear hd
      replace d6 : f 6 = .pointer (some ⟨S, 0, none⟩) := d6
      replace d5 : f 5 = .bool true := d5
      subst hP
      generalize f 6 = x6 at *
      subst d6
      clear e6
      generalize f 5 = x5 at *
      subst d5
      clear e5
      go_simp
      exact hK _ _ rfl rfl
    refine ⟨?_, ?_⟩
    · intro done f W hP hdn hd K hK
      have d5 := (hd.1 rfl).2
      have e5 : done 5 = true := (hd.1 rfl).1
      have d7 := (hd.2.1 rfl).2
      have e7 : done 7 = true := (hd.2.1 rfl).1
      clear hd
      replace d5 : f 5 = .bool true := d5
      replace d7 : f 7 = .bool true := d7
      subst hP
      generalize f 5 = x5 at *
      subst d5
      clear e5
      generalize f 7 = x7 at *
      subst d7
      clear e7
      go_simp
      exact hK _ _ rfl rfl
    refine ⟨?_, ?_⟩
    · intro done f W hP hdn hd K hK
      have d0 := (hd.1 rfl).2
      have e0 : done 0 = true := (hd.1 rfl).1
      clear hd
      replace d0 : f 0 = .pointer (some ⟨S, 0, none⟩) := d0
      subst hP
      generalize f 0 = x0 at *
      subst d0
      clear e0
      go_simp
      exact hK _ _ rfl rfl
    refine ⟨?_, ?_⟩
    · intro done f W hP hdn hd K hK
      have d1 := (hd.1 rfl).2
      have e1 : done 1 = true := (hd.1 rfl).1
      clear hd
      replace d1 : f 1 = .string tt := d1
      subst hP
      generalize f 1 = x1 at *
      subst d1
      clear e1
      go_simp
      exact hK _ _ rfl rfl
    refine ⟨?_, ?_⟩
    · intro done f W hP hdn hd K hK
      have d2 := (hd.1 rfl).2
      have e2 : done 2 = true := (hd.1 rfl).1
      clear hd
      replace d2 : f 2 = .bool ii := d2
      subst hP
      generalize f 2 = x2 at *
      subst d2
      clear e2
      go_simp
      exact hK _ _ rfl rfl
    refine ⟨?_, ?_⟩
    · intro done f W hP hdn hd K hK
      have d8 := (hd.1 rfl).2
      have e8 : done 8 = true := (hd.1 rfl).1
      clear hd
      replace d8 : f 8 = .bool true := d8
      subst hP
      generalize f 8 = x8 at *
      subst d8
      clear e8
      go_simp
      exact hK _ _ rfl rfl
    trivial
end Go.Proofs.YtknmipbjkkeebaaGreat
