/- Flush, of the pool and of the medium; Size. -/
import Derived.Test.YtiohkdpmgkobiaaZ2
namespace Go.Proofs.Ytiohkdpmgkobiaa
open Go.RowKit
def FV (L : Loc) (st : St) (M : Nat) : Nat → Value → Prop
  | 0, v => v = .pointer (some ⟨M, 0, none⟩)
  | 1, v => v = .int .i64 st.serial
  | 2, v => v = .pointer (some ⟨M, 0, none⟩)
  | 3, v => v = .pointer (some ⟨M, 0, none⟩)
  | 4, v => v = .pointer (some ⟨M, 0, none⟩)
  | 5, v => v = .pointer (some ⟨L.P, 0, none⟩)
  | 6, v => v = .pointer (some ⟨M, 0, none⟩)
  | 7, v => v = .pointer (some ⟨M, 0, none⟩)
  | 8, v => v = .pointer (some ⟨M, 1, none⟩)
  | 9, v => v = hnd st.serial st.session
  | 10, v => v = .int .i64 0
  | 11, v => v = .tuple #[]
  | _, _ => True
section
variable {b0 : Nat} {w0 : World} {L : Loc} {st : St} {lv : Value} {oth : List (Nat × Obj)} {w : World}
theorem wrong71 (D : Nat) (w : World) : Calls Try.prog 71 #[.pointer (some ⟨D, 0, none⟩)] w fun e w' => e = .returned (.int .i64 0) ∧ w' = w := by
  go_enter Try.func71, Try.ntmps71
  go_wp2
  go_returns
  exact ⟨rfl, rfl⟩
theorem One.do72 (h : One b0 w0 L st lv oth w) : Calls Try.prog 72 #[.pointer (some ⟨L.D, 0, none⟩)] w fun e w' => e = .returned (.tuple #[]) ∧ ∃ lv', One b0 w0 L { st with ln := 0, loose := [] } lv' oth w' := by
  have hf := h.flush
  clear h
  go_enter Try.func72, Try.ntmps72
  go_wp2_with fail
  go_call hf as e w1 ⟨rfl, h1⟩
  have H1 : Hid _ := h1
  clear hf h1
  go_wp2
  go_returns
  exact ⟨rfl, _, H1.out⟩
theorem One.pflush (h : One b0 w0 L st lv oth w) (hdn : st.down = false) (ht : st.there = true) (haw : st.aw = false) (hhw : st.hw = false) (hc : 0 ≤ st.count ∧ st.count ≤ 1000000) :
    Calls Try.prog 18 #[.pointer (some ⟨L.P, 0, none⟩), hnd st.serial st.session] w fun e w' => e = .returned (.int .i64 0) ∧ ∃ lv', One b0 w0 L { st with ln := 0, loose := [], count := st.count + 1 } lv' oth w' := by
  have ho := (h.laid (.cells #[.int .i64 st.serial, .int .i64 st.session] 30)).operate_ok hdn ht haw hhw 71 #[] 72 #[] ent71 ent72 (fun W _ => wrong71 L.D W) { st with ln := 0, loose := [] } oth ⟨hhw, hc⟩ (fun W hW => hW.do72)
  clear h
  unfold hnd at *
  go_enter Try.func18, Try.ntmps18
  go_wp2_with fail
  go_call ho as e w1 ⟨rfl, lv', h1⟩
  have H1 : Hid _ := h1
  clear ho h1
  go_wp2
  go_returns
  exact ⟨rfl, lv', H1.out⟩
theorem One.mcells {M : Nat} (h : One b0 w0 L st lv oth w) (hm : (M, med L.P st.serial st.session) ∈ oth) : w.cell? ⟨M, 0, none⟩ = some (.pointer (some ⟨L.P, 0, none⟩)) ∧ w.cell? ⟨M, 1, none⟩ = some (.int .i64 st.serial) ∧ w.cell? ⟨M, 2, none⟩ = some (.int .i64 st.session) := by
  have e := (h.oth _ hm).1
  exact ⟨cell_of e 0, cell_of e 1, cell_of e 2⟩
theorem One.mflush (h : One b0 w0 L st lv oth w) (M : Nat) (hm : (M, med L.P st.serial st.session) ∈ oth) (hdn : st.down = false) (ht : st.there = true) (haw : st.aw = false) (hhw : st.hw = false) (hc : 0 ≤ st.count ∧ st.count ≤ 1000000) :
    Calls Try.prog 34 #[.pointer (some ⟨M, 0, none⟩)] w fun e w' => e = .returned (.tuple #[]) ∧ ∃ lv', One b0 w0 L { st with ln := 0, loose := [], count := st.count + 1 } lv' oth w' := by
  have H0 : Hid _ := h
  have HFl : Hid (∀ W, One b0 w0 L st lv oth W → Calls Try.prog 18 #[.pointer (some ⟨L.P, 0, none⟩), hnd st.serial st.session] W fun e w' => e = .returned (.int .i64 0) ∧ ∃ lv', One b0 w0 L { st with ln := 0, loose := [], count := st.count + 1 } lv' oth w') := fun W hW => hW.pflush hdn ht haw hhw hc
  have HC0 : Hid (∀ W, One b0 w0 L st lv oth W → W.cell? ⟨M, 0, none⟩ = some (.pointer (some ⟨L.P, 0, none⟩)) ∧ W.cell? ⟨M, 1, none⟩ = some (.int .i64 st.serial) ∧ W.cell? ⟨M, 2, none⟩ = some (.int .i64 st.session)) := fun W hW => hW.mcells hm
  have HC1 : Hid (∀ W, (∃ lv, One b0 w0 L { st with ln := 0, loose := [], count := st.count + 1 } lv oth W) → W.cell? ⟨M, 0, none⟩ = some (.pointer (some ⟨L.P, 0, none⟩)) ∧ W.cell? ⟨M, 1, none⟩ = some (.int .i64 st.serial) ∧ W.cell? ⟨M, 2, none⟩ = some (.int .i64 st.session)) := fun W ⟨lv, hW⟩ => hW.mcells hm
  clear h hdn ht haw hhw hc hm
  go_enter Try.func34, Try.ntmps34
  go_wp2_with fail
  refine wp_region_pb (fun f => ⟨#[.pointer (some ⟨M, 0, none⟩), undef, f 0, f 1, f 2, f 3, f 4, f 5, f 6, f 7, f 8, f 9, f 10, f 11], []⟩) (FV L st M) (Two 10 (fun W => One b0 w0 L st lv oth W) (fun W => ∃ lv, One b0 w0 L { st with ln := 0, loose := [], count := st.count + 1 } lv oth W)) (fun i => [undef, undef, undef, undef, undef, undef, undef, undef, undef, undef, undef, undef].getD i undef) (by kernel_rfl) rfl rfl ?hI ?hput ?step ?fin
  case hI => exact ⟨fun _ => H0.out.ofBelow ⟨rfl, rfl, rfl, Nat.le_refl _, fun _ _ => rfl⟩, (fun e => by cases e)⟩
  case fin =>
    intro f W hP hV
    have H1 : Hid _ := hP.b rfl
    clear hP hV HFl HC0 HC1
    go_wp2
    go_returns
    exact ⟨rfl, H1.out⟩
  case hput =>
    repeat (refine ⟨fun f v => rfl, ?_⟩)
    trivial
  case step =>
    refine ⟨?_, ?_⟩
    · intro done f W hP hdn hd K hK
      clear hd
      go_simp
      exact hK _ _ rfl (hP.pure _ (by decide) _)
    refine ⟨?_, ?_⟩
    · intro done f W hP hdn hd K hK
      have d0 := (hd.1 rfl).2
      have e0 : done 0 = true := (hd.1 rfl).1
      clear hd
      replace d0 : f 0 = .pointer (some ⟨M, 0, none⟩) := d0
      generalize f 0 = x0 at *
      subst d0
      clear e0
      have q := Two.any (R := fun W => W.cell? ⟨M, 0, none⟩ = some (.pointer (some ⟨L.P, 0, none⟩)) ∧ W.cell? ⟨M, 1, none⟩ = some (.int .i64 st.serial) ∧ W.cell? ⟨M, 2, none⟩ = some (.int .i64 st.session)) HC0.out HC1.out hP
      have q0 := q.1
      have q1 := q.2.1
      have q2 := q.2.2
      clear q
      go_simp
      refine Calls.mono (serial_any M st.serial W q1) ?_
      rintro e W' ⟨rfl, rfl⟩
      exact hK _ _ rfl (hP.pure _ (by decide) _)
    refine ⟨?_, ?_⟩
    · intro done f W hP hdn hd K hK
      clear hd
      go_simp
      exact hK _ _ rfl (hP.pure _ (by decide) _)
    refine ⟨?_, ?_⟩
    · intro done f W hP hdn hd K hK
      have d2 := (hd.1 rfl).2
      have e2 : done 2 = true := (hd.1 rfl).1
      clear hd
      replace d2 : f 2 = .pointer (some ⟨M, 0, none⟩) := d2
      generalize f 2 = x2 at *
      subst d2
      clear e2
      go_simp
      exact hK _ _ rfl (hP.pure _ (by decide) _)
    refine ⟨?_, ?_⟩
    · intro done f W hP hdn hd K hK
      have d3 := (hd.1 rfl).2
      have e3 : done 3 = true := (hd.1 rfl).1
      clear hd
      replace d3 : f 3 = .pointer (some ⟨M, 0, none⟩) := d3
      generalize f 3 = x3 at *
      subst d3
      clear e3
      go_simp
      exact hK _ _ rfl (hP.pure _ (by decide) _)
    refine ⟨?_, ?_⟩
    · intro done f W hP hdn hd K hK
      have d4 := (hd.1 rfl).2
      have e4 : done 4 = true := (hd.1 rfl).1
      clear hd
      replace d4 : f 4 = .pointer (some ⟨M, 0, none⟩) := d4
      generalize f 4 = x4 at *
      subst d4
      clear e4
      have q := Two.any (R := fun W => W.cell? ⟨M, 0, none⟩ = some (.pointer (some ⟨L.P, 0, none⟩)) ∧ W.cell? ⟨M, 1, none⟩ = some (.int .i64 st.serial) ∧ W.cell? ⟨M, 2, none⟩ = some (.int .i64 st.session)) HC0.out HC1.out hP
      have q0 := q.1
      have q1 := q.2.1
      have q2 := q.2.2
      clear q
      go_simp
      exact hK _ _ rfl (hP.pure _ (by decide) _)
    refine ⟨?_, ?_⟩
    · intro done f W hP hdn hd K hK
      clear hd
      go_simp
      exact hK _ _ rfl (hP.pure _ (by decide) _)
    refine ⟨?_, ?_⟩
    · intro done f W hP hdn hd K hK
      have d6 := (hd.1 rfl).2
      have e6 : done 6 = true := (hd.1 rfl).1
      clear hd
      replace d6 : f 6 = .pointer (some ⟨M, 0, none⟩) := d6
      generalize f 6 = x6 at *
      subst d6
      clear e6
      go_simp
      exact hK _ _ rfl (hP.pure _ (by decide) _)
    refine ⟨?_, ?_⟩
    · intro done f W hP hdn hd K hK
      have d7 := (hd.1 rfl).2
      have e7 : done 7 = true := (hd.1 rfl).1
      clear hd
      replace d7 : f 7 = .pointer (some ⟨M, 0, none⟩) := d7
      generalize f 7 = x7 at *
      subst d7
      clear e7
      go_simp
      exact hK _ _ rfl (hP.pure _ (by decide) _)
    refine ⟨?_, ?_⟩
    · intro done f W hP hdn hd K hK
      have d8 := (hd.1 rfl).2
      have e8 : done 8 = true := (hd.1 rfl).1
      clear hd
      replace d8 : f 8 = .pointer (some ⟨M, 1, none⟩) := d8
      generalize f 8 = x8 at *
      subst d8
      clear e8
      have q := Two.any (R := fun W => W.cell? ⟨M, 0, none⟩ = some (.pointer (some ⟨L.P, 0, none⟩)) ∧ W.cell? ⟨M, 1, none⟩ = some (.int .i64 st.serial) ∧ W.cell? ⟨M, 2, none⟩ = some (.int .i64 st.session)) HC0.out HC1.out hP
      have q0 := q.1
      have q1 := q.2.1
      have q2 := q.2.2
      clear q
      go_simp
      exact hK _ _ rfl (hP.pure _ (by decide) _)
    refine ⟨?_, ?_⟩
    · intro done f W hP hdn hd K hK
      have d5 := (hd.1 rfl).2
      have e5 : done 5 = true := (hd.1 rfl).1
      have d9 := (hd.2.1 rfl).2
      have e9 : done 9 = true := (hd.2.1 rfl).1
      clear hd
      replace d5 : f 5 = .pointer (some ⟨L.P, 0, none⟩) := d5
      replace d9 : f 9 = hnd st.serial st.session := d9
      generalize f 5 = x5 at *
      subst d5
      clear e5
      generalize f 9 = x9 at *
      subst d9
      clear e9
      have hx0 := hP.a hdn
      go_simp
      refine Calls.mono (HFl.out W hx0) ?_
      rintro e W' ⟨rfl, hx1⟩
      exact hK _ _ rfl (hP.turn hx1 _)
    refine ⟨?_, ?_⟩
    · intro done f W hP hdn hd K hK
      have d1 := (hd.1 rfl).2
      have e1 : done 1 = true := (hd.1 rfl).1
      have d10 := (hd.2.1 rfl).2
      have e10 : done 10 = true := (hd.2.1 rfl).1
      clear hd
      replace d1 : f 1 = .int .i64 st.serial := d1
      replace d10 : f 10 = .int .i64 0 := d10
      generalize f 1 = x1 at *
      subst d1
      clear e1
      generalize f 10 = x10 at *
      subst d10
      clear e10
      go_simp
      refine Calls.mono (fail_ok st.serial W) ?_
      rintro e W' ⟨rfl, rfl⟩
      exact hK _ _ rfl (hP.pure _ (by decide) _)
    trivial
end
end Go.Proofs.Ytiohkdpmgkobiaa
