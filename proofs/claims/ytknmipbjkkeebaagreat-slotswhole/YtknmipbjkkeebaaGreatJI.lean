/- What SlotsRise hands to Guard, as a call; Halt. -/
import Derived.Test.YtknmipbjkkeebaaGreatJH
import Derived.Test.YtknmipbjkkeebaaGreatIW
namespace Go.Proofs.YtknmipbjkkeebaaGreat
open Go.RowKit
/-- Behind a Write that ended. -/
def WEnd (b0 : Nat) (w0 : World) (L : F.Loc) (st : F.St) (S M : Nat) (s : Sl) (oth : List (Nat × Obj)) (now : Nat → ByteArray) (x : ByteArray) (W : World) : Prop :=
  ∃ st' lv', F.One b0 w0 L st' lv' ((S, .cells (Sl.cs ⟨s.other, s.most + 1, s.most + 1, false⟩ M) 72) :: oth) W ∧ F.Kp st st' ∧ st.count ≤ st'.count ∧ st'.count ≤ st.count + 18 ∧ ∃ ats', F.Dv st' ats' (F.lay now (s.other * 16) (wrL x (s.most + 1)) (spT x.size)) (F.lay now (s.other * 16) (wrL x (s.most + 1)) (spT x.size))
/-- Behind a Write that was broken off. -/
def WBrk (b0 : Nat) (w0 : World) (L : F.Loc) (st : F.St) (s : Sl) (oth : List (Nat × Obj)) (now : Nat → ByteArray) (x : ByteArray) (W : World) : Prop :=
  ∃ st' lv', F.One b0 w0 L st' lv' oth W ∧ F.Kp st st' ∧ st.count ≤ st'.count ∧ st'.count ≤ st.count + 18 ∧ Brk now (s.other * 16) (wrL x (s.most + 1)) st'
theorem ent22 (args : Array Value) (W : World) : (callFunc 22 args).run Tryz.prog W = .ok (.enter 22 args) W := O.enter_of Tryz.func22 (by kernel_rfl) (by kernel_rfl) args W
theorem F.One.halt {b0 : Nat} {w0 : World} {L : F.Loc} {st : F.St} {lv : Value} {oth : List (Nat × Obj)} {w : World} (h : F.One b0 w0 L st lv oth w) (a : Int) (ha : 0 ≤ a) : Calls Tryz.prog 18 #[.pointer (some ⟨L.P, 0, none⟩), .int .i64 a] w fun e w' => e = .returned (.tuple #[]) ∧ F.One b0 w0 L { st with hw := true, hl := a } lv oth w' := by
  obtain ⟨c0, c1, c2, c3, c4⟩ := h.pc
  have f1 := h.pf 1
  have f2 := h.pf 2
  have h1 := h.updP 1 (.bool true) { st with hw := true } ⟨rfl, rfl, rfl, rfl, rfl, rfl, rfl, rfl, rfl, rfl⟩ rfl
  have h2 := h1.updP 2 (.int .i64 a) { st with hw := true, hl := a } ⟨rfl, rfl, rfl, rfl, rfl, rfl, rfl, rfl, rfl, rfl⟩ rfl
  have HF : Hid _ := h2
  have hd : decide (a ≥ 0) = true := decide_eq_true ha
  clear h h1 h2
  go_enter Tryz.func18, Tryz.ntmps18
  go_wp2
  go_returns
  exact ⟨rfl, HF.out⟩
def V22 (S LK lO ln lc k : Nat) (tx : ByteArray) (sz : Int) : Nat → Value → Prop
  | 0, v => v = .pointer (some ⟨S, 0, none⟩)
  | 1, v => v = .slice (some ⟨LK, lO, none⟩) ln lc
  | 2, v => v = .int .i64 (k : Nat)
  | 3, v => v = .pointer (some ⟨LK, lO + k * 6, none⟩)
  | 4, v => v = .pointer (some ⟨LK, lO + k * 6, none⟩)
  | 5, v => v = .string tx
  | 6, v => ∃ x : ByteArray, v = .string x ∧ x.size ≤ 9
  | 7, v => v = .slice (some ⟨LK, lO, none⟩) ln lc
  | 8, v => v = .int .i64 (k : Nat)
  | 9, v => v = .pointer (some ⟨LK, lO + k * 6, none⟩)
  | 10, v => v = .pointer (some ⟨LK, lO + k * 6 + 1, none⟩)
  | 11, v => v = .int .i64 sz
  | 12, v => ∃ x : ByteArray, v = .string x ∧ x.size ≤ 640
  | _, _ => True
set_option maxHeartbeats 2000000 in
set_option maxRecDepth 100000 in
theorem op22 {b0 : Nat} {w0 : World} {L : F.Loc} {st : F.St} {lv : Value} {oth : List (Nat × Obj)} {w : World} {S M Sb Lb Ib LK lO ln lc k : Nat} {tx : ByteArray} {sz : Int} (s : Sl) (h : F.One b0 w0 L st lv ((S, .cells (s.cs M) 72) :: oth) w) (hm : (M, F.med L.P st.serial st.session) ∈ oth) (hne : ∀ p ∈ oth, p.1 ≠ S)
    (hSb : (Sb, .cells #[.pointer (some ⟨S, 0, none⟩)] 29) ∈ oth) (hLb : (Lb, .cells #[.slice (some ⟨LK, lO, none⟩) ln lc] 43) ∈ oth) (hIb : (Ib, .cells #[.int .i64 (k : Nat)] 3) ∈ oth) (hk : k < ln) (_hk2 : k ≤ 1000)
    (hin : ∀ W, Below b0 w0 W → W.cell? ⟨LK, lO + k * 6, none⟩ = some (.string tx) ∧ W.cell? ⟨LK, lO + k * 6 + 1, none⟩ = some (.int .i64 sz))
    (hs : s.slot ≤ 1) (hmost : s.most < 18446744073709551615) {ats : Nat → Nat} {now : Nat → ByteArray} (hd : F.Dv st ats now now) (hn : 32 ≤ st.n) (hn1 : st.n ≤ 1000) (ht : st.there = true) (m : F.Mode) (hmd : m.is st) (hmo : m ≠ .over) (hc : 0 ≤ st.count ∧ st.count ≤ 700000) :
    Calls Tryz.prog 22 #[.pointer (some ⟨Sb, 0, none⟩), .pointer (some ⟨Lb, 0, none⟩), .pointer (some ⟨Ib, 0, none⟩)] w fun e w' => (e = .returned (.tuple #[]) ∧ ∃ x, x.size ≤ 640 ∧ WEnd b0 w0 L st S M s oth now x w') ∨ (∃ E, e = .panicked [F.fl st.serial E] ∧ ∃ x, x.size ≤ 640 ∧ WBrk b0 w0 L st s oth now x w') := by
  have HW : Hid (∀ x W, x.size ≤ 640 → F.One b0 w0 L st lv ((S, .cells (s.cs M) 72) :: oth) W → Calls Tryz.prog 14 #[.pointer (some ⟨S, 0, none⟩), .string x] W fun e w' => (e = .returned (.int .i64 0) ∧ WEnd b0 w0 L st S M s oth now x w') ∨ (∃ E, e = .panicked [F.fl st.serial E] ∧ WBrk b0 w0 L st s oth now x w')) := fun x W hx hW => swrite_md s hW hm hne hs hmost x hx hd hn hn1 ht m hmd hmo hc
  have HC0 : Hid (∀ W, F.One b0 w0 L st lv ((S, .cells (s.cs M) 72) :: oth) W → W.cell? ⟨Sb, 0, none⟩ = some (.pointer (some ⟨S, 0, none⟩)) ∧ W.cell? ⟨Lb, 0, none⟩ = some (.slice (some ⟨LK, lO, none⟩) ln lc) ∧ W.cell? ⟨Ib, 0, none⟩ = some (.int .i64 (k : Nat)) ∧ W.cell? ⟨LK, lO + k * 6, none⟩ = some (.string tx) ∧ W.cell? ⟨LK, lO + k * 6 + 1, none⟩ = some (.int .i64 sz)) := fun W hW =>
    ⟨F.cell_of (hW.oth _ (List.mem_cons_of_mem _ hSb)).1 0, F.cell_of (hW.oth _ (List.mem_cons_of_mem _ hLb)).1 0, F.cell_of (hW.oth _ (List.mem_cons_of_mem _ hIb)).1 0, (hin W hW.below).1, (hin W hW.below).2⟩
  have HC1 : Hid (∀ W, (∃ x, x.size ≤ 640 ∧ WEnd b0 w0 L st S M s oth now x W) → W.cell? ⟨Sb, 0, none⟩ = some (.pointer (some ⟨S, 0, none⟩)) ∧ W.cell? ⟨Lb, 0, none⟩ = some (.slice (some ⟨LK, lO, none⟩) ln lc) ∧ W.cell? ⟨Ib, 0, none⟩ = some (.int .i64 (k : Nat)) ∧ W.cell? ⟨LK, lO + k * 6, none⟩ = some (.string tx) ∧ W.cell? ⟨LK, lO + k * 6 + 1, none⟩ = some (.int .i64 sz)) := fun W ⟨_, _, _, _, hW, _⟩ =>
    ⟨F.cell_of (hW.oth _ (List.mem_cons_of_mem _ hSb)).1 0, F.cell_of (hW.oth _ (List.mem_cons_of_mem _ hLb)).1 0, F.cell_of (hW.oth _ (List.mem_cons_of_mem _ hIb)).1 0, (hin W hW.below).1, (hin W hW.below).2⟩
  have H0 : Hid _ := h
  have hki : (k : Int) < (ln : Int) := by omega
  clear h hm hne hSb hLb hIb hin hs hmost hd hn hn1 ht hmd hmo hc
  go_enter Tryz.func22, Tryz.ntmps22
  go_wp2_with fail
  refine F.wp_region_pb (fun f => ⟨#[.pointer (some ⟨Sb, 0, none⟩), .pointer (some ⟨Lb, 0, none⟩), .pointer (some ⟨Ib, 0, none⟩), f 0, f 1, f 2, f 3, f 4, f 5, f 6, f 7, f 8, f 9, f 10, f 11, f 12, f 13], []⟩) (V22 S LK lO ln lc k tx sz) (F.Two 13 (fun W => F.One b0 w0 L st lv ((S, .cells (s.cs M) 72) :: oth) W) (fun W => ∃ x, x.size ≤ 640 ∧ WEnd b0 w0 L st S M s oth now x W)) (fun i => [undef, undef, undef, undef, undef, undef, undef, undef, undef, undef, undef, undef, undef, undef].getD i undef) (by kernel_rfl) rfl rfl ?hI ?hput ?step ?fin
  case hI => exact ⟨fun _ => H0.out.ofBelow ⟨rfl, rfl, rfl, Nat.le_refl _, fun _ _ => rfl⟩, (fun e => by cases e)⟩
  case fin =>
    intro f W hP hV
    have H1 : Hid _ := hP.b rfl
    clear hP hV HW HC0 HC1 H0
    go_wp2
    go_returns
    exact Or.inl ⟨rfl, H1.out⟩
  case hput =>
    repeat (refine ⟨fun f v => rfl, ?_⟩)
    trivial
  case step =>
    refine ⟨?_, ?_⟩
    · intro done f W hP hdn hd K hK
      clear hd
      obtain ⟨q0, q1, q2, q3, q4⟩ := F.Two.any (R := fun W => W.cell? ⟨Sb, 0, none⟩ = some (.pointer (some ⟨S, 0, none⟩)) ∧ W.cell? ⟨Lb, 0, none⟩ = some (.slice (some ⟨LK, lO, none⟩) ln lc) ∧ W.cell? ⟨Ib, 0, none⟩ = some (.int .i64 (k : Nat)) ∧ W.cell? ⟨LK, lO + k * 6, none⟩ = some (.string tx) ∧ W.cell? ⟨LK, lO + k * 6 + 1, none⟩ = some (.int .i64 sz)) HC0.out HC1.out hP
      go_simp
      exact hK _ _ rfl (hP.pure _ (by decide) _)
    refine ⟨?_, ?_⟩
    · intro done f W hP hdn hd K hK
      clear hd
      obtain ⟨q0, q1, q2, q3, q4⟩ := F.Two.any (R := fun W => W.cell? ⟨Sb, 0, none⟩ = some (.pointer (some ⟨S, 0, none⟩)) ∧ W.cell? ⟨Lb, 0, none⟩ = some (.slice (some ⟨LK, lO, none⟩) ln lc) ∧ W.cell? ⟨Ib, 0, none⟩ = some (.int .i64 (k : Nat)) ∧ W.cell? ⟨LK, lO + k * 6, none⟩ = some (.string tx) ∧ W.cell? ⟨LK, lO + k * 6 + 1, none⟩ = some (.int .i64 sz)) HC0.out HC1.out hP
      go_simp
      exact hK _ _ rfl (hP.pure _ (by decide) _)
    refine ⟨?_, ?_⟩
    · intro done f W hP hdn hd K hK
      clear hd
      obtain ⟨q0, q1, q2, q3, q4⟩ := F.Two.any (R := fun W => W.cell? ⟨Sb, 0, none⟩ = some (.pointer (some ⟨S, 0, none⟩)) ∧ W.cell? ⟨Lb, 0, none⟩ = some (.slice (some ⟨LK, lO, none⟩) ln lc) ∧ W.cell? ⟨Ib, 0, none⟩ = some (.int .i64 (k : Nat)) ∧ W.cell? ⟨LK, lO + k * 6, none⟩ = some (.string tx) ∧ W.cell? ⟨LK, lO + k * 6 + 1, none⟩ = some (.int .i64 sz)) HC0.out HC1.out hP
      go_simp
      exact hK _ _ rfl (hP.pure _ (by decide) _)
    refine ⟨?_, ?_⟩
    · intro done f W hP hdn hd K hK
      have d1 := (hd.1 rfl).2
      have e1 : done 1 = true := (hd.1 rfl).1
      have d2 := (hd.2.1 rfl).2
      have e2 : done 2 = true := (hd.2.1 rfl).1
      clear hd
      replace d1 : f 1 = .slice (some ⟨LK, lO, none⟩) ln lc := d1
      replace d2 : f 2 = .int .i64 (k : Nat) := d2
      generalize f 1 = x1 at *
      subst d1
      clear e1
      generalize f 2 = x2 at *
      subst d2
      clear e2
      go_simp
      exact hK _ _ (by first | rfl | (show Value.pointer _ = Value.pointer _; simp [Addr.add_lit])) (hP.pure _ (by decide) _)
    refine ⟨?_, ?_⟩
    · intro done f W hP hdn hd K hK
      have d3 := (hd.1 rfl).2
      have e3 : done 3 = true := (hd.1 rfl).1
      clear hd
      replace d3 : f 3 = .pointer (some ⟨LK, lO + k * 6, none⟩) := d3
      generalize f 3 = x3 at *
      subst d3
      clear e3
      go_simp
      exact hK _ _ (by first | rfl | (show Value.pointer _ = Value.pointer _; simp [Addr.add_lit])) (hP.pure _ (by decide) _)
    refine ⟨?_, ?_⟩
    · intro done f W hP hdn hd K hK
      have d4 := (hd.1 rfl).2
      have e4 : done 4 = true := (hd.1 rfl).1
      clear hd
      replace d4 : f 4 = .pointer (some ⟨LK, lO + k * 6, none⟩) := d4
      generalize f 4 = x4 at *
      subst d4
      clear e4
      obtain ⟨q0, q1, q2, q3, q4⟩ := F.Two.any (R := fun W => W.cell? ⟨Sb, 0, none⟩ = some (.pointer (some ⟨S, 0, none⟩)) ∧ W.cell? ⟨Lb, 0, none⟩ = some (.slice (some ⟨LK, lO, none⟩) ln lc) ∧ W.cell? ⟨Ib, 0, none⟩ = some (.int .i64 (k : Nat)) ∧ W.cell? ⟨LK, lO + k * 6, none⟩ = some (.string tx) ∧ W.cell? ⟨LK, lO + k * 6 + 1, none⟩ = some (.int .i64 sz)) HC0.out HC1.out hP
      go_simp
      exact hK _ _ rfl (hP.pure _ (by decide) _)
    refine ⟨?_, ?_⟩
    · intro done f W hP hdn hd K hK
      have d5 := (hd.1 rfl).2
      have e5 : done 5 = true := (hd.1 rfl).1
      clear hd
      replace d5 : f 5 = .string tx := d5
      generalize f 5 = x5 at *
      subst d5
      clear e5
      go_simp
      refine (cut_any tx 9 (by decide) W).mono ?_
      rintro e W' ⟨x, hx, rfl, rfl⟩
      exact hK _ _ ⟨x, rfl, hx⟩ (hP.pure _ (by decide) _)
    refine ⟨?_, ?_⟩
    · intro done f W hP hdn hd K hK
      clear hd
      obtain ⟨q0, q1, q2, q3, q4⟩ := F.Two.any (R := fun W => W.cell? ⟨Sb, 0, none⟩ = some (.pointer (some ⟨S, 0, none⟩)) ∧ W.cell? ⟨Lb, 0, none⟩ = some (.slice (some ⟨LK, lO, none⟩) ln lc) ∧ W.cell? ⟨Ib, 0, none⟩ = some (.int .i64 (k : Nat)) ∧ W.cell? ⟨LK, lO + k * 6, none⟩ = some (.string tx) ∧ W.cell? ⟨LK, lO + k * 6 + 1, none⟩ = some (.int .i64 sz)) HC0.out HC1.out hP
      go_simp
      exact hK _ _ rfl (hP.pure _ (by decide) _)
    refine ⟨?_, ?_⟩
    · intro done f W hP hdn hd K hK
      clear hd
      obtain ⟨q0, q1, q2, q3, q4⟩ := F.Two.any (R := fun W => W.cell? ⟨Sb, 0, none⟩ = some (.pointer (some ⟨S, 0, none⟩)) ∧ W.cell? ⟨Lb, 0, none⟩ = some (.slice (some ⟨LK, lO, none⟩) ln lc) ∧ W.cell? ⟨Ib, 0, none⟩ = some (.int .i64 (k : Nat)) ∧ W.cell? ⟨LK, lO + k * 6, none⟩ = some (.string tx) ∧ W.cell? ⟨LK, lO + k * 6 + 1, none⟩ = some (.int .i64 sz)) HC0.out HC1.out hP
      go_simp
      exact hK _ _ rfl (hP.pure _ (by decide) _)
    refine ⟨?_, ?_⟩
    · intro done f W hP hdn hd K hK
      have d7 := (hd.1 rfl).2
      have e7 : done 7 = true := (hd.1 rfl).1
      have d8 := (hd.2.1 rfl).2
      have e8 : done 8 = true := (hd.2.1 rfl).1
      clear hd
      replace d7 : f 7 = .slice (some ⟨LK, lO, none⟩) ln lc := d7
      replace d8 : f 8 = .int .i64 (k : Nat) := d8
      generalize f 7 = x7 at *
      subst d7
      clear e7
      generalize f 8 = x8 at *
      subst d8
      clear e8
      go_simp
      exact hK _ _ (by first | rfl | (show Value.pointer _ = Value.pointer _; simp [Addr.add_lit])) (hP.pure _ (by decide) _)
    refine ⟨?_, ?_⟩
    · intro done f W hP hdn hd K hK
      have d9 := (hd.1 rfl).2
      have e9 : done 9 = true := (hd.1 rfl).1
      clear hd
      replace d9 : f 9 = .pointer (some ⟨LK, lO + k * 6, none⟩) := d9
      generalize f 9 = x9 at *
      subst d9
      clear e9
      go_simp
      exact hK _ _ (by first | rfl | (show Value.pointer _ = Value.pointer _; simp [Addr.add_lit])) (hP.pure _ (by decide) _)
    refine ⟨?_, ?_⟩
    · intro done f W hP hdn hd K hK
      have d10 := (hd.1 rfl).2
      have e10 : done 10 = true := (hd.1 rfl).1
      clear hd
      replace d10 : f 10 = .pointer (some ⟨LK, lO + k * 6 + 1, none⟩) := d10
      generalize f 10 = x10 at *
      subst d10
      clear e10
      obtain ⟨q0, q1, q2, q3, q4⟩ := F.Two.any (R := fun W => W.cell? ⟨Sb, 0, none⟩ = some (.pointer (some ⟨S, 0, none⟩)) ∧ W.cell? ⟨Lb, 0, none⟩ = some (.slice (some ⟨LK, lO, none⟩) ln lc) ∧ W.cell? ⟨Ib, 0, none⟩ = some (.int .i64 (k : Nat)) ∧ W.cell? ⟨LK, lO + k * 6, none⟩ = some (.string tx) ∧ W.cell? ⟨LK, lO + k * 6 + 1, none⟩ = some (.int .i64 sz)) HC0.out HC1.out hP
      go_simp
      exact hK _ _ rfl (hP.pure _ (by decide) _)
    refine ⟨?_, ?_⟩
    · intro done f W hP hdn hd K hK
      have d6 := (hd.1 rfl).2
      have e6 : done 6 = true := (hd.1 rfl).1
      have d11 := (hd.2.1 rfl).2
      have e11 : done 11 = true := (hd.2.1 rfl).1
      clear hd
      replace d11 : f 11 = .int .i64 sz := d11
      generalize f 11 = x11 at *
      subst d11
      clear e11
      replace d6 : ∃ x : ByteArray, f 6 = .string x ∧ x.size ≤ 9 := d6
      obtain ⟨x6, d6, hx6⟩ := d6
      generalize f 6 = y6 at *
      subst d6
      clear e6
      go_simp
      refine (long_any x6 (by omega) sz W).mono ?_
      rintro e W' ⟨x, hx, rfl, rfl⟩
      exact hK _ _ ⟨x, rfl, by omega⟩ (hP.pure _ (by decide) _)
    refine ⟨?_, ?_⟩
    · intro done f W hP hdn hd K hK
      have d0 := (hd.1 rfl).2
      have e0 : done 0 = true := (hd.1 rfl).1
      have d12 := (hd.2.1 rfl).2
      have e12 : done 12 = true := (hd.2.1 rfl).1
      clear hd
      replace d0 : f 0 = .pointer (some ⟨S, 0, none⟩) := d0
      generalize f 0 = x0 at *
      subst d0
      clear e0
      replace d12 : ∃ x : ByteArray, f 12 = .string x ∧ x.size ≤ 640 := d12
      obtain ⟨x12, d12, hx12⟩ := d12
      generalize f 12 = y12 at *
      subst d12
      clear e12
      have hx0 := hP.a hdn
      go_simp
      refine (HW.out x12 W hx12 hx0).mono ?_
      rintro e W' (⟨rfl, hr⟩ | ⟨E, rfl, hB⟩)
      · exact hK _ _ trivial (hP.turn ⟨x12, hx12, hr⟩ _)
      · exact ⟨rfl, Or.inr ⟨E, rfl, x12, hx12, hB⟩⟩
    trivial
end Go.Proofs.YtknmipbjkkeebaaGreat
