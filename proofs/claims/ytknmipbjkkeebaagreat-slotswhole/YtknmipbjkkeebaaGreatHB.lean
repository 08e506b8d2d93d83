/- A Page's sector, as a call. -/
import Derived.Test.YtknmipbjkkeebaaGreatHA
namespace Go.Proofs.YtknmipbjkkeebaaGreat
open Go.RowKit
/-- A Page. -/
structure Pg where
  q : Nat
  i : Nat
  n : Nat
  d : ByteArray
def Pg.cs (p : Pg) : Array Value := #[.int .u64 (p.q : Nat), .int .i64 (p.i : Nat), .int .i64 (p.n : Nat), .string p.d]
/-- One that may be. -/
structure Pg.Ok (p : Pg) : Prop where
  q0 : p.q ≠ 0
  q1 : p.q < 18446744073709551616
  i : p.i < p.n
  n : p.n ≤ 16
  d : p.d.size ≤ 40
def Pg.fl (p : Pg) : List UInt8 := ((O.numB p.q 8 ++ O.numB p.i 1) ++ O.numB p.n 1) ++ (O.numB p.d.size 1 ++ p.d.data.toList)
theorem Pg.fl_length (p : Pg) : p.fl.length = 11 + p.d.size := by
  unfold Pg.fl; rw [List.length_append, List.length_append, List.length_append, List.length_append, O.numB_length, O.numB_length, O.numB_length, O.numB_length, ← O.size_list]; omega
def Pg.sec (p : Pg) : ByteArray := O.tx (secL 80 p.fl)
theorem Pg.sec_size (p : Pg) (h : p.Ok) : p.sec.size = 64 := by
  rw [O.size_list]; show (secL 80 p.fl).toArray.toList.length = _; rw [List.toList_toArray]; exact secL_length _ _ (by rw [Pg.fl_length]; have := h.d; omega)
theorem ent99 (args : Array Value) (W : World) : (callFunc 99 args).run Tryz.prog W = .ok (.enter 99 args) W := O.enter_of Tryz.func99 (by kernel_rfl) (by kernel_rfl) args W
/-- What was written by as many calls as are done. -/
def wsB (a b c : Nat) (N1 N2 N3 : List UInt8) (done : Nat → Bool) : List UInt8 := ((if done a then N1 else []) ++ (if done b then N2 else [])) ++ (if done c then N3 else [])
/-- Phases of a statement of up to three calls that write into an Out. -/
structure WPh (a b c X B : Nat) (bx : Array Value) (v0 : Value) (l N1 N2 N3 : List UInt8) (w0 : World) (done : Nat → Bool) (W : World) : Prop where
  x : W.heap[X]? = some (.cells bx 75)
  wr : ∃ v, O.Wr B v0 l (wsB a b c N1 N2 N3 done) w0 v W
  ob : done b = true → done a = true
  oc : done c = true → done b = true
section
variable {a b c X B : Nat} {bx : Array Value} {v0 : Value} {l N1 N2 N3 : List UInt8} {w0 : World} {done : Nat → Bool} {W W' : World}
theorem WPh.pure (h : WPh a b c X B bx v0 l N1 N2 N3 w0 done W) (k : Nat) (hk : k ≠ a ∧ k ≠ b ∧ k ≠ c) : WPh a b c X B bx v0 l N1 N2 N3 w0 (O.updB done k) W := by
  have ea : O.updB done k a = done a := if_neg (Ne.symm hk.1)
  have eb : O.updB done k b = done b := if_neg (Ne.symm hk.2.1)
  have ec : O.updB done k c = done c := if_neg (Ne.symm hk.2.2)
  refine ⟨h.x, ?_, by rw [ea, eb]; exact h.ob, by rw [eb, ec]; exact h.oc⟩
  unfold wsB; rw [ea, eb, ec]; exact h.wr
theorem WPh.s1 (h : WPh a b c X B bx v0 l N1 N2 N3 w0 done W) (hX : X < B) (hab : a ≠ b) (hac : a ≠ c) (hd : done a = false) : ∃ v, O.OutIs W B v l ∧ ∀ v' W', O.Wr B v l N1 W v' W' → WPh a b c X B bx v0 l N1 N2 N3 w0 (O.updB done a) W' := by
  obtain ⟨v, hw⟩ := h.wr
  have hb : done b = false := by
    cases hq : done b with
    | false => rfl
    | true => rw [h.ob hq] at hd; cases hd
  have hc : done c = false := by
    cases hq : done c with
    | false => rfl
    | true => rw [h.oc hq] at hb; cases hb
  have e0 : wsB a b c N1 N2 N3 done = [] := by unfold wsB; rw [hd, hb, hc]; rfl
  rw [e0] at hw
  have ho := hw.out
  rw [List.append_nil] at ho
  refine ⟨v, ho, fun v' W' hw' => ?_⟩
  have ea : O.updB done a a = true := if_pos rfl
  have eb : O.updB done a b = done b := if_neg (Ne.symm hab)
  have ec : O.updB done a c = done c := if_neg (Ne.symm hac)
  refine ⟨((hw'.below ho).block X hX).trans h.x, ⟨v', ?_⟩, fun _ => ea, fun e => by rw [ec, hc] at e; cases e⟩
  have e1 : wsB a b c N1 N2 N3 (O.updB done a) = [] ++ N1 := by unfold wsB; rw [ea, eb, ec, hb, hc]; simp
  rw [e1]
  exact hw.trans (by rw [List.append_nil]; exact hw')
theorem WPh.s2 (h : WPh a b c X B bx v0 l N1 N2 N3 w0 done W) (hX : X < B) (hab : a ≠ b) (hbc : b ≠ c) (ha : done a = true) (hd : done b = false) : ∃ v, O.OutIs W B v (l ++ N1) ∧ ∀ v' W', O.Wr B v (l ++ N1) N2 W v' W' → WPh a b c X B bx v0 l N1 N2 N3 w0 (O.updB done b) W' := by
  obtain ⟨v, hw⟩ := h.wr
  have hc : done c = false := by
    cases hq : done c with
    | false => rfl
    | true => rw [h.oc hq] at hd; cases hd
  have e0 : wsB a b c N1 N2 N3 done = N1 := by unfold wsB; rw [ha, hd, hc]; simp
  rw [e0] at hw
  have ho := hw.out
  refine ⟨v, ho, fun v' W' hw' => ?_⟩
  have ea : O.updB done b a = done a := if_neg hab
  have eb : O.updB done b b = true := if_pos rfl
  have ec : O.updB done b c = done c := if_neg (Ne.symm hbc)
  refine ⟨((hw'.below ho).block X hX).trans h.x, ⟨v', ?_⟩, fun _ => by rw [ea]; exact ha, fun _ => eb⟩
  have e1 : wsB a b c N1 N2 N3 (O.updB done b) = N1 ++ N2 := by unfold wsB; rw [ea, eb, ec, ha, hc]; simp
  rw [e1]
  exact hw.trans hw'
theorem WPh.s3 (h : WPh a b c X B bx v0 l N1 N2 N3 w0 done W) (hX : X < B) (hac : a ≠ c) (hbc : b ≠ c) (hb : done b = true) (hd : done c = false) : ∃ v, O.OutIs W B v (l ++ (N1 ++ N2)) ∧ ∀ v' W', O.Wr B v (l ++ (N1 ++ N2)) N3 W v' W' → WPh a b c X B bx v0 l N1 N2 N3 w0 (O.updB done c) W' := by
  obtain ⟨v, hw⟩ := h.wr
  have ha := h.ob hb
  have e0 : wsB a b c N1 N2 N3 done = N1 ++ N2 := by unfold wsB; rw [ha, hb, hd]; simp
  rw [e0] at hw
  have ho := hw.out
  refine ⟨v, ho, fun v' W' hw' => ?_⟩
  have ea : O.updB done c a = done a := if_neg hac
  have eb : O.updB done c b = done b := if_neg hbc
  have ec : O.updB done c c = true := if_pos rfl
  refine ⟨((hw'.below ho).block X hX).trans h.x, ⟨v', ?_⟩, fun _ => by rw [ea]; exact ha, fun _ => by rw [eb]; exact hb⟩
  have e1 : wsB a b c N1 N2 N3 (O.updB done c) = (N1 ++ N2) ++ N3 := by unfold wsB; rw [ea, eb, ec, ha, hb]; simp
  rw [e1]
  exact hw.trans hw'
end
def PgV0 (X B q i n : Nat) : Nat → Value → Prop
  | 0, v => v = .pointer (some ⟨B, 0, none⟩)
  | 1, v => v = .pointer (some ⟨X, 0, none⟩)
  | 2, v => v = .int .u64 (q : Nat)
  | 3, v => v = .pointer (some ⟨B, 0, none⟩)
  | 4, v => v = .pointer (some ⟨X, 1, none⟩)
  | 5, v => v = .int .i64 (i : Nat)
  | 6, v => v = .int .u64 (i : Nat)
  | 7, v => v = .pointer (some ⟨B, 0, none⟩)
  | 8, v => v = .pointer (some ⟨X, 2, none⟩)
  | 9, v => v = .int .i64 (n : Nat)
  | 10, v => v = .int .u64 (n : Nat)
  | 11, v => v = .pointer (some ⟨B, 0, none⟩)
  | _, _ => True
def PgV1 (X B : Nat) (d : ByteArray) : Nat → Value → Prop
  | 0, v => v = .pointer (some ⟨B, 0, none⟩)
  | 1, v => v = .pointer (some ⟨X, 3, none⟩)
  | 2, v => v = .string d
  | 3, v => v = .int .i64 (d.size : Nat)
  | 4, v => v = .int .u64 (d.size : Nat)
  | 5, v => v = .pointer (some ⟨B, 0, none⟩)
  | 6, v => v = .pointer (some ⟨X, 3, none⟩)
  | 7, v => v = .string d
  | 8, v => v = .pointer (some ⟨B, 0, none⟩)
  | _, _ => True
set_option maxHeartbeats 2000000 in
set_option maxRecDepth 100000 in
theorem pgw_any (p : Pg) (hp : p.Ok) (X B : Nat) (v : Value) (l : List UInt8) (w : World) (hx : w.heap[X]? = some (.cells p.cs 75)) (hX : X < B) (ho : O.OutIs w B v l) (hl : l.length ≤ 1000) :
    Calls Tryz.prog 99 #[.pointer (some ⟨B, 0, none⟩), .pointer (some ⟨X, 0, none⟩)] w fun e w' => e = .returned (.tuple #[]) ∧ ∃ v', O.Wr B v l p.fl w v' w' := by
  obtain ⟨q, i, n, d⟩ := p
  have HO : Hid _ := ho
  have HX : Hid (w.heap[X]? = some (.cells #[.int .u64 (q : Nat), .int .i64 (i : Nat), .int .i64 (n : Nat), .string d] 75)) := hx
  have hq1 : q < 18446744073709551616 := hp.q1
  have hn1 : n ≤ 16 := hp.n
  have hi1 : i < n := hp.i
  have hd1 : d.size ≤ 40 := hp.d
  have HFL : Hid ((Pg.mk q i n d).fl = ((O.numB q 8 ++ O.numB i 1) ++ O.numB n 1) ++ (O.numB d.size 1 ++ d.data.toList)) := rfl
  clear ho hx hp
  go_enter Tryz.func99, Tryz.ntmps99
  go_wp2
  refine O.wp_region_ph (fun f => ⟨#[.pointer (some ⟨B, 0, none⟩), .pointer (some ⟨X, 0, none⟩), undef, f 0, f 1, f 2, f 3, f 4, f 5, f 6, f 7, f 8, f 9, f 10, f 11, undef, undef, undef, undef, undef, undef, undef, undef, undef], []⟩) (PgV0 X B q i n) (fun done _ W => WPh 3 7 11 X B #[.int .u64 (q : Nat), .int .i64 (i : Nat), .int .i64 (n : Nat), .string d] v l (O.numB q 8) (O.numB i 1) (O.numB n 1) w done W) (fun i => [undef, undef, undef, undef, undef, undef, undef, undef, undef, undef, undef, undef].getD i undef) (by kernel_rfl) rfl rfl ?hIa ?hputa ?stepa ?fina
  case hIa => exact ⟨HX.out, ⟨v, by show O.OutIs _ _ _ (l ++ []); rw [List.append_nil]; exact HO.out.below (Below.refl _ _).drew, ⟨rfl, rfl, rfl, Nat.le_refl _, fun _ _ _ _ => rfl⟩, Or.inl rfl⟩, (fun e => by cases e), (fun e => by cases e)⟩
  case fina =>
    intro f w1 hP hV
    replace hP : WPh 3 7 11 X B #[.int .u64 (q : Nat), .int .i64 (i : Nat), .int .i64 (n : Nat), .string d] v l (O.numB q 8) (O.numB i 1) (O.numB n 1) w (fun i => decide (i < 12)) w1 := hP
    have u0 : f 0 = .pointer (some ⟨B, 0, none⟩) := hV 0 (by decide)
    have u1 : f 1 = .pointer (some ⟨X, 0, none⟩) := hV 1 (by decide)
    have u2 : f 2 = .int .u64 (q : Nat) := hV 2 (by decide)
    have u3 : f 3 = .pointer (some ⟨B, 0, none⟩) := hV 3 (by decide)
    have u4 : f 4 = .pointer (some ⟨X, 1, none⟩) := hV 4 (by decide)
    have u5 : f 5 = .int .i64 (i : Nat) := hV 5 (by decide)
    have u6 : f 6 = .int .u64 (i : Nat) := hV 6 (by decide)
    have u7 : f 7 = .pointer (some ⟨B, 0, none⟩) := hV 7 (by decide)
    have u8 : f 8 = .pointer (some ⟨X, 2, none⟩) := hV 8 (by decide)
    have u9 : f 9 = .int .i64 (n : Nat) := hV 9 (by decide)
    have u10 : f 10 = .int .u64 (n : Nat) := hV 10 (by decide)
    have u11 : f 11 = .pointer (some ⟨B, 0, none⟩) := hV 11 (by decide)
    clear hV
    generalize f 0 = x0 at *
    subst u0
    generalize f 1 = x1 at *
    subst u1
    generalize f 2 = x2 at *
    subst u2
    generalize f 3 = x3 at *
    subst u3
    generalize f 4 = x4 at *
    subst u4
    generalize f 5 = x5 at *
    subst u5
    generalize f 6 = x6 at *
    subst u6
    generalize f 7 = x7 at *
    subst u7
    generalize f 8 = x8 at *
    subst u8
    generalize f 9 = x9 at *
    subst u9
    generalize f 10 = x10 at *
    subst u10
    generalize f 11 = x11 at *
    subst u11
    obtain ⟨v1, hw1⟩ := hP.wr
    have HX1 : Hid _ := hP.x
    have HW1 : Hid (O.Wr B v l ((O.numB q 8 ++ O.numB i 1) ++ O.numB n 1) w v1 w1) := hw1
    have ho1 := HW1.out.out
    obtain ⟨ll, hll⟩ : ∃ ll, ll = l ++ ((O.numB q 8 ++ O.numB i 1) ++ O.numB n 1) := ⟨_, rfl⟩
    have hlen : ll.length ≤ 1010 := by rw [hll]; simp [O.numB_length]; omega
    rw [← hll] at ho1
    have HO1 : Hid _ := ho1
    have HLL : Hid _ := hll
    clear hP hw1 ho1 hll f
    go_wp2
    refine O.wp_region_ph (fun f => ⟨#[.pointer (some ⟨B, 0, none⟩), .pointer (some ⟨X, 0, none⟩), undef, .pointer (some ⟨B, 0, none⟩), .pointer (some ⟨X, 0, none⟩), .int .u64 (q : Int), .pointer (some ⟨B, 0, none⟩), .pointer (some ⟨X, 1, none⟩), .int .i64 (i : Int), .int .u64 (i : Int), .pointer (some ⟨B, 0, none⟩), .pointer (some ⟨X, 2, none⟩), .int .i64 (n : Int), .int .u64 (n : Int), .pointer (some ⟨B, 0, none⟩), f 0, f 1, f 2, f 3, f 4, f 5, f 6, f 7, f 8], []⟩) (PgV1 X B d) (fun done _ W => WPh 5 8 99 X B #[.int .u64 (q : Nat), .int .i64 (i : Nat), .int .i64 (n : Nat), .string d] v1 ll (O.numB d.size 1) d.data.toList [] w1 done W) (fun i => [undef, undef, undef, undef, undef, undef, undef, undef, undef].getD i undef) (by kernel_rfl) rfl rfl ?hIb ?hputb ?stepb ?finb
    case hIb => exact ⟨HX1.out, ⟨v1, by show O.OutIs _ _ _ (ll ++ []); rw [List.append_nil]; exact HO1.out.below (Below.refl _ _).drew, ⟨rfl, rfl, rfl, Nat.le_refl _, fun _ _ _ _ => rfl⟩, Or.inl rfl⟩, (fun e => by cases e), (fun e => by cases e)⟩
    case finb =>
      intro f w2 hP hV
      replace hP : WPh 5 8 99 X B #[.int .u64 (q : Nat), .int .i64 (i : Nat), .int .i64 (n : Nat), .string d] v1 ll (O.numB d.size 1) d.data.toList [] w1 (fun i => decide (i < 9)) w2 := hP
      have u0 : f 0 = .pointer (some ⟨B, 0, none⟩) := hV 0 (by decide)
      have u1 : f 1 = .pointer (some ⟨X, 3, none⟩) := hV 1 (by decide)
      have u2 : f 2 = .string d := hV 2 (by decide)
      have u3 : f 3 = .int .i64 (d.size : Nat) := hV 3 (by decide)
      have u4 : f 4 = .int .u64 (d.size : Nat) := hV 4 (by decide)
      have u5 : f 5 = .pointer (some ⟨B, 0, none⟩) := hV 5 (by decide)
      have u6 : f 6 = .pointer (some ⟨X, 3, none⟩) := hV 6 (by decide)
      have u7 : f 7 = .string d := hV 7 (by decide)
      have u8 : f 8 = .pointer (some ⟨B, 0, none⟩) := hV 8 (by decide)
      clear hV
      generalize f 0 = x0 at *
      subst u0
      generalize f 1 = x1 at *
      subst u1
      generalize f 2 = x2 at *
      subst u2
      generalize f 3 = x3 at *
      subst u3
      generalize f 4 = x4 at *
      subst u4
      generalize f 5 = x5 at *
      subst u5
      generalize f 6 = x6 at *
      subst u6
      generalize f 7 = x7 at *
      subst u7
      generalize f 8 = x8 at *
      subst u8
      obtain ⟨v2, hw2⟩ := hP.wr
      have hw2' : O.Wr B v1 ll (O.numB d.size 1 ++ d.data.toList) w1 v2 w2 := by
        have e : wsB 5 8 99 (O.numB d.size 1) d.data.toList [] (fun i => decide (i < 9)) = O.numB d.size 1 ++ d.data.toList := by unfold wsB; simp
        rw [e] at hw2; exact hw2
      rw [HLL.out] at hw2'
      have HW2 : Hid _ := HW1.out.trans hw2'
      rw [← HFL.out] at HW2
      clear hP hw2 hw2'
      go_wp2
      go_returns
      exact ⟨rfl, v2, HW2.out⟩
    case hputb =>
      repeat (refine ⟨fun f v => rfl, ?_⟩)
      trivial
    case stepb =>
      refine ⟨?_, ?_⟩
      · intro done f W hP hdn hd K hK
        clear hd
        replace hP : WPh 5 8 99 X B #[.int .u64 (q : Nat), .int .i64 (i : Nat), .int .i64 (n : Nat), .string d] v1 ll (O.numB d.size 1) d.data.toList [] w1 done W := hP
        go_simp
        exact hK _ _ rfl (hP.pure _ (by decide))
      refine ⟨?_, ?_⟩
      · intro done f W hP hdn hd K hK
        clear hd
        replace hP : WPh 5 8 99 X B #[.int .u64 (q : Nat), .int .i64 (i : Nat), .int .i64 (n : Nat), .string d] v1 ll (O.numB d.size 1) d.data.toList [] w1 done W := hP
        go_simp
        exact hK _ _ rfl (hP.pure _ (by decide))
      refine ⟨?_, ?_⟩
      · intro done f W hP hdn hd K hK
        have d1 := (hd.1 rfl).2
        have e1 : done 1 = true := (hd.1 rfl).1
        clear hd
        replace d1 : f 1 = .pointer (some ⟨X, 3, none⟩) := d1
        replace hP : WPh 5 8 99 X B #[.int .u64 (q : Nat), .int .i64 (i : Nat), .int .i64 (n : Nat), .string d] v1 ll (O.numB d.size 1) d.data.toList [] w1 done W := hP
        generalize f 1 = x1 at *
        subst d1
        clear e1
        have qc := F.cell_of hP.x 3
        simp at qc
        go_simp
        exact hK _ _ rfl (hP.pure _ (by decide))
      refine ⟨?_, ?_⟩
      · intro done f W hP hdn hd K hK
        have d2 := (hd.1 rfl).2
        have e2 : done 2 = true := (hd.1 rfl).1
        clear hd
        replace d2 : f 2 = .string d := d2
        replace hP : WPh 5 8 99 X B #[.int .u64 (q : Nat), .int .i64 (i : Nat), .int .i64 (n : Nat), .string d] v1 ll (O.numB d.size 1) d.data.toList [] w1 done W := hP
        generalize f 2 = x2 at *
        subst d2
        clear e2
        go_simp
        exact hK _ _ rfl (hP.pure _ (by decide))
      refine ⟨?_, ?_⟩
      · intro done f W hP hdn hd K hK
        have d3 := (hd.1 rfl).2
        have e3 : done 3 = true := (hd.1 rfl).1
        clear hd
        replace d3 : f 3 = .int .i64 (d.size : Nat) := d3
        replace hP : WPh 5 8 99 X B #[.int .u64 (q : Nat), .int .i64 (i : Nat), .int .i64 (n : Nat), .string d] v1 ll (O.numB d.size 1) d.data.toList [] w1 done W := hP
        generalize f 3 = x3 at *
        subst d3
        clear e3
        have qw : IntKind.u64.wrap ((d.size : Nat) : Int) = ((d.size : Nat) : Int) := by rw [IntKind.wrap_u64]; omega
        go_simp
        exact hK _ _ rfl (hP.pure _ (by decide))
      refine ⟨?_, ?_⟩
      · intro done f W hP hdn hd K hK
        have d0 := (hd.1 rfl).2
        have e0 : done 0 = true := (hd.1 rfl).1
        have d4 := (hd.2.1 rfl).2
        have e4 : done 4 = true := (hd.2.1 rfl).1
        clear hd
        replace d0 : f 0 = .pointer (some ⟨B, 0, none⟩) := d0
        replace d4 : f 4 = .int .u64 (d.size : Nat) := d4
        replace hP : WPh 5 8 99 X B #[.int .u64 (q : Nat), .int .i64 (i : Nat), .int .i64 (n : Nat), .string d] v1 ll (O.numB d.size 1) d.data.toList [] w1 done W := hP
        generalize f 0 = x0 at *
        subst d0
        clear e0
        generalize f 4 = x4 at *
        subst d4
        clear e4
        have hdn5 : done 5 = false := hdn
        obtain ⟨v, hout, hnx⟩ := hP.s1 hX (by decide) (by decide) hdn5
        go_simp
        refine (O.num_any B v ll d.size 1 W hout (by omega) (by omega)).mono ?_
        rintro e W' ⟨rfl, v', hw⟩
        exact hK _ _ rfl (hnx v' W' (by rw [show O.wd 1 = 1 by decide] at hw; exact hw))
      refine ⟨?_, ?_⟩
      · intro done f W hP hdn hd K hK
        clear hd
        replace hP : WPh 5 8 99 X B #[.int .u64 (q : Nat), .int .i64 (i : Nat), .int .i64 (n : Nat), .string d] v1 ll (O.numB d.size 1) d.data.toList [] w1 done W := hP
        go_simp
        exact hK _ _ rfl (hP.pure _ (by decide))
      refine ⟨?_, ?_⟩
      · intro done f W hP hdn hd K hK
        have d6 := (hd.1 rfl).2
        have e6 : done 6 = true := (hd.1 rfl).1
        clear hd
        replace d6 : f 6 = .pointer (some ⟨X, 3, none⟩) := d6
        replace hP : WPh 5 8 99 X B #[.int .u64 (q : Nat), .int .i64 (i : Nat), .int .i64 (n : Nat), .string d] v1 ll (O.numB d.size 1) d.data.toList [] w1 done W := hP
        generalize f 6 = x6 at *
        subst d6
        clear e6
        have qc := F.cell_of hP.x 3
        simp at qc
        go_simp
        exact hK _ _ rfl (hP.pure _ (by decide))
      refine ⟨?_, ?_⟩
      · intro done f W hP hdn hd K hK
        have d5 := (hd.1 rfl).2
        have e5 : done 5 = true := (hd.1 rfl).1
        have d7 := (hd.2.1 rfl).2
        have e7 : done 7 = true := (hd.2.1 rfl).1
        clear hd
        replace d5 : f 5 = .pointer (some ⟨B, 0, none⟩) := d5
        replace d7 : f 7 = .string d := d7
        replace hP : WPh 5 8 99 X B #[.int .u64 (q : Nat), .int .i64 (i : Nat), .int .i64 (n : Nat), .string d] v1 ll (O.numB d.size 1) d.data.toList [] w1 done W := hP
        generalize f 5 = x5 at *
        subst d5
        generalize f 7 = x7 at *
        subst d7
        have hdn8 : done 8 = false := hdn
        obtain ⟨v, hout, hnx⟩ := hP.s2 hX (by decide) (by decide) e5 hdn8
        go_simp
        refine (O.raw_any B v _ d W hout (by rw [List.length_append, O.numB_length]; omega)).mono ?_
        rintro e W' ⟨rfl, v', hw⟩
        exact hK _ _ rfl (hnx v' W' hw)
      trivial
  case hputa =>
    repeat (refine ⟨fun f v => rfl, ?_⟩)
    trivial
  case stepa =>
    refine ⟨?_, ?_⟩
    · intro done f W hP hdn hd K hK
      clear hd
      replace hP : WPh 3 7 11 X B #[.int .u64 (q : Nat), .int .i64 (i : Nat), .int .i64 (n : Nat), .string d] v l (O.numB q 8) (O.numB i 1) (O.numB n 1) w done W := hP
      go_simp
      exact hK _ _ rfl (hP.pure _ (by decide))
    refine ⟨?_, ?_⟩
    · intro done f W hP hdn hd K hK
      clear hd
      replace hP : WPh 3 7 11 X B #[.int .u64 (q : Nat), .int .i64 (i : Nat), .int .i64 (n : Nat), .string d] v l (O.numB q 8) (O.numB i 1) (O.numB n 1) w done W := hP
      go_simp
      exact hK _ _ rfl (hP.pure _ (by decide))
    refine ⟨?_, ?_⟩
    · intro done f W hP hdn hd K hK
      have d1 := (hd.1 rfl).2
      have e1 : done 1 = true := (hd.1 rfl).1
      clear hd
      replace d1 : f 1 = .pointer (some ⟨X, 0, none⟩) := d1
      replace hP : WPh 3 7 11 X B #[.int .u64 (q : Nat), .int .i64 (i : Nat), .int .i64 (n : Nat), .string d] v l (O.numB q 8) (O.numB i 1) (O.numB n 1) w done W := hP
      generalize f 1 = x1 at *
      subst d1
      clear e1
      have qc := F.cell_of hP.x 0
      simp at qc
      go_simp
      exact hK _ _ rfl (hP.pure _ (by decide))
    refine ⟨?_, ?_⟩
    · intro done f W hP hdn hd K hK
      have d0 := (hd.1 rfl).2
      have e0 : done 0 = true := (hd.1 rfl).1
      have d2 := (hd.2.1 rfl).2
      have e2 : done 2 = true := (hd.2.1 rfl).1
      clear hd
      replace d0 : f 0 = .pointer (some ⟨B, 0, none⟩) := d0
      replace d2 : f 2 = .int .u64 (q : Nat) := d2
      replace hP : WPh 3 7 11 X B #[.int .u64 (q : Nat), .int .i64 (i : Nat), .int .i64 (n : Nat), .string d] v l (O.numB q 8) (O.numB i 1) (O.numB n 1) w done W := hP
      generalize f 0 = x0 at *
      subst d0
      clear e0
      generalize f 2 = x2 at *
      subst d2
      clear e2
      have hdn3 : done 3 = false := hdn
      obtain ⟨v, hout, hnx⟩ := hP.s1 hX (by decide) (by decide) hdn3
      go_simp
      refine (O.num_any B v l q 8 W hout (by omega) (by omega)).mono ?_
      rintro e W' ⟨rfl, v', hw⟩
      exact hK _ _ rfl (hnx v' W' (by rw [show O.wd 8 = 8 by decide] at hw; exact hw))
    refine ⟨?_, ?_⟩
    · intro done f W hP hdn hd K hK
      clear hd
      replace hP : WPh 3 7 11 X B #[.int .u64 (q : Nat), .int .i64 (i : Nat), .int .i64 (n : Nat), .string d] v l (O.numB q 8) (O.numB i 1) (O.numB n 1) w done W := hP
      go_simp
      exact hK _ _ rfl (hP.pure _ (by decide))
    refine ⟨?_, ?_⟩
    · intro done f W hP hdn hd K hK
      have d4 := (hd.1 rfl).2
      have e4 : done 4 = true := (hd.1 rfl).1
      clear hd
      replace d4 : f 4 = .pointer (some ⟨X, 1, none⟩) := d4
      replace hP : WPh 3 7 11 X B #[.int .u64 (q : Nat), .int .i64 (i : Nat), .int .i64 (n : Nat), .string d] v l (O.numB q 8) (O.numB i 1) (O.numB n 1) w done W := hP
      generalize f 4 = x4 at *
      subst d4
      clear e4
      have qc := F.cell_of hP.x 1
      simp at qc
      go_simp
      exact hK _ _ rfl (hP.pure _ (by decide))
    refine ⟨?_, ?_⟩
    · intro done f W hP hdn hd K hK
      have d5 := (hd.1 rfl).2
      have e5 : done 5 = true := (hd.1 rfl).1
      clear hd
      replace d5 : f 5 = .int .i64 (i : Nat) := d5
      replace hP : WPh 3 7 11 X B #[.int .u64 (q : Nat), .int .i64 (i : Nat), .int .i64 (n : Nat), .string d] v l (O.numB q 8) (O.numB i 1) (O.numB n 1) w done W := hP
      generalize f 5 = x5 at *
      subst d5
      clear e5
      have qw : IntKind.u64.wrap ((i : Nat) : Int) = ((i : Nat) : Int) := by rw [IntKind.wrap_u64]; omega
      go_simp
      exact hK _ _ rfl (hP.pure _ (by decide))
    refine ⟨?_, ?_⟩
    · intro done f W hP hdn hd K hK
      have d3 := (hd.1 rfl).2
      have e3 : done 3 = true := (hd.1 rfl).1
      have d6 := (hd.2.1 rfl).2
      have e6 : done 6 = true := (hd.2.1 rfl).1
      clear hd
      replace d3 : f 3 = .pointer (some ⟨B, 0, none⟩) := d3
      replace d6 : f 6 = .int .u64 (i : Nat) := d6
      replace hP : WPh 3 7 11 X B #[.int .u64 (q : Nat), .int .i64 (i : Nat), .int .i64 (n : Nat), .string d] v l (O.numB q 8) (O.numB i 1) (O.numB n 1) w done W := hP
      generalize f 3 = x3 at *
      subst d3
      generalize f 6 = x6 at *
      subst d6
      have hdn7 : done 7 = false := hdn
      obtain ⟨v, hout, hnx⟩ := hP.s2 hX (by decide) (by decide) e3 hdn7
      go_simp
      refine (O.num_any B v _ i 1 W hout (by omega) (by rw [List.length_append, O.numB_length]; omega)).mono ?_
      rintro e W' ⟨rfl, v', hw⟩
      exact hK _ _ rfl (hnx v' W' (by rw [show O.wd 1 = 1 by decide] at hw; exact hw))
    refine ⟨?_, ?_⟩
    · intro done f W hP hdn hd K hK
      clear hd
      replace hP : WPh 3 7 11 X B #[.int .u64 (q : Nat), .int .i64 (i : Nat), .int .i64 (n : Nat), .string d] v l (O.numB q 8) (O.numB i 1) (O.numB n 1) w done W := hP
      go_simp
      exact hK _ _ rfl (hP.pure _ (by decide))
    refine ⟨?_, ?_⟩
    · intro done f W hP hdn hd K hK
      have d8 := (hd.1 rfl).2
      have e8 : done 8 = true := (hd.1 rfl).1
      clear hd
      replace d8 : f 8 = .pointer (some ⟨X, 2, none⟩) := d8
      replace hP : WPh 3 7 11 X B #[.int .u64 (q : Nat), .int .i64 (i : Nat), .int .i64 (n : Nat), .string d] v l (O.numB q 8) (O.numB i 1) (O.numB n 1) w done W := hP
      generalize f 8 = x8 at *
      subst d8
      clear e8
      have qc := F.cell_of hP.x 2
      simp at qc
      go_simp
      exact hK _ _ rfl (hP.pure _ (by decide))
    refine ⟨?_, ?_⟩
    · intro done f W hP hdn hd K hK
      have d9 := (hd.1 rfl).2
      have e9 : done 9 = true := (hd.1 rfl).1
      clear hd
      replace d9 : f 9 = .int .i64 (n : Nat) := d9
      replace hP : WPh 3 7 11 X B #[.int .u64 (q : Nat), .int .i64 (i : Nat), .int .i64 (n : Nat), .string d] v l (O.numB q 8) (O.numB i 1) (O.numB n 1) w done W := hP
      generalize f 9 = x9 at *
      subst d9
      clear e9
      have qw : IntKind.u64.wrap ((n : Nat) : Int) = ((n : Nat) : Int) := by rw [IntKind.wrap_u64]; omega
      go_simp
      exact hK _ _ rfl (hP.pure _ (by decide))
    refine ⟨?_, ?_⟩
    · intro done f W hP hdn hd K hK
      have d7 := (hd.1 rfl).2
      have e7 : done 7 = true := (hd.1 rfl).1
      have d10 := (hd.2.1 rfl).2
      have e10 : done 10 = true := (hd.2.1 rfl).1
      clear hd
      replace d7 : f 7 = .pointer (some ⟨B, 0, none⟩) := d7
      replace d10 : f 10 = .int .u64 (n : Nat) := d10
      replace hP : WPh 3 7 11 X B #[.int .u64 (q : Nat), .int .i64 (i : Nat), .int .i64 (n : Nat), .string d] v l (O.numB q 8) (O.numB i 1) (O.numB n 1) w done W := hP
      generalize f 7 = x7 at *
      subst d7
      generalize f 10 = x10 at *
      subst d10
      have hdn11 : done 11 = false := hdn
      obtain ⟨v, hout, hnx⟩ := hP.s3 hX (by decide) (by decide) e7 hdn11
      go_simp
      refine (O.num_any B v _ n 1 W hout (by omega) (by simp [O.numB_length]; omega)).mono ?_
      rintro e W' ⟨rfl, v', hw⟩
      exact hK _ _ rfl (hnx v' W' (by rw [show O.wd 1 = 1 by decide] at hw; exact hw))
    trivial
set_option maxHeartbeats 1000000 in
set_option maxRecDepth 100000 in
theorem ppack_any (p : Pg) (hp : p.Ok) (w : World) : Calls Tryz.prog 67 #[.agg p.cs] w fun e w' => e = .returned (.string p.sec) ∧ Below w.heap.size w w' := by
  have hs := sector_any 99 #[.pointer (some ⟨w.heap.size, 0, none⟩)] 80 p.fl (w.alloc (.cells p.cs 75)) (by decide) (by rw [Pg.fl_length]; have := hp.d; omega) ent99 (fun v W ho hb => by
    have e : (w.alloc (.cells p.cs 75)).heap.size = w.heap.size + 1 := by simp
    exact pgw_any p hp w.heap.size _ v _ W ((hb.block _ (by simp)).trans (F.heap_new _ _)) (by simp) ho (by rw [O.numB_length]; decide))
  have HB : Hid (Below w.heap.size w (w.alloc (.cells p.cs 75))) := Below.alloc (Below.refl _ _) (Nat.le_refl _) _
  replace hs : Calls Tryz.prog 98 #[.int .u64 80, .func (.func 99) #[] #[.pointer (some ⟨w.heap.size, 0, none⟩)]] (w.alloc (.cells p.cs 75)) fun e w' => e = .returned (.string p.sec) ∧ Below (w.alloc (.cells p.cs 75)).heap.size (w.alloc (.cells p.cs 75)) w' := hs
  generalize hy : p.sec = y at *
  have HY : Hid _ := hy
  clear hy
  unfold Pg.cs at *
  go_enter Tryz.func67, Tryz.ntmps67
  go_wp2_with fail
  go_call hs as e w2 ⟨rfl, hb2⟩
  have HB2 : Hid (Below w.heap.size w w2) := HB.out.trans (hb2.mono (by simp))
  clear hs hb2 HB
  go_wp2
  go_returns
  exact ⟨rfl, HB2.out⟩
end Go.Proofs.YtknmipbjkkeebaaGreat
