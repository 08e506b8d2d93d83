/- looks, of one roster, the program's and the document's, as a call. -/
import Derived.Test.YtknmipbjkkeebaaSH
import Derived.Test.YtknmipbjkkeebaaRL
import Derived.Test.YtknmipbjkkeebaaOR
namespace Go.Proofs.Ytknmipbjkkeebaa
open Go.RowKit
theorem own_below {w w' : World} {b : Nat} {t : TypeId} {k : Nat} {v : Value} {n : Nat} {xs : List Value} (h : w.ownsRow b t k v n xs) (hb : Below w.heap.size w w') : w'.ownsRow b t k v n xs := by
  refine ⟨h.1, ?_⟩
  rcases h.2 with h1 | ⟨g, cap, cur, e, h2, h3, h4⟩
  · exact Or.inl h1
  · exact Or.inr ⟨g, cap, cur, e, h2, (hb.block _ (getElem?_lt h3)).trans h3, h4⟩
theorem own_least {w : World} {b b' : Nat} {t : TypeId} {k : Nat} {v : Value} {n : Nat} {xs : List Value} (h : w.ownsRow b t k v n xs) (hb : b' ≤ b) : w.ownsRow b' t k v n xs := by
  refine ⟨h.1, ?_⟩
  rcases h.2 with h1 | ⟨g, cap, cur, e, h2, h3⟩
  · exact Or.inl h1
  · exact Or.inr ⟨g, cap, cur, e, Nat.le_trans hb h2, h3⟩
theorem acs_at (l : List Mb) (k : Nat) (hk : k < l.length) (ht : (mbAt l k).t = 1) : (acs l)[(acs (l.take k)).length]? = some (.int .i64 (mbAt l k).s) := by
  have e1 : acs l = acs (l.take k) ++ acs (l.drop k) := by rw [← acs_append, List.take_append_drop]
  have e2 : l.drop k = mbAt l k :: l.drop (k + 1) := by
    rw [List.drop_eq_getElem_cons hk]; congr 1; unfold mbAt; simp [List.getD, hk]
  have e3 : acs (l.drop k) = .int .i64 (mbAt l k).s :: acs (l.drop (k + 1)) := by
    rw [e2]
    show (if (mbAt l k).t = 1 then [.int .i64 (mbAt l k).s] else []) ++ acs (l.drop (k + 1)) = _
    rw [if_pos ht]; rfl
  conv => lhs; rw [e1]
  rw [List.getElem?_append_right (Nat.le_refl _), Nat.sub_self, e3]; rfl
theorem acs_lt (l : List Mb) (k : Nat) (hk : k < l.length) (ht : (mbAt l k).t = 1) : (acs (l.take k)).length < (acs l).length := by
  have := acs_at l k hk ht
  exact (List.getElem?_eq_some_iff.1 this).1
/-- Phases of the first statement of looks. -/
structure LkPh (W0 : World) (n1 : Nat) (l1 : List Value) (n3 : Nat) (l3 : List Value) (done : Nat → Bool) (f : Nat → Value) (W : World) : Prop where
  bl : Below W0.heap.size W0 W
  a1 : done 1 = true → W.ownsRow W0.heap.size 3 1 (f 1) n1 l1
  a3 : done 3 = true → W.ownsRow W0.heap.size 3 1 (f 3) n3 l3
  a4 : done 4 = true → f 4 = f 1
  a5 : done 5 = true → f 5 = f 3
  n4 : done 4 = true → done 1 = true
  n5 : done 5 = true → done 3 = true
section
variable {W0 : World} {n1 : Nat} {l1 : List Value} {n3 : Nat} {l3 : List Value} {done : Nat → Bool} {f : Nat → Value} {W : World}
theorem LkPh.pure (h : LkPh W0 n1 l1 n3 l3 done f W) (k : Nat) (hk : k = 0 ∨ k = 2) (v : Value) : LkPh W0 n1 l1 n3 l3 (O.updB done k) (O.upd f k v) W := by
  have a : ∀ j, j ≠ k → O.updB done k j = done j := fun j hj => if_neg hj
  have b : ∀ j, j ≠ k → O.upd f k v j = f j := fun j hj => if_neg hj
  have e1 : 1 ≠ k := by omega
  have e3 : 3 ≠ k := by omega
  have e4 : 4 ≠ k := by omega
  have e5 : 5 ≠ k := by omega
  exact ⟨h.bl, by rw [a 1 e1, b 1 e1]; exact h.a1, by rw [a 3 e3, b 3 e3]; exact h.a3, by rw [a 4 e4, b 4 e4, b 1 e1]; exact h.a4, by rw [a 5 e5, b 5 e5, b 3 e3]; exact h.a5, by rw [a 4 e4, a 1 e1]; exact h.n4, by rw [a 5 e5, a 3 e3]; exact h.n5⟩
theorem LkPh.c1 (h : LkPh W0 n1 l1 n3 l3 done f W) (hd : done 1 = false) {v : Value} {W' : World} (ho : W'.ownsRow W.heap.size 3 1 v n1 l1) (hb : Below W.heap.size W W') : LkPh W0 n1 l1 n3 l3 (O.updB done 1) (O.upd f 1 v) W' := by
  have h4 : done 4 = false := by
    cases hq : done 4 with
    | false => rfl
    | true => rw [h.n4 hq] at hd; cases hd
  exact ⟨h.bl.trans (hb.mono h.bl.size), fun _ => own_least ho h.bl.size, fun e => own_below (h.a3 e) hb, (fun e => by rw [show O.updB done 1 4 = done 4 from rfl, h4] at e; cases e), fun e => h.a5 e, fun _ => rfl, fun e => h.n5 e⟩
theorem LkPh.c3 (h : LkPh W0 n1 l1 n3 l3 done f W) (hd : done 3 = false) {v : Value} {W' : World} (ho : W'.ownsRow W.heap.size 3 1 v n3 l3) (hb : Below W.heap.size W W') : LkPh W0 n1 l1 n3 l3 (O.updB done 3) (O.upd f 3 v) W' := by
  have h5 : done 5 = false := by
    cases hq : done 5 with
    | false => rfl
    | true => rw [h.n5 hq] at hd; cases hd
  exact ⟨h.bl.trans (hb.mono h.bl.size), fun e => own_below (h.a1 e) hb, fun _ => own_least ho h.bl.size, fun e => h.a4 e, (fun e => by rw [show O.updB done 3 5 = done 5 from rfl, h5] at e; cases e), fun e => h.n4 e, fun _ => rfl⟩
theorem LkPh.s4 (h : LkPh W0 n1 l1 n3 l3 done f W) (h1 : done 1 = true) {v : Value} (hv : v = f 1) : LkPh W0 n1 l1 n3 l3 (O.updB done 4) (O.upd f 4 v) W :=
  ⟨h.bl, fun e => h.a1 e, fun e => h.a3 e, fun _ => hv, fun e => h.a5 e, fun _ => h1, fun e => h.n5 e⟩
theorem LkPh.s5 (h : LkPh W0 n1 l1 n3 l3 done f W) (h1 : done 3 = true) {v : Value} (hv : v = f 3) : LkPh W0 n1 l1 n3 l3 (O.updB done 5) (O.upd f 5 v) W :=
  ⟨h.bl, fun e => h.a1 e, fun e => h.a3 e, fun e => h.a4 e, fun _ => hv, fun e => h.n4 e, fun _ => h1⟩
end
def LkV1 (r : Ro) (ao : Option Addr) (n cp : Nat) : Nat → Value → Prop
  | 0, v => v = .agg #[.int .u64 (r.c : Nat), .int .u64 (r.e : Nat), .int .u64 (r.l : Nat), .int .u64 (r.j : Nat), .slice ao n cp]
  | 2, v => v = .agg #[.int .u64 (r.c : Nat), .int .u64 (r.e : Nat), .int .u64 (r.l : Nat), .int .u64 (r.j : Nat), .slice ao n cp]
  | _, _ => True
def LkV7 (wr w3 : World) (m : Mb) (k n ga p1 : Nat) : Nat → Value → Prop
  | 0, v => v = .int .i64 (k : Nat)
  | 1, v => v = .slice (some ⟨ga, 0, none⟩) n p1
  | 2, v => v = .int .i64 (n : Nat)
  | 3, v => v = .bool false
  | 4, v => v = .bool false
  | 5, v => v = .slice (some ⟨ga, 0, none⟩) n p1
  | 6, v => v = .int .i64 (k : Nat)
  | 7, v => v = .pointer (some ⟨ga, k, none⟩)
  | 8, v => v = .int .i64 m.s
  | 9, v => v = .pointer (some ⟨wr.heap.size, 0, none⟩)
  | 10, v => v = .int .i64 m.s
  | 11, v => v = .bool false
  | 12, v => v = .bool false
  | 13, v => v = .bool false
  | 14, v => v = .bool true
  | 15, v => v = .bool false
  | 16, v => v = .bool false
  | 17, v => v = .bool false
  | 18, v => v = .pointer (some ⟨w3.heap.size, 1, none⟩)
  | 19, v => v = .int .u64 (m.j : Nat)
  | 20, v => v = .pointer (some ⟨wr.heap.size, 1, none⟩)
  | 21, v => v = .int .u64 (m.j : Nat)
  | 22, v => v = .bool false
  | 23, v => v = .bool false
  | _, _ => True
def LkV10 (wr : World) (m : Mb) (c na gc p3 : Nat) : Nat → Value → Prop
  | 0, v => v = .int .i64 (c : Nat)
  | 1, v => v = .slice (some ⟨gc, 0, none⟩) na p3
  | 2, v => v = .int .i64 (na : Nat)
  | 3, v => v = .bool false
  | 4, v => v = .bool false
  | 5, v => v = .slice (some ⟨gc, 0, none⟩) na p3
  | 6, v => v = .int .i64 (c : Nat)
  | 7, v => v = .pointer (some ⟨gc, c, none⟩)
  | 8, v => v = .int .i64 m.s
  | 9, v => v = .pointer (some ⟨wr.heap.size, 0, none⟩)
  | 10, v => v = .int .i64 m.s
  | 11, v => v = .bool false
  | 12, v => v = .bool false
  | _, _ => True
set_option maxHeartbeats 4000000 in
set_option maxRecDepth 100000 in
theorem looks_any (r : Ro) (v v2 : Value) (w : World) (h : MIs w 0 v r.ms) (hx : XIs w 0 v2 r.ms) (hr : r.Ok) :
    Calls Try.prog 42 #[r.val v, r.val v2] w fun e w' => e = .returned (.bool true) ∧ Below w.heap.size w w' := by
  have hn := hr.few
  obtain ⟨ao, cp, hv⟩ := own_slice h
  obtain ⟨ao2, cp2, hv2⟩ := own_slice hx
  subst hv hv2
  have HM : Hid _ := h
  have HX : Hid _ := hx
  have HR : Hid _ := hr
  have HC1 : Hid (∀ W, Below w.heap.size w W → Calls Try.prog 44 #[r.val (.slice ao r.ms.length cp)] W fun e w' => ∃ v', e = .returned v' ∧ w'.ownsRow W.heap.size 3 1 v' r.ms.length (ints (fun k => (mbAt r.ms k).s) r.ms.length) ∧ Below W.heap.size W w') := fun W hW => all_any r _ W (h.below hW) hn
  have HC3 : Hid (∀ W, Below w.heap.size w W → Calls Try.prog 84 #[r.val (.slice ao r.ms.length cp)] W fun e w' => ∃ v', e = .returned v' ∧ w'.ownsRow W.heap.size 3 1 v' (acs r.ms).length (acs r.ms) ∧ Below W.heap.size W w') := fun W hW => active_any r _ W (h.below hW) hn
  have HF : Hid (∀ k, k < r.ms.length → ∀ W, Below w.heap.size w W → Calls Try.prog 43 #[r.val (.slice ao r.ms.length cp), .int .i64 (mbAt r.ms k).s] W fun e w' => e = .returned (.tuple #[(mbAt r.ms k).val, .bool true]) ∧ Below W.heap.size W w') := fun k hk W hW => rfind_yes r _ k W (h.below hW) (by omega) hk (fun j hj => (hr.rise j k hj hk).1) (fun j hj hl => by
    rcases Nat.lt_or_ge k j with c | c
    · exact Int.le_of_lt (hr.rise k j c hl).1
    · obtain rfl : j = k := by omega
      exact Int.le_refl _)
  have HF0 : Hid (∀ W, Below w.heap.size w W → Calls Try.prog 43 #[r.val (.slice ao r.ms.length cp), .int .i64 1001] W fun e w' => e = .returned (.tuple #[(Mb.mk 0 0 0).val, .bool false]) ∧ Below W.heap.size W w') := fun W hW => rfind_no r _ 1001 r.ms.length W (h.below hW) (by omega) (Nat.le_refl _) (fun e => absurd e.1 (Nat.lt_irrefl _)) (fun j hj => by have := (hr.mem j hj).s2; omega) (fun j a b => by omega)
  have HAT : Hid (∀ k, k < r.ms.length → (mbAt r.ms k).t = 1 → (acs r.ms)[(acs (r.ms.take k)).length]? = some (.int .i64 (mbAt r.ms k).s) ∧ (acs (r.ms.take k)).length < (acs r.ms).length) := fun k hk ht => ⟨acs_at _ _ hk ht, acs_lt _ _ hk ht⟩
  have HA16 : Hid ((acs r.ms).length ≤ 16) := Nat.le_trans (acs_len _) hn
  clear h hx hr
  unfold Ro.val Ro.arr at *
  obtain ⟨n, hnn⟩ : ∃ n, n = r.ms.length := ⟨_, rfl⟩
  rw [← hnn] at hn HC1 HC3 HF HF0 HAT ⊢
  have HN : Hid _ := hnn
  clear hnn
  obtain ⟨U, hU⟩ : ∃ U : World, U = (w.alloc (.cells #[.int .u64 (r.c : Nat), .int .u64 (r.e : Nat), .int .u64 (r.l : Nat), .int .u64 (r.j : Nat), .slice ao n cp] 72)).alloc (.cells #[.int .u64 (r.c : Nat), .int .u64 (r.e : Nat), .int .u64 (r.l : Nat), .int .u64 (r.j : Nat), .slice ao2 n cp2] 69) := ⟨_, rfl⟩
  have HU : Hid _ := hU
  have H0 : Hid (Below w.heap.size w U ∧ U.heap[w.heap.size]? = some (.cells #[.int .u64 (r.c : Nat), .int .u64 (r.e : Nat), .int .u64 (r.l : Nat), .int .u64 (r.j : Nat), .slice ao n cp] 72) ∧ U.heap[w.heap.size + 1]? = some (.cells #[.int .u64 (r.c : Nat), .int .u64 (r.e : Nat), .int .u64 (r.l : Nat), .int .u64 (r.j : Nat), .slice ao2 n cp2] 69) ∧ w.heap.size + 2 ≤ U.heap.size) := by
    rw [hU]
    exact ⟨((Below.refl _ w).alloc (Nat.le_refl _) _).alloc (by simp) _, (Below.heap_alloc _ _ _ (by simp)).trans (heap_new _ _), heap_alloc2_new w _ _, by simp⟩
  clear hU
  go_enter Try.func42, Try.ntmps42
  go_wp2
  rw [← HU.out]
  refine O.wp_region_ph (fun f => ⟨#[.agg #[.int .u64 (r.c : Int), .int .u64 (r.e : Int), .int .u64 (r.l : Int), .int .u64 (r.j : Int), .slice ao n cp], .agg #[.int .u64 (r.c : Int), .int .u64 (r.e : Int), .int .u64 (r.l : Int), .int .u64 (r.j : Int), .slice ao2 n cp2], .pointer (some ⟨w.heap.size, 0, none⟩), .pointer (some ⟨w.heap.size + 1, 0, none⟩), .bool false, f 4, f 5, undef, undef, undef, undef, undef, undef, undef, f 0, f 1, f 2, f 3, undef, undef, undef, undef, undef, undef, undef, undef, undef, undef, undef, undef, undef, undef, undef, undef, undef, undef, undef, undef, undef, undef, undef, undef, undef, undef, undef, undef, undef, undef, undef, undef, undef, undef, undef, undef, undef, undef, undef, undef, undef, undef, undef, undef, undef, undef, undef, undef, undef, undef, undef, undef, undef, undef, undef, undef, undef, undef, undef, undef, undef, undef, undef, undef, undef, undef, undef, undef, undef, undef, undef, undef, undef, undef, undef, undef, undef, undef, undef], []⟩) (LkV1 r ao n cp) (LkPh U n (ints (fun k => (mbAt r.ms k).s) n) (acs r.ms).length (acs r.ms)) (fun i => [undef, undef, undef, undef, undef, undef].getD i undef) (by kernel_rfl) rfl rfl ?hI1 ?hput1 ?step1 ?fin1
  case hI1 => exact ⟨(Below.refl _ _).drew, (fun e => by cases e), (fun e => by cases e), (fun e => by cases e), (fun e => by cases e), (fun e => by cases e), (fun e => by cases e)⟩
  case fin1 =>
    intro f w1 hP hV
    have v0 : f 0 = .agg #[.int .u64 (r.c : Nat), .int .u64 (r.e : Nat), .int .u64 (r.l : Nat), .int .u64 (r.j : Nat), .slice ao n cp] := hV 0 (by decide)
    have v2 : f 2 = .agg #[.int .u64 (r.c : Nat), .int .u64 (r.e : Nat), .int .u64 (r.l : Nat), .int .u64 (r.j : Nat), .slice ao n cp] := hV 2 (by decide)
    clear hV
    have O1 : Hid _ := hP.a1 rfl
    have O3 : Hid _ := hP.a3 rfl
    have v4 := hP.a4 rfl
    have v5 := hP.a5 rfl
    have HB1 : Hid _ := hP.bl
    obtain ⟨a1, p1, v1⟩ := own_slice O1.out
    obtain ⟨a3, p3, v3⟩ := own_slice O3.out
    rw [v1] at v4 O1
    rw [v3] at v5 O3
    clear hP
    generalize f 0 = x0 at *
    subst v0
    generalize f 2 = x2 at *
    subst v2
    generalize f 4 = x4 at *
    subst v4
    generalize f 5 = x5 at *
    subst v5
    generalize f 1 = x1 at *
    subst v1
    generalize f 3 = x3 at *
    subst v3
    clear HC1 HC3
    obtain ⟨na, hna⟩ : ∃ na, (acs r.ms).length = na := ⟨_, rfl⟩
    rw [hna] at HAT HA16 ⊢
    have HNA : Hid _ := hna
    clear hna
    have x4 : w1.cell? ⟨w.heap.size + 1, 4, none⟩ = some (.slice ao2 n cp2) := (HB1.out.cell (by show w.heap.size + 1 < _; have := H0.out.2.2.2; omega)).trans (cell_of H0.out.2.2.1 4)
    go_wp2
    go_loopw [7, 21] (fun c i wr => ∃ k : Nat, k ≤ n ∧ c = .int .i64 ((acs (r.ms.take k)).length : Nat) ∧ i = .int .i64 (k : Nat) ∧ Hid (Below w1.heap.size w1 wr)) (fun _ i _ => n - (intOf i).toNat)
    case atStart => exact ⟨0, by omega, by simp [acs], rfl, Below.refl _ _⟩
    case round =>
      obtain ⟨k, hk, rfl, rfl, HI⟩ := hrel
      have hU1 : U.heap.size ≤ w1.heap.size := HB1.out.size
      have hU2 : w.heap.size + 2 ≤ U.heap.size := H0.out.2.2.2
      have hbU : Below U.heap.size U wr := HB1.out.trans (HI.out.mono hU1)
      have hbw : Below w.heap.size w wr := H0.out.1.trans (hbU.mono (by omega))
      have hsz : U.heap.size ≤ wr.heap.size := hbU.size
      have kb : wr.heap[w.heap.size]? = _ := (hbU.block w.heap.size (by omega)).trans H0.out.2.1
      have KB : Hid _ := kb
      have HSZ : Hid (w.heap.size + 2 ≤ wr.heap.size) := by unfold Hid; omega
      rcases Nat.lt_or_ge k n with hkn | hkn
      · obtain ⟨g2, hg2⟩ : ∃ g, ao2 = some ⟨g, 0, none⟩ := by
          rcases HX.out.2 with ⟨_, h0⟩ | ⟨g, cap, cur, e0, _⟩
          · have := HN.out; omega
          · injection e0 with e0 _ _; exact ⟨g, e0⟩
        obtain ⟨ga, hga⟩ : ∃ g, a1 = some ⟨g, 0, none⟩ := by
          rcases O1.out.2 with ⟨_, h0⟩ | ⟨g, cap, cur, e0, _⟩
          · omega
          · injection e0 with e0 _ _; exact ⟨g, e0⟩
        subst hg2 hga
        have hmem : k < r.ms.length := by rw [← HN.out]; exact hkn
        have hgT2 : g2 < w.heap.size := (HX.out.lt g2 rfl).2
        have hgTa : ga < w1.heap.size := (World.ownsRow.lt O1.out ga rfl).2
        obtain ⟨c0, c1, c2⟩ := XIs.at3 HX.out k hmem
        replace c0 := (hbw.cell (by exact hgT2)).trans c0
        replace c1 := (hbw.cell (by exact hgT2)).trans c1
        replace c2 := (hbw.cell (by exact hgT2)).trans c2
        have hall : wr.cell? ⟨ga, k, none⟩ = some (.int .i64 (mbAt r.ms k).s) := by
          have q := World.ownsRow.cells O1.out (g := ga) rfl k (.int .i64 (mbAt r.ms k).s) (by simp [ints, hkn])
          rw [Addr.add_lit, Nat.zero_add] at q
          exact (HI.out.cell (by exact hgTa)).trans q
        have HALL : Hid _ := hall
        have b0 : ∀ o, (wr.alloc o).cell? ⟨w.heap.size, 0, none⟩ = some (.int .u64 (r.c : Nat)) := fun o => (World.cell?_alloc_past _ _ _ (by show w.heap.size < _; have := HSZ.out; omega)).trans (cell_of KB.out 0)
        have b1 : ∀ o, (wr.alloc o).cell? ⟨w.heap.size, 1, none⟩ = some (.int .u64 (r.e : Nat)) := fun o => (World.cell?_alloc_past _ _ _ (by show w.heap.size < _; have := HSZ.out; omega)).trans (cell_of KB.out 1)
        have b2 : ∀ o, (wr.alloc o).cell? ⟨w.heap.size, 2, none⟩ = some (.int .u64 (r.l : Nat)) := fun o => (World.cell?_alloc_past _ _ _ (by show w.heap.size < _; have := HSZ.out; omega)).trans (cell_of KB.out 2)
        have b3 : ∀ o, (wr.alloc o).cell? ⟨w.heap.size, 3, none⟩ = some (.int .u64 (r.j : Nat)) := fun o => (World.cell?_alloc_past _ _ _ (by show w.heap.size < _; have := HSZ.out; omega)).trans (cell_of KB.out 3)
        have b4 : ∀ o, (wr.alloc o).cell? ⟨w.heap.size, 4, none⟩ = some (.slice ao n cp) := fun o => (World.cell?_alloc_past _ _ _ (by show w.heap.size < _; have := HSZ.out; omega)).trans (cell_of KB.out 4)
        have HBA : Hid (∀ o, Below w.heap.size w (wr.alloc o)) := fun o => hbw.alloc hbw.size o
        have HB1A : Hid (∀ o, Below w1.heap.size w1 (wr.alloc o)) := fun o => HI.out.alloc HI.out.size o
        have HFk : Hid _ := HF.out k hkn
        have HATk : Hid _ := HAT.out k hkn
        have HNX : Hid (acs (r.ms.take (k + 1)) = acs (r.ms.take k) ++ acs [mbAt r.ms k]) := acs_succ _ _ hmem
        have HGA : Hid (ga < wr.heap.size) := by have := HI.out.size; unfold Hid; omega
        generalize mbAt r.ms k = m at *
        clear HF HF0 HAT HI kb hbU hbw hall hgT2 hgTa hmem hsz hU1 hU2
        go_wp2_with fail
        go_call (HFk.out _ (HBA.out _)) as e w3 ⟨rfl, hb3⟩
        clear HFk b0 b1 b2 b3 b4 c0 c1 c2
        have k130 := (hb3.block wr.heap.size (by simp)).trans (heap_new wr _)
        have hs3 : wr.heap.size < w3.heap.size := by have := hb3.size; simp at this; omega
        have HS3 : Hid _ := hs3
        have K130 : Hid _ := k130
        have HB3 : Hid (Below w1.heap.size w1 w3) := (HB1A.out _).trans (hb3.mono (HB1A.out _).size)
        have hall3 : w3.cell? ⟨ga, k, none⟩ = some (.int .i64 m.s) := (hb3.cell (by show ga < _; have := HGA.out; simp; omega)).trans ((World.cell?_alloc_past _ _ _ (by exact HGA.out)).trans HALL.out)
        have m0 : ∀ o, (w3.alloc o).cell? ⟨wr.heap.size, 0, none⟩ = some (.int .i64 m.s) := fun o => (World.cell?_alloc_past _ _ _ (by exact HS3.out)).trans (cell_of K130.out 0)
        have m1 : ∀ o, (w3.alloc o).cell? ⟨wr.heap.size, 1, none⟩ = some (.int .u64 (m.j : Nat)) := fun o => (World.cell?_alloc_past _ _ _ (by exact HS3.out)).trans (cell_of K130.out 1)
        have m2 : ∀ o, (w3.alloc o).cell? ⟨wr.heap.size, 2, none⟩ = some (.int .i64 m.t) := fun o => (World.cell?_alloc_past _ _ _ (by exact HS3.out)).trans (cell_of K130.out 2)
        have ma : ∀ o, (w3.alloc o).cell? ⟨ga, k, none⟩ = some (.int .i64 m.s) := fun o => (World.cell?_alloc_past _ _ _ (by show ga < _; have := HS3.out; have := HGA.out; omega)).trans hall3
        clear hb3 k130 hs3 hall3
        unfold Mb.val
        have HBW : Hid (∀ o, Below w1.heap.size w1 (w3.alloc o)) := fun o => HB3.out.alloc HB3.out.size o
        by_cases ht : m.t = 1
        · have hat := (HATk.out ht).1
          have hlt := (HATk.out ht).2
          obtain ⟨gc, hgc⟩ : ∃ g, a3 = some ⟨g, 0, none⟩ := by
            rcases O3.out.2 with ⟨_, h0⟩ | ⟨g, cap, cur, e0, _⟩
            · have := HNA.out; omega
            · injection e0 with e0 _ _; exact ⟨g, e0⟩
          subst hgc
          have hgcT : gc < w1.heap.size := (World.ownsRow.lt O3.out gc rfl).2
          have hcl : w1.cell? ⟨gc, (acs (r.ms.take k)).length, none⟩ = some (.int .i64 m.s) := by
            have q := World.ownsRow.cells O3.out (g := gc) rfl _ _ hat
            rw [Addr.add_lit, Nat.zero_add] at q; exact q
          have mc : ∀ o, (w3.alloc o).cell? ⟨gc, (acs (r.ms.take k)).length, none⟩ = some (.int .i64 m.s) := fun o => ((HBW.out o).cell (by exact hgcT)).trans hcl
          have HLN : Hid ((acs (r.ms.take (k + 1))).length = (acs (r.ms.take k)).length + 1) := by rw [HNX.out, List.length_append]; show _ = _; simp [acs, ht]
          have hA := HA16.out
          have HT : Hid _ := ht
          clear hat HATk HNX hcl hgcT O3 O1 HALL HA16 ht
          generalize (acs (r.ms.take k)).length = c at *
          go_wp2
          refine O.wp_region_ph (fun f => ⟨#[.agg #[.int .u64 (r.c : Int), .int .u64 (r.e : Int), .int .u64 (r.l : Int), .int .u64 (r.j : Int), .slice ao n cp], .agg #[.int .u64 (r.c : Int), .int .u64 (r.e : Int), .int .u64 (r.l : Int), .int .u64 (r.j : Int), .slice (some ⟨g2, 0, none⟩) n cp2], .pointer (some ⟨w.heap.size, 0, none⟩), .pointer (some ⟨w.heap.size + 1, 0, none⟩), u4, .slice (some ⟨ga, 0, none⟩) n p1, .slice (some ⟨gc, 0, none⟩) na p3, .int .i64 (c : Int), .int .i64 (k : Int), .pointer (some ⟨wr.heap.size, 0, none⟩), .pointer (some ⟨w3.heap.size, 0, none⟩), .bool true, undef, undef, .agg #[.int .u64 (r.c : Int), .int .u64 (r.e : Int), .int .u64 (r.l : Int), .int .u64 (r.j : Int), .slice ao n cp], .slice (some ⟨ga, 0, none⟩) n p1, .agg #[.int .u64 (r.c : Int), .int .u64 (r.e : Int), .int .u64 (r.l : Int), .int .u64 (r.j : Int), .slice ao n cp], .slice (some ⟨gc, 0, none⟩) na p3, .pointer (some ⟨w.heap.size + 1, 4, none⟩), .slice (some ⟨g2, 0, none⟩) n cp2, .int .i64 (n : Int), .int .i64 (k : Int), .bool true, .int .i64 (k : Int), .pointer (some ⟨g2, k * 3, none⟩), .agg #[.int .i64 m.s, .int .u64 (m.j : Int), .int .i64 m.t], .tuple #[.agg #[.int .i64 m.s, .int .u64 (m.j : Int), .int .i64 m.t], .bool true], .agg #[.int .u64 (r.c : Int), .int .u64 (r.e : Int), .int .u64 (r.l : Int), .int .u64 (r.j : Int), .slice ao n cp], .pointer (some ⟨wr.heap.size, 0, none⟩), .int .i64 m.s, .tuple #[.agg #[.int .i64 m.s, .int .u64 (m.j : Int), .int .i64 m.t], .bool true], .agg #[.int .i64 m.s, .int .u64 (m.j : Int), .int .i64 m.t], .bool true, f 0, f 1, f 2, f 3, f 4, f 5, f 6, f 7, f 8, f 9, f 10, f 11, f 12, f 13, f 14, f 15, f 16, f 17, f 18, f 19, f 20, f 21, f 22, f 23, u57, u58, u59, u60, u61, u62, u63, u64, u65, u66, u67, u68, u69, u70, u71, u72, u73, u74, u75, undef, undef, undef, undef, undef, undef, undef, undef, undef, undef, undef, undef, undef, undef, undef, undef, undef, undef, undef, undef, undef], []⟩) (LkV7 wr w3 m k n ga p1) (fun _ _ W => W = (w3.alloc (.cells #[.int .i64 m.s, .int .u64 (m.j : Nat), .int .i64 m.t] 85)).drew) (fun i => [u33, u34, u35, u36, u37, u38, u39, u40, u41, u42, u43, u44, u45, u46, u47, u48, u49, u50, u51, u52, u53, u54, u55, u56].getD i undef) (by kernel_rfl) rfl rfl ?hI7a ?hput7a ?step7a ?fin7a
          case hI7a => rfl
          case fin7a =>
            intro f W hP hV
            have v0 : f 0 = .int .i64 (k : Nat) := hV 0 (by decide)
            have v1 : f 1 = .slice (some ⟨ga, 0, none⟩) n p1 := hV 1 (by decide)
            have v2 : f 2 = .int .i64 (n : Nat) := hV 2 (by decide)
            have v3 : f 3 = .bool false := hV 3 (by decide)
            have v4 : f 4 = .bool false := hV 4 (by decide)
            have v5 : f 5 = .slice (some ⟨ga, 0, none⟩) n p1 := hV 5 (by decide)
            have v6 : f 6 = .int .i64 (k : Nat) := hV 6 (by decide)
            have v7 : f 7 = .pointer (some ⟨ga, k, none⟩) := hV 7 (by decide)
            have v8 : f 8 = .int .i64 m.s := hV 8 (by decide)
            have v9 : f 9 = .pointer (some ⟨wr.heap.size, 0, none⟩) := hV 9 (by decide)
            have v10 : f 10 = .int .i64 m.s := hV 10 (by decide)
            have v11 : f 11 = .bool false := hV 11 (by decide)
            have v12 : f 12 = .bool false := hV 12 (by decide)
            have v13 : f 13 = .bool false := hV 13 (by decide)
            have v14 : f 14 = .bool true := hV 14 (by decide)
            have v15 : f 15 = .bool false := hV 15 (by decide)
            have v16 : f 16 = .bool false := hV 16 (by decide)
            have v17 : f 17 = .bool false := hV 17 (by decide)
            have v18 : f 18 = .pointer (some ⟨w3.heap.size, 1, none⟩) := hV 18 (by decide)
            have v19 : f 19 = .int .u64 (m.j : Nat) := hV 19 (by decide)
            have v20 : f 20 = .pointer (some ⟨wr.heap.size, 1, none⟩) := hV 20 (by decide)
            have v21 : f 21 = .int .u64 (m.j : Nat) := hV 21 (by decide)
            have v22 : f 22 = .bool false := hV 22 (by decide)
            have v23 : f 23 = .bool false := hV 23 (by decide)
            clear hV
            generalize f 0 = x0 at *
            subst v0
            generalize f 1 = x1 at *
            subst v1
            generalize f 2 = x2 at *
            subst v2
            generalize f 3 = x3 at *
            subst v3
            generalize f 4 = x4 at *
            subst v4
            generalize f 5 = x5 at *
            subst v5
            generalize f 6 = x6 at *
            subst v6
            generalize f 7 = x7 at *
            subst v7
            generalize f 8 = x8 at *
            subst v8
            generalize f 9 = x9 at *
            subst v9
            generalize f 10 = x10 at *
            subst v10
            generalize f 11 = x11 at *
            subst v11
            generalize f 12 = x12 at *
            subst v12
            generalize f 13 = x13 at *
            subst v13
            generalize f 14 = x14 at *
            subst v14
            generalize f 15 = x15 at *
            subst v15
            generalize f 16 = x16 at *
            subst v16
            generalize f 17 = x17 at *
            subst v17
            generalize f 18 = x18 at *
            subst v18
            generalize f 19 = x19 at *
            subst v19
            generalize f 20 = x20 at *
            subst v20
            generalize f 21 = x21 at *
            subst v21
            generalize f 22 = x22 at *
            subst v22
            generalize f 23 = x23 at *
            subst v23
            subst hP
            have ht : m.t = 1 := HT.out
            go_wp2
            clear ht
            refine O.wp_region_ph (fun f => ⟨#[.agg #[.int .u64 (r.c : Int), .int .u64 (r.e : Int), .int .u64 (r.l : Int), .int .u64 (r.j : Int), .slice ao n cp], .agg #[.int .u64 (r.c : Int), .int .u64 (r.e : Int), .int .u64 (r.l : Int), .int .u64 (r.j : Int), .slice (some ⟨g2, 0, none⟩) n cp2], .pointer (some ⟨w.heap.size, 0, none⟩), .pointer (some ⟨w.heap.size + 1, 0, none⟩), u4, .slice (some ⟨ga, 0, none⟩) n p1, .slice (some ⟨gc, 0, none⟩) na p3, .int .i64 (c : Int), .int .i64 (k : Int), .pointer (some ⟨wr.heap.size, 0, none⟩), .pointer (some ⟨w3.heap.size, 0, none⟩), .bool true, undef, undef, .agg #[.int .u64 (r.c : Int), .int .u64 (r.e : Int), .int .u64 (r.l : Int), .int .u64 (r.j : Int), .slice ao n cp], .slice (some ⟨ga, 0, none⟩) n p1, .agg #[.int .u64 (r.c : Int), .int .u64 (r.e : Int), .int .u64 (r.l : Int), .int .u64 (r.j : Int), .slice ao n cp], .slice (some ⟨gc, 0, none⟩) na p3, .pointer (some ⟨w.heap.size + 1, 4, none⟩), .slice (some ⟨g2, 0, none⟩) n cp2, .int .i64 (n : Int), .int .i64 (k : Int), .bool true, .int .i64 (k : Int), .pointer (some ⟨g2, k * 3, none⟩), .agg #[.int .i64 m.s, .int .u64 (m.j : Int), .int .i64 m.t], .tuple #[.agg #[.int .i64 m.s, .int .u64 (m.j : Int), .int .i64 m.t], .bool true], .agg #[.int .u64 (r.c : Int), .int .u64 (r.e : Int), .int .u64 (r.l : Int), .int .u64 (r.j : Int), .slice ao n cp], .pointer (some ⟨wr.heap.size, 0, none⟩), .int .i64 m.s, .tuple #[.agg #[.int .i64 m.s, .int .u64 (m.j : Int), .int .i64 m.t], .bool true], .agg #[.int .i64 m.s, .int .u64 (m.j : Int), .int .i64 m.t], .bool true, .int .i64 (k : Int), .slice (some ⟨ga, 0, none⟩) n p1, .int .i64 (n : Int), .bool false, .bool false, .slice (some ⟨ga, 0, none⟩) n p1, .int .i64 (k : Int), .pointer (some ⟨ga, k, none⟩), .int .i64 m.s, .pointer (some ⟨wr.heap.size, 0, none⟩), .int .i64 m.s, .bool false, .bool false, .bool false, .bool true, .bool false, .bool false, .bool false, .pointer (some ⟨w3.heap.size, 1, none⟩), .int .u64 (m.j : Int), .pointer (some ⟨wr.heap.size, 1, none⟩), .int .u64 (m.j : Int), .bool false, .bool false, .pointer (some ⟨wr.heap.size, 2, none⟩), .int .i64 1, .bool true, f 0, f 1, f 2, f 3, f 4, f 5, f 6, f 7, f 8, f 9, f 10, f 11, f 12, u73, u74, u75, undef, undef, undef, undef, undef, undef, undef, undef, undef, undef, undef, undef, undef, undef, undef, undef, undef, undef, undef, undef, undef], []⟩) (LkV10 wr m c na gc p3) (fun _ _ W => W = (w3.alloc (.cells #[.int .i64 m.s, .int .u64 (m.j : Nat), .int .i64 1] 85)).drew.drew) (fun i => [u60, u61, u62, u63, u64, u65, u66, u67, u68, u69, u70, u71, u72].getD i undef) (by kernel_rfl) rfl rfl ?hI10 ?hput10 ?step10 ?fin10
            case hI10 => rfl
            case fin10 =>
              intro f W hP hV
              have v0 : f 0 = .int .i64 (c : Nat) := hV 0 (by decide)
              have v1 : f 1 = .slice (some ⟨gc, 0, none⟩) na p3 := hV 1 (by decide)
              have v2 : f 2 = .int .i64 (na : Nat) := hV 2 (by decide)
              have v3 : f 3 = .bool false := hV 3 (by decide)
              have v4 : f 4 = .bool false := hV 4 (by decide)
              have v5 : f 5 = .slice (some ⟨gc, 0, none⟩) na p3 := hV 5 (by decide)
              have v6 : f 6 = .int .i64 (c : Nat) := hV 6 (by decide)
              have v7 : f 7 = .pointer (some ⟨gc, c, none⟩) := hV 7 (by decide)
              have v8 : f 8 = .int .i64 m.s := hV 8 (by decide)
              have v9 : f 9 = .pointer (some ⟨wr.heap.size, 0, none⟩) := hV 9 (by decide)
              have v10 : f 10 = .int .i64 m.s := hV 10 (by decide)
              have v11 : f 11 = .bool false := hV 11 (by decide)
              have v12 : f 12 = .bool false := hV 12 (by decide)
              clear hV
              generalize f 0 = x0 at *
              subst v0
              generalize f 1 = x1 at *
              subst v1
              generalize f 2 = x2 at *
              subst v2
              generalize f 3 = x3 at *
              subst v3
              generalize f 4 = x4 at *
              subst v4
              generalize f 5 = x5 at *
              subst v5
              generalize f 6 = x6 at *
              subst v6
              generalize f 7 = x7 at *
              subst v7
              generalize f 8 = x8 at *
              subst v8
              generalize f 9 = x9 at *
              subst v9
              generalize f 10 = x10 at *
              subst v10
              generalize f 11 = x11 at *
              subst v11
              generalize f 12 = x12 at *
              subst v12
              subst hP
              go_wp2
              go_roundw
              case rel => exact ⟨k + 1, by omega, by rw [HLN.out]; rfl, rfl, (HBW.out _).drew.drew⟩
              case measure => simp only [intOf]; omega
            case hput10 =>
              repeat (refine ⟨fun f v => rfl, ?_⟩)
              trivial
            case step10 =>
              refine ⟨?_, ?_⟩
              · intro done f W hP hdn hd K hK
                clear hd
                subst hP
                go_simp
                exact hK _ _ (by first | rfl | (show Value.bool _ = _; simp; try omega)) rfl
              refine ⟨?_, ?_⟩
              · intro done f W hP hdn hd K hK
                clear hd
                subst hP
                go_simp
                exact hK _ _ (by first | rfl | (show Value.bool _ = _; simp; try omega)) rfl
              refine ⟨?_, ?_⟩
              · intro done f W hP hdn hd K hK
                have d1 := (hd.1 rfl).2
                have e1 : done 1 = true := (hd.1 rfl).1
                clear hd
                replace d1 : f 1 = .slice (some ⟨gc, 0, none⟩) na p3 := d1
                subst hP
                generalize f 1 = x1 at *
                subst d1
                clear e1
                go_simp
                exact hK _ _ (by first | rfl | (show Value.bool _ = _; simp; try omega)) rfl
              refine ⟨?_, ?_⟩
              · intro done f W hP hdn hd K hK
                have d0 := (hd.1 rfl).2
                have e0 : done 0 = true := (hd.1 rfl).1
                have d2 := (hd.2.1 rfl).2
                have e2 : done 2 = true := (hd.2.1 rfl).1
                clear hd
                replace d0 : f 0 = .int .i64 (c : Nat) := d0
                replace d2 : f 2 = .int .i64 (na : Nat) := d2
                subst hP
                generalize f 0 = x0 at *
                subst d0
                clear e0
                generalize f 2 = x2 at *
                subst d2
                clear e2
                go_simp
                exact hK _ _ (by first | rfl | (show Value.bool _ = _; simp; try omega)) rfl
              refine ⟨?_, ?_⟩
              · intro done f W hP hdn hd K hK
                have d3 := (hd.1 rfl).2
                have e3 : done 3 = true := (hd.1 rfl).1
                clear hd
                replace d3 : f 3 = .bool false := d3
                subst hP
                generalize f 3 = x3 at *
                subst d3
                clear e3
                go_simp
                exact hK _ _ (by first | rfl | (show Value.bool _ = _; simp; try omega)) rfl
              refine ⟨?_, ?_⟩
              · intro done f W hP hdn hd K hK
                have d4 := (hd.1 rfl).2
                have e4 : done 4 = true := (hd.1 rfl).1
                clear hd
                replace d4 : f 4 = .bool false := d4
                subst hP
                generalize f 4 = x4 at *
                subst d4
                clear e4
                go_simp
                exact hK _ _ (by first | rfl | (show Value.bool _ = _; simp; try omega)) rfl
              refine ⟨?_, ?_⟩
              · intro done f W hP hdn hd K hK
                have d4 := (hd.1 rfl).2
                have e4 : done 4 = true := (hd.1 rfl).1
                clear hd
                replace d4 : f 4 = .bool false := d4
                subst hP
                generalize f 4 = x4 at *
                subst d4
                clear e4
                go_simp
                exact hK _ _ (by first | rfl | (show Value.bool _ = _; simp; try omega)) rfl
              refine ⟨?_, ?_⟩
              · intro done f W hP hdn hd K hK
                have d5 := (hd.1 rfl).2
                have e5 : done 5 = true := (hd.1 rfl).1
                have d6 := (hd.2.1 rfl).2
                have e6 : done 6 = true := (hd.2.1 rfl).1
                have d4 := (hd.2.2.1 rfl).2
                have e4 : done 4 = true := (hd.2.2.1 rfl).1
                clear hd
                replace d5 : f 5 = .slice (some ⟨gc, 0, none⟩) na p3 := d5
                replace d6 : f 6 = .int .i64 (c : Nat) := d6
                replace d4 : f 4 = .bool false := d4
                subst hP
                generalize f 5 = x5 at *
                subst d5
                clear e5
                generalize f 6 = x6 at *
                subst d6
                clear e6
                generalize f 4 = x4 at *
                subst d4
                clear e4
                go_simp
                exact hK _ _ (by first | rfl | (show Value.bool _ = _; simp; try omega)) rfl
              refine ⟨?_, ?_⟩
              · intro done f W hP hdn hd K hK
                have d7 := (hd.1 rfl).2
                have e7 : done 7 = true := (hd.1 rfl).1
                have d4 := (hd.2.1 rfl).2
                have e4 : done 4 = true := (hd.2.1 rfl).1
                clear hd
                replace d7 : f 7 = .pointer (some ⟨gc, c, none⟩) := d7
                replace d4 : f 4 = .bool false := d4
                subst hP
                generalize f 7 = x7 at *
                subst d7
                clear e7
                generalize f 4 = x4 at *
                subst d4
                clear e4
                go_simp
                exact hK _ _ (by first | rfl | (show Value.bool _ = _; simp; try omega)) rfl
              refine ⟨?_, ?_⟩
              · intro done f W hP hdn hd K hK
                have d4 := (hd.1 rfl).2
                have e4 : done 4 = true := (hd.1 rfl).1
                clear hd
                replace d4 : f 4 = .bool false := d4
                subst hP
                generalize f 4 = x4 at *
                subst d4
                clear e4
                go_simp
                exact hK _ _ (by first | rfl | (show Value.bool _ = _; simp; try omega)) rfl
              refine ⟨?_, ?_⟩
              · intro done f W hP hdn hd K hK
                have d9 := (hd.1 rfl).2
                have e9 : done 9 = true := (hd.1 rfl).1
                have d4 := (hd.2.1 rfl).2
                have e4 : done 4 = true := (hd.2.1 rfl).1
                clear hd
                replace d9 : f 9 = .pointer (some ⟨wr.heap.size, 0, none⟩) := d9
                replace d4 : f 4 = .bool false := d4
                subst hP
                generalize f 9 = x9 at *
                subst d9
                clear e9
                generalize f 4 = x4 at *
                subst d4
                clear e4
                go_simp
                exact hK _ _ (by first | rfl | (show Value.bool _ = _; simp; try omega)) rfl
              refine ⟨?_, ?_⟩
              · intro done f W hP hdn hd K hK
                have d8 := (hd.1 rfl).2
                have e8 : done 8 = true := (hd.1 rfl).1
                have d10 := (hd.2.1 rfl).2
                have e10 : done 10 = true := (hd.2.1 rfl).1
                have d4 := (hd.2.2.1 rfl).2
                have e4 : done 4 = true := (hd.2.2.1 rfl).1
                clear hd
                replace d8 : f 8 = .int .i64 m.s := d8
                replace d10 : f 10 = .int .i64 m.s := d10
                replace d4 : f 4 = .bool false := d4
                subst hP
                generalize f 8 = x8 at *
                subst d8
                clear e8
                generalize f 10 = x10 at *
                subst d10
                clear e10
                generalize f 4 = x4 at *
                subst d4
                clear e4
                go_simp
                exact hK _ _ (by first | rfl | (show Value.bool _ = _; simp; try omega)) rfl
              refine ⟨?_, ?_⟩
              · intro done f W hP hdn hd K hK
                have d4 := (hd.1 rfl).2
                have e4 : done 4 = true := (hd.1 rfl).1
                have d11 := (hd.2.1 rfl).2
                have e11 : done 11 = true := (hd.2.1 rfl).1
                clear hd
                replace d4 : f 4 = .bool false := d4
                replace d11 : f 11 = .bool false := d11
                subst hP
                generalize f 4 = x4 at *
                subst d4
                clear e4
                generalize f 11 = x11 at *
                subst d11
                clear e11
                go_simp
                exact hK _ _ (by first | rfl | (show Value.bool _ = _; simp; try omega)) rfl
              trivial
          case hput7a =>
            repeat (refine ⟨fun f v => rfl, ?_⟩)
            trivial
          case step7a =>
            refine ⟨?_, ?_⟩
            · intro done f W hP hdn hd K hK
              clear hd
              subst hP
              go_simp
              exact hK _ _ (by first | rfl | (show Value.bool _ = _; simp; try omega)) rfl
            refine ⟨?_, ?_⟩
            · intro done f W hP hdn hd K hK
              clear hd
              subst hP
              go_simp
              exact hK _ _ (by first | rfl | (show Value.bool _ = _; simp; try omega)) rfl
            refine ⟨?_, ?_⟩
            · intro done f W hP hdn hd K hK
              have d1 := (hd.1 rfl).2
              have e1 : done 1 = true := (hd.1 rfl).1
              clear hd
              replace d1 : f 1 = .slice (some ⟨ga, 0, none⟩) n p1 := d1
              subst hP
              generalize f 1 = x1 at *
              subst d1
              clear e1
              go_simp
              exact hK _ _ (by first | rfl | (show Value.bool _ = _; simp; try omega)) rfl
            refine ⟨?_, ?_⟩
            · intro done f W hP hdn hd K hK
              have d0 := (hd.1 rfl).2
              have e0 : done 0 = true := (hd.1 rfl).1
              have d2 := (hd.2.1 rfl).2
              have e2 : done 2 = true := (hd.2.1 rfl).1
              clear hd
              replace d0 : f 0 = .int .i64 (k : Nat) := d0
              replace d2 : f 2 = .int .i64 (n : Nat) := d2
              subst hP
              generalize f 0 = x0 at *
              subst d0
              clear e0
              generalize f 2 = x2 at *
              subst d2
              clear e2
              go_simp
              exact hK _ _ (by first | rfl | (show Value.bool _ = _; simp; try omega)) rfl
            refine ⟨?_, ?_⟩
            · intro done f W hP hdn hd K hK
              have d3 := (hd.1 rfl).2
              have e3 : done 3 = true := (hd.1 rfl).1
              clear hd
              replace d3 : f 3 = .bool false := d3
              subst hP
              generalize f 3 = x3 at *
              subst d3
              clear e3
              go_simp
              exact hK _ _ (by first | rfl | (show Value.bool _ = _; simp; try omega)) rfl
            refine ⟨?_, ?_⟩
            · intro done f W hP hdn hd K hK
              have d4 := (hd.1 rfl).2
              have e4 : done 4 = true := (hd.1 rfl).1
              clear hd
              replace d4 : f 4 = .bool false := d4
              subst hP
              generalize f 4 = x4 at *
              subst d4
              clear e4
              go_simp
              exact hK _ _ (by first | rfl | (show Value.bool _ = _; simp; try omega)) rfl
            refine ⟨?_, ?_⟩
            · intro done f W hP hdn hd K hK
              have d4 := (hd.1 rfl).2
              have e4 : done 4 = true := (hd.1 rfl).1
              clear hd
              replace d4 : f 4 = .bool false := d4
              subst hP
              generalize f 4 = x4 at *
              subst d4
              clear e4
              go_simp
              exact hK _ _ (by first | rfl | (show Value.bool _ = _; simp; try omega)) rfl
            refine ⟨?_, ?_⟩
            · intro done f W hP hdn hd K hK
              have d5 := (hd.1 rfl).2
              have e5 : done 5 = true := (hd.1 rfl).1
              have d6 := (hd.2.1 rfl).2
              have e6 : done 6 = true := (hd.2.1 rfl).1
              have d4 := (hd.2.2.1 rfl).2
              have e4 : done 4 = true := (hd.2.2.1 rfl).1
              clear hd
              replace d5 : f 5 = .slice (some ⟨ga, 0, none⟩) n p1 := d5
              replace d6 : f 6 = .int .i64 (k : Nat) := d6
              replace d4 : f 4 = .bool false := d4
              subst hP
              generalize f 5 = x5 at *
              subst d5
              clear e5
              generalize f 6 = x6 at *
              subst d6
              clear e6
              generalize f 4 = x4 at *
              subst d4
              clear e4
              go_simp
              exact hK _ _ (by first | rfl | (show Value.bool _ = _; simp; try omega)) rfl
            refine ⟨?_, ?_⟩
            · intro done f W hP hdn hd K hK
              have d7 := (hd.1 rfl).2
              have e7 : done 7 = true := (hd.1 rfl).1
              have d4 := (hd.2.1 rfl).2
              have e4 : done 4 = true := (hd.2.1 rfl).1
              clear hd
              replace d7 : f 7 = .pointer (some ⟨ga, k, none⟩) := d7
              replace d4 : f 4 = .bool false := d4
              subst hP
              generalize f 7 = x7 at *
              subst d7
              clear e7
              generalize f 4 = x4 at *
              subst d4
              clear e4
              go_simp
              exact hK _ _ (by first | rfl | (show Value.bool _ = _; simp; try omega)) rfl
            refine ⟨?_, ?_⟩
            · intro done f W hP hdn hd K hK
              have d4 := (hd.1 rfl).2
              have e4 : done 4 = true := (hd.1 rfl).1
              clear hd
              replace d4 : f 4 = .bool false := d4
              subst hP
              generalize f 4 = x4 at *
              subst d4
              clear e4
              go_simp
              exact hK _ _ (by first | rfl | (show Value.bool _ = _; simp; try omega)) rfl
            refine ⟨?_, ?_⟩
            · intro done f W hP hdn hd K hK
              have d9 := (hd.1 rfl).2
              have e9 : done 9 = true := (hd.1 rfl).1
              have d4 := (hd.2.1 rfl).2
              have e4 : done 4 = true := (hd.2.1 rfl).1
              clear hd
              replace d9 : f 9 = .pointer (some ⟨wr.heap.size, 0, none⟩) := d9
              replace d4 : f 4 = .bool false := d4
              subst hP
              generalize f 9 = x9 at *
              subst d9
              clear e9
              generalize f 4 = x4 at *
              subst d4
              clear e4
              go_simp
              exact hK _ _ (by first | rfl | (show Value.bool _ = _; simp; try omega)) rfl
            refine ⟨?_, ?_⟩
            · intro done f W hP hdn hd K hK
              have d8 := (hd.1 rfl).2
              have e8 : done 8 = true := (hd.1 rfl).1
              have d10 := (hd.2.1 rfl).2
              have e10 : done 10 = true := (hd.2.1 rfl).1
              have d4 := (hd.2.2.1 rfl).2
              have e4 : done 4 = true := (hd.2.2.1 rfl).1
              clear hd
              replace d8 : f 8 = .int .i64 m.s := d8
              replace d10 : f 10 = .int .i64 m.s := d10
              replace d4 : f 4 = .bool false := d4
              subst hP
              generalize f 8 = x8 at *
              subst d8
              clear e8
              generalize f 10 = x10 at *
              subst d10
              clear e10
              generalize f 4 = x4 at *
              subst d4
              clear e4
              go_simp
              exact hK _ _ (by first | rfl | (show Value.bool _ = _; simp; try omega)) rfl
            refine ⟨?_, ?_⟩
            · intro done f W hP hdn hd K hK
              have d4 := (hd.1 rfl).2
              have e4 : done 4 = true := (hd.1 rfl).1
              have d11 := (hd.2.1 rfl).2
              have e11 : done 11 = true := (hd.2.1 rfl).1
              clear hd
              replace d4 : f 4 = .bool false := d4
              replace d11 : f 11 = .bool false := d11
              subst hP
              generalize f 4 = x4 at *
              subst d4
              clear e4
              generalize f 11 = x11 at *
              subst d11
              clear e11
              go_simp
              exact hK _ _ (by first | rfl | (show Value.bool _ = _; simp; try omega)) rfl
            refine ⟨?_, ?_⟩
            · intro done f W hP hdn hd K hK
              have d12 := (hd.1 rfl).2
              have e12 : done 12 = true := (hd.1 rfl).1
              clear hd
              replace d12 : f 12 = .bool false := d12
              subst hP
              generalize f 12 = x12 at *
              subst d12
              clear e12
              go_simp
              exact hK _ _ (by first | rfl | (show Value.bool _ = _; simp; try omega)) rfl
            refine ⟨?_, ?_⟩
            · intro done f W hP hdn hd K hK
              have d13 := (hd.1 rfl).2
              have e13 : done 13 = true := (hd.1 rfl).1
              clear hd
              replace d13 : f 13 = .bool false := d13
              subst hP
              generalize f 13 = x13 at *
              subst d13
              clear e13
              go_simp
              exact hK _ _ (by first | rfl | (show Value.bool _ = _; simp; try omega)) rfl
            refine ⟨?_, ?_⟩
            · intro done f W hP hdn hd K hK
              have d14 := (hd.1 rfl).2
              have e14 : done 14 = true := (hd.1 rfl).1
              have d13 := (hd.2.1 rfl).2
              have e13 : done 13 = true := (hd.2.1 rfl).1
              clear hd
              replace d14 : f 14 = .bool true := d14
              replace d13 : f 13 = .bool false := d13
              subst hP
              generalize f 14 = x14 at *
              subst d14
              clear e14
              generalize f 13 = x13 at *
              subst d13
              clear e13
              go_simp
              exact hK _ _ (by first | rfl | (show Value.bool _ = _; simp; try omega)) rfl
            refine ⟨?_, ?_⟩
            · intro done f W hP hdn hd K hK
              have d13 := (hd.1 rfl).2
              have e13 : done 13 = true := (hd.1 rfl).1
              have d15 := (hd.2.1 rfl).2
              have e15 : done 15 = true := (hd.2.1 rfl).1
              clear hd
              replace d13 : f 13 = .bool false := d13
              replace d15 : f 15 = .bool false := d15
              subst hP
              generalize f 13 = x13 at *
              subst d13
              clear e13
              generalize f 15 = x15 at *
              subst d15
              clear e15
              go_simp
              exact hK _ _ (by first | rfl | (show Value.bool _ = _; simp; try omega)) rfl
            refine ⟨?_, ?_⟩
            · intro done f W hP hdn hd K hK
              have d16 := (hd.1 rfl).2
              have e16 : done 16 = true := (hd.1 rfl).1
              clear hd
              replace d16 : f 16 = .bool false := d16
              subst hP
              generalize f 16 = x16 at *
              subst d16
              clear e16
              go_simp
              exact hK _ _ (by first | rfl | (show Value.bool _ = _; simp; try omega)) rfl
            refine ⟨?_, ?_⟩
            · intro done f W hP hdn hd K hK
              have d17 := (hd.1 rfl).2
              have e17 : done 17 = true := (hd.1 rfl).1
              clear hd
              replace d17 : f 17 = .bool false := d17
              subst hP
              generalize f 17 = x17 at *
              subst d17
              clear e17
              go_simp
              exact hK _ _ (by first | rfl | (show Value.bool _ = _; simp; try omega)) rfl
            refine ⟨?_, ?_⟩
            · intro done f W hP hdn hd K hK
              have d18 := (hd.1 rfl).2
              have e18 : done 18 = true := (hd.1 rfl).1
              have d17 := (hd.2.1 rfl).2
              have e17 : done 17 = true := (hd.2.1 rfl).1
              clear hd
              replace d18 : f 18 = .pointer (some ⟨w3.heap.size, 1, none⟩) := d18
              replace d17 : f 17 = .bool false := d17
              subst hP
              generalize f 18 = x18 at *
              subst d18
              clear e18
              generalize f 17 = x17 at *
              subst d17
              clear e17
              go_simp
              exact hK _ _ (by first | rfl | (show Value.bool _ = _; simp; try omega)) rfl
            refine ⟨?_, ?_⟩
            · intro done f W hP hdn hd K hK
              have d17 := (hd.1 rfl).2
              have e17 : done 17 = true := (hd.1 rfl).1
              clear hd
              replace d17 : f 17 = .bool false := d17
              subst hP
              generalize f 17 = x17 at *
              subst d17
              clear e17
              go_simp
              exact hK _ _ (by first | rfl | (show Value.bool _ = _; simp; try omega)) rfl
            refine ⟨?_, ?_⟩
            · intro done f W hP hdn hd K hK
              have d20 := (hd.1 rfl).2
              have e20 : done 20 = true := (hd.1 rfl).1
              have d17 := (hd.2.1 rfl).2
              have e17 : done 17 = true := (hd.2.1 rfl).1
              clear hd
              replace d20 : f 20 = .pointer (some ⟨wr.heap.size, 1, none⟩) := d20
              replace d17 : f 17 = .bool false := d17
              subst hP
              generalize f 20 = x20 at *
              subst d20
              clear e20
              generalize f 17 = x17 at *
              subst d17
              clear e17
              go_simp
              exact hK _ _ (by first | rfl | (show Value.bool _ = _; simp; try omega)) rfl
            refine ⟨?_, ?_⟩
            · intro done f W hP hdn hd K hK
              have d19 := (hd.1 rfl).2
              have e19 : done 19 = true := (hd.1 rfl).1
              have d21 := (hd.2.1 rfl).2
              have e21 : done 21 = true := (hd.2.1 rfl).1
              have d17 := (hd.2.2.1 rfl).2
              have e17 : done 17 = true := (hd.2.2.1 rfl).1
              clear hd
              replace d19 : f 19 = .int .u64 (m.j : Nat) := d19
              replace d21 : f 21 = .int .u64 (m.j : Nat) := d21
              replace d17 : f 17 = .bool false := d17
              subst hP
              generalize f 19 = x19 at *
              subst d19
              clear e19
              generalize f 21 = x21 at *
              subst d21
              clear e21
              generalize f 17 = x17 at *
              subst d17
              clear e17
              go_simp
              exact hK _ _ (by first | rfl | (show Value.bool _ = _; simp; try omega)) rfl
            refine ⟨?_, ?_⟩
            · intro done f W hP hdn hd K hK
              have d17 := (hd.1 rfl).2
              have e17 : done 17 = true := (hd.1 rfl).1
              have d22 := (hd.2.1 rfl).2
              have e22 : done 22 = true := (hd.2.1 rfl).1
              clear hd
              replace d17 : f 17 = .bool false := d17
              replace d22 : f 22 = .bool false := d22
              subst hP
              generalize f 17 = x17 at *
              subst d17
              clear e17
              generalize f 22 = x22 at *
              subst d22
              clear e22
              go_simp
              exact hK _ _ (by first | rfl | (show Value.bool _ = _; simp; try omega)) rfl
            trivial
        · have HLN : Hid ((acs (r.ms.take (k + 1))).length = (acs (r.ms.take k)).length) := by rw [HNX.out, List.length_append]; show _ = _; simp [acs, ht]
          have HT : Hid _ := ht
          clear ht
          go_wp2
          refine O.wp_region_ph (fun f => ⟨#[.agg #[.int .u64 (r.c : Int), .int .u64 (r.e : Int), .int .u64 (r.l : Int), .int .u64 (r.j : Int), .slice ao n cp], .agg #[.int .u64 (r.c : Int), .int .u64 (r.e : Int), .int .u64 (r.l : Int), .int .u64 (r.j : Int), .slice (some ⟨g2, 0, none⟩) n cp2], .pointer (some ⟨w.heap.size, 0, none⟩), .pointer (some ⟨w.heap.size + 1, 0, none⟩), u4, .slice (some ⟨ga, 0, none⟩) n p1, .slice a3 na p3, .int .i64 ↑(acs (List.take k r.ms)).length, .int .i64 (k : Int), .pointer (some ⟨wr.heap.size, 0, none⟩), .pointer (some ⟨w3.heap.size, 0, none⟩), .bool true, undef, undef, .agg #[.int .u64 (r.c : Int), .int .u64 (r.e : Int), .int .u64 (r.l : Int), .int .u64 (r.j : Int), .slice ao n cp], .slice (some ⟨ga, 0, none⟩) n p1, .agg #[.int .u64 (r.c : Int), .int .u64 (r.e : Int), .int .u64 (r.l : Int), .int .u64 (r.j : Int), .slice ao n cp], .slice a3 na p3, .pointer (some ⟨w.heap.size + 1, 4, none⟩), .slice (some ⟨g2, 0, none⟩) n cp2, .int .i64 (n : Int), .int .i64 (k : Int), .bool true, .int .i64 (k : Int), .pointer (some ⟨g2, k * 3, none⟩), .agg #[.int .i64 m.s, .int .u64 (m.j : Int), .int .i64 m.t], .tuple #[.agg #[.int .i64 m.s, .int .u64 (m.j : Int), .int .i64 m.t], .bool true], .agg #[.int .u64 (r.c : Int), .int .u64 (r.e : Int), .int .u64 (r.l : Int), .int .u64 (r.j : Int), .slice ao n cp], .pointer (some ⟨wr.heap.size, 0, none⟩), .int .i64 m.s, .tuple #[.agg #[.int .i64 m.s, .int .u64 (m.j : Int), .int .i64 m.t], .bool true], .agg #[.int .i64 m.s, .int .u64 (m.j : Int), .int .i64 m.t], .bool true, f 0, f 1, f 2, f 3, f 4, f 5, f 6, f 7, f 8, f 9, f 10, f 11, f 12, f 13, f 14, f 15, f 16, f 17, f 18, f 19, f 20, f 21, f 22, f 23, u57, u58, u59, u60, u61, u62, u63, u64, u65, u66, u67, u68, u69, u70, u71, u72, u73, u74, u75, undef, undef, undef, undef, undef, undef, undef, undef, undef, undef, undef, undef, undef, undef, undef, undef, undef, undef, undef, undef, undef], []⟩) (LkV7 wr w3 m k n ga p1) (fun _ _ W => W = (w3.alloc (.cells #[.int .i64 m.s, .int .u64 (m.j : Nat), .int .i64 m.t] 85)).drew) (fun i => [u33, u34, u35, u36, u37, u38, u39, u40, u41, u42, u43, u44, u45, u46, u47, u48, u49, u50, u51, u52, u53, u54, u55, u56].getD i undef) (by kernel_rfl) rfl rfl ?hI7b ?hput7b ?step7b ?fin7b
          case hI7b => rfl
          case fin7b =>
            intro f W hP hV
            have v0 : f 0 = .int .i64 (k : Nat) := hV 0 (by decide)
            have v1 : f 1 = .slice (some ⟨ga, 0, none⟩) n p1 := hV 1 (by decide)
            have v2 : f 2 = .int .i64 (n : Nat) := hV 2 (by decide)
            have v3 : f 3 = .bool false := hV 3 (by decide)
            have v4 : f 4 = .bool false := hV 4 (by decide)
            have v5 : f 5 = .slice (some ⟨ga, 0, none⟩) n p1 := hV 5 (by decide)
            have v6 : f 6 = .int .i64 (k : Nat) := hV 6 (by decide)
            have v7 : f 7 = .pointer (some ⟨ga, k, none⟩) := hV 7 (by decide)
            have v8 : f 8 = .int .i64 m.s := hV 8 (by decide)
            have v9 : f 9 = .pointer (some ⟨wr.heap.size, 0, none⟩) := hV 9 (by decide)
            have v10 : f 10 = .int .i64 m.s := hV 10 (by decide)
            have v11 : f 11 = .bool false := hV 11 (by decide)
            have v12 : f 12 = .bool false := hV 12 (by decide)
            have v13 : f 13 = .bool false := hV 13 (by decide)
            have v14 : f 14 = .bool true := hV 14 (by decide)
            have v15 : f 15 = .bool false := hV 15 (by decide)
            have v16 : f 16 = .bool false := hV 16 (by decide)
            have v17 : f 17 = .bool false := hV 17 (by decide)
            have v18 : f 18 = .pointer (some ⟨w3.heap.size, 1, none⟩) := hV 18 (by decide)
            have v19 : f 19 = .int .u64 (m.j : Nat) := hV 19 (by decide)
            have v20 : f 20 = .pointer (some ⟨wr.heap.size, 1, none⟩) := hV 20 (by decide)
            have v21 : f 21 = .int .u64 (m.j : Nat) := hV 21 (by decide)
            have v22 : f 22 = .bool false := hV 22 (by decide)
            have v23 : f 23 = .bool false := hV 23 (by decide)
            clear hV
            generalize f 0 = x0 at *
            subst v0
            generalize f 1 = x1 at *
            subst v1
            generalize f 2 = x2 at *
            subst v2
            generalize f 3 = x3 at *
            subst v3
            generalize f 4 = x4 at *
            subst v4
            generalize f 5 = x5 at *
            subst v5
            generalize f 6 = x6 at *
            subst v6
            generalize f 7 = x7 at *
            subst v7
            generalize f 8 = x8 at *
            subst v8
            generalize f 9 = x9 at *
            subst v9
            generalize f 10 = x10 at *
            subst v10
            generalize f 11 = x11 at *
            subst v11
            generalize f 12 = x12 at *
            subst v12
            generalize f 13 = x13 at *
            subst v13
            generalize f 14 = x14 at *
            subst v14
            generalize f 15 = x15 at *
            subst v15
            generalize f 16 = x16 at *
            subst v16
            generalize f 17 = x17 at *
            subst v17
            generalize f 18 = x18 at *
            subst v18
            generalize f 19 = x19 at *
            subst v19
            generalize f 20 = x20 at *
            subst v20
            generalize f 21 = x21 at *
            subst v21
            generalize f 22 = x22 at *
            subst v22
            generalize f 23 = x23 at *
            subst v23
            subst hP
            have ht : ¬ m.t = 1 := HT.out
            go_wp2
            go_roundw
            case rel => exact ⟨k + 1, by omega, by rw [HLN.out], rfl, (HBW.out _).drew⟩
            case measure => simp only [intOf]; omega
          case hput7b =>
            repeat (refine ⟨fun f v => rfl, ?_⟩)
            trivial
          case step7b =>
            refine ⟨?_, ?_⟩
            · intro done f W hP hdn hd K hK
              clear hd
              subst hP
              go_simp
              exact hK _ _ (by first | rfl | (show Value.bool _ = _; simp; try omega)) rfl
            refine ⟨?_, ?_⟩
            · intro done f W hP hdn hd K hK
              clear hd
              subst hP
              go_simp
              exact hK _ _ (by first | rfl | (show Value.bool _ = _; simp; try omega)) rfl
            refine ⟨?_, ?_⟩
            · intro done f W hP hdn hd K hK
              have d1 := (hd.1 rfl).2
              have e1 : done 1 = true := (hd.1 rfl).1
              clear hd
              replace d1 : f 1 = .slice (some ⟨ga, 0, none⟩) n p1 := d1
              subst hP
              generalize f 1 = x1 at *
              subst d1
              clear e1
              go_simp
              exact hK _ _ (by first | rfl | (show Value.bool _ = _; simp; try omega)) rfl
            refine ⟨?_, ?_⟩
            · intro done f W hP hdn hd K hK
              have d0 := (hd.1 rfl).2
              have e0 : done 0 = true := (hd.1 rfl).1
              have d2 := (hd.2.1 rfl).2
              have e2 : done 2 = true := (hd.2.1 rfl).1
              clear hd
              replace d0 : f 0 = .int .i64 (k : Nat) := d0
              replace d2 : f 2 = .int .i64 (n : Nat) := d2
              subst hP
              generalize f 0 = x0 at *
              subst d0
              clear e0
              generalize f 2 = x2 at *
              subst d2
              clear e2
              go_simp
              exact hK _ _ (by first | rfl | (show Value.bool _ = _; simp; try omega)) rfl
            refine ⟨?_, ?_⟩
            · intro done f W hP hdn hd K hK
              have d3 := (hd.1 rfl).2
              have e3 : done 3 = true := (hd.1 rfl).1
              clear hd
              replace d3 : f 3 = .bool false := d3
              subst hP
              generalize f 3 = x3 at *
              subst d3
              clear e3
              go_simp
              exact hK _ _ (by first | rfl | (show Value.bool _ = _; simp; try omega)) rfl
            refine ⟨?_, ?_⟩
            · intro done f W hP hdn hd K hK
              have d4 := (hd.1 rfl).2
              have e4 : done 4 = true := (hd.1 rfl).1
              clear hd
              replace d4 : f 4 = .bool false := d4
              subst hP
              generalize f 4 = x4 at *
              subst d4
              clear e4
              go_simp
              exact hK _ _ (by first | rfl | (show Value.bool _ = _; simp; try omega)) rfl
            refine ⟨?_, ?_⟩
            · intro done f W hP hdn hd K hK
              have d4 := (hd.1 rfl).2
              have e4 : done 4 = true := (hd.1 rfl).1
              clear hd
              replace d4 : f 4 = .bool false := d4
              subst hP
              generalize f 4 = x4 at *
              subst d4
              clear e4
              go_simp
              exact hK _ _ (by first | rfl | (show Value.bool _ = _; simp; try omega)) rfl
            refine ⟨?_, ?_⟩
            · intro done f W hP hdn hd K hK
              have d5 := (hd.1 rfl).2
              have e5 : done 5 = true := (hd.1 rfl).1
              have d6 := (hd.2.1 rfl).2
              have e6 : done 6 = true := (hd.2.1 rfl).1
              have d4 := (hd.2.2.1 rfl).2
              have e4 : done 4 = true := (hd.2.2.1 rfl).1
              clear hd
              replace d5 : f 5 = .slice (some ⟨ga, 0, none⟩) n p1 := d5
              replace d6 : f 6 = .int .i64 (k : Nat) := d6
              replace d4 : f 4 = .bool false := d4
              subst hP
              generalize f 5 = x5 at *
              subst d5
              clear e5
              generalize f 6 = x6 at *
              subst d6
              clear e6
              generalize f 4 = x4 at *
              subst d4
              clear e4
              go_simp
              exact hK _ _ (by first | rfl | (show Value.bool _ = _; simp; try omega)) rfl
            refine ⟨?_, ?_⟩
            · intro done f W hP hdn hd K hK
              have d7 := (hd.1 rfl).2
              have e7 : done 7 = true := (hd.1 rfl).1
              have d4 := (hd.2.1 rfl).2
              have e4 : done 4 = true := (hd.2.1 rfl).1
              clear hd
              replace d7 : f 7 = .pointer (some ⟨ga, k, none⟩) := d7
              replace d4 : f 4 = .bool false := d4
              subst hP
              generalize f 7 = x7 at *
              subst d7
              clear e7
              generalize f 4 = x4 at *
              subst d4
              clear e4
              go_simp
              exact hK _ _ (by first | rfl | (show Value.bool _ = _; simp; try omega)) rfl
            refine ⟨?_, ?_⟩
            · intro done f W hP hdn hd K hK
              have d4 := (hd.1 rfl).2
              have e4 : done 4 = true := (hd.1 rfl).1
              clear hd
              replace d4 : f 4 = .bool false := d4
              subst hP
              generalize f 4 = x4 at *
              subst d4
              clear e4
              go_simp
              exact hK _ _ (by first | rfl | (show Value.bool _ = _; simp; try omega)) rfl
            refine ⟨?_, ?_⟩
            · intro done f W hP hdn hd K hK
              have d9 := (hd.1 rfl).2
              have e9 : done 9 = true := (hd.1 rfl).1
              have d4 := (hd.2.1 rfl).2
              have e4 : done 4 = true := (hd.2.1 rfl).1
              clear hd
              replace d9 : f 9 = .pointer (some ⟨wr.heap.size, 0, none⟩) := d9
              replace d4 : f 4 = .bool false := d4
              subst hP
              generalize f 9 = x9 at *
              subst d9
              clear e9
              generalize f 4 = x4 at *
              subst d4
              clear e4
              go_simp
              exact hK _ _ (by first | rfl | (show Value.bool _ = _; simp; try omega)) rfl
            refine ⟨?_, ?_⟩
            · intro done f W hP hdn hd K hK
              have d8 := (hd.1 rfl).2
              have e8 : done 8 = true := (hd.1 rfl).1
              have d10 := (hd.2.1 rfl).2
              have e10 : done 10 = true := (hd.2.1 rfl).1
              have d4 := (hd.2.2.1 rfl).2
              have e4 : done 4 = true := (hd.2.2.1 rfl).1
              clear hd
              replace d8 : f 8 = .int .i64 m.s := d8
              replace d10 : f 10 = .int .i64 m.s := d10
              replace d4 : f 4 = .bool false := d4
              subst hP
              generalize f 8 = x8 at *
              subst d8
              clear e8
              generalize f 10 = x10 at *
              subst d10
              clear e10
              generalize f 4 = x4 at *
              subst d4
              clear e4
              go_simp
              exact hK _ _ (by first | rfl | (show Value.bool _ = _; simp; try omega)) rfl
            refine ⟨?_, ?_⟩
            · intro done f W hP hdn hd K hK
              have d4 := (hd.1 rfl).2
              have e4 : done 4 = true := (hd.1 rfl).1
              have d11 := (hd.2.1 rfl).2
              have e11 : done 11 = true := (hd.2.1 rfl).1
              clear hd
              replace d4 : f 4 = .bool false := d4
              replace d11 : f 11 = .bool false := d11
              subst hP
              generalize f 4 = x4 at *
              subst d4
              clear e4
              generalize f 11 = x11 at *
              subst d11
              clear e11
              go_simp
              exact hK _ _ (by first | rfl | (show Value.bool _ = _; simp; try omega)) rfl
            refine ⟨?_, ?_⟩
            · intro done f W hP hdn hd K hK
              have d12 := (hd.1 rfl).2
              have e12 : done 12 = true := (hd.1 rfl).1
              clear hd
              replace d12 : f 12 = .bool false := d12
              subst hP
              generalize f 12 = x12 at *
              subst d12
              clear e12
              go_simp
              exact hK _ _ (by first | rfl | (show Value.bool _ = _; simp; try omega)) rfl
            refine ⟨?_, ?_⟩
            · intro done f W hP hdn hd K hK
              have d13 := (hd.1 rfl).2
              have e13 : done 13 = true := (hd.1 rfl).1
              clear hd
              replace d13 : f 13 = .bool false := d13
              subst hP
              generalize f 13 = x13 at *
              subst d13
              clear e13
              go_simp
              exact hK _ _ (by first | rfl | (show Value.bool _ = _; simp; try omega)) rfl
            refine ⟨?_, ?_⟩
            · intro done f W hP hdn hd K hK
              have d14 := (hd.1 rfl).2
              have e14 : done 14 = true := (hd.1 rfl).1
              have d13 := (hd.2.1 rfl).2
              have e13 : done 13 = true := (hd.2.1 rfl).1
              clear hd
              replace d14 : f 14 = .bool true := d14
              replace d13 : f 13 = .bool false := d13
              subst hP
              generalize f 14 = x14 at *
              subst d14
              clear e14
              generalize f 13 = x13 at *
              subst d13
              clear e13
              go_simp
              exact hK _ _ (by first | rfl | (show Value.bool _ = _; simp; try omega)) rfl
            refine ⟨?_, ?_⟩
            · intro done f W hP hdn hd K hK
              have d13 := (hd.1 rfl).2
              have e13 : done 13 = true := (hd.1 rfl).1
              have d15 := (hd.2.1 rfl).2
              have e15 : done 15 = true := (hd.2.1 rfl).1
              clear hd
              replace d13 : f 13 = .bool false := d13
              replace d15 : f 15 = .bool false := d15
              subst hP
              generalize f 13 = x13 at *
              subst d13
              clear e13
              generalize f 15 = x15 at *
              subst d15
              clear e15
              go_simp
              exact hK _ _ (by first | rfl | (show Value.bool _ = _; simp; try omega)) rfl
            refine ⟨?_, ?_⟩
            · intro done f W hP hdn hd K hK
              have d16 := (hd.1 rfl).2
              have e16 : done 16 = true := (hd.1 rfl).1
              clear hd
              replace d16 : f 16 = .bool false := d16
              subst hP
              generalize f 16 = x16 at *
              subst d16
              clear e16
              go_simp
              exact hK _ _ (by first | rfl | (show Value.bool _ = _; simp; try omega)) rfl
            refine ⟨?_, ?_⟩
            · intro done f W hP hdn hd K hK
              have d17 := (hd.1 rfl).2
              have e17 : done 17 = true := (hd.1 rfl).1
              clear hd
              replace d17 : f 17 = .bool false := d17
              subst hP
              generalize f 17 = x17 at *
              subst d17
              clear e17
              go_simp
              exact hK _ _ (by first | rfl | (show Value.bool _ = _; simp; try omega)) rfl
            refine ⟨?_, ?_⟩
            · intro done f W hP hdn hd K hK
              have d18 := (hd.1 rfl).2
              have e18 : done 18 = true := (hd.1 rfl).1
              have d17 := (hd.2.1 rfl).2
              have e17 : done 17 = true := (hd.2.1 rfl).1
              clear hd
              replace d18 : f 18 = .pointer (some ⟨w3.heap.size, 1, none⟩) := d18
              replace d17 : f 17 = .bool false := d17
              subst hP
              generalize f 18 = x18 at *
              subst d18
              clear e18
              generalize f 17 = x17 at *
              subst d17
              clear e17
              go_simp
              exact hK _ _ (by first | rfl | (show Value.bool _ = _; simp; try omega)) rfl
            refine ⟨?_, ?_⟩
            · intro done f W hP hdn hd K hK
              have d17 := (hd.1 rfl).2
              have e17 : done 17 = true := (hd.1 rfl).1
              clear hd
              replace d17 : f 17 = .bool false := d17
              subst hP
              generalize f 17 = x17 at *
              subst d17
              clear e17
              go_simp
              exact hK _ _ (by first | rfl | (show Value.bool _ = _; simp; try omega)) rfl
            refine ⟨?_, ?_⟩
            · intro done f W hP hdn hd K hK
              have d20 := (hd.1 rfl).2
              have e20 : done 20 = true := (hd.1 rfl).1
              have d17 := (hd.2.1 rfl).2
              have e17 : done 17 = true := (hd.2.1 rfl).1
              clear hd
              replace d20 : f 20 = .pointer (some ⟨wr.heap.size, 1, none⟩) := d20
              replace d17 : f 17 = .bool false := d17
              subst hP
              generalize f 20 = x20 at *
              subst d20
              clear e20
              generalize f 17 = x17 at *
              subst d17
              clear e17
              go_simp
              exact hK _ _ (by first | rfl | (show Value.bool _ = _; simp; try omega)) rfl
            refine ⟨?_, ?_⟩
            · intro done f W hP hdn hd K hK
              have d19 := (hd.1 rfl).2
              have e19 : done 19 = true := (hd.1 rfl).1
              have d21 := (hd.2.1 rfl).2
              have e21 : done 21 = true := (hd.2.1 rfl).1
              have d17 := (hd.2.2.1 rfl).2
              have e17 : done 17 = true := (hd.2.2.1 rfl).1
              clear hd
              replace d19 : f 19 = .int .u64 (m.j : Nat) := d19
              replace d21 : f 21 = .int .u64 (m.j : Nat) := d21
              replace d17 : f 17 = .bool false := d17
              subst hP
              generalize f 19 = x19 at *
              subst d19
              clear e19
              generalize f 21 = x21 at *
              subst d21
              clear e21
              generalize f 17 = x17 at *
              subst d17
              clear e17
              go_simp
              exact hK _ _ (by first | rfl | (show Value.bool _ = _; simp; try omega)) rfl
            refine ⟨?_, ?_⟩
            · intro done f W hP hdn hd K hK
              have d17 := (hd.1 rfl).2
              have e17 : done 17 = true := (hd.1 rfl).1
              have d22 := (hd.2.1 rfl).2
              have e22 : done 22 = true := (hd.2.1 rfl).1
              clear hd
              replace d17 : f 17 = .bool false := d17
              replace d22 : f 22 = .bool false := d22
              subst hP
              generalize f 17 = x17 at *
              subst d17
              clear e17
              generalize f 22 = x22 at *
              subst d22
              clear e22
              go_simp
              exact hK _ _ (by first | rfl | (show Value.bool _ = _; simp; try omega)) rfl
            trivial
      · obtain rfl : k = n := by omega
        have HB : Hid (Below w.heap.size w wr) := hbw
        have hlst : acs (r.ms.take k) = acs r.ms := by rw [HN.out, List.take_length]
        have kx : wr.heap[w.heap.size + 1]? = _ := (hbU.block (w.heap.size + 1) (by omega)).trans H0.out.2.2.1
        have q0 := cell_of kb 0
        have q1 := cell_of kb 1
        have q2 := cell_of kb 2
        have q3 := cell_of kb 3
        have q4 := cell_of kb 4
        simp at q0 q1 q2 q3 q4
        have KX : Hid _ := kx
        rw [hlst, HNA.out]
        clear HF HAT HI hbU hbw hlst kb kx KB
        go_wp2_with fail
        go_call (HF0.out _ HB.out) as e w3 ⟨rfl, hb3⟩
        have kx3 := (hb3.block _ (by have := HSZ.out; omega)).trans KX.out
        have z4 : ∀ o, (w3.alloc o).cell? ⟨w.heap.size + 1, 4, none⟩ = some (.slice ao2 k cp2) := fun o => (World.cell?_alloc_past _ _ _ (by show _ < _; have := getElem?_lt kx3; omega)).trans (cell_of kx3 4)
        have HBE : Hid (∀ o, Below w.heap.size w (w3.alloc o)) := fun o => (HB.out.trans (hb3.mono (by have := HSZ.out; omega))).alloc (by have := hb3.size; have := HSZ.out; omega) o
        clear hb3 kx3 q0 q1 q2 q3 q4 HF0
        unfold Mb.val
        go_wp2
        go_returns
        exact ⟨rfl, HBE.out _⟩
  case hput1 =>
    repeat (refine ⟨fun f v => rfl, ?_⟩)
    trivial
  case step1 =>
    refine ⟨?_, ?_⟩
    · intro done f W hP hdn hd K hK
      clear hd
      have kb := (hP.bl.block w.heap.size (by have := H0.out.2.2.2; omega)).trans H0.out.2.1
      have q0 := cell_of kb 0
      have q1 := cell_of kb 1
      have q2 := cell_of kb 2
      have q3 := cell_of kb 3
      have q4 := cell_of kb 4
      simp at q0 q1 q2 q3 q4
      go_simp
      exact hK _ _ rfl (hP.pure _ (by decide) _)
    refine ⟨?_, ?_⟩
    · intro done f W hP hdn hd K hK
      have d0 := (hd.1 rfl).2
      have e0 : done 0 = true := (hd.1 rfl).1
      clear hd
      replace d0 : f 0 = .agg #[.int .u64 (r.c : Nat), .int .u64 (r.e : Nat), .int .u64 (r.l : Nat), .int .u64 (r.j : Nat), .slice ao n cp] := d0
      generalize f 0 = x0 at *
      subst d0
      clear e0
      have hdn1 : done 1 = false := hdn
      have hW : Below w.heap.size w W := H0.out.1.trans (hP.bl.mono (by have := H0.out.2.2.2; omega))
      go_simp
      refine (HC1.out W hW).mono ?_
      rintro e W' ⟨v', rfl, ho, hb⟩
      exact hK _ _ trivial (hP.c1 hdn1 ho hb)
    refine ⟨?_, ?_⟩
    · intro done f W hP hdn hd K hK
      clear hd
      have kb := (hP.bl.block w.heap.size (by have := H0.out.2.2.2; omega)).trans H0.out.2.1
      have q0 := cell_of kb 0
      have q1 := cell_of kb 1
      have q2 := cell_of kb 2
      have q3 := cell_of kb 3
      have q4 := cell_of kb 4
      simp at q0 q1 q2 q3 q4
      go_simp
      exact hK _ _ rfl (hP.pure _ (by decide) _)
    refine ⟨?_, ?_⟩
    · intro done f W hP hdn hd K hK
      have d2 := (hd.1 rfl).2
      have e2 : done 2 = true := (hd.1 rfl).1
      clear hd
      replace d2 : f 2 = .agg #[.int .u64 (r.c : Nat), .int .u64 (r.e : Nat), .int .u64 (r.l : Nat), .int .u64 (r.j : Nat), .slice ao n cp] := d2
      generalize f 2 = x2 at *
      subst d2
      clear e2
      have hdn3 : done 3 = false := hdn
      have hW : Below w.heap.size w W := H0.out.1.trans (hP.bl.mono (by have := H0.out.2.2.2; omega))
      go_simp
      refine (HC3.out W hW).mono ?_
      rintro e W' ⟨v', rfl, ho, hb⟩
      exact hK _ _ trivial (hP.c3 hdn3 ho hb)
    refine ⟨?_, ?_⟩
    · intro done f W hP hdn hd K hK
      have d1 := (hd.1 rfl).2
      have e1 : done 1 = true := (hd.1 rfl).1
      clear hd
      go_simp
      exact hK _ _ trivial (hP.s4 e1 rfl)
    refine ⟨?_, ?_⟩
    · intro done f W hP hdn hd K hK
      have d3 := (hd.1 rfl).2
      have e3 : done 3 = true := (hd.1 rfl).1
      clear hd
      go_simp
      exact hK _ _ trivial (hP.s5 e3 rfl)
    trivial
end Go.Proofs.Ytknmipbjkkeebaa
