/- The fixed fact of the statements on groups, as a call. -/
import Derived.Test.YtncfbocbigdhiaaGreatJE
namespace Go.Proofs.YtncfbocbigdhiaaGreat
open Go.RowKit
/-- Two changes, one behind the other, whatever else is done. -/
structure Ph3 (i1 i2 : Nat) (A B C : World → Prop) (done : Nat → Bool) (f : Nat → Value) (W : World) : Prop where
  a : done i1 = false → A W
  b : done i1 = true → done i2 = false → B W
  c : done i1 = true → done i2 = true → C W
  e : done i2 = true → done i1 = true
theorem Ph3.start {i1 i2 : Nat} {A B C : World → Prop} {f : Nat → Value} {W : World} (h : A W) : Ph3 i1 i2 A B C (fun _ => false) f W := ⟨fun _ => h, (fun e => by cases e), (fun e => by cases e), (fun e => by cases e)⟩
theorem Ph3.step {i1 i2 j : Nat} {A B C : World → Prop} {done : Nat → Bool} {f g : Nat → Value} {W W' : World} (h : Ph3 i1 i2 A B C done f W) (h1 : i1 ≠ j) (h2 : i2 ≠ j) (hA : A W → A W') (hB : B W → B W') (hC : C W → C W') : Ph3 i1 i2 A B C (F.updB done j) g W' := by
  have e1 : F.updB done j i1 = done i1 := if_neg h1
  have e2 : F.updB done j i2 = done i2 := if_neg h2
  exact ⟨fun q => hA (h.a (by rw [← e1]; exact q)), fun q r => hB (h.b (by rw [← e1]; exact q) (by rw [← e2]; exact r)), fun q r => hC (h.c (by rw [← e1]; exact q) (by rw [← e2]; exact r)), fun q => by rw [e1]; exact h.e (by rw [← e2]; exact q)⟩
theorem Ph3.pure {i1 i2 j : Nat} {A B C : World → Prop} {done : Nat → Bool} {f g : Nat → Value} {W : World} (h : Ph3 i1 i2 A B C done f W) (h1 : i1 ≠ j) (h2 : i2 ≠ j) : Ph3 i1 i2 A B C (F.updB done j) g W := h.step h1 h2 id id id
theorem Ph3.one {i1 i2 : Nat} {A B C : World → Prop} {done : Nat → Bool} {f g : Nat → Value} {W W' : World} (h : Ph3 i1 i2 A B C done f W) (hne : i2 ≠ i1) (hd : done i1 = false) (hB : B W') : Ph3 i1 i2 A B C (F.updB done i1) g W' := by
  have e1 : F.updB done i1 i1 = true := if_pos rfl
  have e2 : F.updB done i1 i2 = done i2 := if_neg hne
  have h2 : done i2 = false := by
    cases q : done i2 with
    | false => rfl
    | true => rw [h.e q] at hd; cases hd
  exact ⟨(fun q => by rw [e1] at q; cases q), fun _ _ => hB, (fun _ r => by rw [e2, h2] at r; cases r), fun _ => e1⟩
theorem Ph3.two {i1 i2 : Nat} {A B C : World → Prop} {done : Nat → Bool} {f g : Nat → Value} {W W' : World} (_ : Ph3 i1 i2 A B C done f W) (hne : i1 ≠ i2) (hd : done i1 = true) (hC : C W') : Ph3 i1 i2 A B C (F.updB done i2) g W' := by
  have e1 : F.updB done i2 i1 = true := by show (if _ then _ else _) = _; rw [if_neg hne]; exact hd
  have e2 : F.updB done i2 i2 = true := if_pos rfl
  exact ⟨(fun q => by rw [e1] at q; cases q), (fun _ q => by rw [e2] at q; cases q), fun _ _ => hC, fun _ => e1⟩
theorem Ph3.any {i1 i2 : Nat} {A B C D : World → Prop} {done : Nat → Bool} {f : Nat → Value} {W : World} (h : Ph3 i1 i2 A B C done f W) (h1 : A W → D W) (h2 : B W → D W) (h3 : C W → D W) : D W := by
  cases e : done i1 with
  | false => exact h1 (h.a e)
  | true =>
    cases e2 : done i2 with
    | false => exact h2 (h.b e e2)
    | true => exact h3 (h.c e e2)
theorem ent49 (args : Array Value) (W : World) : (callFunc 49 args).run Tryz.prog W = .ok (.enter 49 args) W := O.enter_of Tryz.func49 (by kernel_rfl) (by kernel_rfl) args W
def V49 (Sb : Nat) : Nat → Value → Prop
  | 0, v => v = .pointer (some ⟨Sb, 0, none⟩)
  | 1, v => v = .string (payN ⟨#[120]⟩ 2)
  | 2, v => v = .int .i64 1
  | _, _ => True
set_option maxHeartbeats 1000000 in
set_option maxRecDepth 100000 in
theorem op49 {T : Nat} {w : World} {L : F.Loc} {rest : List (Nat × Obj)} {now : Nat → ByteArray} {c : Int} {W0 : World} {Pb Ab Sb M : Nat} (h : Dev T w L 70 ((Sb, .cells (sg0 M 8).cs 44) :: (Ab, .cells #[.int .i64 0] 3) :: rest) now c W0)
    (pbm : (Pb, .cells #[.pointer (some ⟨Sb, 0, none⟩)] 28) ∈ rest) (hM : (M, F.med L.P 1 1) ∈ rest) (h12 : Ab ≠ Sb) (hne : ∀ p ∈ rest, p.1 ≠ Sb) (hna : ∀ p ∈ rest, p.1 ≠ Ab) (hc : c ≤ 600000) :
    Calls Tryz.prog 49 #[.pointer (some ⟨Pb, 0, none⟩), .pointer (some ⟨Ab, 0, none⟩)] W0 fun e w' => e = .returned (.tuple #[]) ∧ Dev T w L 70 ((Ab, .cells #[.int .i64 1] 3) :: (Sb, .cells (Sg.cs { sg0 M 8 with a := 4 }) 44) :: rest) (layC now (sg0 M 8) (payN ⟨#[120]⟩ 2) 2) (c + 100) w' := by
  go_enter Tryz.func49, Tryz.ntmps49
  refine F.wp_region_pb (fun f => ⟨#[.pointer (some ⟨Pb, 0, none⟩), .pointer (some ⟨Ab, 0, none⟩), f 0, f 1, f 2], []⟩) (V49 Sb) (Ph3 2 3 (fun W => Dev T w L 70 ((Sb, .cells (sg0 M 8).cs 44) :: (Ab, .cells #[.int .i64 0] 3) :: rest) now c W) (fun W => Dev T w L 70 ((Sb, .cells (Sg.cs { sg0 M 8 with a := (sg0 M 8).a + 1 + 2 }) 44) :: (Ab, .cells #[.int .i64 0] 3) :: rest) (layC now (sg0 M 8) (payN ⟨#[120]⟩ 2) 2) (c + 100) W) (fun W => Dev T w L 70 ((Ab, .cells #[.int .i64 1] 3) :: (Sb, .cells (Sg.cs { sg0 M 8 with a := 4 }) 44) :: rest) (layC now (sg0 M 8) (payN ⟨#[120]⟩ 2) 2) (c + 100) W)) (fun i => [undef, undef, undef, undef].getD i undef) (by kernel_rfl) rfl rfl ?hIq ?hputq ?stepq ?finq
  case hIq => exact Ph3.start (h.below (Below.refl _ _).drew)
  case finq =>
    intro f W hP hV
    have v0 : f 0 = .pointer (some ⟨Sb, 0, none⟩) := hV 0 (by decide)
    have v1 : f 1 = .string (payN ⟨#[120]⟩ 2) := hV 1 (by decide)
    have v2 : f 2 = .int .i64 1 := hV 2 (by decide)
    clear hV
    have HC : Hid _ := hP.c rfl rfl
    clear hP
    generalize f 0 = z0 at *
    subst v0
    generalize f 1 = z1 at *
    subst v1
    generalize f 2 = z2 at *
    subst v2
    go_wp2
    go_returns
    exact ⟨rfl, HC.out⟩
  case hputq =>
    repeat (refine ⟨fun f v => rfl, ?_⟩)
    trivial
  case stepq =>
    refine ⟨?_, ?_⟩
    · intro done f W hP hdn hd K hK
      clear hd
      have q := F.cell_of (hP.any (D := fun W => W.heap[Pb]? = some (.cells #[.pointer (some ⟨Sb, 0, none⟩)] 28)) (fun h => h.at' (p := (Pb, _)) (by simp [pbm])) (fun h => h.at' (p := (Pb, _)) (by simp [pbm])) (fun h => h.at' (p := (Pb, _)) (by simp [pbm]))) 0
      simp at q
      go_simp
      exact hK _ _ rfl (hP.pure (by decide) (by decide))
    refine ⟨?_, ?_⟩
    · intro done f W hP hdn hd K hK
      clear hd
      go_simp
      refine Calls.mono (pay_any ⟨#[120]⟩ 2 (by decide) (by decide) W) ?_
      rintro e W' ⟨rfl, hb⟩
      exact hK _ _ rfl (hP.step (by decide) (by decide) (fun h => h.below hb) (fun h => h.below hb) (fun h => h.below hb))
    refine ⟨?_, ?_⟩
    · intro done f W hP hdn hd K hK
      have d0 := (hd.1 rfl).2
      have e0 : done 0 = true := (hd.1 rfl).1
      have d1 := (hd.2.1 rfl).2
      have e1 : done 1 = true := (hd.2.1 rfl).1
      clear hd
      replace d0 : f 0 = .pointer (some ⟨Sb, 0, none⟩) := d0
      replace d1 : f 1 = .string (payN ⟨#[120]⟩ 2) := d1
      generalize f 0 = x0 at *
      subst d0
      clear e0
      generalize f 1 = x1 at *
      subst d1
      clear e1
      have hA := hP.a hdn
      have hap := dev_append (sg0 M 8) hA (List.mem_cons_of_mem _ hM) (by
        intro p hp
        rcases List.mem_cons.1 hp with rfl | hp
        · exact h12
        · exact hne p hp) (sg0_ok M 8 (by decide) (by decide)) (payN ⟨#[120]⟩ 2) 2 (by decide) (by show 1 + 2 < 8; decide) (payN_size _ _) (by show 4 + 8 ≤ 70; decide) (by decide) hc
      go_simp
      refine Calls.mono hap ?_
      rintro e W' ⟨rfl, hB⟩
      exact hK _ _ rfl (hP.one (by decide) hdn hB)
    refine ⟨?_, ?_⟩
    · intro done f W hP hdn hd K hK
      have d2 := (hd.1 rfl).2
      have e2 : done 2 = true := (hd.1 rfl).1
      clear hd
      replace d2 : f 2 = .int .i64 1 := d2
      generalize f 2 = x2 at *
      subst d2
      have hB := hP.b e2 hdn
      have q := F.cell_of (hB.at' (p := (Ab, .cells #[.int .i64 0] 3)) (by simp)) 0
      have z := F.frz_of (hB.at' (p := (Ab, .cells #[.int .i64 0] 3)) (by simp)) 0
      simp at q
      have hC := ((hB.forget (oth' := (Ab, .cells #[.int .i64 0] 3) :: (Sb, .cells (Sg.cs { sg0 M 8 with a := 4 }) 44) :: rest) (by intro p hp; simp only [List.mem_cons] at hp ⊢; rcases hp with rfl | rfl | hp <;> simp [*, sg0])).setOther (v := .int .i64 1) (by
        intro p hp
        rcases List.mem_cons.1 hp with rfl | hp
        · exact Ne.symm h12
        · exact hna p hp) (by decide))
      have HC : Hid _ := hC
      clear hC
      go_simp
      exact hK (.bool false) _ trivial (hP.two (by decide) e2 HC.out)
    trivial
end Go.Proofs.YtncfbocbigdhiaaGreat
