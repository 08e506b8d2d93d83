/- Count; a text that is too long, refused; within Guard; as calls. -/
import Derived.Test.YtknmipbjkkeebaaGreatIW
namespace Go.Proofs.YtknmipbjkkeebaaGreat
open Go.RowKit
set_option maxRecDepth 100000 in
theorem count_one {b0 : Nat} {w0 : World} {L : F.Loc} {st : F.St} {lv : Value} {oth : List (Nat × Obj)} {w : World} (h : F.One b0 w0 L st lv oth w) : Calls Tryz.prog 16 #[.pointer (some ⟨L.P, 0, none⟩)] w fun e w' => e = .returned (.int .i64 st.count) ∧ w' = w := by
  have c4 : w.cell? ⟨L.P, 4, none⟩ = some (.int .i64 st.count) := F.cell_of h.pool 4
  clear h
  go_enter Tryz.func16, Tryz.ntmps16
  go_wp2
  go_returns
  exact ⟨rfl, rfl⟩
set_option maxRecDepth 100000 in
theorem swrite_big (S : Nat) (x : ByteArray) (hx : 640 < x.size) (w : World) : Calls Tryz.prog 14 #[.pointer (some ⟨S, 0, none⟩), .string x] w fun e w' => e = .returned (.int .i64 2) ∧ w' = w := by
  have hx' : (640 : Int) < (x.size : Nat) := by omega
  go_enter Tryz.func14, Tryz.ntmps14
  go_wp2
  go_returns
  exact ⟨rfl, rfl⟩
theorem ent17 (args : Array Value) (W : World) : (callFunc 17 args).run Tryz.prog W = .ok (.enter 17 args) W := O.enter_of Tryz.func17 (by kernel_rfl) (by kernel_rfl) args W
def BgV (S : Nat) : Nat → Value → Prop
  | 0, v => v = .pointer (some ⟨S, 0, none⟩)
  | 1, v => ∃ x : ByteArray, v = .string x ∧ x.size = 640
  | 2, v => ∃ x : ByteArray, v = .string x ∧ 640 < x.size
  | 3, v => v = .int .i64 2
  | _, _ => True
set_option maxHeartbeats 1000000 in
set_option maxRecDepth 100000 in
theorem op17 {b0 : Nat} {w0 : World} {L : F.Loc} {st : F.St} {lv : Value} {rest : List (Nat × Obj)} {w : World} {Sb Eb S : Nat} (v0 : Int) (h : F.One b0 w0 L st lv ((Eb, .cells #[.int .i64 v0] 33) :: rest) w)
    (hSb : (Sb, .cells #[.pointer (some ⟨S, 0, none⟩)] 29) ∈ rest) (hr : ∀ p ∈ rest, p.1 ≠ Eb) :
    Calls Tryz.prog 17 #[.pointer (some ⟨Sb, 0, none⟩), .pointer (some ⟨Eb, 0, none⟩)] w fun e w' => e = .returned (.tuple #[]) ∧ F.One b0 w0 L st lv ((Eb, .cells #[.int .i64 2] 33) :: rest) w' := by
  have HO : Hid _ := h
  have HSB : Hid _ := hSb
  have HR : Hid _ := hr
  clear h hSb hr
  go_enter Tryz.func17, Tryz.ntmps17
  go_wp2
  refine O.wp_region_ph (fun f => ⟨#[.pointer (some ⟨Sb, 0, none⟩), .pointer (some ⟨Eb, 0, none⟩), f 0, f 1, f 2, f 3], []⟩) (BgV S) (fun done _ W => ((done 4 = false → F.One b0 w0 L st lv ((Eb, .cells #[.int .i64 v0] 33) :: rest) W) ∧ (done 4 = true → F.One b0 w0 L st lv ((Eb, .cells #[.int .i64 2] 33) :: rest) W))) (fun i => [undef, undef, undef, undef, undef].getD i undef) (by kernel_rfl) rfl rfl ?hI0 ?hput0 ?step0 ?fin0
  case hI0 => exact ⟨fun _ => HO.out.ofBelow (Below.refl _ _).drew, (fun e => by cases e)⟩
  case fin0 =>
    intro f w2 hP hV
    have u0 : f 0 = .pointer (some ⟨S, 0, none⟩) := hV 0 (by decide)
    have u3 : f 3 = .int .i64 2 := hV 3 (by decide)
    clear hV
    generalize f 0 = x0 at *
    subst u0
    generalize f 3 = x3 at *
    subst u3
    generalize f 1 = x1
    generalize f 2 = x2
    have E : Hid _ := hP.2 rfl
    clear hP
    go_wp2
    go_returns
    exact ⟨rfl, E.out⟩
  case hput0 =>
    repeat (refine ⟨fun f v => rfl, ?_⟩)
    trivial
  case step0 =>
    refine ⟨?_, ?_⟩
    · intro done f W hP hdn hd K hK
      clear hd
      replace hP : ((done 4 = false → F.One b0 w0 L st lv ((Eb, .cells #[.int .i64 v0] 33) :: rest) W) ∧ (done 4 = true → F.One b0 w0 L st lv ((Eb, .cells #[.int .i64 2] 33) :: rest) W)) := hP
      have c : W.cell? ⟨Sb, 0, none⟩ = some (.pointer (some ⟨S, 0, none⟩)) := by
        cases hd4 : done 4 with
        | false => exact F.cell_of ((hP.1 hd4).oth (Sb, .cells #[.pointer (some ⟨S, 0, none⟩)] 29) (by simp [HSB.out])).1 0
        | true => exact F.cell_of ((hP.2 hd4).oth (Sb, .cells #[.pointer (some ⟨S, 0, none⟩)] 29) (by simp [HSB.out])).1 0
      go_simp
      exact hK _ _ rfl ⟨hP.1, hP.2⟩
    refine ⟨?_, ?_⟩
    · intro done f W hP hdn hd K hK
      clear hd
      replace hP : ((done 4 = false → F.One b0 w0 L st lv ((Eb, .cells #[.int .i64 v0] 33) :: rest) W) ∧ (done 4 = true → F.One b0 w0 L st lv ((Eb, .cells #[.int .i64 2] 33) :: rest) W)) := hP
      go_simp
      refine (long_any ⟨#[120]⟩ (by decide) 640 W).mono ?_
      rintro e W' ⟨x, hx, rfl, rfl⟩
      exact hK _ _ ⟨x, rfl, by have : max (0 : Int) (min 640 640) = 640 := by decide
                               omega⟩ ⟨hP.1, hP.2⟩
    refine ⟨?_, ?_⟩
    · intro done f W hP hdn hd K hK
      have d1 := (hd.1 rfl).2
      have e1 : done 1 = true := (hd.1 rfl).1
      clear hd
      replace hP : ((done 4 = false → F.One b0 w0 L st lv ((Eb, .cells #[.int .i64 v0] 33) :: rest) W) ∧ (done 4 = true → F.One b0 w0 L st lv ((Eb, .cells #[.int .i64 2] 33) :: rest) W)) := hP
      obtain ⟨x, d1x, hx⟩ := d1
      generalize f 1 = x1 at *
      subst d1x
      have hsz : (x ++ ⟨#[121]⟩).size = x.size + 1 := by rw [ByteArray.size_append]; rfl
      go_simp
      exact hK _ _ ⟨x ++ ⟨#[121]⟩, rfl, by omega⟩ ⟨hP.1, hP.2⟩
    refine ⟨?_, ?_⟩
    · intro done f W hP hdn hd K hK
      have d0 := (hd.1 rfl).2
      have e0 : done 0 = true := (hd.1 rfl).1
      have d2 := (hd.2.1 rfl).2
      have e2 : done 2 = true := (hd.2.1 rfl).1
      clear hd
      replace d0 : f 0 = .pointer (some ⟨S, 0, none⟩) := d0
      replace hP : ((done 4 = false → F.One b0 w0 L st lv ((Eb, .cells #[.int .i64 v0] 33) :: rest) W) ∧ (done 4 = true → F.One b0 w0 L st lv ((Eb, .cells #[.int .i64 2] 33) :: rest) W)) := hP
      obtain ⟨x, d2x, hx⟩ := d2
      generalize f 0 = x0 at *
      subst d0
      generalize f 2 = x2 at *
      subst d2x
      go_simp
      refine (swrite_big S x hx W).mono ?_
      rintro e W' ⟨rfl, rfl⟩
      exact hK _ _ rfl ⟨hP.1, hP.2⟩
    refine ⟨?_, ?_⟩
    · intro done f W hP hdn hd K hK
      have d3 := (hd.1 rfl).2
      have e3 : done 3 = true := (hd.1 rfl).1
      clear hd
      replace d3 : f 3 = .int .i64 2 := d3
      replace hP : ((done 4 = false → F.One b0 w0 L st lv ((Eb, .cells #[.int .i64 v0] 33) :: rest) W) ∧ (done 4 = true → F.One b0 w0 L st lv ((Eb, .cells #[.int .i64 2] 33) :: rest) W)) := hP
      generalize f 3 = x3 at *
      subst d3
      clear e3
      have hdn4 : done 4 = false := hdn
      have ho := hP.1 hdn4
      have c := F.cell_of (ho.oth (Eb, .cells #[.int .i64 v0] 33) (by simp)).1 0
      have cf := F.frz_of (ho.oth (Eb, .cells #[.int .i64 v0] 33) (by simp)).1 0
      have hs := ho.setOther (v := .int .i64 2) HR.out (by decide)
      simp at c
      go_simp
      exact hK undef _ trivial ⟨(fun e => by cases e), fun _ => hs⟩
    trivial
end Go.Proofs.YtknmipbjkkeebaaGreat
