/- SlotsBack: of any texts and sizes, each text is found as it was written last, and one that is too long is told, and nothing is done; no condition. -/
import Derived.Test.YtknmipbjkkeebaaGreatRows
import Derived.Test.YtknmipbjkkeebaaGreatIY
import Derived.WalkKit
import Derived.ProofKit
import Derived.OpenShut
import Derived.Carry
import Derived.ChangeSame
import Derived.Deep.Slices
import Derived.Lib.SmallJoins
namespace Go.Proofs.YtknmipbjkkeebaaGreat.SlotsBackP
open Go.ChangeMaps (open_string shut_string)
open Go Go.ChangeShapes Go.WideShapes Go.ChangeAt Go.WideMaps Go.WideElems Go.RowKit
theorem own : ownKnob Tryz.prog.godebug = none := by kernel_rfl
theorem addr_none {w : World} {a : Addr} {v : Value} (h : w.cell? a = some v) : a.spot = none := by
  unfold World.cell? at h
  split at h
  · split at h
    · cases h
    · rename_i hs
      simpa using hs
  · cases h
/-- A choice opened. -/
theorem open_one {H : Type} {enc : TypeId × Value → H} {w : World} {fuel : Nat} {a : Addr} {cs : List Value} {x : DataW H × List MemPlace} (hc : w.cells? 0 a 1 = some cs)
    (h : DataW.trod enc Tryz.prog w 0 (fun _ => true) true fuel 3 cs = some x) : ∃ p : Int, w.cell? (a.add 0) = some (.int .i64 p) := by
  obtain ⟨_, hl, hcell⟩ := World.cells?_some hc
  obtain ⟨a0, e0, -, w0⟩ := DataW.trod_int Tryz.underlying3 h
  subst e0
  exact ⟨a0, by rw [hcell 0 (by omega)]; rfl⟩
/-- A text opened. -/
theorem open_str {H : Type} {enc : TypeId × Value → H} {w : World} {fuel : Nat} {a : Addr} {cs : List Value} {x : DataW H × List MemPlace} (hc : w.cells? 0 a 1 = some cs)
    (h : DataW.trod enc Tryz.prog w 0 (fun _ => true) true fuel 9 cs = some x) : ∃ p : ByteArray, w.cell? (a.add 0) = some (.string p) := by
  obtain ⟨_, hl, hcell⟩ := World.cells?_some hc
  obtain ⟨a0, e0, -⟩ := DataW.trod_string Tryz.underlying9 h
  subst e0
  exact ⟨a0, by rw [hcell 0 (by omega)]; rfl⟩
theorem key_s {H : Type} {enc : TypeId × Value → H} {W : World} {ao : Option Addr} {n cap : Nat} {x : DataW H × List MemPlace} (h2 : ∃ fuel, DataW.trod enc Tryz.prog W 0 (fun _ => true) true fuel 22 (Value.slice ao n cap).cells.toList = some x) :
    ∃ (b o : Nat) (k0 : Nat → ByteArray), (0 < n → ao = some ⟨b, o, none⟩) ∧ n ≤ cap ∧ cap ≤ 9223372036854775807 ∧ (∀ j, j < n → W.cell? ⟨b, o + j, none⟩ = some (.string (k0 j))) := by
  obtain ⟨fuel, hf⟩ := h2
  rcases Deep.open_slice Tryz.underlying22 (by simpa [Value.cells] using hf) with ⟨hcs, -⟩ | ⟨a, len, cap', m, n', D, Pl, hcs, -, hl, hm, hmm, hx, hel⟩
  · simp at hcs
    obtain ⟨rfl, rfl, rfl⟩ := hcs
    exact ⟨0, 0, fun _ => ⟨#[]⟩, fun h => absurd h (Nat.lt_irrefl _), Nat.le_refl _, by decide, fun j hj => absurd hj (Nat.not_lt_zero _)⟩
  · simp at hcs
    obtain ⟨rfl, rfl, rfl⟩ := hcs
    have hc2 : Tryz.prog.cellsOf 9 = 1 := by kernel_rfl
    rw [hc2] at hel
    have hnm : n ≤ m := by rw [hmm]; simp [hl]
    have hcm : cap ≤ 9223372036854775807 := hm
    obtain ⟨F, hF⟩ := Deep.choose_lt (α := ByteArray) (n := n) (p := fun i p => W.cell? ((a.add (i * 1)).add 0) = some (.string p)) (fun i hi => by
      obtain ⟨cs', e1, e2⟩ := hel i (by omega)
      exact open_str e1 e2)
    rcases Nat.eq_zero_or_pos n with rfl | hpos
    · exact ⟨0, 0, fun _ => ⟨#[]⟩, fun h => absurd h (Nat.lt_irrefl _), hl, hcm, fun j hj => absurd hj (Nat.not_lt_zero _)⟩
    · have hsp := addr_none (hF 0 hpos)
      obtain ⟨ab, aoff, asp⟩ := a
      obtain rfl : asp = none := hsp
      refine ⟨ab, aoff, fun j => F j, fun _ => rfl, hl, hcm, fun j hj => ?_⟩
      have := hF j hj
      simpa [Addr.add_lit] using this
theorem key_i {H : Type} {enc : TypeId × Value → H} {W : World} {ao : Option Addr} {n cap : Nat} {x : DataW H × List MemPlace} (h2 : ∃ fuel, DataW.trod enc Tryz.prog W 0 (fun _ => true) true fuel 23 (Value.slice ao n cap).cells.toList = some x) :
    ∃ (b o : Nat) (k0 : Nat → Int), (0 < n → ao = some ⟨b, o, none⟩) ∧ n ≤ cap ∧ cap ≤ 9223372036854775807 ∧ (∀ j, j < n → W.cell? ⟨b, o + j, none⟩ = some (.int .i64 (k0 j))) := by
  obtain ⟨fuel, hf⟩ := h2
  rcases Deep.open_slice Tryz.underlying23 (by simpa [Value.cells] using hf) with ⟨hcs, -⟩ | ⟨a, len, cap', m, n', D, Pl, hcs, -, hl, hm, hmm, hx, hel⟩
  · simp at hcs
    obtain ⟨rfl, rfl, rfl⟩ := hcs
    exact ⟨0, 0, fun _ => 0, fun h => absurd h (Nat.lt_irrefl _), Nat.le_refl _, by decide, fun j hj => absurd hj (Nat.not_lt_zero _)⟩
  · simp at hcs
    obtain ⟨rfl, rfl, rfl⟩ := hcs
    have hc2 : Tryz.prog.cellsOf 3 = 1 := by kernel_rfl
    rw [hc2] at hel
    have hnm : n ≤ m := by rw [hmm]; simp [hl]
    have hcm : cap ≤ 9223372036854775807 := hm
    obtain ⟨F, hF⟩ := Deep.choose_lt (α := Int) (n := n) (p := fun i p => W.cell? ((a.add (i * 1)).add 0) = some (.int .i64 p)) (fun i hi => by
      obtain ⟨cs', e1, e2⟩ := hel i (by omega)
      exact open_one e1 e2)
    rcases Nat.eq_zero_or_pos n with rfl | hpos
    · exact ⟨0, 0, fun _ => 0, fun h => absurd h (Nat.lt_irrefl _), hl, hcm, fun j hj => absurd hj (Nat.not_lt_zero _)⟩
    · have hsp := addr_none (hF 0 hpos)
      obtain ⟨ab, aoff, asp⟩ := a
      obtain rfl : asp = none := hsp
      refine ⟨ab, aoff, fun j => F j, fun _ => rfl, hl, hcm, fun j hj => ?_⟩
      have := hF j hj
      simpa [Addr.add_lit] using this
set_option maxRecDepth 100000 in
theorem lifted (os : Os) (started : os.Started) (H : Type) (enc : TypeId × Value → H) :
    ReturnsInHanded {} Tryz.checked os 3 .any (Rows.slotsBackSpec.pre6 enc Tryz.prog Tryz.f3 Rows.slotsBackRow.domain false) (Rows.slotsBackSpec.post enc Tryz.prog Tryz.f3 false true false false) := by
  refine returnsInHanded_of_change (C := Tryz.checked) own started (by kernel_rfl) Tryz.func3
    (ChangeSpec.witness6 (enc := enc) (C := Tryz.checked) false ⟨#[], #[.slice none 0 0, .slice none 0 0], []⟩ 12 (by kernel_rfl) (by kernel_rfl) (by kernel_rfl) (by kernel_rfl)) ?_
  intro W base args ds gs before hval0 hW hcnd _
  have hval : ∀ (j : Nat) t v, Tryz.f3.params[j]? = some t → args[j]? = some v → Value.okWide Tryz.prog W .any base t v := hval0
  have hW' := hW
  have hlt := hW.lt
  obtain ⟨p, q, hA0, hV, rfl, hfz, hnd⟩ := hW
  have hA : DataW.TrodAll enc Tryz.prog W 0 (fun _ => true) true Tryz.f3.params.toList args.toList ds p := hA0
  rw [Tryz.params3] at hA hval
  obtain ⟨v1, v2, d1, d2, p1, p2, rfl, rfl, rfl, h1, h2⟩ := trodAll_two hA
  obtain ⟨rfl, rfl⟩ := trodVars_none hV
  obtain ⟨ta, tn, tcap, rfl⟩ := okWide_slice Tryz.underlying22 (hval 0 22 v1 rfl rfl)
  obtain ⟨ca, cn, ccap, rfl⟩ := okWide_slice Tryz.underlying23 (hval 1 23 v2 rfl rfl)
  simp only [List.append_nil] at hW' hlt
  obtain ⟨b1, o1, k1, hal1, hlc1, hcm1, hrow1⟩ := key_s h1
  obtain ⟨b2, o2, k2, hal2, hlc2, hcm2, hrow2⟩ := key_i h2
  refine (back_walk ta tn tcap b1 o1 k1 ca cn ccap b2 o2 k2 W hal1 hrow1 hal2 hrow2).mono fun e W' ⟨he, hg⟩ => ?_
  subst he
  exact ⟨_, rfl, _, _, _, [], _, [], hW', trodAll_mk1 (shut_bool Tryz.underlying4 _), trodAll_mk2 (hg.trod (by kernel_rfl) (by kernel_rfl) (of_decide_eq_true (by kernel_rfl)) h1 (fun x hx => hlt x (by simp [hx]))) (hg.trod (by kernel_rfl) (by kernel_rfl) (of_decide_eq_true (by kernel_rfl)) h2 (fun x hx => hlt x (by simp [hx]))), rfl, hg.frame _, fun h => by cases h⟩

theorem proved : Rows.SlotsBackSaid :=
  OpenClaim.holds_of_wide 3 Tryz.f3 rfl rfl rfl rfl rfl rfl rfl ⟨rfl, rfl, rfl, rfl, rfl⟩ rfl rfl rfl rfl rfl (by kernel_rfl) Tryz.func3 (by kernel_rfl)
    (of_decide_eq_true (by kernel_rfl)) (by unfold Func.isWrapper; first | (rw [if_pos (by decide +kernel)]; kernel_rfl) | (rw [if_neg (by decide +kernel)]; exact ⟨rfl, rfl⟩))
    (fun os started H enc _ => lifted os started H enc)
#print axioms proved
end Go.Proofs.YtknmipbjkkeebaaGreat.SlotsBackP
namespace Go.Proofs.YtknmipbjkkeebaaGreat
theorem slotsBack_holds : Rows.SlotsBackSaid := SlotsBackP.proved
end Go.Proofs.YtknmipbjkkeebaaGreat
