/- OctetTakes: of any bytes, and any parts, what is taken, what is left and the error are the document's; no condition. -/
import Derived.Test.YthojbccoejdmeaaRows
import Derived.Test.YthojbccoejdmeaaA8
import Derived.WalkKit
import Derived.ProofKit
import Derived.OpenShut
import Derived.Carry
import Derived.ChangeSame
import Derived.Deep.Slices
import Derived.Lib.SmallJoins
namespace Go.Proofs.Ythojbccoejdmeaa.OctetTakesP
open Go.ChangeMaps (open_string shut_string)
open Go Go.ChangeShapes Go.WideShapes Go.ChangeAt Go.WideMaps Go.WideElems Go.RowKit
theorem own : ownKnob Try.prog.godebug = none := by kernel_rfl
theorem addr_none {w : World} {a : Addr} {v : Value} (h : w.cell? a = some v) : a.spot = none := by
  unfold World.cell? at h
  split at h
  · split at h
    · cases h
    · rename_i hs
      simpa using hs
  · cases h
/-- A part opened. -/
theorem open_part {H : Type} {enc : TypeId × Value → H} {w : World} {fuel : Nat} {a : Addr} {cs : List Value} {x : DataW H × List MemPlace} (hc : w.cells? 0 a 2 = some cs)
    (h : DataW.trod enc Try.prog w 0 (fun _ => true) true fuel 26 cs = some x) :
    ∃ p : Int × Int, w.cell? (a.add 0) = some (.int .i64 p.1) ∧ w.cell? (a.add 1) = some (.int .i64 p.2) := by
  obtain ⟨_, hl, hcell⟩ := World.cells?_some hc
  obtain ⟨c0, c1, rfl⟩ : ∃ c0 c1, cs = [c0, c1] := by
    match cs, hl with
    | [c0, c1], _ => exact ⟨c0, c1, rfl⟩
  obtain ⟨y0, y1, n, -, -, h0, h1⟩ := trod_struct2 Try.underlying26 h
  have i0 : Try.prog.cellsOf 3 = 1 := by kernel_rfl
  simp only [i0] at h0 h1
  obtain ⟨a0, e0, -, w0⟩ := DataW.trod_int Try.underlying3 h0
  obtain ⟨a1, e1, -, w1⟩ := DataW.trod_int Try.underlying3 h1
  simp at e0 e1
  subst e0 e1
  exact ⟨(a0, a1), by rw [hcell 0 (by omega)]; rfl, by rw [hcell 1 (by omega)]; rfl⟩
set_option maxRecDepth 100000 in
theorem lifted (os : Os) (started : os.Started) (H : Type) (enc : TypeId × Value → H) :
    ReturnsInHanded {} Try.checked os 3 .any (Rows.octetTakesSpec.pre6 enc Try.prog Try.f3 Rows.octetTakesRow.domain false) (Rows.octetTakesSpec.post enc Try.prog Try.f3 false true false false) := by
  refine returnsInHanded_of_change (C := Try.checked) own started (by kernel_rfl) Try.func3
    (ChangeSpec.witness6 (enc := enc) (C := Try.checked) false ⟨#[], #[.string ByteArray.empty, .slice none 0 0], []⟩ 8 (by kernel_rfl) (by kernel_rfl) (by kernel_rfl) (by kernel_rfl)) ?_
  intro W base args ds gs before hval0 hW hcnd _
  have hval : ∀ (j : Nat) t v, Try.f3.params[j]? = some t → args[j]? = some v → Value.okWide Try.prog W .any base t v := hval0
  have hW' := hW
  have hlt := hW.lt
  obtain ⟨p, q, hA0, hV, rfl, hfz, hnd⟩ := hW
  have hA : DataW.TrodAll enc Try.prog W 0 (fun _ => true) true Try.f3.params.toList args.toList ds p := hA0
  rw [Try.params3] at hA hval
  obtain ⟨v0, v1, d0, d1, p0, p1, rfl, rfl, rfl, h0, h1⟩ := trodAll_two hA
  obtain ⟨rfl, rfl⟩ := trodVars_none hV
  obtain ⟨a0, rfl, rfl, rfl, w0⟩ := open_string Try.underlying9 (hval 0 9 v0 rfl rfl) h0
  obtain ⟨ao, n, cap, rfl⟩ := okWide_slice Try.underlying22 (hval 1 22 v1 rfl rfl)
  simp only [List.append_nil, List.nil_append] at hW' hlt
  have key : ∃ (b o : Nat) (k0 nn : Nat → Int), (0 < n → ao = some ⟨b, o, none⟩) ∧ n ≤ cap ∧ cap ≤ 9223372036854775807 ∧ (∀ w', Below W.heap.size W w' → ∀ j, j < n → w'.cell? ⟨b, o + j * 2, none⟩ = some (.int .i64 (k0 j)) ∧ w'.cell? ⟨b, o + j * 2 + 1, none⟩ = some (.int .i64 (nn j))) ∧ (0 < n → b < W.heap.size) := by
    obtain ⟨fuel, hf⟩ := h1
    rcases Deep.open_slice Try.underlying22 (by simpa [Value.cells] using hf) with ⟨hcs, -⟩ | ⟨a, len, cap', m, n', D, Pl, hcs, -, hl, hm, hmm, hx, hel⟩
    · simp at hcs
      obtain ⟨rfl, rfl, rfl⟩ := hcs
      exact ⟨0, 0, fun _ => 0, fun _ => 0, fun h => absurd h (Nat.lt_irrefl _), Nat.le_refl _, by decide, fun w' _ j hj => absurd hj (Nat.not_lt_zero _), fun h => absurd h (Nat.lt_irrefl _)⟩
    · simp at hcs
      obtain ⟨rfl, rfl, rfl⟩ := hcs
      have hc2 : Try.prog.cellsOf 26 = 2 := by kernel_rfl
      rw [hc2] at hel
      have hnm : n ≤ m := by rw [hmm]; simp [hl]
      have hcm : cap ≤ 9223372036854775807 := hm
      obtain ⟨F, hF⟩ := Deep.choose_lt (α := Int × Int) (n := n) (p := fun i p => W.cell? ((a.add (i * 2)).add 0) = some (.int .i64 p.1) ∧ W.cell? ((a.add (i * 2)).add 1) = some (.int .i64 p.2)) (fun i hi => by
        obtain ⟨cs', e1, e2⟩ := hel i (by omega)
        exact open_part e1 e2)
      rcases Nat.eq_zero_or_pos n with rfl | hpos
      · exact ⟨0, 0, fun _ => 0, fun _ => 0, fun h => absurd h (Nat.lt_irrefl _), hl, hcm, fun w' _ j hj => absurd hj (Nat.not_lt_zero _), fun h => absurd h (Nat.lt_irrefl _)⟩
      · have hsp := addr_none (hF 0 hpos).1
        obtain ⟨ab, aoff, asp⟩ := a
        obtain rfl : asp = none := hsp
        have hlt2 : ab < W.heap.size := World.block_lt_of_cell? W _ (hF 0 hpos).1
        refine ⟨ab, aoff, fun j => (F j).1, fun j => (F j).2, fun _ => rfl, hl, hcm, fun w' hb j hj => ?_, fun _ => hlt2⟩
        rw [hb.cell (by exact hlt2), hb.cell (by exact hlt2)]
        have := hF j hj
        simpa [Addr.add_lit] using this
  obtain ⟨b, o, k0, nn, hal, hlc, hcm, hrow, hb⟩ := key
  refine (takes_walk a0 ao n cap b o k0 nn W hal hlc hcm hrow hb).mono fun e W' ⟨he, hg⟩ => ?_
  subst he
  exact ⟨_, rfl, _, _, _, [], _, [], hW', trodAll_mk1 (shut_bool Try.underlying4 _), trodAll_mk2 (shut_string Try.underlying9 w0) (hg.trod (by kernel_rfl) (by kernel_rfl) (of_decide_eq_true (by kernel_rfl)) h1 hlt), rfl, hg.frame _, fun h => by cases h⟩

theorem proved : Rows.OctetTakesSaid :=
  OpenClaim.holds_of_wide 3 Try.f3 rfl rfl rfl rfl rfl rfl rfl ⟨rfl, rfl, rfl, rfl, rfl⟩ rfl rfl rfl rfl rfl (by kernel_rfl) Try.func3 (by kernel_rfl)
    (of_decide_eq_true (by kernel_rfl)) (by unfold Func.isWrapper; first | (rw [if_pos (by decide +kernel)]; kernel_rfl) | (rw [if_neg (by decide +kernel)]; exact ⟨rfl, rfl⟩))
    (fun os started H enc _ => lifted os started H enc)
#print axioms proved
end Go.Proofs.Ythojbccoejdmeaa.OctetTakesP
namespace Go.Proofs.Ythojbccoejdmeaa
theorem octetTakes_holds : Rows.OctetTakesSaid := OctetTakesP.proved
end Go.Proofs.Ythojbccoejdmeaa
