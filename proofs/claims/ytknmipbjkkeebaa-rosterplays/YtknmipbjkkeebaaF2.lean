/- RosterPlays: of any calls, a roster is what the document says behind each of them, no two joinings have the same number, and what it was made of is as it was; no condition. -/
import Derived.Test.YtknmipbjkkeebaaRows
import Derived.Test.YtknmipbjkkeebaaSM
import Derived.WalkKit
import Derived.ProofKit
import Derived.OpenShut
import Derived.Carry
import Derived.ChangeSame
import Derived.Deep.Slices
import Derived.Lib.SmallJoins
namespace Go.Proofs.Ytknmipbjkkeebaa.RosterPlaysP
open Go Go.ChangeShapes Go.WideShapes Go.ChangeAt Go.WideMaps Go.WideElems Go.RowKit
theorem own : ownKnob Try.prog.godebug = none := by kernel_rfl
theorem addr_none {w : World} {a : Addr} {v : Value} (h : w.cell? a = some v) : a.spot = none := by
  unfold World.cell? at h
  split at h
  · split at h
    · cases h
    · rename_i hs
      simpa using hs
  · cases h
theorem list2 {α : Type} {l : List α} (h : l.length = 2) : ∃ a b, l = [a, b] := by
  match l, h with
  | [a, b], _ => exact ⟨a, b, rfl⟩
theorem open_act {H : Type} {enc : TypeId × Value → H} {w : World} {fuel : Nat} {a : Addr} {cs : List Value} {x : DataW H × List MemPlace} (hc : w.cells? 0 a 2 = some cs)
    (h : DataW.trod enc Try.prog w 0 (fun _ => true) true fuel 75 cs = some x) :
    ∃ p : Int × Int, ∀ k v, ([.int .i64 p.1, .int .i64 p.2] : List Value)[k]? = some v → w.cell? (a.add k) = some v := by
  obtain ⟨_, hl, hcell⟩ := World.cells?_some hc
  obtain ⟨c0, c1, rfl⟩ := list2 hl
  obtain ⟨xs, n, _, _, _, hlen, hf⟩ := DataW.trod_struct Try.underlying75 h
  have hxs : xs.length = 2 := by simpa using hlen
  obtain ⟨y0, y1, rfl⟩ := list2 hxs
  have i0 : Try.prog.cellsOf 3 = 1 := by kernel_rfl
  have h0 := hf 0 _ rfl
  have h1 := hf 1 _ rfl
  simp [i0] at h0 h1
  obtain ⟨a0, e0, -, w0⟩ := DataW.trod_int Try.underlying3 h0
  obtain ⟨a1, e1, -, w1⟩ := DataW.trod_int Try.underlying3 h1
  simp at e0 e1
  subst e0 e1
  refine ⟨(a0, a1), fun k v hk => ?_⟩
  have hk2 : k < 2 := (List.getElem?_eq_some_iff.1 hk).1
  rw [hcell k (by omega)]
  exact hk
set_option maxRecDepth 100000 in
theorem lifted (os : Os) (started : os.Started) (H : Type) (enc : TypeId × Value → H) :
    ReturnsInHanded {} Try.checked os 6 .any (Rows.rosterPlaysSpec.pre6 enc Try.prog Try.f6 Rows.rosterPlaysRow.domain false) (Rows.rosterPlaysSpec.post enc Try.prog Try.f6 false true false false) := by
  refine returnsInHanded_of_change (C := Try.checked) own started (by kernel_rfl) Try.func6
    (ChangeSpec.witness6 (enc := enc) (C := Try.checked) false ⟨#[], #[.slice none 0 0], []⟩ 12 (by kernel_rfl) (by kernel_rfl) (by kernel_rfl) (by kernel_rfl)) ?_
  intro W base args ds gs before hval0 hW hcnd _
  have hval : ∀ (j : Nat) t v, Try.f6.params[j]? = some t → args[j]? = some v → Value.okWide Try.prog W .any base t v := hval0
  have hW' := hW
  have hlt := hW.lt
  obtain ⟨p, q, hA0, hV, rfl, hfz, hnd⟩ := hW
  have hA : DataW.TrodAll enc Try.prog W 0 (fun _ => true) true Try.f6.params.toList args.toList ds p := hA0
  rw [Try.params6] at hA hval
  obtain ⟨v0, d0, rfl, rfl, h0⟩ := trodAll_one hA
  obtain ⟨rfl, rfl⟩ := trodVars_none hV
  obtain ⟨ao, n, cap, rfl⟩ := okWide_slice Try.underlying65 (hval 0 65 v0 rfl rfl)
  simp only [List.append_nil] at hW' hlt
  have key : ∃ (b o : Nat) (act : Nat → Int × Int), (0 < n → ao = some ⟨b, o, none⟩) ∧ (∀ j, j < n → W.rangeAt b (o + j * 2) [.int .i64 (act j).1, .int .i64 (act j).2]) := by
    obtain ⟨fuel, hf⟩ := h0
    rcases Deep.open_slice Try.underlying65 (by simpa [Value.cells] using hf) with ⟨hcs, -⟩ | ⟨a, len, cap', m, n', D, Pl, hcs, -, hl, hm, hmm, hx, hel⟩
    · simp at hcs
      obtain ⟨rfl, rfl, rfl⟩ := hcs
      exact ⟨0, 0, fun _ => default, fun h => absurd h (Nat.lt_irrefl _), fun j hj => absurd hj (Nat.not_lt_zero _)⟩
    · simp at hcs
      obtain ⟨rfl, rfl, rfl⟩ := hcs
      have hc7 : Try.prog.cellsOf 75 = 2 := by kernel_rfl
      rw [hc7] at hel
      have hnm : n ≤ m := by rw [hmm]; simp [hl]
      obtain ⟨F, hF⟩ := Deep.choose_lt (α := Int × Int) (n := n) (p := fun i p => ∀ k v, ([.int .i64 p.1, .int .i64 p.2] : List Value)[k]? = some v → W.cell? ((a.add (i * 2)).add k) = some v) (fun i hi => by
        obtain ⟨cs', e1, e2⟩ := hel i (by omega)
        exact open_act e1 e2)
      rcases Nat.eq_zero_or_pos n with rfl | hpos
      · exact ⟨0, 0, fun _ => default, fun h => absurd h (Nat.lt_irrefl _), fun j hj => absurd hj (Nat.not_lt_zero _)⟩
      · have hsp := addr_none (hF 0 hpos 0 _ rfl)
        obtain ⟨ab, aoff, asp⟩ := a
        obtain rfl : asp = none := hsp
        refine ⟨ab, aoff, fun j => F j, fun _ => rfl, fun j hj k v hk => ?_⟩
        have := hF j hj k v hk
        rw [Addr.add_lit, Addr.add_lit] at this
        exact this
  obtain ⟨b, o, act, g1, g2⟩ := key
  refine (plays_walk ao n cap b o (fun j => (act j).1) (fun j => (act j).2) W g1 g2).mono fun e W' ⟨he, hg⟩ => ?_
  subst he
  exact ⟨_, rfl, _, _, _, [], _, [], hW', trodAll_mk1 (shut_bool Try.underlying4 _), trodAll_mk1 (hg.trod (by kernel_rfl) (by kernel_rfl) (of_decide_eq_true (by kernel_rfl)) h0 hlt), rfl, hg.frame _, fun h => by cases h⟩

theorem proved : Rows.RosterPlaysSaid :=
  OpenClaim.holds_of_wide 6 Try.f6 rfl rfl rfl rfl rfl rfl rfl ⟨rfl, rfl, rfl, rfl, rfl⟩ rfl rfl rfl rfl rfl (by kernel_rfl) Try.func6 (by kernel_rfl)
    (of_decide_eq_true (by kernel_rfl)) (by unfold Func.isWrapper; first | (rw [if_pos (by decide +kernel)]; kernel_rfl) | (rw [if_neg (by decide +kernel)]; exact ⟨rfl, rfl⟩))
    (fun os started H enc _ => lifted os started H enc)
#print axioms proved
end Go.Proofs.Ytknmipbjkkeebaa.RosterPlaysP
namespace Go.Proofs.Ytknmipbjkkeebaa
theorem rosterPlays_holds : Rows.RosterPlaysSaid := RosterPlaysP.proved
end Go.Proofs.Ytknmipbjkkeebaa
