/- RankMoves: for every key, any serials, every serial and every number, where one device comes, a key moves to it alone, at most from one other one, and where it goes, only what it had moves (the statement itself cuts the key at 24 bytes, takes at most sixteen serials, which it brings among 1 to 1000, and at most six copies); the condition is that the table of rounds reads as the text of the program lays it (tied). -/
import Derived.Test.YtbbapaphfijpcaaDoorLD
import Derived.Test.YtbbapaphfijpcaaDoorM
import Derived.Test.YtbbapaphfijpcaaDoorCards
import Derived.Test.YtbbapaphfijpcaaDoorTie
import Derived.SevenTiedAt
import Derived.Carry
import Derived.ChangeSame
import Derived.Lib.SmallJoins
namespace Go.Proofs.YtbbapaphfijpcaaDoor.RankMovesP
open Go.ChangeMaps (open_string shut_string)
open Go Go.ChangeShapes Go.WideShapes Go.ChangeAt Go.WideMaps Go.WideElems Go.RowKit
set_option maxRecDepth 100000 in
theorem lifted (os : Os) (started : os.Started) (H : Type) (enc : TypeId × Value → H) :
    ReturnsInHanded {} Tryd.checked os 4 .any (fun w args => (Rows.rankMovesSpec.pre enc Tryd.prog Tryd.f4 [] false w args ∧ laidMetH Tryd.prog laidL w) ∧ sizedMet enc Tryd.prog Tryd.f4 (OpenSpec.ofChange Rows.rankMovesSpec) false w args)
      (Rows.rankMovesSpec.post enc Tryd.prog Tryd.f4 false true false false) := by
  refine returnsInHanded_of_change_and (C := Tryd.checked) (X := fun w _ => laidMetH Tryd.prog laidL w) (fun _ _ _ hh h => h.of_heap hh) own started (by kernel_rfl) Tryd.func4
    (ChangeSpec.witness_shaped (enc := enc) (C := Tryd.checked) (os := os) (X := fun w _ => laidMetH Tryd.prog laidL w) false (World.doorLaid Tryd.prog 400 os) #[.agg #[.string ByteArray.empty, .slice none 0 0, .int .i64 0, .int .i64 0]] 8 rfl (World.shaped_of_RefB (by kernel_rfl) (by kernel_rfl)) (by kernel_rfl) (by kernel_rfl) (by kernel_rfl) (door_met os _)) ?_
  intro W base args ds gs before hval0 hW _ _ hL _
  have hval : ∀ (j : Nat) t v, Tryd.f4.params[j]? = some t → args[j]? = some v → Value.okWide Tryd.prog W .any base t v := hval0
  have hW' := hW
  have hlt := hW.lt
  obtain ⟨p, q, hA0, hV, rfl, hfz, hnd⟩ := hW
  have hA : DataW.TrodAll enc Tryd.prog W 0 (fun _ => true) true Tryd.f4.params.toList args.toList ds p := hA0
  rw [Tryd.params4] at hA hval
  obtain ⟨v0, d0, rfl, rfl, h0⟩ := trodAll_one hA
  obtain ⟨rfl, rfl⟩ := trodVars_none hV
  obtain ⟨c0, c1, c2, c3, y0, y1, y2, y3, m, rfl, rfl, rfl, hy0, hy1, hy2, hy3⟩ := Joins.open_agg4 Tryd.underlying33 (by kernel_rfl) (by kernel_rfl) (hval 0 33 v0 rfl rfl) h0
  obtain ⟨a0, e0, -, w0⟩ := DataW.trod_string Tryd.underlying9 hy0
  obtain ⟨ao, n, cap, l1, rfl, r1, z1⟩ := rd_open1 hy1
  obtain ⟨a2, e2, -, w2⟩ := DataW.trod_int Tryd.underlying3 hy2
  obtain ⟨a3, e3, -, w3⟩ := DataW.trod_int Tryd.underlying3 hy3
  simp at e0 e2 e3
  subst e0 e2 e3
  have ht := of_laid hL
  clear hA0 hval0
  simp only [List.append_nil, List.nil_append] at hW' hlt

  refine (moves_walk a0 a2 a3 w0 W ht r1 z1).mono fun e W' ⟨he, hg⟩ => ?_
  subst he
  exact ⟨_, rfl, _, _, _, [], _, [], hW', trodAll_mk1 (shut_bool Tryd.underlying4 _), trodAll_mk1 (hg.trod (by kernel_rfl) (by kernel_rfl) (of_decide_eq_true (by kernel_rfl)) h0 (fun q hq => hlt q (by simp [hq]))), rfl, hg.frame _, fun h => by cases h⟩

theorem row_holds : Rows.RankMovesSaid :=
  OpenClaim.holds_of_wide 4 Tryd.f4 rfl rfl rfl rfl rfl rfl rfl ⟨rfl, rfl, rfl, rfl, rfl⟩ rfl rfl rfl rfl rfl (by kernel_rfl) Tryd.func4 (by kernel_rfl)
    (of_decide_eq_true (by kernel_rfl)) (by unfold Func.isWrapper; first | (rw [if_pos (by decide +kernel)]; kernel_rfl) | (rw [if_neg (by decide +kernel)]; exact ⟨rfl, rfl⟩))
    (fun os started H enc _ => lifted os started H enc)

theorem proved : Rows.RankMovesCardSaid :=
  Claim7.holds_tied_plain_at .later [] [.data] true (true, "f369fee3c70d76d3a0080660581e9b9f44f5a9a6b51713cece4756a4143e515b") false
    row_holds (fun _ h => by cases h) (by kernel_rfl) (fun _ h => by cases h) rankMoves_row_tie rfl ⟨rfl, rfl⟩ (by kernel_rfl) rfl
    (fun f fn hf hfn => by
      obtain rfl : f = 4 := Option.some.inj ((show Tryd.prog.funcNamed "bandolier/bandolierlaw15.RankMoves" = some 4 by kernel_rfl).symm.trans hf) |>.symm
      obtain rfl : fn = Tryd.f4 := (Option.some.inj (Tryd.func4.symm.trans hfn)).symm
      exact ⟨by kernel_rfl, fun j t ht => by
        rw [Tryd.params4] at ht
        have hm : t ∈ [33] := by simpa using Array.mem_of_getElem? ht
        have hall : ([33].all fun u => !Tryd.prog.wantsStandIn u) = true := by kernel_rfl
        exact (show Tryd.prog.wantsStandIn t = false by simpa using List.all_eq_true.1 hall t hm)⟩)
    (by kernel_rfl)
#print axioms proved
end Go.Proofs.YtbbapaphfijpcaaDoor.RankMovesP
namespace Go.Proofs.YtbbapaphfijpcaaDoor
theorem rankMoves_holds : Rows.RankMovesCardSaid := RankMovesP.proved
end Go.Proofs.YtbbapaphfijpcaaDoor
