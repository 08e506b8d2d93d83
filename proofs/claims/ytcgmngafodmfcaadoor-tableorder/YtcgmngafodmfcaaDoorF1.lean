/- TableOrder: of every number of 64 bits and any texts, in whatever order keys come, the same is known (the statement itself takes at most 60 texts and cuts each at 8 bytes); the condition is that the table of rounds reads as the program's own text lays it (tied). -/
import Derived.Test.YtcgmngafodmfcaaDoorL
import Derived.Test.YtcgmngafodmfcaaDoorM
import Derived.Test.YtcgmngafodmfcaaDoorCards
import Derived.Test.YtcgmngafodmfcaaDoorTie
import Derived.SevenTiedAt
import Derived.SliceStrings
import Derived.Carry
import Derived.ChangeSame
import Derived.Lib.SmallJoins
namespace Go.Proofs.YtcgmngafodmfcaaDoor.TableOrderP
open Go Go.ChangeShapes Go.WideShapes Go.ChangeAt Go.WideMaps Go.WideElems Go.RowKit
theorem nat_of {n : Int} (h : (Lit.int .u64 n).wf = true) : ∃ k : Nat, n = (k : Int) ∧ k < 18446744073709551616 := by
  have hb := bounds_u64 h
  exact ⟨n.toNat, by omega, by omega⟩
theorem addr_none {w : World} {a : Addr} {v : Value} (h : w.cell? a = some v) : a.spot = none := by
  unfold World.cell? at h
  split at h
  · split at h
    · cases h
    · rename_i hs
      simpa using hs
  · cases h
set_option maxRecDepth 100000 in
theorem lifted (os : Os) (started : os.Started) (H : Type) (enc : TypeId × Value → H) :
    ReturnsInHanded {} Tryd.checked os 5 .any (fun w args => (Rows.tableOrderSpec.pre enc Tryd.prog Tryd.f5 [] false w args ∧ laidMetH Tryd.prog laidL w) ∧ sizedMet enc Tryd.prog Tryd.f5 (OpenSpec.ofChange Rows.tableOrderSpec) false w args)
      (Rows.tableOrderSpec.post enc Tryd.prog Tryd.f5 false true false false) := by
  refine returnsInHanded_of_change_and (C := Tryd.checked) (X := fun w _ => laidMetH Tryd.prog laidL w) (fun _ _ _ hh h => h.of_heap hh) own started (by kernel_rfl) Tryd.func5
    (ChangeSpec.witness_shaped (enc := enc) (C := Tryd.checked) (os := os) (X := fun w _ => laidMetH Tryd.prog laidL w) false (World.doorLaid Tryd.prog 400 os) #[.int .u64 0, .slice none 0 0] 8 rfl (World.shaped_of_RefB (by kernel_rfl) (by kernel_rfl)) (by kernel_rfl) (by kernel_rfl) (by kernel_rfl) (door_met os _)) ?_
  intro W base args ds gs before hval0 hW _ _ hL _
  have hval : ∀ (j : Nat) t v, Tryd.f5.params[j]? = some t → args[j]? = some v → Value.okWide Tryd.prog W .any base t v := hval0
  have hW' := hW
  have hlt := hW.lt
  obtain ⟨p, q, hA0, hV, rfl, hfz, hnd⟩ := hW
  have hA : DataW.TrodAll enc Tryd.prog W 0 (fun _ => true) true Tryd.f5.params.toList args.toList ds p := hA0
  rw [Tryd.params5] at hA hval
  obtain ⟨v0, v1, d0, d1, p0, p1, rfl, rfl, rfl, h0, h1⟩ := trodAll_two hA
  obtain ⟨rfl, rfl⟩ := trodVars_none hV
  obtain ⟨a0, rfl, rfl, rfl, w0⟩ := open_int Tryd.underlying22 (hval 0 22 v0 rfl rfl) h0
  obtain ⟨k0, rfl, l0⟩ := nat_of w0
  obtain ⟨ao, n, cap, rfl⟩ := okWide_slice Tryd.underlying46 (hval 1 46 v1 rfl rfl)
  have ht := of_laid hL
  clear hA0 hval0
  simp only [List.append_nil, List.nil_append] at hW' hlt
  have key : ∃ (b o : Nat) (ks : Nat → ByteArray), (0 < n → ao = some ⟨b, o, none⟩) ∧ (∀ j, j < n → W.cell? ⟨b, o + j, none⟩ = some (.string (ks j))) ∧ (∀ j, j < n → (ks j).size ≤ 9223372036854775807) ∧ n ≤ 9223372036854775807 := by
    obtain ⟨fuel, hf⟩ := h1
    rcases open_strings Tryd.underlying46 Tryd.underlying9 (by kernel_rfl) (by simpa [Value.cells] using hf) with ⟨hcs, -⟩ | ⟨a, len, cap', ss, hcs, -, hl, hm, hlen, hx, hel, hsz⟩
    · simp at hcs
      obtain ⟨rfl, rfl, rfl⟩ := hcs
      exact ⟨0, 0, fun _ => default, fun h => absurd h (Nat.lt_irrefl _), fun j hj => absurd hj (Nat.not_lt_zero _), fun j hj => absurd hj (Nat.not_lt_zero _), by decide⟩
    · simp at hcs
      obtain ⟨rfl, rfl, rfl⟩ := hcs
      have hnm : n ≤ ss.length := by rw [hlen]; split <;> omega
      have hn63 : n ≤ 9223372036854775807 := by unfold maxLen at hm; omega
      rcases Nat.eq_zero_or_pos n with rfl | hpos
      · exact ⟨0, 0, fun _ => default, fun h => absurd h (Nat.lt_irrefl _), fun j hj => absurd hj (Nat.not_lt_zero _), fun j hj => absurd hj (Nat.not_lt_zero _), by decide⟩
      · have hsp := addr_none (hel 0 (by omega))
        obtain ⟨ab, aoff, asp⟩ := a
        obtain rfl : asp = none := hsp
        refine ⟨ab, aoff, fun j => ss.getD j ByteArray.empty, fun _ => rfl, fun j hj => ?_, fun j hj => ?_, hn63⟩
        · have := hel j (by omega)
          rw [Addr.add_lit] at this
          exact this
        · have h9 : ss.getD j ByteArray.empty ∈ ss := by
            rw [List.getD_eq_getElem?_getD, List.getElem?_eq_getElem (by omega)]
            exact List.getElem_mem _
          have := hsz _ h9
          unfold maxLen at this
          show (ss.getD j ByteArray.empty).size ≤ _
          omega
  obtain ⟨b, o, ks, g1, g2, g3, g4⟩ := key
  refine (order_walk k0 l0 ao n cap b o ks W ht g1 g2 g3 g4).mono fun e W' ⟨he, hg⟩ => ?_
  subst he
  exact ⟨_, rfl, _, _, _, [], _, [], hW', trodAll_mk1 (shut_bool Tryd.underlying4 _), trodAll_mk2 (shut_int Tryd.underlying22 w0) (hg.trod (by kernel_rfl) (by kernel_rfl) (of_decide_eq_true (by kernel_rfl)) h1 hlt), rfl, hg.frame _, fun h => by cases h⟩

theorem row_holds : Rows.TableOrderSaid :=
  OpenClaim.holds_of_wide 5 Tryd.f5 rfl rfl rfl rfl rfl rfl rfl ⟨rfl, rfl, rfl, rfl, rfl⟩ rfl rfl rfl rfl rfl (by kernel_rfl) Tryd.func5 (by kernel_rfl)
    (of_decide_eq_true (by kernel_rfl)) (by unfold Func.isWrapper; first | (rw [if_pos (by decide +kernel)]; kernel_rfl) | (rw [if_neg (by decide +kernel)]; exact ⟨rfl, rfl⟩))
    (fun os started H enc _ => lifted os started H enc)

theorem proved : Rows.TableOrderCardSaid :=
  Claim7.holds_tied_plain_at .later [] [.data] true (true, "e5a5cd93e7f63c5e1a3aedc2f0a9fa8d8c682d9446125238242cd6e5490c66d5") false
    row_holds (fun _ h => by cases h) (by kernel_rfl) (fun _ h => by cases h) tableOrder_row_tie rfl ⟨rfl, rfl⟩ (by kernel_rfl) rfl
    (fun f fn hf hfn => by
      obtain rfl : f = 5 := Option.some.inj ((show Tryd.prog.funcNamed "bandolier/bandolierlaw13.TableOrder" = some 5 by kernel_rfl).symm.trans hf) |>.symm
      obtain rfl : fn = Tryd.f5 := (Option.some.inj (Tryd.func5.symm.trans hfn)).symm
      exact ⟨by kernel_rfl, fun j t ht => by
        rw [Tryd.params5] at ht
        have hm : t ∈ [22, 46] := by simpa using Array.mem_of_getElem? ht
        have hall : ([22, 46].all fun u => !Tryd.prog.wantsStandIn u) = true := by kernel_rfl
        exact (show Tryd.prog.wantsStandIn t = false by simpa using List.all_eq_true.1 hall t hm)⟩)
    (by kernel_rfl)
#print axioms proved
end Go.Proofs.YtcgmngafodmfcaaDoor.TableOrderP
namespace Go.Proofs.YtcgmngafodmfcaaDoor
theorem tableOrder_holds : Rows.TableOrderCardSaid := TableOrderP.proved
end Go.Proofs.YtcgmngafodmfcaaDoor
