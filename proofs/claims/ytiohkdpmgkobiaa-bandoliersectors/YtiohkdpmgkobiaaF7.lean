/- BandolierSectors: of any two texts, and any choices, what is read behind the crash is whole; no condition. -/
import Derived.Test.YtiohkdpmgkobiaaRows
import Derived.Test.YtiohkdpmgkobiaaBEA
import Derived.Test.YtiohkdpmgkobiaaBEC
import Derived.WalkKit
import Derived.ProofKit
import Derived.OpenShut
import Derived.Carry
import Derived.ChangeSame
import Derived.Deep.Slices
import Derived.Lib.SmallJoins
namespace Go.Proofs.Ytiohkdpmgkobiaa
open Go.RowKit
theorem sec_walk (a b : ByteArray) (ao : Option Addr) (n cap K o : Nat) (ch : Nat → Int) (w : World) (hal : 0 < n → ao = some ⟨K, o, none⟩) (hlc : n ≤ cap) (hcm : cap ≤ 9223372036854775807) (hrow : ∀ j, j < n → w.cell? ⟨K, o + j, none⟩ = some (.int .i64 (ch j))) (hb : 0 < n → K < w.heap.size) :
    Calls Try.prog 11 #[.string a, .string b, .slice ao n cap] w fun e w' => e = .returned (.bool true) ∧ Below w.heap.size w w' := by
  rcases Nat.eq_zero_or_pos n with rfl | hpos
  · exact sec_walkA a b ao 0 0 cap ch w hcm
  · obtain rfl := hal hpos
    rcases Nat.lt_or_ge 3 n with h3 | h3
    · exact sec_walkC a b K o n cap ch w h3 ⟨hlc, hcm⟩ (hb hpos) (fun j hj => hrow j (by omega))
    · exact sec_walkB a b K o n cap ch w hpos h3 ⟨hlc, hcm⟩ (hb hpos) hrow
end Go.Proofs.Ytiohkdpmgkobiaa
namespace Go.Proofs.Ytiohkdpmgkobiaa.BandolierSectorsP
open Go.ChangeMaps (open_string shut_string)
open Go Go.ChangeShapes Go.WideShapes Go.ChangeAt Go.WideMaps Go.WideElems Go.RowKit
theorem own : ownKnob Try.prog.godebug = none := by kernel_rfl
theorem addr_none {w : World} {a : Addr} {v : Value} (h : w.cell? a = some v) : a.spot = none := by
  unfold World.cell? at h
  split at h
  · split at h
    · cases h
    · rename_i hs
      simpa using hs
  · cases h
/-- A choice opened. -/
theorem open_one {H : Type} {enc : TypeId × Value → H} {w : World} {fuel : Nat} {a : Addr} {cs : List Value} {x : DataW H × List MemPlace} (hc : w.cells? 0 a 1 = some cs)
    (h : DataW.trod enc Try.prog w 0 (fun _ => true) true fuel 3 cs = some x) : ∃ p : Int, w.cell? (a.add 0) = some (.int .i64 p) := by
  obtain ⟨_, hl, hcell⟩ := World.cells?_some hc
  obtain ⟨a0, e0, -, w0⟩ := DataW.trod_int Try.underlying3 h
  subst e0
  exact ⟨a0, by rw [hcell 0 (by omega)]; rfl⟩
set_option maxRecDepth 100000 in
theorem lifted (os : Os) (started : os.Started) (H : Type) (enc : TypeId × Value → H) :
    ReturnsInHanded {} Try.checked os 11 .any (Rows.bandolierSectorsSpec.pre6 enc Try.prog Try.f11 Rows.bandolierSectorsRow.domain false) (Rows.bandolierSectorsSpec.post enc Try.prog Try.f11 false true false false) := by
  refine returnsInHanded_of_change (C := Try.checked) own started (by kernel_rfl) Try.func11
    (ChangeSpec.witness6 (enc := enc) (C := Try.checked) false ⟨#[], #[.string ByteArray.empty, .string ByteArray.empty, .slice none 0 0], []⟩ 12 (by kernel_rfl) (by kernel_rfl) (by kernel_rfl) (by kernel_rfl)) ?_
  intro W base args ds gs before hval0 hW hcnd _
  have hval : ∀ (j : Nat) t v, Try.f11.params[j]? = some t → args[j]? = some v → Value.okWide Try.prog W .any base t v := hval0
  have hW' := hW
  have hlt := hW.lt
  obtain ⟨p, q, hA0, hV, rfl, hfz, hnd⟩ := hW
  have hA : DataW.TrodAll enc Try.prog W 0 (fun _ => true) true Try.f11.params.toList args.toList ds p := hA0
  rw [Try.params11] at hA hval
  obtain ⟨v0, v1, v2, d0, d1, d2, p0, p1, p2, rfl, rfl, rfl, h0, h1, h2⟩ := trodAll_three hA
  obtain ⟨rfl, rfl⟩ := trodVars_none hV
  obtain ⟨a0, rfl, rfl, rfl, w0⟩ := open_string Try.underlying9 (hval 0 9 v0 rfl rfl) h0
  obtain ⟨a1, rfl, rfl, rfl, w1⟩ := open_string Try.underlying9 (hval 1 9 v1 rfl rfl) h1
  obtain ⟨ao, n, cap, rfl⟩ := okWide_slice Try.underlying23 (hval 2 23 v2 rfl rfl)
  simp only [List.append_nil, List.nil_append] at hW' hlt
  have key : ∃ (b o : Nat) (k0 : Nat → Int), (0 < n → ao = some ⟨b, o, none⟩) ∧ n ≤ cap ∧ cap ≤ 9223372036854775807 ∧ (∀ j, j < n → W.cell? ⟨b, o + j, none⟩ = some (.int .i64 (k0 j))) ∧ (0 < n → b < W.heap.size) := by
    obtain ⟨fuel, hf⟩ := h2
    rcases Deep.open_slice Try.underlying23 (by simpa [Value.cells] using hf) with ⟨hcs, -⟩ | ⟨a, len, cap', m, n', D, Pl, hcs, -, hl, hm, hmm, hx, hel⟩
    · simp at hcs
      obtain ⟨rfl, rfl, rfl⟩ := hcs
      exact ⟨0, 0, fun _ => 0, fun h => absurd h (Nat.lt_irrefl _), Nat.le_refl _, by decide, fun j hj => absurd hj (Nat.not_lt_zero _), fun h => absurd h (Nat.lt_irrefl _)⟩
    · simp at hcs
      obtain ⟨rfl, rfl, rfl⟩ := hcs
      have hc2 : Try.prog.cellsOf 3 = 1 := by kernel_rfl
      rw [hc2] at hel
      have hnm : n ≤ m := by rw [hmm]; simp [hl]
      have hcm : cap ≤ 9223372036854775807 := hm
      obtain ⟨F, hF⟩ := Deep.choose_lt (α := Int) (n := n) (p := fun i p => W.cell? ((a.add (i * 1)).add 0) = some (.int .i64 p)) (fun i hi => by
        obtain ⟨cs', e1, e2⟩ := hel i (by omega)
        exact open_one e1 e2)
      rcases Nat.eq_zero_or_pos n with rfl | hpos
      · exact ⟨0, 0, fun _ => 0, fun h => absurd h (Nat.lt_irrefl _), hl, hcm, fun j hj => absurd hj (Nat.not_lt_zero _), fun h => absurd h (Nat.lt_irrefl _)⟩
      · have hsp := addr_none (hF 0 hpos)
        obtain ⟨ab, aoff, asp⟩ := a
        obtain rfl : asp = none := hsp
        have hlt2 : ab < W.heap.size := World.block_lt_of_cell? W _ (hF 0 hpos)
        refine ⟨ab, aoff, fun j => F j, fun _ => rfl, hl, hcm, fun j hj => ?_, fun _ => hlt2⟩
        have := hF j hj
        simpa [Addr.add_lit] using this
  obtain ⟨b, o, k0, hal, hlc, hcm, hrow, hb⟩ := key
  refine (sec_walk a0 a1 ao n cap b o k0 W hal hlc hcm hrow hb).mono fun e W' ⟨he, hg⟩ => ?_
  subst he
  exact ⟨_, rfl, _, _, _, [], _, [], hW', trodAll_mk1 (shut_bool Try.underlying4 _), trodAll_mk3 (shut_string Try.underlying9 w0) (shut_string Try.underlying9 w1) (hg.trod (by kernel_rfl) (by kernel_rfl) (of_decide_eq_true (by kernel_rfl)) h2 hlt), rfl, hg.frame _, fun h => by cases h⟩

theorem proved : Rows.BandolierSectorsSaid :=
  OpenClaim.holds_of_wide 11 Try.f11 rfl rfl rfl rfl rfl rfl rfl ⟨rfl, rfl, rfl, rfl, rfl⟩ rfl rfl rfl rfl rfl (by kernel_rfl) Try.func11 (by kernel_rfl)
    (of_decide_eq_true (by kernel_rfl)) (by unfold Func.isWrapper; first | (rw [if_pos (by decide +kernel)]; kernel_rfl) | (rw [if_neg (by decide +kernel)]; exact ⟨rfl, rfl⟩))
    (fun os started H enc _ => lifted os started H enc)
#print axioms proved
end Go.Proofs.Ytiohkdpmgkobiaa.BandolierSectorsP
namespace Go.Proofs.Ytiohkdpmgkobiaa
theorem bandolierSectors_holds : Rows.BandolierSectorsSaid := BandolierSectorsP.proved
end Go.Proofs.Ytiohkdpmgkobiaa
