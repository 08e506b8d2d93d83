/- TablePlays: of every number of 64 bits and any calls, behind each of them a table is a list of keys and what is known of each, and never many places are looked at (the statement itself plays at most 120 calls and cuts each key at 20 bytes); the condition is that the table of rounds reads as the program's own text lays it (tied). -/
import Derived.Test.YtcgmngafodmfcaaDoorL
import Derived.Test.YtcgmngafodmfcaaDoorU
import Derived.Test.YtcgmngafodmfcaaDoorCards
import Derived.Test.YtcgmngafodmfcaaDoorTie
import Derived.SevenTiedAt
import Derived.Deep.Slices
import Derived.ProofKit
import Derived.OpenShut
import Derived.Carry
import Derived.ChangeSame
import Derived.Lib.SmallJoins
namespace Go.Proofs.YtcgmngafodmfcaaDoor.TablePlaysP
open Go Go.ChangeShapes Go.WideShapes Go.ChangeAt Go.WideMaps Go.WideElems Go.RowKit
theorem nat_of {n : Int} (h : (Lit.int .u64 n).wf = true) : ∃ k : Nat, n = (k : Int) ∧ k < 18446744073709551616 := by
  have hb := bounds_u64 h
  exact ⟨n.toNat, by omega, by omega⟩
theorem addr_none {w : World} {a : Addr} {v : Value} (h : w.cell? a = some v) : a.spot = none := by
  unfold World.cell? at h
  split at h
  · split at h
    · cases h
    · rename_i hs
      simpa using hs
  · cases h
theorem list3 {α : Type} {l : List α} (h : l.length = 3) : ∃ a b c, l = [a, b, c] := by
  match l, h with
  | [a, b, c], _ => exact ⟨a, b, c, rfl⟩
abbrev Act3 := Int × ByteArray × Int
theorem open_act {H : Type} {enc : TypeId × Value → H} {w : World} {fuel : Nat} {a : Addr} {cs : List Value} {x : DataW H × List MemPlace} (hc : w.cells? 0 a 3 = some cs)
    (h : DataW.trod enc Tryd.prog w 0 (fun _ => true) true fuel 29 cs = some x) :
    ∃ p : Act3, (∀ k v, ([.int .i64 p.1, .string p.2.1, .int .i64 p.2.2] : List Value)[k]? = some v → w.cell? (a.add k) = some v) ∧ p.2.1.size ≤ maxLen := by
  obtain ⟨_, hl, hcell⟩ := World.cells?_some hc
  obtain ⟨c0, c1, c2, rfl⟩ := list3 hl
  obtain ⟨xs, n, _, _, _, hlen, hf⟩ := DataW.trod_struct Tryd.underlying29 h
  have hxs : xs.length = 3 := by simpa using hlen
  obtain ⟨y0, y1, y2, rfl⟩ := list3 hxs
  have i0 : Tryd.prog.cellsOf 3 = 1 := by kernel_rfl
  have i9 : Tryd.prog.cellsOf 9 = 1 := by kernel_rfl
  have h0 := hf 0 _ rfl
  have h1 := hf 1 _ rfl
  have h2 := hf 2 _ rfl
  simp [i0, i9] at h0 h1 h2
  obtain ⟨a0, e0, -, w0⟩ := DataW.trod_int Tryd.underlying3 h0
  obtain ⟨s1, e1, -, w1⟩ := DataW.trod_string Tryd.underlying9 h1
  obtain ⟨a2, e2, -, w2⟩ := DataW.trod_int Tryd.underlying3 h2
  simp at e0 e1 e2
  subst e0 e1 e2
  refine ⟨(a0, s1, a2), fun k v hk => ?_, w1⟩
  have hk3 : k < 3 := (List.getElem?_eq_some_iff.1 hk).1
  rw [hcell k (by omega)]
  exact hk
set_option maxRecDepth 100000 in
theorem lifted (os : Os) (started : os.Started) (H : Type) (enc : TypeId × Value → H) :
    ReturnsInHanded {} Tryd.checked os 3 .any (fun w args => (Rows.tablePlaysSpec.pre enc Tryd.prog Tryd.f3 [] false w args ∧ laidMetH Tryd.prog laidL w) ∧ sizedMet enc Tryd.prog Tryd.f3 (OpenSpec.ofChange Rows.tablePlaysSpec) false w args)
      (Rows.tablePlaysSpec.post enc Tryd.prog Tryd.f3 false true false false) := by
  refine returnsInHanded_of_change_and (C := Tryd.checked) (X := fun w _ => laidMetH Tryd.prog laidL w) (fun _ _ _ hh h => h.of_heap hh) own started (by kernel_rfl) Tryd.func3
    (ChangeSpec.witness_shaped (enc := enc) (C := Tryd.checked) (os := os) (X := fun w _ => laidMetH Tryd.prog laidL w) false (World.doorLaid Tryd.prog 400 os) #[.int .u64 0, .slice none 0 0] 8 rfl (World.shaped_of_RefB (by kernel_rfl) (by kernel_rfl)) (by kernel_rfl) (by kernel_rfl) (by kernel_rfl) (door_met os _)) ?_
  intro W base args ds gs before hval0 hW _ _ hL _
  have hval : ∀ (j : Nat) t v, Tryd.f3.params[j]? = some t → args[j]? = some v → Value.okWide Tryd.prog W .any base t v := hval0
  have hW' := hW
  have hlt := hW.lt
  obtain ⟨p, q, hA0, hV, rfl, hfz, hnd⟩ := hW
  have hA : DataW.TrodAll enc Tryd.prog W 0 (fun _ => true) true Tryd.f3.params.toList args.toList ds p := hA0
  rw [Tryd.params3] at hA hval
  obtain ⟨v0, v1, d0, d1, p0, p1, rfl, rfl, rfl, h0, h1⟩ := trodAll_two hA
  obtain ⟨rfl, rfl⟩ := trodVars_none hV
  obtain ⟨a0, rfl, rfl, rfl, w0⟩ := open_int Tryd.underlying22 (hval 0 22 v0 rfl rfl) h0
  obtain ⟨k0, rfl, l0⟩ := nat_of w0
  obtain ⟨ao, n, cap, rfl⟩ := okWide_slice Tryd.underlying23 (hval 1 23 v1 rfl rfl)
  have ht := of_laid hL
  clear hA0 hval0
  simp only [List.append_nil, List.nil_append] at hW' hlt
  have key : ∃ (b o : Nat) (act : Nat → Act3), (0 < n → ao = some ⟨b, o, none⟩) ∧ (∀ j, j < n → W.rangeAt b (o + j * 3) [.int .i64 (act j).1, .string (act j).2.1, .int .i64 (act j).2.2]) ∧ (∀ j, j < n → (act j).2.1.size ≤ 9223372036854775807) ∧ n ≤ 9223372036854775807 := by
    obtain ⟨fuel, hf⟩ := h1
    rcases Deep.open_slice Tryd.underlying23 (by simpa [Value.cells] using hf) with ⟨hcs, -⟩ | ⟨a, len, cap', m, n', D, Pl, hcs, -, hl, hm, hmm, hx, hel⟩
    · simp at hcs
      obtain ⟨rfl, rfl, rfl⟩ := hcs
      exact ⟨0, 0, fun _ => default, fun h => absurd h (Nat.lt_irrefl _), fun j hj => absurd hj (Nat.not_lt_zero _), fun j hj => absurd hj (Nat.not_lt_zero _), by decide⟩
    · simp at hcs
      obtain ⟨rfl, rfl, rfl⟩ := hcs
      have hc7 : Tryd.prog.cellsOf 29 = 3 := by kernel_rfl
      rw [hc7] at hel
      have hnm : n ≤ m := by rw [hmm]; simp [hl]
      have hn63 : n ≤ 9223372036854775807 := by unfold maxLen at hm; omega
      obtain ⟨F, hF⟩ := Deep.choose_lt (α := Act3) (n := n) (p := fun i p => (∀ k v, ([.int .i64 p.1, .string p.2.1, .int .i64 p.2.2] : List Value)[k]? = some v → W.cell? ((a.add (i * 3)).add k) = some v) ∧ p.2.1.size ≤ maxLen) (fun i hi => by
        obtain ⟨cs', e1, e2⟩ := hel i (by omega)
        exact open_act e1 e2)
      rcases Nat.eq_zero_or_pos n with rfl | hpos
      · exact ⟨0, 0, fun _ => default, fun h => absurd h (Nat.lt_irrefl _), fun j hj => absurd hj (Nat.not_lt_zero _), fun j hj => absurd hj (Nat.not_lt_zero _), by decide⟩
      · have hsp := addr_none ((hF 0 hpos).1 0 _ rfl)
        obtain ⟨ab, aoff, asp⟩ := a
        obtain rfl : asp = none := hsp
        refine ⟨ab, aoff, fun j => F j, fun _ => rfl, fun j hj k v hk => ?_, fun j hj => ?_, hn63⟩
        · have := (hF j hj).1 k v hk
          rw [Addr.add_lit, Addr.add_lit] at this
          exact this
        · have := (hF j hj).2
          unfold maxLen at this
          show (F j).2.1.size ≤ _
          omega
  obtain ⟨b, o, act, g1, g2, g3, g4⟩ := key
  refine (plays_walk k0 l0 ao n cap b o (fun j => (act j).1) (fun j => (act j).2.1) (fun j => (act j).2.2) W ht g1 g2 g3 g4).mono fun e W' ⟨he, hg⟩ => ?_
  subst he
  exact ⟨_, rfl, _, _, _, [], _, [], hW', trodAll_mk1 (shut_bool Tryd.underlying4 _), trodAll_mk2 (shut_int Tryd.underlying22 w0) (hg.trod (by kernel_rfl) (by kernel_rfl) (of_decide_eq_true (by kernel_rfl)) h1 hlt), rfl, hg.frame _, fun h => by cases h⟩

theorem row_holds : Rows.TablePlaysSaid :=
  OpenClaim.holds_of_wide 3 Tryd.f3 rfl rfl rfl rfl rfl rfl rfl ⟨rfl, rfl, rfl, rfl, rfl⟩ rfl rfl rfl rfl rfl (by kernel_rfl) Tryd.func3 (by kernel_rfl)
    (of_decide_eq_true (by kernel_rfl)) (by unfold Func.isWrapper; first | (rw [if_pos (by decide +kernel)]; kernel_rfl) | (rw [if_neg (by decide +kernel)]; exact ⟨rfl, rfl⟩))
    (fun os started H enc _ => lifted os started H enc)

theorem proved : Rows.TablePlaysCardSaid :=
  Claim7.holds_tied_plain_at .later [] [.data] true (true, "e5a5cd93e7f63c5e1a3aedc2f0a9fa8d8c682d9446125238242cd6e5490c66d5") false
    row_holds (fun _ h => by cases h) (by kernel_rfl) (fun _ h => by cases h) tablePlays_row_tie rfl ⟨rfl, rfl⟩ (by kernel_rfl) rfl
    (fun f fn hf hfn => by
      obtain rfl : f = 3 := Option.some.inj ((show Tryd.prog.funcNamed "bandolier/bandolierlaw13.TablePlays" = some 3 by kernel_rfl).symm.trans hf) |>.symm
      obtain rfl : fn = Tryd.f3 := (Option.some.inj (Tryd.func3.symm.trans hfn)).symm
      exact ⟨by kernel_rfl, fun j t ht => by
        rw [Tryd.params3] at ht
        have hm : t ∈ [22, 23] := by simpa using Array.mem_of_getElem? ht
        have hall : ([22, 23].all fun u => !Tryd.prog.wantsStandIn u) = true := by kernel_rfl
        exact (show Tryd.prog.wantsStandIn t = false by simpa using List.all_eq_true.1 hall t hm)⟩)
    (by kernel_rfl)
#print axioms proved
end Go.Proofs.YtcgmngafodmfcaaDoor.TablePlaysP
namespace Go.Proofs.YtcgmngafodmfcaaDoor
theorem tablePlays_holds : Rows.TablePlaysCardSaid := TablePlaysP.proved
end Go.Proofs.YtcgmngafodmfcaaDoor
