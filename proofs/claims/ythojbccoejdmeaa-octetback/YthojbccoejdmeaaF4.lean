/- OctetBack: of any puts what is written is the document's bytes, and texts and numbers come back; no condition. -/
import Derived.Test.YthojbccoejdmeaaRows
import Derived.Test.YthojbccoejdmeaaZ5
import Derived.WalkKit
import Derived.ProofKit
import Derived.OpenShut
import Derived.Carry
import Derived.Deep.Slices
import Derived.Lib.SmallJoins
namespace Go.Proofs.Ythojbccoejdmeaa.OctetBackP
open Go.ChangeMaps (open_string shut_string)
open Go Go.ChangeShapes Go.WideShapes Go.ChangeAt Go.WideMaps Go.WideElems Go.RowKit
theorem own : ownKnob Try.prog.godebug = none := by kernel_rfl
instance : Inhabited Put := ⟨⟨0, 0, 0, ByteArray.empty⟩⟩
theorem addr_none {w : World} {a : Addr} {v : Value} (h : w.cell? a = some v) : a.spot = none := by
  unfold World.cell? at h
  split at h
  · split at h
    · cases h
    · rename_i hs
      simpa using hs
  · cases h
/-- A put opened. -/
theorem open_put {H : Type} {enc : TypeId × Value → H} {w : World} {fuel : Nat} {a : Addr} {cs : List Value} {x : DataW H × List MemPlace} (hc : w.cells? 0 a 4 = some cs)
    (h : DataW.trod enc Try.prog w 0 (fun _ => true) true fuel 43 cs = some x) :
    ∃ p : Put, w.cell? (a.add 0) = some (.int .i64 p.kind) ∧ w.cell? (a.add 1) = some (.int .i64 p.n) ∧ w.cell? (a.add 2) = some (.int .u64 (p.x : Nat)) ∧ w.cell? (a.add 3) = some (.string p.s) ∧ p.x < 18446744073709551616 ∧ p.s.size ≤ 9223372036854775807 := by
  obtain ⟨_, hl, hcell⟩ := World.cells?_some hc
  obtain ⟨c0, c1, c2, c3, e⟩ := Joins.array4 (cs := cs.toArray) (by simpa using hl)
  obtain rfl : cs = [c0, c1, c2, c3] := by simpa using congrArg Array.toList e
  obtain ⟨y0, y1, y2, y3, n, -, -, h0, h1, h2, h3⟩ := Joins.trod_struct4 Try.underlying43 h
  have i0 : Try.prog.cellsOf 3 = 1 := by kernel_rfl
  have i1 : Try.prog.cellsOf 41 = 1 := by kernel_rfl
  have i2 : Try.prog.cellsOf 9 = 1 := by kernel_rfl
  simp only [i0, i1, i2] at h0 h1 h2 h3
  obtain ⟨a0, e0, -, w0⟩ := DataW.trod_int Try.underlying3 h0
  obtain ⟨a1, e1, -, w1⟩ := DataW.trod_int Try.underlying3 h1
  obtain ⟨a2, e2, -, w2⟩ := DataW.trod_int Try.underlying41 h2
  obtain ⟨s, e3, -, w3⟩ := DataW.trod_string Try.underlying9 h3
  simp at e0 e1 e2 e3
  subst e0 e1 e2 e3
  have hb := bounds_u64 w2
  refine ⟨⟨a0, a1, a2.toNat, s⟩, by rw [hcell 0 (by omega)]; rfl, by rw [hcell 1 (by omega)]; rfl, ?_, by rw [hcell 3 (by omega)]; rfl, ?_, w3⟩
  · rw [hcell 2 (by omega)]
    show some (Value.int .u64 a2) = some (Value.int .u64 ((a2.toNat : Nat) : Int))
    rw [Int.toNat_of_nonneg hb.1]
  · show a2.toNat < _
    omega
set_option maxRecDepth 100000 in
theorem lifted (os : Os) (started : os.Started) (H : Type) (enc : TypeId × Value → H) :
    ReturnsInHanded {} Try.checked os 4 .any (Rows.octetBackSpec.pre6 enc Try.prog Try.f4 Rows.octetBackRow.domain false) (Rows.octetBackSpec.post enc Try.prog Try.f4 false true false false) := by
  refine returnsInHanded_of_change (C := Try.checked) own started (by kernel_rfl) Try.func4
    (ChangeSpec.witness6 (enc := enc) (C := Try.checked) false ⟨#[], #[.slice none 0 0], []⟩ 8 (by kernel_rfl) (by kernel_rfl) (by kernel_rfl) (by kernel_rfl)) ?_
  intro W base args ds gs before hval0 hW hcnd _
  have hval : ∀ (j : Nat) t v, Try.f4.params[j]? = some t → args[j]? = some v → Value.okWide Try.prog W .any base t v := hval0
  have hW' := hW
  have hlt := hW.lt
  obtain ⟨p, q, hA0, hV, rfl, hfz, hnd⟩ := hW
  have hA : DataW.TrodAll enc Try.prog W 0 (fun _ => true) true Try.f4.params.toList args.toList ds p := hA0
  rw [Try.params4] at hA hval
  obtain ⟨v0, d0, rfl, rfl, h0⟩ := trodAll_one hA
  obtain ⟨rfl, rfl⟩ := trodVars_none hV
  obtain ⟨ao, n, cap, rfl⟩ := okWide_slice Try.underlying37 (hval 0 37 v0 rfl rfl)
  simp only [List.append_nil] at hW' hlt
  have key : ∃ (b o : Nat) (ps : List Put), n = ps.length ∧ ps.length ≤ 9223372036854775807 ∧ (0 < ps.length → ao = some ⟨b, o, none⟩) ∧ (∀ w', Below W.heap.size W w' → PutsAt w' b o ps) ∧ b ≤ W.heap.size := by
    obtain ⟨fuel, hf⟩ := h0
    rcases Deep.open_slice Try.underlying37 (by simpa [Value.cells] using hf) with ⟨hcs, -⟩ | ⟨a, len, cap', m, n', D, Pl, hcs, -, hl, hm, hmm, hx, hel⟩
    · simp at hcs
      obtain ⟨rfl, rfl, rfl⟩ := hcs
      exact ⟨W.heap.size, 0, [], rfl, by simp, fun h => by simp at h, fun w' _ => ⟨fun i p e => by simp at e, fun i p e => by simp at e, fun i p e => by simp at e, fun i p e => by simp at e, fun p e => by simp at e, by simp⟩, Nat.le_refl _⟩
    · simp at hcs
      obtain ⟨rfl, rfl, rfl⟩ := hcs
      have hc4 : Try.prog.cellsOf 43 = 4 := by kernel_rfl
      rw [hc4] at hel
      have hnm : n ≤ m := by rw [hmm]; simp [hl]
      obtain ⟨F, hF⟩ := Deep.choose_lt (α := Put) (n := n) (p := fun i p => W.cell? ((a.add (i * 4)).add 0) = some (.int .i64 p.kind) ∧ W.cell? ((a.add (i * 4)).add 1) = some (.int .i64 p.n) ∧ W.cell? ((a.add (i * 4)).add 2) = some (.int .u64 (p.x : Nat)) ∧ W.cell? ((a.add (i * 4)).add 3) = some (.string p.s) ∧ p.x < 18446744073709551616 ∧ p.s.size ≤ 9223372036854775807) (fun i hi => by
        obtain ⟨cs', e1, e2⟩ := hel i (by omega)
        exact open_put e1 e2)
      rcases Nat.eq_zero_or_pos n with rfl | hpos
      · exact ⟨W.heap.size, 0, [], rfl, by simp, fun h => by simp at h, fun w' _ => ⟨fun i p e => by simp at e, fun i p e => by simp at e, fun i p e => by simp at e, fun i p e => by simp at e, fun p e => by simp at e, by simp⟩, Nat.le_refl _⟩
      · have hsp := addr_none (hF 0 hpos).1
        obtain ⟨ab, aoff, asp⟩ := a
        obtain rfl : asp = none := hsp
        have hlt2 : ab < W.heap.size := World.block_lt_of_cell? W _ (hF 0 hpos).1
        have hget : ∀ i (p : Put), ((List.range n).map F)[i]? = some p → i < n ∧ p = F i := by
          intro i p e
          rw [List.getElem?_map] at e
          by_cases hi : i < n
          · rw [List.getElem?_range hi] at e
            exact ⟨hi, by simpa using e.symm⟩
          · rw [List.getElem?_eq_none (by simp; omega)] at e
            cases e
        have hP : PutsAt W ab aoff ((List.range n).map F) := by
          refine ⟨fun i p e => ?_, fun i p e => ?_, fun i p e => ?_, fun i p e => ?_, fun p hp => ?_, ?_⟩
          · obtain ⟨hi, rfl⟩ := hget i p e
            simpa [Addr.add_lit] using (hF i hi).1
          · obtain ⟨hi, rfl⟩ := hget i p e
            simpa [Addr.add_lit] using (hF i hi).2.1
          · obtain ⟨hi, rfl⟩ := hget i p e
            simpa [Addr.add_lit] using (hF i hi).2.2.1
          · obtain ⟨hi, rfl⟩ := hget i p e
            simpa [Addr.add_lit] using (hF i hi).2.2.2.1
          · obtain ⟨i, e⟩ := List.getElem?_of_mem hp
            obtain ⟨hi, rfl⟩ := hget i p e
            exact (hF i hi).2.2.2.2
          · have : cap ≤ 9223372036854775807 := hm
            simp; omega
        exact ⟨ab, aoff, (List.range n).map F, by simp, hP.len, fun _ => rfl, fun w' hb => hP.keep hlt2 hb, Nat.le_of_lt hlt2⟩
  obtain ⟨b, o, ps, rfl, hlen, hao, hp, hb⟩ := key
  refine (back_walk W b o cap ao ps hlen hao hp hb).mono fun e W' ⟨he, hg⟩ => ?_
  subst he
  exact ⟨_, rfl, _, _, _, [], _, [], hW', trodAll_mk1 (shut_bool Try.underlying4 _), trodAll_mk1 (hg.trod (by kernel_rfl) (by kernel_rfl) (of_decide_eq_true (by kernel_rfl)) h0 hlt), rfl, hg.frame _, fun h => by cases h⟩

theorem proved : Rows.OctetBackSaid :=
  OpenClaim.holds_of_wide 4 Try.f4 rfl rfl rfl rfl rfl rfl rfl ⟨rfl, rfl, rfl, rfl, rfl⟩ rfl rfl rfl rfl rfl (by kernel_rfl) Try.func4 (by kernel_rfl)
    (of_decide_eq_true (by kernel_rfl)) (by unfold Func.isWrapper; first | (rw [if_pos (by decide +kernel)]; kernel_rfl) | (rw [if_neg (by decide +kernel)]; exact ⟨rfl, rfl⟩))
    (fun os started H enc _ => lifted os started H enc)
#print axioms proved
end Go.Proofs.Ythojbccoejdmeaa.OctetBackP
namespace Go.Proofs.Ythojbccoejdmeaa
theorem octetBack_holds : Rows.OctetBackSaid := OctetBackP.proved
end Go.Proofs.Ythojbccoejdmeaa
