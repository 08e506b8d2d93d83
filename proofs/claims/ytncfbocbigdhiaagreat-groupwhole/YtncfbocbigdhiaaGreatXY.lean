/- Texts of this seat, one behind the other: X3. -/
import Derived.Test.YtncfbocbigdhiaaGreatRows
import Derived.WalkKit
import Derived.Deep.MidRow
import Derived.ProofKit
import Derived.OpenShut
import Derived.Carry
import Derived.ChangeSame
import Derived.Deep.Slices
import Derived.Lib.SmallJoins
import Derived.Test.YtncfbocbigdhiaaGreatJY
/- Texts of this seat, one behind the other: XA, X2. -/
/- A row of Puts that came in, as the walks read it. -/
namespace Go.Proofs.YtncfbocbigdhiaaGreat.PutsP
open Go Go.ChangeShapes Go.WideShapes Go.ChangeAt Go.WideMaps Go.WideElems Go.RowKit
theorem own : ownKnob Tryz.prog.godebug = none := by kernel_rfl
theorem addr_none {w : World} {a : Addr} {v : Value} (h : w.cell? a = some v) : a.spot = none := by
  unfold World.cell? at h
  split at h
  · split at h
    · cases h
    · rename_i hs
      simpa using hs
  · cases h
/-- A choice opened. -/
theorem open_one {H : Type} {enc : TypeId × Value → H} {w : World} {fuel : Nat} {a : Addr} {cs : List Value} {x : DataW H × List MemPlace} (hc : w.cells? 0 a 1 = some cs)
    (h : DataW.trod enc Tryz.prog w 0 (fun _ => true) true fuel 3 cs = some x) : ∃ p : Int, w.cell? (a.add 0) = some (.int .i64 p) := by
  obtain ⟨_, hl, hcell⟩ := World.cells?_some hc
  obtain ⟨a0, e0, -, w0⟩ := DataW.trod_int Tryz.underlying3 h
  subst e0
  exact ⟨a0, by rw [hcell 0 (by omega)]; rfl⟩
theorem key_i {H : Type} {enc : TypeId × Value → H} {W : World} {ao : Option Addr} {n cap : Nat} {x : DataW H × List MemPlace} {fl : Nat} (hf : DataW.trod enc Tryz.prog W 0 (fun _ => true) true fl 31 [.slice ao n cap] = some x) :
    ∃ (b o : Nat) (k0 : Nat → Int), (0 < n → ao = some ⟨b, o, none⟩) ∧ n ≤ cap ∧ cap ≤ 9223372036854775807 ∧ (∀ j, j < n → W.cell? ⟨b, o + j, none⟩ = some (.int .i64 (k0 j))) := by
  rcases Deep.open_slice Tryz.underlying31 hf with ⟨hcs, -⟩ | ⟨a, len, cap', m, n', D, Pl, hcs, -, hl, hm, hmm, hx, hel⟩
  · simp at hcs
    obtain ⟨rfl, rfl, rfl⟩ := hcs
    exact ⟨0, 0, fun _ => 0, fun h => absurd h (Nat.lt_irrefl _), Nat.le_refl _, by decide, fun j hj => absurd hj (Nat.not_lt_zero _)⟩
  · simp at hcs
    obtain ⟨rfl, rfl, rfl⟩ := hcs
    have hc2 : Tryz.prog.cellsOf 3 = 1 := by kernel_rfl
    rw [hc2] at hel
    have hnm : n ≤ m := by rw [hmm]; simp [hl]
    have hcm : cap ≤ 9223372036854775807 := hm
    obtain ⟨F, hF⟩ := Deep.choose_lt (α := Int) (n := n) (p := fun i p => W.cell? ((a.add (i * 1)).add 0) = some (.int .i64 p)) (fun i hi => by
      obtain ⟨cs', e1, e2⟩ := hel i (by omega)
      exact open_one e1 e2)
    rcases Nat.eq_zero_or_pos n with rfl | hpos
    · exact ⟨0, 0, fun _ => 0, fun h => absurd h (Nat.lt_irrefl _), hl, hcm, fun j hj => absurd hj (Nat.not_lt_zero _)⟩
    · have hsp := addr_none (hF 0 hpos)
      obtain ⟨ab, aoff, asp⟩ := a
      obtain rfl : asp = none := hsp
      refine ⟨ab, aoff, fun j => F j, fun _ => rfl, hl, hcm, fun j hj => ?_⟩
      have := hF j hj
      simpa [Addr.add_lit] using this
/-- A Try. -/
structure T6 where
  tx : ByteArray
  sz : Int
  af : Int
  dn : Bool
  dd : Bool
  ca : Option Addr
  cn : Nat
  cc : Nat
  CK : Nat
  cO : Nat
  ch : Nat → Int
instance : Inhabited T6 := ⟨⟨⟨#[]⟩, 0, 0, false, false, none, 0, 0, 0, 0, fun _ => 0⟩⟩
def T6.cs (p : T6) : List Value := [.string p.tx, .int .i64 p.sz, .int .i64 p.af, .bool p.dn, .bool p.dd, .slice p.ca p.cn p.cc]
structure T6.Ok (w : World) (p : T6) : Prop where
  at0 : 0 < p.cn → p.ca = some ⟨p.CK, p.cO, none⟩
  le : p.cn ≤ p.cc
  mx : p.cc ≤ 9223372036854775807
  row : ∀ j, j < p.cn → w.cell? ⟨p.CK, p.cO + j, none⟩ = some (.int .i64 (p.ch j))
theorem list6 {α : Type} {l : List α} (h : l.length = 6) : ∃ a b c d e f, l = [a, b, c, d, e, f] := by
  match l, h with
  | [a, b, c, d, e, f], _ => exact ⟨a, b, c, d, e, f, rfl⟩
theorem open_try {H : Type} {enc : TypeId × Value → H} {w : World} {fuel : Nat} {a : Addr} {cs : List Value} {x : DataW H × List MemPlace} (hc : w.cells? 0 a 6 = some cs)
    (h : DataW.trod enc Tryz.prog w 0 (fun _ => true) true fuel 33 cs = some x) :
    ∃ p : T6, (∀ k v, p.cs[k]? = some v → w.cell? (a.add k) = some v) ∧ T6.Ok w p := by
  obtain ⟨_, hl, hcell⟩ := World.cells?_some hc
  obtain ⟨c0, c1, c2, c3, c4, c5, rfl⟩ := list6 hl
  obtain ⟨xs, n, _, _, _, hlen, hf⟩ := DataW.trod_struct Tryz.underlying33 h
  have hxs : xs.length = 6 := by simpa using hlen
  obtain ⟨y0, y1, y2, y3, y4, y5, rfl⟩ := list6 hxs
  have i0 : Tryz.prog.cellsOf 3 = 1 := by kernel_rfl
  have i1 : Tryz.prog.cellsOf 9 = 1 := by kernel_rfl
  have i2 : Tryz.prog.cellsOf 4 = 1 := by kernel_rfl
  have i3 : Tryz.prog.cellsOf 31 = 1 := by kernel_rfl
  have h0 := hf 0 _ rfl
  have h1 := hf 1 _ rfl
  have h2 := hf 2 _ rfl
  have h3 := hf 3 _ rfl
  have h4 := hf 4 _ rfl
  have h5 := hf 5 _ rfl
  simp [i0, i1, i2, i3] at h0 h1 h2 h3 h4 h5
  obtain ⟨s, e0, -⟩ := DataW.trod_string Tryz.underlying9 h0
  obtain ⟨a1, e1, -, w1⟩ := DataW.trod_int Tryz.underlying3 h1
  obtain ⟨a2, e2, -, w2⟩ := DataW.trod_int Tryz.underlying3 h2
  obtain ⟨b3, e3, -⟩ := DataW.trod_bool Tryz.underlying4 h3
  obtain ⟨b4, e4, -⟩ := DataW.trod_bool Tryz.underlying4 h4
  obtain ⟨ao, cn, cp, e5⟩ := Joins.slice_form Tryz.underlying31 h5
  simp at e0 e1 e2 e3 e4 e5
  subst e0 e1 e2 e3 e4 e5
  obtain ⟨K, o, ch, g1, g2, g3, g4⟩ := key_i h5
  refine ⟨⟨s, a1, a2, b3, b4, ao, cn, cp, K, o, ch⟩, fun k v hk => ?_, ⟨g1, g2, g3, g4⟩⟩
  have hk6 : k < 6 := (List.getElem?_eq_some_iff.1 hk).1
  rw [hcell k (by omega)]
  exact hk
theorem puts_open {H : Type} {enc : TypeId × Value → H} {W : World} {ao : Option Addr} {n cap : Nat} {d : DataW H} {p : List MemPlace} (h0 : DataW.Trod enc Tryz.prog W 0 (fun _ => true) true 22 (.slice ao n cap) d p) : ∃ (b o : Nat) (act : Nat → T6), (0 < n → ao = some ⟨b, o, none⟩) ∧ (∀ j, j < n → W.rangeAt b (o + j * 6) (act j).cs) ∧ (∀ j, j < n → T6.Ok W (act j)) ∧ n ≤ cap ∧ cap ≤ 9223372036854775807 := by
  obtain ⟨fuel, hf⟩ := h0
  rcases Deep.open_slice Tryz.underlying22 (by simpa [Value.cells] using hf) with ⟨hcs, -⟩ | ⟨a, len, cap', m, n', D, Pl, hcs, -, hl, hm, hmm, hx, hel⟩
  · simp at hcs
    obtain ⟨rfl, rfl, rfl⟩ := hcs
    exact ⟨0, 0, fun _ => default, fun h => absurd h (Nat.lt_irrefl _), fun j hj => absurd hj (Nat.not_lt_zero _), fun j hj => absurd hj (Nat.not_lt_zero _), Nat.le_refl _, by decide⟩
  · simp at hcs
    obtain ⟨rfl, rfl, rfl⟩ := hcs
    have hc7 : Tryz.prog.cellsOf 33 = 6 := by kernel_rfl
    rw [hc7] at hel
    have hnm : n ≤ m := by rw [hmm]; simp [hl]
    obtain ⟨F, hF⟩ := Deep.choose_lt (α := T6) (n := n) (p := fun i p => (∀ k v, p.cs[k]? = some v → W.cell? ((a.add (i * 6)).add k) = some v) ∧ T6.Ok W p) (fun i hi => by
      obtain ⟨cs', e1, e2⟩ := hel i (by omega)
      exact open_try e1 e2)
    rcases Nat.eq_zero_or_pos n with rfl | hpos
    · exact ⟨0, 0, fun _ => default, fun h => absurd h (Nat.lt_irrefl _), fun j hj => absurd hj (Nat.not_lt_zero _), fun j hj => absurd hj (Nat.not_lt_zero _), hl, hm⟩
    · have hsp := addr_none ((hF 0 hpos).1 0 _ rfl)
      obtain ⟨ab, aoff, asp⟩ := a
      obtain rfl : asp = none := hsp
      refine ⟨ab, aoff, fun j => F j, fun _ => rfl, fun j hj k v hk => ?_, fun j hj => (hF j hj).2, hl, hm⟩
      have := (hF j hj).1 k v hk
      rw [Addr.add_lit, Addr.add_lit] at this
      exact this
end Go.Proofs.YtncfbocbigdhiaaGreat.PutsP

/- GroupBack: of any numbers and any texts groups are appended where there is room, flushed, and found again, each as it was written (the statement itself brings the segment among 8 to 64 sectors, takes at most thirty groups, and brings their sectors among 1 to 64); no condition. -/
namespace Go.Proofs.YtncfbocbigdhiaaGreat.GroupBackP
open Go Go.ChangeShapes Go.WideShapes Go.ChangeAt Go.WideMaps Go.WideElems Go.RowKit PutsP
set_option maxRecDepth 100000 in
theorem lifted (os : Os) (started : os.Started) (H : Type) (enc : TypeId × Value → H) :
    ReturnsInHanded {} Tryz.checked os 3 .any (Rows.groupBackSpec.pre6 enc Tryz.prog Tryz.f3 Rows.groupBackRow.domain false) (Rows.groupBackSpec.post enc Tryz.prog Tryz.f3 false true false false) := by
  refine returnsInHanded_of_change (C := Tryz.checked) own started (by kernel_rfl) Tryz.func3
    (ChangeSpec.witness6 (enc := enc) (C := Tryz.checked) false ⟨#[], #[.int .i64 0, .slice none 0 0], []⟩ 12 (by kernel_rfl) (by kernel_rfl) (by kernel_rfl) (by kernel_rfl)) ?_
  intro W base args ds gs before hval0 hW hcnd _
  have hval : ∀ (j : Nat) t v, Tryz.f3.params[j]? = some t → args[j]? = some v → Value.okWide Tryz.prog W .any base t v := hval0
  have hW' := hW
  have hlt := hW.lt
  obtain ⟨p, q, hA0, hV, rfl, hfz, hnd⟩ := hW
  have hA : DataW.TrodAll enc Tryz.prog W 0 (fun _ => true) true Tryz.f3.params.toList args.toList ds p := hA0
  rw [Tryz.params3] at hA hval
  obtain ⟨v0, v1, d0, d1, p0, p1, rfl, rfl, rfl, h0, h1⟩ := trodAll_two hA
  obtain ⟨rfl, rfl⟩ := trodVars_none hV
  obtain ⟨a0, rfl, rfl, rfl, w0⟩ := open_int Tryz.underlying3 (hval 0 3 v0 rfl rfl) h0
  obtain ⟨ao, n, cap, rfl⟩ := okWide_slice Tryz.underlying22 (hval 1 22 v1 rfl rfl)
  clear hA0 hval0
  simp only [List.append_nil, List.nil_append] at hW' hlt
  obtain ⟨b, o, act, g1, g2, -, g4, g5⟩ := puts_open h1
  refine (back_walk a0 ao n cap b o g1 g4 g5 (fun j => (act j).tx) (fun j => (act j).sz) W (fun W' hb j hj => ?_) (fun W' hb j hj => ?_)).mono fun e W' ⟨he, hg⟩ => ?_
  · have h := g2 j hj 0 _ rfl
    have h' : W.cell? ⟨b, o + j * 6, none⟩ = some (.string (act j).tx) := by simpa using h
    exact (hb.cell (World.block_lt_of_cell? W _ h')).trans h'
  · have h' : W.cell? ⟨b, o + j * 6 + 1, none⟩ = some (.int .i64 (act j).sz) := g2 j hj 1 _ rfl
    exact (hb.cell (World.block_lt_of_cell? W _ h')).trans h'
  subst he
  exact ⟨_, rfl, _, _, _, [], _, [], hW', trodAll_mk1 (shut_bool Tryz.underlying4 _), trodAll_mk2 (shut_int Tryz.underlying3 w0) (hg.trod (by kernel_rfl) (by kernel_rfl) (of_decide_eq_true (by kernel_rfl)) h1 hlt), rfl, hg.frame _, fun h => by cases h⟩

theorem proved : Rows.GroupBackSaid :=
  OpenClaim.holds_of_wide 3 Tryz.f3 rfl rfl rfl rfl rfl rfl rfl ⟨rfl, rfl, rfl, rfl, rfl⟩ rfl rfl rfl rfl rfl (by kernel_rfl) Tryz.func3 (by kernel_rfl)
    (of_decide_eq_true (by kernel_rfl)) (by unfold Func.isWrapper; first | (rw [if_pos (by decide +kernel)]; kernel_rfl) | (rw [if_neg (by decide +kernel)]; exact ⟨rfl, rfl⟩))
    (fun os started H enc _ => lifted os started H enc)
#print axioms proved
end Go.Proofs.YtncfbocbigdhiaaGreat.GroupBackP
namespace Go.Proofs.YtncfbocbigdhiaaGreat
theorem groupBack_holds : Rows.GroupBackSaid := GroupBackP.proved
end Go.Proofs.YtncfbocbigdhiaaGreat
