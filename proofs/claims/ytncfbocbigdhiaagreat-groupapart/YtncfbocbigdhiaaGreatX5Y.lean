/- GroupApart: whatever groups were appended, of another cache, joining, number or place none is found, nor a Commit whose payload is not there (the statement itself brings the segment among 8 to 64 sectors, takes at most ten groups, and brings their sectors among 1 to 9). No condition. -/
import Derived.Test.YtncfbocbigdhiaaGreatPY
import Derived.Test.YtncfbocbigdhiaaGreatXY
namespace Go.Proofs.YtncfbocbigdhiaaGreat.GroupApartP
open Go Go.ChangeShapes Go.WideShapes Go.ChangeAt Go.WideMaps Go.WideElems Go.RowKit PutsP
set_option maxRecDepth 100000 in
theorem lifted (os : Os) (started : os.Started) (H : Type) (enc : TypeId × Value → H) :
    ReturnsInHanded {} Tryz.checked os 5 .any (Rows.groupApartSpec.pre6 enc Tryz.prog Tryz.f5 Rows.groupApartRow.domain false) (Rows.groupApartSpec.post enc Tryz.prog Tryz.f5 false true false false) := by
  refine returnsInHanded_of_change (C := Tryz.checked) own started (by kernel_rfl) Tryz.func5
    (ChangeSpec.witness6 (enc := enc) (C := Tryz.checked) false ⟨#[], #[.int .i64 0, .slice none 0 0, .int .i64 0], []⟩ 12 (by kernel_rfl) (by kernel_rfl) (by kernel_rfl) (by kernel_rfl)) ?_
  intro W base args ds gs before hval0 hW hcnd _
  have hval : ∀ (j : Nat) t v, Tryz.f5.params[j]? = some t → args[j]? = some v → Value.okWide Tryz.prog W .any base t v := hval0
  have hW' := hW
  have hlt := hW.lt
  obtain ⟨p, q, hA0, hV, rfl, hfz, hnd⟩ := hW
  have hA : DataW.TrodAll enc Tryz.prog W 0 (fun _ => true) true Tryz.f5.params.toList args.toList ds p := hA0
  rw [Tryz.params5] at hA hval
  obtain ⟨v0, v1, v2, d0, d1, d2, p0, p1, p2, rfl, rfl, rfl, h0, h1, h2⟩ := trodAll_three hA
  obtain ⟨rfl, rfl⟩ := trodVars_none hV
  obtain ⟨a0, rfl, rfl, rfl, w0⟩ := open_int Tryz.underlying3 (hval 0 3 v0 rfl rfl) h0
  obtain ⟨ao, n, cap, rfl⟩ := okWide_slice Tryz.underlying22 (hval 1 22 v1 rfl rfl)
  obtain ⟨a2, rfl, rfl, rfl, w2⟩ := open_int Tryz.underlying3 (hval 2 3 v2 rfl rfl) h2
  clear hA0 hval0
  simp only [List.append_nil, List.nil_append] at hW' hlt
  obtain ⟨b, o, act, g1, g2, -, -, -⟩ := puts_open h1
  refine (U.apart_walk a0 ao n cap b o g1 (fun j => (act j).tx) (fun j => (act j).sz) a2 W (fun W' hb j hj => ?_) (fun W' hb j hj => ?_)).mono fun e W' ⟨he, hg⟩ => ?_
  · have h := g2 j hj 0 _ rfl
    have h' : W.cell? ⟨b, o + j * 6, none⟩ = some (.string (act j).tx) := by simpa using h
    exact (hb.cell (World.block_lt_of_cell? W _ h')).trans h'
  · have h' : W.cell? ⟨b, o + j * 6 + 1, none⟩ = some (.int .i64 (act j).sz) := g2 j hj 1 _ rfl
    exact (hb.cell (World.block_lt_of_cell? W _ h')).trans h'
  subst he
  exact ⟨_, rfl, _, _, _, [], _, [], hW', trodAll_mk1 (shut_bool Tryz.underlying4 _), trodAll_mk3 (shut_int Tryz.underlying3 w0) (hg.trod (by kernel_rfl) (by kernel_rfl) (of_decide_eq_true (by kernel_rfl)) h1 hlt) (shut_int Tryz.underlying3 w2), rfl, hg.frame _, fun h => by cases h⟩

theorem proved : Rows.GroupApartSaid :=
  OpenClaim.holds_of_wide 5 Tryz.f5 rfl rfl rfl rfl rfl rfl rfl ⟨rfl, rfl, rfl, rfl, rfl⟩ rfl rfl rfl rfl rfl (by kernel_rfl) Tryz.func5 (by kernel_rfl)
    (of_decide_eq_true (by kernel_rfl)) (by unfold Func.isWrapper; first | (rw [if_pos (by decide +kernel)]; kernel_rfl) | (rw [if_neg (by decide +kernel)]; exact ⟨rfl, rfl⟩))
    (fun os started H enc _ => lifted os started H enc)
#print axioms proved
end Go.Proofs.YtncfbocbigdhiaaGreat.GroupApartP
namespace Go.Proofs.YtncfbocbigdhiaaGreat
theorem groupApart_holds : Rows.GroupApartSaid := GroupApartP.proved
end Go.Proofs.YtncfbocbigdhiaaGreat
