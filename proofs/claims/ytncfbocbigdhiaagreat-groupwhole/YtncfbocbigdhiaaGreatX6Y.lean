/- GroupWhole: however often an Append is broken off, and whatever stays behind a crash, all groups whose Append ended are found, and at most the one that was broken off last, as it was written (the statement itself brings the segment among 8 to 64 sectors, takes at most twenty groups, and brings their sectors among 1 to 9). No condition. -/
import Derived.Test.YtncfbocbigdhiaaGreatWY
import Derived.Test.YtncfbocbigdhiaaGreatXY
namespace Go.Proofs.YtncfbocbigdhiaaGreat.GroupWholeP
open Go Go.ChangeShapes Go.WideShapes Go.ChangeAt Go.WideMaps Go.WideElems Go.RowKit PutsP
set_option maxRecDepth 100000 in
theorem lifted (os : Os) (started : os.Started) (H : Type) (enc : TypeId × Value → H) :
    ReturnsInHanded {} Tryz.checked os 4 .any (Rows.groupWholeSpec.pre6 enc Tryz.prog Tryz.f4 Rows.groupWholeRow.domain false) (Rows.groupWholeSpec.post enc Tryz.prog Tryz.f4 false true false false) := by
  refine returnsInHanded_of_change (C := Tryz.checked) own started (by kernel_rfl) Tryz.func4
    (ChangeSpec.witness6 (enc := enc) (C := Tryz.checked) false ⟨#[], #[.int .i64 0, .slice none 0 0], []⟩ 12 (by kernel_rfl) (by kernel_rfl) (by kernel_rfl) (by kernel_rfl)) ?_
  intro W base args ds gs before hval0 hW hcnd _
  have hval : ∀ (j : Nat) t v, Tryz.f4.params[j]? = some t → args[j]? = some v → Value.okWide Tryz.prog W .any base t v := hval0
  have hW' := hW
  have hlt := hW.lt
  obtain ⟨p, q, hA0, hV, rfl, hfz, hnd⟩ := hW
  have hA : DataW.TrodAll enc Tryz.prog W 0 (fun _ => true) true Tryz.f4.params.toList args.toList ds p := hA0
  rw [Tryz.params4] at hA hval
  obtain ⟨v0, v1, d0, d1, p0, p1, rfl, rfl, rfl, h0, h1⟩ := trodAll_two hA
  obtain ⟨rfl, rfl⟩ := trodVars_none hV
  obtain ⟨a0, rfl, rfl, rfl, w0⟩ := open_int Tryz.underlying3 (hval 0 3 v0 rfl rfl) h0
  obtain ⟨ao, n, cap, rfl⟩ := okWide_slice Tryz.underlying22 (hval 1 22 v1 rfl rfl)
  clear hA0 hval0
  simp only [List.append_nil, List.nil_append] at hW' hlt
  obtain ⟨b, o, act, g1, g2, g3, -, -⟩ := puts_open h1
  refine (U.whole_walk a0 ao n cap b o g1 act W (fun W' hb j hj => ?_)).mono fun e W' ⟨he, hg⟩ => ?_
  · have cl : ∀ a v, W.cell? a = some v → W'.cell? a = some v := fun a v q => (hb.cell (World.block_lt_of_cell? W _ q)).trans q
    have h0 : W.cell? ⟨b, o + j * 6, none⟩ = some (.string (act j).tx) := by simpa using g2 j hj 0 _ rfl
    have h1 : W.cell? ⟨b, o + j * 6 + 1, none⟩ = some (.int .i64 (act j).sz) := g2 j hj 1 _ rfl
    have h2 : W.cell? ⟨b, o + j * 6 + 2, none⟩ = some (.int .i64 (act j).af) := g2 j hj 2 _ rfl
    have h3 : W.cell? ⟨b, o + j * 6 + 3, none⟩ = some (.bool (act j).dn) := g2 j hj 3 _ rfl
    have h4 : W.cell? ⟨b, o + j * 6 + 4, none⟩ = some (.bool (act j).dd) := g2 j hj 4 _ rfl
    have h5 : W.cell? ⟨b, o + j * 6 + 5, none⟩ = some (.slice (act j).ca (act j).cn (act j).cc) := g2 j hj 5 _ rfl
    obtain ⟨k1, k2, k3, k4⟩ := g3 j hj
    exact ⟨cl _ _ h0, cl _ _ h1, cl _ _ h2, cl _ _ h3, cl _ _ h4, cl _ _ h5, ⟨k1, k2, k3, fun i hi => cl _ _ (k4 i hi)⟩⟩
  subst he
  exact ⟨_, rfl, _, _, _, [], _, [], hW', trodAll_mk1 (shut_bool Tryz.underlying4 _), trodAll_mk2 (shut_int Tryz.underlying3 w0) (hg.trod (by kernel_rfl) (by kernel_rfl) (of_decide_eq_true (by kernel_rfl)) h1 hlt), rfl, hg.frame _, fun h => by cases h⟩

theorem proved : Rows.GroupWholeSaid :=
  OpenClaim.holds_of_wide 4 Tryz.f4 rfl rfl rfl rfl rfl rfl rfl ⟨rfl, rfl, rfl, rfl, rfl⟩ rfl rfl rfl rfl rfl (by kernel_rfl) Tryz.func4 (by kernel_rfl)
    (of_decide_eq_true (by kernel_rfl)) (by unfold Func.isWrapper; first | (rw [if_pos (by decide +kernel)]; kernel_rfl) | (rw [if_neg (by decide +kernel)]; exact ⟨rfl, rfl⟩))
    (fun os started H enc _ => lifted os started H enc)
#print axioms proved
end Go.Proofs.YtncfbocbigdhiaaGreat.GroupWholeP
namespace Go.Proofs.YtncfbocbigdhiaaGreat
theorem groupWhole_holds : Rows.GroupWholeSaid := GroupWholeP.proved
end Go.Proofs.YtncfbocbigdhiaaGreat
