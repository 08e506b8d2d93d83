/- SeglogPlays: behind any calls and any crashes a log is what the document says, and opened anew it has the groups of its live segments, in order (the statement itself brings the segments among 2 to 6, their sectors among 8 to 20, an Append's sectors among 1 to 9, and takes at most sixty acts). No condition. -/
import Derived.Test.YtncfbocbigdhiaaGreatRows
import Derived.Test.YtncfbocbigdhiaaGreatQNG
namespace Go.Proofs.YtncfbocbigdhiaaGreat.SeglogPlaysP
open Go Go.ChangeShapes Go.WideShapes Go.ChangeAt Go.WideMaps Go.WideElems Go.RowKit ActsP
set_option maxRecDepth 100000 in
theorem lifted (os:Os) (started:os.Started) (H:Type) (enc:TypeId × Value → H) :
    ReturnsInHanded {} Tryz.checked os 8 .any (Rows.seglogPlaysSpec.pre6 enc Tryz.prog Tryz.f8 Rows.seglogPlaysRow.domain false) (Rows.seglogPlaysSpec.post enc Tryz.prog Tryz.f8 false true false false):=by
  refine returnsInHanded_of_change (C:=Tryz.checked) own started (by kernel_rfl) Tryz.func8
    (ChangeSpec.witness6 (enc:=enc) (C:=Tryz.checked) false ⟨#[],#[.int .i64 0,.int .i64 0,.slice none 0 0],[]⟩ 12 (by kernel_rfl) (by kernel_rfl) (by kernel_rfl) (by kernel_rfl)) ?_
  intro W base args ds gs before hval0 hW hcnd _
  have hval:∀ (j:Nat) t v,Tryz.f8.params[j]? = some t → args[j]? = some v → Value.okWide Tryz.prog W .any base t v:=hval0
  have hW':=hW
  have hlt:=hW.lt
  obtain ⟨p,q,hA0,hV,rfl,hfz,hnd⟩:=hW
  have hA:DataW.TrodAll enc Tryz.prog W 0 (fun _=>true) true Tryz.f8.params.toList args.toList ds p:=hA0
  rw [Tryz.params8] at hA hval
  obtain ⟨v0,v1,v2,d0,d1,d2,p0,p1,p2,rfl,rfl,rfl,h0,h1,h2⟩:=trodAll_three hA
  obtain ⟨rfl,rfl⟩:=trodVars_none hV
  obtain ⟨a0,rfl,rfl,rfl,w0⟩:=open_int Tryz.underlying3 (hval 0 3 v0 rfl rfl) h0
  obtain ⟨a1,rfl,rfl,rfl,w1⟩:=open_int Tryz.underlying3 (hval 1 3 v1 rfl rfl) h1
  obtain ⟨ao,n,cap,rfl⟩:=okWide_slice Tryz.underlying61 (hval 2 61 v2 rfl rfl)
  clear hA0 hval0
  simp only [List.append_nil,List.nil_append] at hW' hlt
  obtain ⟨b,o,act,g1,g2,g3,-,-⟩:=acts_open h2
  refine (U.plays_walk a0 a1 ao n cap b o g1 (fun j=>⟨(act j).ak,(act j).an,(act j).tx,(act j).af,(act j).dn,(act j).dd,(act j).ca,(act j).cn,(act j).cc⟩) W (fun W' hb j hj=>?_)).mono fun e W' ⟨he,hg⟩=>?_
  · have cl:∀ a v,W.cell? a = some v → W'.cell? a = some v:=fun a v q=>(hb.cell (World.block_lt_of_cell? W _ q)).trans q
    have h0:W.cell? ⟨b,o + j * 7,none⟩ = some (.int .i64 (act j).ak):=by simpa using g2 j hj 0 _ rfl
    have h1:W.cell? ⟨b,o + j * 7 + 1,none⟩ = some (.int .i64 (act j).an):=g2 j hj 1 _ rfl
    have h2:W.cell? ⟨b,o + j * 7 + 2,none⟩ = some (.string (act j).tx):=g2 j hj 2 _ rfl
    have h3:W.cell? ⟨b,o + j * 7 + 3,none⟩ = some (.int .i64 (act j).af):=g2 j hj 3 _ rfl
    have h4:W.cell? ⟨b,o + j * 7 + 4,none⟩ = some (.bool (act j).dn):=g2 j hj 4 _ rfl
    have h5:W.cell? ⟨b,o + j * 7 + 5,none⟩ = some (.bool (act j).dd):=g2 j hj 5 _ rfl
    have h6:W.cell? ⟨b,o + j * 7 + 6,none⟩ = some (.slice (act j).ca (act j).cn (act j).cc):=g2 j hj 6 _ rfl
    exact ⟨cl _ _ h0,cl _ _ h1,cl _ _ h2,cl _ _ h3,cl _ _ h4,cl _ _ h5,cl _ _ h6⟩
  subst he
  exact ⟨_,rfl,_,_,_,[],_,[],hW',trodAll_mk1 (shut_bool Tryz.underlying4 _),trodAll_mk3 (shut_int Tryz.underlying3 w0) (shut_int Tryz.underlying3 w1) (hg.trod (by kernel_rfl) (by kernel_rfl) (of_decide_eq_true (by kernel_rfl)) h2 hlt),rfl,hg.frame _,fun h=>by cases h⟩
theorem proved:Rows.SeglogPlaysSaid:=
  OpenClaim.holds_of_wide 8 Tryz.f8 rfl rfl rfl rfl rfl rfl rfl ⟨rfl,rfl,rfl,rfl,rfl⟩ rfl rfl rfl rfl rfl (by kernel_rfl) Tryz.func8 (by kernel_rfl)
    (of_decide_eq_true (by kernel_rfl)) (by unfold Func.isWrapper; first | (rw [if_pos (by decide +kernel)]; kernel_rfl) | (rw [if_neg (by decide +kernel)]; exact ⟨rfl,rfl⟩))
    (fun os started H enc _=>lifted os started H enc)
#print axioms proved
end Go.Proofs.YtncfbocbigdhiaaGreat.SeglogPlaysP
namespace Go.Proofs.YtncfbocbigdhiaaGreat
theorem seglogPlays_holds:Rows.SeglogPlaysSaid:=SeglogPlaysP.proved
end Go.Proofs.YtncfbocbigdhiaaGreat
