/- That a table is the document's list, told by the statement's own look at it, as a call. -/
import Derived.Test.YtcgmngafodmfcaaDoorS
import Derived.Test.YtcgmngafodmfcaaDoorM
namespace Go.Proofs.YtcgmngafodmfcaaDoor
open Go.RowKit
def Srt (l : List Ent) : Prop := l.Pairwise fun a b => a.1.data.toList < b.1.data.toList
theorem ltK_eq (a b : ByteArray) : ltK a b = decide (a.data.toList < b.data.toList) := by
  unfold ltK
  rw [ByteArray.toList_eq, ByteArray.toList_eq]
  exact bytesLess_eq _ _
theorem Srt.wo {l : List Ent} (h : Srt l) (k : ByteArray) : Srt (wo l k) := List.Pairwise.filter _ h
theorem Srt.ins {l : List Ent} (h : Srt l) {k : ByteArray} (v : Int) (hk : ∀ p ∈ l, p.1 ≠ k) : Srt (ins l k v) := by
  induction l with
  | nil => exact List.pairwise_singleton _ _
  | cons p r ih =>
    unfold Srt at h
    rw [List.pairwise_cons] at h
    show Srt (if ltK k p.1 then (k, v) :: p :: r else p :: YtcgmngafodmfcaaDoor.ins r k v)
    rw [ltK_eq]
    by_cases c : k.data.toList < p.1.data.toList
    · rw [if_pos (decide_eq_true c)]
      refine List.pairwise_cons.2 ⟨fun q hq => ?_, List.pairwise_cons.2 h⟩
      rcases List.mem_cons.1 hq with e | e
      · rw [e]; exact c
      · exact List.lt_trans c (h.1 q e)
    · rw [if_neg (by rw [decide_eq_false c]; decide)]
      refine List.pairwise_cons.2 ⟨fun q hq => ?_, ih h.2 (fun q hq => hk q (List.mem_cons_of_mem _ hq))⟩
      rcases List.mem_cons.1 ((ins_perm r k v).mem_iff.1 hq) with e | e
      · rw [e]
        have hne : p.1 ≠ k := hk p (List.mem_cons_self ..)
        have h1 : p.1.data.toList ≤ k.data.toList := List.not_lt.1 c
        rcases Classical.em (p.1.data.toList < k.data.toList) with h2 | h2
        · exact h2
        · exfalso
          have h3 := List.le_antisymm h1 (List.not_lt.1 h2)
          refine hne ?_
          cases hp : p.1
          cases hq : k
          rw [hp, hq] at h3
          simpa using h3
      · exact h.1 q e
theorem kl_srt {l : List Ent} (h : Srt l) : kl l = l.map kb := by
  unfold kl
  refine List.mergeSort_of_pairwise ?_
  rw [List.pairwise_map]
  exact List.Pairwise.imp (fun {a b} hab => decide_eq_true (List.le_of_lt hab)) h
theorem kl_enc {l : List Ent} (h : Srt l) : (kl l).map encStr = l.map fun p => Value.string p.1 := by
  rw [kl_srt h, List.map_map]
  exact List.map_congr_left fun p _ => enc_kb p.1
theorem Tb.kz {w : World} {tb pb : Nat} {E : List Ent} (h : Tb w tb pb E) : ∀ p ∈ E, p.1.size ≤ 4096 := by
  obtain ⟨sd, n, L, h1, h2, h3, _⟩ := h.ex
  intro p hp
  obtain ⟨i, hi, e⟩ := mem_ents.1 (h3.mem_iff.2 hp)
  exact h1.kz i hi p e
def TV (tb g gK cap cK q : Nat) (l : List Ent) (p : Ent) (B : Nat) : Nat → Value → Prop
  | 0, v => v = .slice (some ⟨gK, 0, none⟩) l.length cK
  | 1, v => v = .int .i64 (q : Int)
  | 2, v => v = .pointer (some ⟨gK, q, none⟩)
  | 3, v => v = .string p.1
  | 4, v => v = .pointer (some ⟨B, 0, none⟩)
  | 5, v => v = .string p.1
  | 6, v => v = .bool false
  | 7, v => v = .bool false
  | 8, v => v = .bool true
  | 9, v => v = .bool false
  | 10, v => v = .bool false
  | 11, v => v = .bool false
  | 12, v => v = .int .i64 p.2
  | 13, v => v = .pointer (some ⟨B, 1, none⟩)
  | 14, v => v = .int .i64 p.2
  | 15, v => v = .bool false
  | 16, v => v = .bool false
  | 17, v => v = .bool false
  | 18, v => v = .pointer (some ⟨tb, 0, none⟩)
  | 19, v => v = .pointer (some ⟨B, 0, none⟩)
  | 20, v => v = .string p.1
  | 22, v => v = .slice (some ⟨g, 0, none⟩) l.length cap
  | 23, v => v = .int .i64 (l.length : Int)
  | 24, v => v = .int .i64 ((l.length : Int) + 1)
  | 25, v => v = .bool false
  | 26, v => v = .bool false
  | 21, v => ∃ s : Nat, v = .int .i64 ((s + 1 : Nat) : Int) ∧ s ≤ l.length
  | _, _ => True
set_option maxHeartbeats 4000000 in
set_option maxRecDepth 100000 in
theorem is_any (v : Value) (l : List Ent) (w : World) (b tb pb : Nat) (hT : Tb w tb pb l) (h : PIs w b v l) (hs : Srt l) (hl : l.length ≤ 1600) :
    Calls Tryd.prog 17 #[.pointer (some ⟨tb, 0, none⟩), v] w fun e w' => e = .returned (.bool true) ∧ Below w.heap.size w w' := by
  have hky := keys_any hT hl
  have HT : Hid (Tb w tb pb l) := hT
  have HP : Hid (PIs w b v l) := h
  have HEN : Hid _ := kl_enc hs
  clear hT h hs
  obtain ⟨ao, cap, rfl⟩ := own_slice HP.out
  go_enter Tryd.func17, Tryd.ntmps17
  go_wp2_with fail
  go_call hky as e w1 ⟨⟨gK, cK, rfl, hO⟩, hb1⟩
  have HB1 : Hid _ := hb1
  have HT1 : Hid _ := HT.out.below hb1
  have HKC : Hid (∀ q p, l[q]? = some p → w1.cell? ⟨gK, q, none⟩ = some (.string p.1) ∧ gK < w1.heap.size) := fun q p hq => by
    have hql : q < l.length := (List.getElem?_eq_some_iff.1 hq).1
    obtain ⟨s, h1, h2, h3⟩ := key_cells hO q hql
    rw [HEN.out, List.getElem?_map, hq] at h3
    have h9 := Option.some.inj h3
    injection h9 with h9
    rw [h9]
    exact ⟨h1, h2⟩
  have hln := tlen HT1.out
  clear hky hb1 hO
  go_wp2_with fail
  go_call hln as e w2 ⟨rfl, rfl⟩
  clear hln
  go_wp2
  rename_i K hK
  have HK : Hid _ := hK
  clear hK
  go_loopw [26] (fun x wr => ∃ q : Nat, x = .int .i64 (q : Nat) ∧ q ≤ l.length ∧ Hid (Below w2.heap.size w2 wr)) (fun x _ => l.length - (intOf x).toNat)
  case atStart => exact ⟨0, rfl, Nat.zero_le _, Below.refl _ _⟩
  case round =>
    obtain ⟨q, rfl, hq, hB⟩ := hrel
    rcases Nat.lt_or_ge q l.length with hql | hql
    · obtain ⟨_, g, rfl, hro, _⟩ := ((HP.out.below HB1.out).below hB.out).rng hql
      have hqp : l[q]? = some l[q] := List.getElem?_eq_getElem hql
      have hmem : l[q] ∈ l := List.getElem_mem _
      obtain ⟨p, hp⟩ : ∃ p, l[q] = p := ⟨_, rfl⟩
      rw [hp] at hro hqp hmem
      have HRO : Hid _ := hro
      have hpz := HT.out.kz p hmem
      have hkc := HKC.out q p hqp
      have HKG : Hid _ := hkc
      have HLK : Hid (lk l p.1 = some p.2) := lk_some HT.out.keys hmem
      have HBX : Hid (Below wr.heap.size wr (wr.alloc (.cells #[.string p.1, .int .i64 p.2] 57))) := (Below.refl _ _).alloc (Nat.le_refl _) _
      have HT3 : Hid _ := (HT1.out.below hB.out).below HBX.out
      have hgt := tget HT3.out p.1 hpz
      rw [HLK.out] at hgt
      have hbk := heap_new wr (.cells #[.string p.1, .int .i64 p.2] 57)
      have HBK : Hid _ := hbk
      clear hro hqp hmem hp hkc hbk
      go_wp2_with (refine ld57l rfl _ rfl rfl HRO.out ?k1)
      go_call hgt as e w5 ⟨rfl, hb5⟩
      have HB5 : Hid _ := hb5
      have HT5 : Hid _ := HT3.out.below hb5
      clear hgt hb5
      go_wp2_with fail
      have HGK : Hid (w5.cell? ⟨gK, q, none⟩ = some (.string p.1) ∧ gK < w5.heap.size) := by
        have h1 := hB.out.size
        have h2 := HBX.out.size
        have h3 := HB5.out.size
        have hg2 := HKG.out.2
        have hbb : Below w2.heap.size w2 w5 := hB.out.trans ((HBX.out.trans (HB5.out.mono h2)).mono h1)
        exact ⟨(hbb.cell (p := ⟨gK, q, none⟩) hg2).trans HKG.out.1, by omega⟩
      have HBK5 : Hid (w5.heap[wr.heap.size]? = some (.cells #[.string p.1, .int .i64 p.2] 57)) := (HB5.out.block _ (getElem?_lt HBK.out)).trans HBK.out
      refine O.wp_region_pb (fun f => ⟨#[.pointer (some ⟨tb, 0, none⟩), .slice (some ⟨g, 0, none⟩) l.length cap, undef, undef, u4, .slice (some ⟨gK, 0, none⟩) l.length cK, .int .i64 (q : Int), .pointer (some ⟨wr.heap.size, 0, none⟩), .int .i64 p.2, .bool true, .pointer (some ⟨tb, 0, none⟩), .slice (some ⟨gK, 0, none⟩) l.length cK, .pointer (some ⟨tb, 0, none⟩), .int .i64 (l.length : Int), .slice (some ⟨g, 0, none⟩) l.length cap, .int .i64 (l.length : Int), .bool false, .bool false, .slice (some ⟨gK, 0, none⟩) l.length cK, .int .i64 (l.length : Int), .slice (some ⟨g, 0, none⟩) l.length cap, .int .i64 (l.length : Int), .bool false, .bool false, .slice (some ⟨g, 0, none⟩) l.length cap, .int .i64 (l.length : Int), .int .i64 (q : Int), .bool true, .int .i64 (q : Int), .pointer (some ⟨g, q * 2, none⟩), .agg #[.string p.1, .int .i64 p.2], .tuple #[.int .i64 p.2, .bool true], .pointer (some ⟨tb, 0, none⟩), .pointer (some ⟨wr.heap.size, 0, none⟩), .string p.1, .tuple #[.int .i64 p.2, .bool true], .int .i64 p.2, .bool true, f 0, f 1, f 2, f 3, f 4, f 5, f 6, f 7, f 8, f 9, f 10, f 11, f 12, f 13, f 14, f 15, f 16, f 17, f 18, f 19, f 20, f 21, f 22, f 23, f 24, f 25, f 26, u65], []⟩) (TV tb g gK cap cK q l p wr.heap.size) (fun _ _ W => Below w5.heap.size w5 W) (fun i => [u38, u39, u40, u41, u42, u43, u44, u45, u46, u47, u48, u49, u50, u51, u52, u53, u54, u55, u56, u57, u58, u59, u60, u61, u62, u63, u64].getD i undef) (by kernel_rfl) rfl rfl ?hIq ?hputq ?stepq ?finq
      case hIq => exact (Below.refl _ _).drew
      case finq =>
        intro f W hP hV
        have v0 : f 0 = .slice (some ⟨gK, 0, none⟩) l.length cK := hV 0 (by decide)
        have v1 : f 1 = .int .i64 (q : Int) := hV 1 (by decide)
        have v2 : f 2 = .pointer (some ⟨gK, q, none⟩) := hV 2 (by decide)
        have v3 : f 3 = .string p.1 := hV 3 (by decide)
        have v4 : f 4 = .pointer (some ⟨wr.heap.size, 0, none⟩) := hV 4 (by decide)
        have v5 : f 5 = .string p.1 := hV 5 (by decide)
        have v6 : f 6 = .bool false := hV 6 (by decide)
        have v7 : f 7 = .bool false := hV 7 (by decide)
        have v8 : f 8 = .bool true := hV 8 (by decide)
        have v9 : f 9 = .bool false := hV 9 (by decide)
        have v10 : f 10 = .bool false := hV 10 (by decide)
        have v11 : f 11 = .bool false := hV 11 (by decide)
        have v12 : f 12 = .int .i64 p.2 := hV 12 (by decide)
        have v13 : f 13 = .pointer (some ⟨wr.heap.size, 1, none⟩) := hV 13 (by decide)
        have v14 : f 14 = .int .i64 p.2 := hV 14 (by decide)
        have v15 : f 15 = .bool false := hV 15 (by decide)
        have v16 : f 16 = .bool false := hV 16 (by decide)
        have v17 : f 17 = .bool false := hV 17 (by decide)
        have v18 : f 18 = .pointer (some ⟨tb, 0, none⟩) := hV 18 (by decide)
        have v19 : f 19 = .pointer (some ⟨wr.heap.size, 0, none⟩) := hV 19 (by decide)
        have v20 : f 20 = .string p.1 := hV 20 (by decide)
        have v22 : f 22 = .slice (some ⟨g, 0, none⟩) l.length cap := hV 22 (by decide)
        have v23 : f 23 = .int .i64 (l.length : Int) := hV 23 (by decide)
        have v24 : f 24 = .int .i64 ((l.length : Int) + 1) := hV 24 (by decide)
        have v25 : f 25 = .bool false := hV 25 (by decide)
        have v26 : f 26 = .bool false := hV 26 (by decide)
        clear hV
        have HB7 : Hid _ := hP
        clear hP
        generalize f 0 = z0 at *
        subst v0
        generalize f 1 = z1 at *
        subst v1
        generalize f 2 = z2 at *
        subst v2
        generalize f 3 = z3 at *
        subst v3
        generalize f 4 = z4 at *
        subst v4
        generalize f 5 = z5 at *
        subst v5
        generalize f 6 = z6 at *
        subst v6
        generalize f 7 = z7 at *
        subst v7
        generalize f 8 = z8 at *
        subst v8
        generalize f 9 = z9 at *
        subst v9
        generalize f 10 = z10 at *
        subst v10
        generalize f 11 = z11 at *
        subst v11
        generalize f 12 = z12 at *
        subst v12
        generalize f 13 = z13 at *
        subst v13
        generalize f 14 = z14 at *
        subst v14
        generalize f 15 = z15 at *
        subst v15
        generalize f 16 = z16 at *
        subst v16
        generalize f 17 = z17 at *
        subst v17
        generalize f 18 = z18 at *
        subst v18
        generalize f 19 = z19 at *
        subst v19
        generalize f 20 = z20 at *
        subst v20
        generalize f 22 = z22 at *
        subst v22
        generalize f 23 = z23 at *
        subst v23
        generalize f 24 = z24 at *
        subst v24
        generalize f 25 = z25 at *
        subst v25
        generalize f 26 = z26 at *
        subst v26
        go_wp2
        go_roundw
        case rel => exact ⟨q + 1, by go_num, by omega, hB.out.trans ((HBX.out.trans ((HB5.out.trans (HB7.out.mono HB5.out.size)).mono HBX.out.size)).mono hB.out.size)⟩
        case measure => simp only [intOf]; omega
      case hputq =>
        repeat (refine ⟨fun f v => rfl, ?_⟩)
        trivial
      case stepq =>
        refine ⟨?_, ?_⟩
        · intro done f W hP hdn hd K hK
          clear hd
          go_simp
          exact hK _ _ rfl hP
        refine ⟨?_, ?_⟩
        · intro done f W hP hdn hd K hK
          clear hd
          go_simp
          exact hK _ _ rfl hP
        refine ⟨?_, ?_⟩
        · intro done f W hP hdn hd K hK
          have d0 := (hd.1 rfl).2
          have e0 : done 0 = true := (hd.1 rfl).1
          have d1 := (hd.2.1 rfl).2
          have e1 : done 1 = true := (hd.2.1 rfl).1
          clear hd
          replace d0 : f 0 = .slice (some ⟨gK, 0, none⟩) l.length cK := d0
          replace d1 : f 1 = .int .i64 (q : Int) := d1
          generalize f 0 = x0 at *
          subst d0
          clear e0
          generalize f 1 = x1 at *
          subst d1
          clear e1
          have q1 := hql
          go_simp
          exact hK _ _ rfl hP
        refine ⟨?_, ?_⟩
        · intro done f W hP hdn hd K hK
          have d2 := (hd.1 rfl).2
          have e2 : done 2 = true := (hd.1 rfl).1
          clear hd
          replace d2 : f 2 = .pointer (some ⟨gK, q, none⟩) := d2
          generalize f 2 = x2 at *
          subst d2
          clear e2
          have q1 := (hP.cell (p := ⟨gK, q, none⟩) HGK.out.2).trans HGK.out.1
          go_simp
          exact hK _ _ rfl hP
        refine ⟨?_, ?_⟩
        · intro done f W hP hdn hd K hK
          clear hd
          go_simp
          exact hK _ _ rfl hP
        refine ⟨?_, ?_⟩
        · intro done f W hP hdn hd K hK
          have d4 := (hd.1 rfl).2
          have e4 : done 4 = true := (hd.1 rfl).1
          clear hd
          replace d4 : f 4 = .pointer (some ⟨wr.heap.size, 0, none⟩) := d4
          generalize f 4 = x4 at *
          subst d4
          clear e4
          have q := cell_of ((hP.block _ (getElem?_lt HBK5.out)).trans HBK5.out) 0
          simp at q
          go_simp
          exact hK _ _ rfl hP
        refine ⟨?_, ?_⟩
        · intro done f W hP hdn hd K hK
          have d3 := (hd.1 rfl).2
          have e3 : done 3 = true := (hd.1 rfl).1
          have d5 := (hd.2.1 rfl).2
          have e5 : done 5 = true := (hd.2.1 rfl).1
          clear hd
          replace d3 : f 3 = .string p.1 := d3
          replace d5 : f 5 = .string p.1 := d5
          generalize f 3 = x3 at *
          subst d3
          clear e3
          generalize f 5 = x5 at *
          subst d5
          clear e5
          have q1 : (p.1.toList == p.1.toList) = true := beq_self_eq_true _
          go_simp
          exact hK _ _ rfl hP
        refine ⟨?_, ?_⟩
        · intro done f W hP hdn hd K hK
          have d6 := (hd.1 rfl).2
          have e6 : done 6 = true := (hd.1 rfl).1
          clear hd
          replace d6 : f 6 = .bool false := d6
          generalize f 6 = x6 at *
          subst d6
          clear e6
          go_simp
          exact hK _ _ rfl hP
        refine ⟨?_, ?_⟩
        · intro done f W hP hdn hd K hK
          have d7 := (hd.1 rfl).2
          have e7 : done 7 = true := (hd.1 rfl).1
          clear hd
          replace d7 : f 7 = .bool false := d7
          generalize f 7 = x7 at *
          subst d7
          clear e7
          go_simp
          exact hK _ _ rfl hP
        refine ⟨?_, ?_⟩
        · intro done f W hP hdn hd K hK
          have d8 := (hd.1 rfl).2
          have e8 : done 8 = true := (hd.1 rfl).1
          have d7 := (hd.2.1 rfl).2
          have e7 : done 7 = true := (hd.2.1 rfl).1
          clear hd
          replace d8 : f 8 = .bool true := d8
          replace d7 : f 7 = .bool false := d7
          generalize f 8 = x8 at *
          subst d8
          clear e8
          generalize f 7 = x7 at *
          subst d7
          clear e7
          go_simp
          exact hK _ _ rfl hP
        refine ⟨?_, ?_⟩
        · intro done f W hP hdn hd K hK
          have d7 := (hd.1 rfl).2
          have e7 : done 7 = true := (hd.1 rfl).1
          have d9 := (hd.2.1 rfl).2
          have e9 : done 9 = true := (hd.2.1 rfl).1
          clear hd
          replace d7 : f 7 = .bool false := d7
          replace d9 : f 9 = .bool false := d9
          generalize f 7 = x7 at *
          subst d7
          clear e7
          generalize f 9 = x9 at *
          subst d9
          clear e9
          go_simp
          exact hK _ _ rfl hP
        refine ⟨?_, ?_⟩
        · intro done f W hP hdn hd K hK
          have d10 := (hd.1 rfl).2
          have e10 : done 10 = true := (hd.1 rfl).1
          clear hd
          replace d10 : f 10 = .bool false := d10
          generalize f 10 = x10 at *
          subst d10
          clear e10
          go_simp
          exact hK _ _ rfl hP
        refine ⟨?_, ?_⟩
        · intro done f W hP hdn hd K hK
          have d11 := (hd.1 rfl).2
          have e11 : done 11 = true := (hd.1 rfl).1
          clear hd
          replace d11 : f 11 = .bool false := d11
          generalize f 11 = x11 at *
          subst d11
          clear e11
          go_simp
          exact hK _ _ rfl hP
        refine ⟨?_, ?_⟩
        · intro done f W hP hdn hd K hK
          have d11 := (hd.1 rfl).2
          have e11 : done 11 = true := (hd.1 rfl).1
          clear hd
          replace d11 : f 11 = .bool false := d11
          generalize f 11 = x11 at *
          subst d11
          clear e11
          go_simp
          exact hK _ _ rfl hP
        refine ⟨?_, ?_⟩
        · intro done f W hP hdn hd K hK
          have d13 := (hd.1 rfl).2
          have e13 : done 13 = true := (hd.1 rfl).1
          have d11 := (hd.2.1 rfl).2
          have e11 : done 11 = true := (hd.2.1 rfl).1
          clear hd
          replace d13 : f 13 = .pointer (some ⟨wr.heap.size, 1, none⟩) := d13
          replace d11 : f 11 = .bool false := d11
          generalize f 13 = x13 at *
          subst d13
          clear e13
          generalize f 11 = x11 at *
          subst d11
          clear e11
          have q := cell_of ((hP.block _ (getElem?_lt HBK5.out)).trans HBK5.out) 1
          simp at q
          go_simp
          exact hK _ _ rfl hP
        refine ⟨?_, ?_⟩
        · intro done f W hP hdn hd K hK
          have d12 := (hd.1 rfl).2
          have e12 : done 12 = true := (hd.1 rfl).1
          have d14 := (hd.2.1 rfl).2
          have e14 : done 14 = true := (hd.2.1 rfl).1
          have d11 := (hd.2.2.1 rfl).2
          have e11 : done 11 = true := (hd.2.2.1 rfl).1
          clear hd
          replace d12 : f 12 = .int .i64 p.2 := d12
          replace d14 : f 14 = .int .i64 p.2 := d14
          replace d11 : f 11 = .bool false := d11
          generalize f 12 = x12 at *
          subst d12
          clear e12
          generalize f 14 = x14 at *
          subst d14
          clear e14
          generalize f 11 = x11 at *
          subst d11
          clear e11
          have q1 : (p.2 == p.2) = true := beq_self_eq_true _
          go_simp
          exact hK _ _ rfl hP
        refine ⟨?_, ?_⟩
        · intro done f W hP hdn hd K hK
          have d11 := (hd.1 rfl).2
          have e11 : done 11 = true := (hd.1 rfl).1
          have d15 := (hd.2.1 rfl).2
          have e15 : done 15 = true := (hd.2.1 rfl).1
          clear hd
          replace d11 : f 11 = .bool false := d11
          replace d15 : f 15 = .bool false := d15
          generalize f 11 = x11 at *
          subst d11
          clear e11
          generalize f 15 = x15 at *
          subst d15
          clear e15
          go_simp
          exact hK _ _ rfl hP
        refine ⟨?_, ?_⟩
        · intro done f W hP hdn hd K hK
          have d16 := (hd.1 rfl).2
          have e16 : done 16 = true := (hd.1 rfl).1
          clear hd
          replace d16 : f 16 = .bool false := d16
          generalize f 16 = x16 at *
          subst d16
          clear e16
          go_simp
          exact hK _ _ rfl hP
        refine ⟨?_, ?_⟩
        · intro done f W hP hdn hd K hK
          have d17 := (hd.1 rfl).2
          have e17 : done 17 = true := (hd.1 rfl).1
          clear hd
          replace d17 : f 17 = .bool false := d17
          generalize f 17 = x17 at *
          subst d17
          clear e17
          go_simp
          exact hK _ _ rfl hP
        refine ⟨?_, ?_⟩
        · intro done f W hP hdn hd K hK
          have d17 := (hd.1 rfl).2
          have e17 : done 17 = true := (hd.1 rfl).1
          clear hd
          replace d17 : f 17 = .bool false := d17
          generalize f 17 = x17 at *
          subst d17
          clear e17
          go_simp
          exact hK _ _ rfl hP
        refine ⟨?_, ?_⟩
        · intro done f W hP hdn hd K hK
          have d19 := (hd.1 rfl).2
          have e19 : done 19 = true := (hd.1 rfl).1
          have d17 := (hd.2.1 rfl).2
          have e17 : done 17 = true := (hd.2.1 rfl).1
          clear hd
          replace d19 : f 19 = .pointer (some ⟨wr.heap.size, 0, none⟩) := d19
          replace d17 : f 17 = .bool false := d17
          generalize f 19 = x19 at *
          subst d19
          clear e19
          generalize f 17 = x17 at *
          subst d17
          clear e17
          have q := cell_of ((hP.block _ (getElem?_lt HBK5.out)).trans HBK5.out) 0
          simp at q
          go_simp
          exact hK _ _ rfl hP
        refine ⟨?_, ?_⟩
        · intro done f W hP hdn hd K hK
          have d18 := (hd.1 rfl).2
          have e18 : done 18 = true := (hd.1 rfl).1
          have d20 := (hd.2.1 rfl).2
          have e20 : done 20 = true := (hd.2.1 rfl).1
          have d17 := (hd.2.2.2.1 rfl).2
          have e17 : done 17 = true := (hd.2.2.2.1 rfl).1
          clear hd
          replace d18 : f 18 = .pointer (some ⟨tb, 0, none⟩) := d18
          replace d20 : f 20 = .string p.1 := d20
          replace d17 : f 17 = .bool false := d17
          generalize f 18 = x18 at *
          subst d18
          clear e18
          generalize f 20 = x20 at *
          subst d20
          clear e20
          generalize f 17 = x17 at *
          subst d17
          clear e17
          have hst := tsteps (HT5.out.below hP) p.1 hpz
          go_simp
          refine hst.mono ?_
          rintro e W' ⟨⟨s, rfl, hs⟩, hb⟩
          exact hK _ _ ⟨s, rfl, hs⟩ (hP.trans (hb.mono hP.size))
        refine ⟨?_, ?_⟩
        · intro done f W hP hdn hd K hK
          have d17 := (hd.1 rfl).2
          have e17 : done 17 = true := (hd.1 rfl).1
          clear hd
          replace d17 : f 17 = .bool false := d17
          generalize f 17 = x17 at *
          subst d17
          clear e17
          go_simp
          exact hK _ _ rfl hP
        refine ⟨?_, ?_⟩
        · intro done f W hP hdn hd K hK
          have d22 := (hd.1 rfl).2
          have e22 : done 22 = true := (hd.1 rfl).1
          have d17 := (hd.2.1 rfl).2
          have e17 : done 17 = true := (hd.2.1 rfl).1
          clear hd
          replace d22 : f 22 = .slice (some ⟨g, 0, none⟩) l.length cap := d22
          replace d17 : f 17 = .bool false := d17
          generalize f 22 = x22 at *
          subst d22
          clear e22
          generalize f 17 = x17 at *
          subst d17
          clear e17
          go_simp
          exact hK _ _ rfl hP
        refine ⟨?_, ?_⟩
        · intro done f W hP hdn hd K hK
          have d23 := (hd.1 rfl).2
          have e23 : done 23 = true := (hd.1 rfl).1
          have d17 := (hd.2.1 rfl).2
          have e17 : done 17 = true := (hd.2.1 rfl).1
          clear hd
          replace d23 : f 23 = .int .i64 (l.length : Int) := d23
          replace d17 : f 17 = .bool false := d17
          generalize f 23 = x23 at *
          subst d23
          clear e23
          generalize f 17 = x17 at *
          subst d17
          clear e17
          have q1 : IntKind.i64.wrap ((l.length : Int) + 1) = (l.length : Int) + 1 := by rw [IntKind.wrap_i64]; omega
          go_simp
          exact hK _ _ rfl hP
        refine ⟨?_, ?_⟩
        · intro done f W hP hdn hd K hK
          have d21 := (hd.1 rfl).2
          have e21 : done 21 = true := (hd.1 rfl).1
          have d24 := (hd.2.1 rfl).2
          have e24 : done 24 = true := (hd.2.1 rfl).1
          have d17 := (hd.2.2.1 rfl).2
          have e17 : done 17 = true := (hd.2.2.1 rfl).1
          clear hd
          replace d24 : f 24 = .int .i64 ((l.length : Int) + 1) := d24
          replace d17 : f 17 = .bool false := d17
          generalize f 24 = x24 at *
          subst d24
          clear e24
          generalize f 17 = x17 at *
          subst d17
          clear e17
          obtain ⟨s, hs1, hs2⟩ := d21
          clear e21
          generalize f 21 = z21 at *
          subst hs1
          have q1 : ¬ ((l.length : Int) + 1 < ((s + 1 : Nat) : Int)) := by omega
          have q2 : ¬ ((l.length : Int) < (s : Int)) := by omega
          have q3 : ¬ (l.length < s) := by omega
          go_simp
          exact hK _ _ rfl hP
        refine ⟨?_, ?_⟩
        · intro done f W hP hdn hd K hK
          have d17 := (hd.1 rfl).2
          have e17 : done 17 = true := (hd.1 rfl).1
          have d25 := (hd.2.1 rfl).2
          have e25 : done 25 = true := (hd.2.1 rfl).1
          clear hd
          replace d17 : f 17 = .bool false := d17
          replace d25 : f 25 = .bool false := d25
          generalize f 17 = x17 at *
          subst d17
          clear e17
          generalize f 25 = x25 at *
          subst d25
          clear e25
          go_simp
          exact hK _ _ rfl hP
        trivial
    · obtain rfl : q = l.length := by omega
      go_wp2
      refine HK.out _ _ ?_
      clear HK
      go_wp2
      go_returns
      exact ⟨rfl, HB1.out.trans (hB.out.mono HB1.out.size)⟩
end Go.Proofs.YtcgmngafodmfcaaDoor
