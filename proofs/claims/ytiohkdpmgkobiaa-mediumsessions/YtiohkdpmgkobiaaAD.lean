/- settle, of any number of loose sectors and any choices, as a call. -/
import Derived.Test.YtiohkdpmgkobiaaAC
namespace Go.Proofs.Ytiohkdpmgkobiaa
open Go.RowKit
/-- What choices are left behind k of them. -/
def ChL (K o N : Nat) (k : Nat) (c : Value) : Prop := ∃ ao cp, c = .slice ao (N - k) cp ∧ N - k ≤ cp ∧ cp ≤ 9223372036854775807 ∧ (0 < N - k → ao = some ⟨K, o + k, none⟩)
section
variable {b0 : Nat} {w0 : World} {L : Loc} {st : St} {lv : Value} {oth : List (Nat × Obj)} {w : World}
set_option maxHeartbeats 2000000 in
set_option maxRecDepth 100000 in
theorem One.settle_any (h : One b0 w0 L st lv oth w) (ats : Nat → Nat) (hl : LIs st ats) (hs : st.secs.size = st.n * 64) (hn : st.n ≤ 1000000) (K o N : Nat) (c : Value) (ch : Nat → Int) (hc : ChL K o N 0 c)
    (hch : ∀ W st' lv', One b0 w0 L st' lv' oth W → ∀ j, j < N → W.cell? ⟨K, o + j, none⟩ = some (.int .i64 (ch j))) :
    Calls Try.prog 74 #[.pointer (some ⟨L.D, 0, none⟩), c] w fun e w' => ∃ c', e = .returned c' ∧ ChL K o N st.ln c' ∧ One b0 w0 L { st with secs := secsK st ats N ch st.ln, ln := 0, loose := [] } (.slice none 0 0) oth w' := by
  obtain ⟨al, cl, rfl⟩ := h.lslice
  have HAL : Hid (0 < st.ln → ∃ g, al = some ⟨g, 0, none⟩) := fun h0 => by
    rcases h.own.2 with ⟨_, h1⟩ | ⟨g', cap', cur, h1, _⟩
    · omega
    · injection h1 with h1 _ _; exact ⟨g', h1⟩
  have d4 := h.dc.2.2.2.2.1
  have H0 : Hid (One b0 w0 L { st with secs := secsK st ats N ch 0 } (.slice al st.ln cl) oth w) := h
  have HL : Hid _ := hl
  have HCH : Hid _ := hch
  have hfew := hl.few
  have HSZ : Hid (st.secs.size = st.n * 64) := hs
  clear h hl hch hs
  have HC0 : Hid _ := hc
  obtain ⟨ao0, cp0, rfl, _⟩ := hc
  go_enter Try.func74, Try.ntmps74
  go_wp2
  go_loopw [1, 13] (fun c i wr => ∃ k : Nat, k ≤ st.ln ∧ i = .int .i64 (k : Nat) ∧ Hid (ChL K o N k c) ∧ Hid (One b0 w0 L { st with secs := secsK st ats N ch k } (.slice al st.ln cl) oth wr)) (fun _ i _ => st.ln - (intOf i).toNat)
  case atStart => exact ⟨0, by omega, rfl, HC0, H0⟩
  case round =>
    obtain ⟨k, hk, rfl, HC, HO⟩ := hrel
    clear H0 HC0 d4
    rcases Nat.lt_or_ge k st.ln with hkn | hge
    · obtain ⟨g, rfl⟩ := HAL.out (by omega)
      have hr := One.lrange (st := { st with secs := secsK st ats N ch k }) HO.out ⟨HL.out.len, HL.out.few, HL.out.at0, HL.out.lt, HL.out.one⟩ rfl k hkn
      replace hr : wr.rangeAt g (k * 65) (lent st k) := hr
      have hlen := lent_length HL.out k hkn
      have hl65 : (Try.prog.info? 149).map (·.size) = some (lent st k).length := by rw [size149, hlen]
      have hsA : (Try.prog.info? 149).map (·.size) = some (lent st k).toArray.size := by rw [size149]; simp [hlen]
      have h1c : (lent st k).toArray.all (·.oneCell') = true := all_oneCell_toArray (lent_one HL.out k)
      have hzs : Try.zeroCells149.size = 65 := by kernel_rfl
      have hth : (wr.alloc (.cells Try.zeroCells149 149)).there wr.heap.size 0 (lent st k).toArray.size := by
        intro j hj
        have hj2 : j < 65 := by simpa [hlen] using hj
        rw [Nat.zero_add, cell_of (heap_new _ _), frz_of (heap_new _ _)]
        refine ⟨?_, rfl⟩
        rw [Array.getElem?_eq_getElem (by rw [hzs]; exact hj2)]; rfl
      have hbA : Below wr.heap.size wr ((wr.alloc (.cells Try.zeroCells149 149)).setCells wr.heap.size 0 (lent st k)) := by
        have h1 : Below wr.heap.size wr (wr.alloc (.cells Try.zeroCells149 149)) := Below.alloc (Below.refl _ _) (Nat.le_refl _) _
        exact h1.trans (setCells_below _ _ _ _)
      have HS2 : Hid (One b0 w0 L { st with secs := secsK st ats N ch k } (.slice (some ⟨g, 0, none⟩) st.ln cl) oth ((wr.alloc (.cells Try.zeroCells149 149)).setCells wr.heap.size 0 (lent st k)) ∧ ((wr.alloc (.cells Try.zeroCells149 149)).setCells wr.heap.size 0 (lent st k)).rangeAt wr.heap.size 0 (lent st k) ∧ wr.heap.size ≠ L.S) := by
        refine ⟨HO.out.ofBelow hbA, fun j v hj => ?_, by have := getElem?_lt HO.out.sec; omega⟩
        have hj2 : j < (lent st k).length := (List.getElem?_eq_some_iff.1 hj).1
        have := World.cell?_setCells_in wr.heap.size (lent st k) 0 (wr.alloc (.cells Try.zeroCells149 149)) (fun t ht => by have := (hth t (by simpa using ht)).1; simpa using this) j hj2
        rw [this]
        rw [← hj]; simp [hj2]
      clear hbA
      have HST : Hid (∀ {ops : Array Oper} {rest : List Oper} {op : Oper} {a : Act} {Q : Exit → Act → World → Prop} (x y : Operand), op.guard = none → op.op = .store 149 x y → a.eval x = .pointer (some ⟨wr.heap.size, 0, none⟩) → a.eval y = .agg (lent st k).toArray → wpList Try.prog ops Q rest (a.put op.dst undef) ((wr.alloc (.cells Try.zeroCells149 149)).setCells wr.heap.size 0 (lent st k)) → wpList Try.prog ops Q (op :: rest) a (wr.alloc (.cells Try.zeroCells149 149))) := by
        intro ops rest op a Q x y h1 h2 h3 h4 h5
        refine wpList_store_mid h1 149 x y h2 wr.heap.size 0 (lent st k).toArray h3 h4 hth hsA h1c ?_
        exact h5
      have HOK : Hid (LIs st ats ∧ k < st.ln ∧ st.secs.size = st.n * 64) := ⟨HL.out, hkn, HSZ.out⟩
      have HL0 : Hid ((lent st k)[0]? = some (.int .i64 (ats k : Nat))) := lent_zero HL.out k hkn
      have hat := HL.out.lt k hkn
      have HW64 : Hid ((Try.prog.info? 147).map (·.size) = some (lwas st k).length) := by show _ = _; rw [size147, lwas_length HL.out k hkn]
      have HA64 : Hid ((Try.prog.info? 147).map (·.size) = some (lwas st k).toArray.size) := by show _ = _; rw [size147, List.size_toArray, lwas_length HL.out k hkn]
      have HO1 : Hid ((lwas st k).toArray.all (·.oneCell') = true) := all_oneCell_toArray (fun u hu => lent_one HL.out k u (List.mem_of_mem_drop hu))
      have HSK : Hid (secsK st ats N ch (k + 1) = if stays N ch k then secsK st ats N ch k else setL (secsK st ats N ch k) (ats k) (lwas st k)) := rfl
      have hcK : Hid (∀ W st' lv', One b0 w0 L st' lv' oth W → ∀ j, j < N → W.cell? ⟨K, o + j, none⟩ = some (.int .i64 (ch j))) := HCH.out
      clear hsA h1c hzs hth hlen
      obtain ⟨aoc, cp, rfl, hcp, hcp2, hao⟩ := HC.out
      generalize hW2 : (wr.alloc (.cells Try.zeroCells149 149)).setCells wr.heap.size 0 (lent st k) = W2 at *
      rcases Nat.lt_or_ge k N with hkN | hkN
      · obtain rfl := hao (by omega)
        have hck := hcK.out W2 _ _ HS2.out.1 k hkN
        have hpos : 0 < N - k := by omega
        have hposi : ¬ N - k = 0 := by omega
        by_cases hx : (ch k).tmod 2 = 0
        · have hxb : ((ch k).tmod 2 != 0) = false := by simpa using hx
          have HSTY : Hid (stays N ch k = false) := by
            show _ = _
            unfold stays; rw [decide_eq_true hkN, hxb]; rfl
          by_cases hcap : cp = 1
          · subst hcap
            have hN1 : N - k = 1 := by omega
            have HNK : Hid (N - (k + 1) = 0 ∧ True) := ⟨by omega, trivial⟩
            rw [hN1]
            clear hao hcp hx
            go_wp2_with (first | (refine wpList_load_mid rfl 149 _ rfl g (k * 65) rfl (lent st k) _ hr Try.underlying149 rfl hl65 ?_) | (refine HST.out _ _ rfl rfl rfl rfl ?_))
            refine wp_region_pb (fun f => ⟨#[.pointer (some ⟨L.D, 0, none⟩), .slice (some ⟨K, o + k, none⟩) 0 0, undef, undef, .slice none 0 0, undef, .pointer (some ⟨wr.heap.size, 0, none⟩), .bool false, .pointer (some ⟨L.D, 0, none⟩), .pointer (some ⟨L.D, 0, none⟩), .pointer (some ⟨L.D, 4, none⟩), .slice (some ⟨g, 0, none⟩) st.ln cl, .int .i64 (st.ln : Nat), .int .i64 (k : Nat), .bool true, .pointer (some ⟨g, k * 65, none⟩), .agg (lent st k).toArray, .slice (some ⟨K, o + k, none⟩) 1 1, .int .i64 1, .bool true, .slice (some ⟨K, o + k, none⟩) 1 1, .pointer (some ⟨K, o + k, none⟩), .int .i64 (ch k), .int .i64 ((ch k).tmod 2), .bool false, .slice (some ⟨K, o + k, none⟩) 1 1, .slice (some ⟨K, o + k, none⟩) 0 0, .bool false, .bool true, f 0, f 1, f 2, f 3, f 4, f 5, f 6, f 7, f 8, u38, undef, undef, undef], []⟩) (SV9 L st ats wr.heap.size k) (SPh b0 w0 L st (.slice (some ⟨g, 0, none⟩) st.ln cl) oth ats N ch wr.heap.size k) (fun i => [u29, u30, u31, u32, u33, u34, u35, u36, u37, undef].getD i undef) (by kernel_rfl) rfl rfl ?hIb ?hputb ?stepb ?finb
            case hIb => exact ⟨fun _ => rfl, fun _ => rfl, fun _ => ⟨HS2.out.1.ofBelow ⟨rfl, rfl, rfl, Nat.le_refl _, fun _ _ => rfl⟩, HS2.out.2.1, HS2.out.2.2⟩, (fun e => by cases e)⟩
            case finb =>
              intro f W hP hV
              have H1 : Hid (One b0 w0 L { st with secs := secsK st ats N ch (k + 1) } (.slice (some ⟨g, 0, none⟩) st.ln cl) oth W) := by
                have h1 := hP.b rfl
                show One _ _ _ _ _ _ _
                rw [HSK.out, if_neg (by rw [HSTY.out]; decide)]; exact h1
              have HCn : Hid (ChL K o N (k + 1) (.slice (some ⟨K, o + k, none⟩) 0 0)) := ⟨some ⟨K, o + k, none⟩, 0, by rw [HNK.out.1], by rw [HNK.out.1]; exact Nat.le_refl _, by decide, fun h => by rw [HNK.out.1] at h; exact absurd h (Nat.lt_irrefl _)⟩
              clear hP hV HS2 HST HO HC
              go_wp2
              go_roundw
              case rel => exact ⟨k + 1, by omega, by simp, HCn, H1⟩
              case measure => simp only [intOf]; omega
            case hputb =>
              repeat (refine ⟨fun f v => rfl, ?_⟩)
              trivial
            case stepb =>
              refine ⟨?_, ?_⟩
              · intro done f W hP hdn hd K hK
                clear hd
                go_simp
                exact hK _ _ rfl (hP.pure _ (by decide) _)
              refine ⟨?_, ?_⟩
              · intro done f W hP hdn hd K hK
                have d0 := (hd.1 rfl).2
                have e0 : done 0 = true := (hd.1 rfl).1
                clear hd
                replace d0 : f 0 = .pointer (some ⟨L.D, 0, none⟩) := d0
                generalize f 0 = x0 at *
                subst d0
                clear e0
                go_simp
                exact hK _ _ rfl (hP.pure _ (by decide) _)
              refine ⟨?_, ?_⟩
              · intro done f W hP hdn hd K hK
                have d1 := (hd.1 rfl).2
                have e1 : done 1 = true := (hd.1 rfl).1
                clear hd
                replace d1 : f 1 = .pointer (some ⟨L.D, 0, none⟩) := d1
                generalize f 1 = x1 at *
                subst d1
                clear e1
                go_simp
                exact hK _ _ rfl (hP.pure _ (by decide) _)
              refine ⟨?_, ?_⟩
              · intro done f W hP hdn hd K hK
                have d2 := (hd.1 rfl).2
                have e2 : done 2 = true := (hd.1 rfl).1
                clear hd
                replace d2 : f 2 = .pointer (some ⟨L.D, 3, none⟩) := d2
                generalize f 2 = x2 at *
                subst d2
                clear e2
                have q := (hP.one HOK.out).2
                go_simp
                exact hK _ _ rfl (hP.pure _ (by decide) _)
              refine ⟨?_, ?_⟩
              · intro done f W hP hdn hd K hK
                clear hd
                go_simp
                exact hK _ _ rfl (hP.pure _ (by decide) _)
              refine ⟨?_, ?_⟩
              · intro done f W hP hdn hd K hK
                have d4 := (hd.1 rfl).2
                have e4 : done 4 = true := (hd.1 rfl).1
                clear hd
                replace d4 : f 4 = .pointer (some ⟨wr.heap.size, 0, none⟩) := d4
                generalize f 4 = x4 at *
                subst d4
                clear e4
                have q := (hP.loc (hP.o5 hdn) HL0.out).1
                go_simp
                exact hK _ _ rfl (hP.pure _ (by decide) _)
              refine ⟨?_, ?_⟩
              · intro done f W hP hdn hd K hK
                clear hd
                go_simp
                exact hK _ _ rfl (hP.pure _ (by decide) _)
              refine ⟨?_, ?_⟩
              · intro done f W hP hdn hd K hK
                have d6 := (hd.1 rfl).2
                have e6 : done 6 = true := (hd.1 rfl).1
                clear hd
                replace d6 : f 6 = .pointer (some ⟨wr.heap.size, 1, none⟩) := d6
                generalize f 6 = x6 at *
                subst d6
                clear e6
                rw [if_pos (show Region.wanted _ _ = true from rfl)]
                refine wp_load_mid 147 _ rfl wr.heap.size 1 rfl (lwas st k) _ (hP.loc (hP.o7 hdn) HL0.out).2 Try.underlying147 rfl HW64.out ?_
                exact hK _ _ rfl (hP.pure _ (by decide) _)
              refine ⟨?_, ?_⟩
              · intro done f W hP hdn hd K hK
                have d3 := (hd.1 rfl).2
                have e3 : done 3 = true := (hd.1 rfl).1
                have d5 := (hd.2.1 rfl).2
                have e5 : done 5 = true := (hd.2.1 rfl).1
                clear hd
                replace d3 : f 3 = .slice (some ⟨L.S, 0, none⟩) st.n st.n := d3
                replace d5 : f 5 = .int .i64 (ats k : Nat) := d5
                generalize f 3 = x3 at *
                subst d3
                clear e3
                generalize f 5 = x5 at *
                subst d5
                clear e5
                go_simp
                exact hK _ _ rfl (hP.pure _ (by decide) _)
              refine ⟨?_, ?_⟩
              · intro done f W hP hdn hd K hK
                have d8 := (hd.1 rfl).2
                have e8 : done 8 = true := (hd.1 rfl).1
                have d7 := (hd.2.1 rfl).2
                have e7 : done 7 = true := (hd.2.1 rfl).1
                have e5 : done 5 = true := (hd.2.2.2.2.2.2.2.1 rfl).1
                clear hd
                replace d8 : f 8 = .pointer (some ⟨L.S, ats k * 64, none⟩) := d8
                replace d7 : f 7 = .agg (lwas st k).toArray := d7
                generalize f 8 = x8 at *
                subst d8
                clear e8
                generalize f 7 = x7 at *
                subst d7
                rw [if_pos (show Region.wanted _ _ = true from rfl)]
                refine wp_store_mid 147 _ _ rfl L.S (ats k * 64) (lwas st k).toArray rfl rfl (hP.there HOK.out hdn) HA64.out HO1.out ?_
                exact hK undef _ trivial (hP.stored HOK.out hdn e5 e7)
              trivial
          · have HNK : Hid (N - (k + 1) = N - k - 1 ∧ N - k - 1 ≤ cp - 1 ∧ cp - 1 ≤ 9223372036854775807) := ⟨by omega, by omega, by omega⟩
            clear hao hx
            go_wp2_with (first | (refine wpList_load_mid rfl 149 _ rfl g (k * 65) rfl (lent st k) _ hr Try.underlying149 rfl hl65 ?_) | (refine HST.out _ _ rfl rfl rfl rfl ?_))
            refine wp_region_pb (fun f => ⟨#[.pointer (some ⟨L.D, 0, none⟩), .slice (some ⟨K, o + k + 1, none⟩) (N - k - 1) (cp - 1), undef, undef, .slice none 0 0, undef, .pointer (some ⟨wr.heap.size, 0, none⟩), .bool false, .pointer (some ⟨L.D, 0, none⟩), .pointer (some ⟨L.D, 0, none⟩), .pointer (some ⟨L.D, 4, none⟩), .slice (some ⟨g, 0, none⟩) st.ln cl, .int .i64 (st.ln : Nat), .int .i64 (k : Nat), .bool true, .pointer (some ⟨g, k * 65, none⟩), .agg (lent st k).toArray, .slice (some ⟨K, o + k, none⟩) (N - k) cp, .int .i64 ((N - k : Nat) : Int), .bool true, .slice (some ⟨K, o + k, none⟩) (N - k) cp, .pointer (some ⟨K, o + k, none⟩), .int .i64 (ch k), .int .i64 ((ch k).tmod 2), .bool false, .slice (some ⟨K, o + k, none⟩) (N - k) cp, .slice (some ⟨K, o + k + 1, none⟩) (N - k - 1) (cp - 1), .bool false, .bool true, f 0, f 1, f 2, f 3, f 4, f 5, f 6, f 7, f 8, u38, undef, undef, undef], []⟩) (SV9 L st ats wr.heap.size k) (SPh b0 w0 L st (.slice (some ⟨g, 0, none⟩) st.ln cl) oth ats N ch wr.heap.size k) (fun i => [u29, u30, u31, u32, u33, u34, u35, u36, u37, undef].getD i undef) (by kernel_rfl) rfl rfl ?hIc ?hputc ?stepc ?finc
            case hIc => exact ⟨fun _ => rfl, fun _ => rfl, fun _ => ⟨HS2.out.1.ofBelow ⟨rfl, rfl, rfl, Nat.le_refl _, fun _ _ => rfl⟩, HS2.out.2.1, HS2.out.2.2⟩, (fun e => by cases e)⟩
            case finc =>
              intro f W hP hV
              have H1 : Hid (One b0 w0 L { st with secs := secsK st ats N ch (k + 1) } (.slice (some ⟨g, 0, none⟩) st.ln cl) oth W) := by
                have h1 := hP.b rfl
                show One _ _ _ _ _ _ _
                rw [HSK.out, if_neg (by rw [HSTY.out]; decide)]; exact h1
              have HCn : Hid (ChL K o N (k + 1) (.slice (some ⟨K, o + k + 1, none⟩) (N - k - 1) (cp - 1))) := ⟨some ⟨K, o + k + 1, none⟩, cp - 1, by rw [HNK.out.1], by rw [HNK.out.1]; exact HNK.out.2.1, HNK.out.2.2, fun _ => rfl⟩
              clear hP hV HS2 HST HO HC
              go_wp2
              go_roundw
              case rel => exact ⟨k + 1, by omega, by simp, HCn, H1⟩
              case measure => simp only [intOf]; omega
            case hputc =>
              repeat (refine ⟨fun f v => rfl, ?_⟩)
              trivial
            case stepc =>
              refine ⟨?_, ?_⟩
              · intro done f W hP hdn hd K hK
                clear hd
                go_simp
                exact hK _ _ rfl (hP.pure _ (by decide) _)
              refine ⟨?_, ?_⟩
              · intro done f W hP hdn hd K hK
                have d0 := (hd.1 rfl).2
                have e0 : done 0 = true := (hd.1 rfl).1
                clear hd
                replace d0 : f 0 = .pointer (some ⟨L.D, 0, none⟩) := d0
                generalize f 0 = x0 at *
                subst d0
                clear e0
                go_simp
                exact hK _ _ rfl (hP.pure _ (by decide) _)
              refine ⟨?_, ?_⟩
              · intro done f W hP hdn hd K hK
                have d1 := (hd.1 rfl).2
                have e1 : done 1 = true := (hd.1 rfl).1
                clear hd
                replace d1 : f 1 = .pointer (some ⟨L.D, 0, none⟩) := d1
                generalize f 1 = x1 at *
                subst d1
                clear e1
                go_simp
                exact hK _ _ rfl (hP.pure _ (by decide) _)
              refine ⟨?_, ?_⟩
              · intro done f W hP hdn hd K hK
                have d2 := (hd.1 rfl).2
                have e2 : done 2 = true := (hd.1 rfl).1
                clear hd
                replace d2 : f 2 = .pointer (some ⟨L.D, 3, none⟩) := d2
                generalize f 2 = x2 at *
                subst d2
                clear e2
                have q := (hP.one HOK.out).2
                go_simp
                exact hK _ _ rfl (hP.pure _ (by decide) _)
              refine ⟨?_, ?_⟩
              · intro done f W hP hdn hd K hK
                clear hd
                go_simp
                exact hK _ _ rfl (hP.pure _ (by decide) _)
              refine ⟨?_, ?_⟩
              · intro done f W hP hdn hd K hK
                have d4 := (hd.1 rfl).2
                have e4 : done 4 = true := (hd.1 rfl).1
                clear hd
                replace d4 : f 4 = .pointer (some ⟨wr.heap.size, 0, none⟩) := d4
                generalize f 4 = x4 at *
                subst d4
                clear e4
                have q := (hP.loc (hP.o5 hdn) HL0.out).1
                go_simp
                exact hK _ _ rfl (hP.pure _ (by decide) _)
              refine ⟨?_, ?_⟩
              · intro done f W hP hdn hd K hK
                clear hd
                go_simp
                exact hK _ _ rfl (hP.pure _ (by decide) _)
              refine ⟨?_, ?_⟩
              · intro done f W hP hdn hd K hK
                have d6 := (hd.1 rfl).2
                have e6 : done 6 = true := (hd.1 rfl).1
                clear hd
                replace d6 : f 6 = .pointer (some ⟨wr.heap.size, 1, none⟩) := d6
                generalize f 6 = x6 at *
                subst d6
                clear e6
                rw [if_pos (show Region.wanted _ _ = true from rfl)]
                refine wp_load_mid 147 _ rfl wr.heap.size 1 rfl (lwas st k) _ (hP.loc (hP.o7 hdn) HL0.out).2 Try.underlying147 rfl HW64.out ?_
                exact hK _ _ rfl (hP.pure _ (by decide) _)
              refine ⟨?_, ?_⟩
              · intro done f W hP hdn hd K hK
                have d3 := (hd.1 rfl).2
                have e3 : done 3 = true := (hd.1 rfl).1
                have d5 := (hd.2.1 rfl).2
                have e5 : done 5 = true := (hd.2.1 rfl).1
                clear hd
                replace d3 : f 3 = .slice (some ⟨L.S, 0, none⟩) st.n st.n := d3
                replace d5 : f 5 = .int .i64 (ats k : Nat) := d5
                generalize f 3 = x3 at *
                subst d3
                clear e3
                generalize f 5 = x5 at *
                subst d5
                clear e5
                go_simp
                exact hK _ _ rfl (hP.pure _ (by decide) _)
              refine ⟨?_, ?_⟩
              · intro done f W hP hdn hd K hK
                have d8 := (hd.1 rfl).2
                have e8 : done 8 = true := (hd.1 rfl).1
                have d7 := (hd.2.1 rfl).2
                have e7 : done 7 = true := (hd.2.1 rfl).1
                have e5 : done 5 = true := (hd.2.2.2.2.2.2.2.1 rfl).1
                clear hd
                replace d8 : f 8 = .pointer (some ⟨L.S, ats k * 64, none⟩) := d8
                replace d7 : f 7 = .agg (lwas st k).toArray := d7
                generalize f 8 = x8 at *
                subst d8
                clear e8
                generalize f 7 = x7 at *
                subst d7
                rw [if_pos (show Region.wanted _ _ = true from rfl)]
                refine wp_store_mid 147 _ _ rfl L.S (ats k * 64) (lwas st k).toArray rfl rfl (hP.there HOK.out hdn) HA64.out HO1.out ?_
                exact hK undef _ trivial (hP.stored HOK.out hdn e5 e7)
              trivial

        · have hxb : ((ch k).tmod 2 != 0) = true := by simpa using hx
          have HSTY : Hid (stays N ch k = true) := by
            show _ = _
            unfold stays; rw [decide_eq_true hkN, hxb]; rfl
          by_cases hcap : cp = 1
          · subst hcap
            have hN1 : N - k = 1 := by omega
            have HNK : Hid (N - (k + 1) = 0 ∧ True) := ⟨by omega, trivial⟩
            rw [hN1]
            clear hao hcp hx
            go_wp2_with (first | (refine wpList_load_mid rfl 149 _ rfl g (k * 65) rfl (lent st k) _ hr Try.underlying149 rfl hl65 ?_) | (refine HST.out _ _ rfl rfl rfl rfl ?_))
            have H1 : Hid (One b0 w0 L { st with secs := secsK st ats N ch (k + 1) } (.slice (some ⟨g, 0, none⟩) st.ln cl) oth W2) := by
              show One _ _ _ _ _ _ _
              rw [HSK.out, if_pos (by rw [HSTY.out])]; exact HS2.out.1
            have HCn : Hid (ChL K o N (k + 1) (.slice (some ⟨K, o + k, none⟩) 0 0)) := ⟨some ⟨K, o + k, none⟩, 0, by rw [HNK.out.1], by rw [HNK.out.1]; exact Nat.le_refl _, by decide, fun h => by rw [HNK.out.1] at h; exact absurd h (Nat.lt_irrefl _)⟩
            go_roundw
            case rel => exact ⟨k + 1, by omega, by simp, HCn, H1⟩
            case measure => simp only [intOf]; omega
          · have HNK : Hid (N - (k + 1) = N - k - 1 ∧ N - k - 1 ≤ cp - 1 ∧ cp - 1 ≤ 9223372036854775807) := ⟨by omega, by omega, by omega⟩
            clear hao hx
            go_wp2_with (first | (refine wpList_load_mid rfl 149 _ rfl g (k * 65) rfl (lent st k) _ hr Try.underlying149 rfl hl65 ?_) | (refine HST.out _ _ rfl rfl rfl rfl ?_))
            have H1 : Hid (One b0 w0 L { st with secs := secsK st ats N ch (k + 1) } (.slice (some ⟨g, 0, none⟩) st.ln cl) oth W2) := by
              show One _ _ _ _ _ _ _
              rw [HSK.out, if_pos (by rw [HSTY.out])]; exact HS2.out.1
            have HCn : Hid (ChL K o N (k + 1) (.slice (some ⟨K, o + k + 1, none⟩) (N - k - 1) (cp - 1))) := ⟨some ⟨K, o + k + 1, none⟩, cp - 1, by rw [HNK.out.1], by rw [HNK.out.1]; exact HNK.out.2.1, HNK.out.2.2, fun _ => rfl⟩
            go_roundw
            case rel => exact ⟨k + 1, by omega, by simp, HCn, H1⟩
            case measure => simp only [intOf]; omega

      · obtain ⟨hz, hzE⟩ : ∃ z, z = N - k := ⟨_, rfl⟩
        have hN0 : N - k = 0 := by omega
        have HSTY : Hid (stays N ch k = false) := by
          show _ = _
          unfold stays; rw [decide_eq_false (by omega)]; rfl
        have HCp : Hid (N - (k + 1) = 0 ∧ cp ≤ 9223372036854775807) := ⟨by omega, hcp2⟩
        rw [hN0] at HC ⊢
        clear hao hcp
        go_wp2_with (first | (refine wpList_load_mid rfl 149 _ rfl g (k * 65) rfl (lent st k) _ hr Try.underlying149 rfl hl65 ?_) | (refine HST.out _ _ rfl rfl rfl rfl ?_))
        refine wp_region_pb (fun f => ⟨#[.pointer (some ⟨L.D, 0, none⟩), .slice aoc 0 cp, undef, undef, .slice none 0 0, undef, .pointer (some ⟨wr.heap.size, 0, none⟩), .bool false, .pointer (some ⟨L.D, 0, none⟩), .pointer (some ⟨L.D, 0, none⟩), .pointer (some ⟨L.D, 4, none⟩), .slice (some ⟨g, 0, none⟩) st.ln cl, .int .i64 (st.ln : Nat), .int .i64 (k : Nat), .bool true, .pointer (some ⟨g, k * 65, none⟩), .agg (lent st k).toArray, .slice aoc 0 cp, .int .i64 0, .bool false, u20, u21, u22, u23, u24, u25, u26, .bool false, .bool true, f 0, f 1, f 2, f 3, f 4, f 5, f 6, f 7, f 8, u38, undef, undef, undef], []⟩) (SV9 L st ats wr.heap.size k) (SPh b0 w0 L st (.slice (some ⟨g, 0, none⟩) st.ln cl) oth ats N ch wr.heap.size k) (fun i => [u29, u30, u31, u32, u33, u34, u35, u36, u37, undef].getD i undef) (by kernel_rfl) rfl rfl ?hIa ?hputa ?stepa ?fina
        case hIa => exact ⟨fun _ => rfl, fun _ => rfl, fun _ => ⟨HS2.out.1.ofBelow ⟨rfl, rfl, rfl, Nat.le_refl _, fun _ _ => rfl⟩, HS2.out.2.1, HS2.out.2.2⟩, (fun e => by cases e)⟩
        case fina =>
          intro f W hP hV
          have H1 : Hid (One b0 w0 L { st with secs := secsK st ats N ch (k + 1) } (.slice (some ⟨g, 0, none⟩) st.ln cl) oth W) := by
            have h1 := hP.b rfl
            show One _ _ _ _ _ _ _
            rw [HSK.out, if_neg (by rw [HSTY.out]; decide)]; exact h1
          have HCn : Hid (ChL K o N (k + 1) (.slice aoc 0 cp)) := ⟨aoc, cp, by rw [HCp.out.1], by rw [HCp.out.1]; exact Nat.zero_le _, HCp.out.2, fun h => by rw [HCp.out.1] at h; exact absurd h (Nat.lt_irrefl _)⟩
          clear hP hV HS2 HST HO HC
          go_wp2
          go_roundw
          case rel => exact ⟨k + 1, by omega, by simp, HCn, H1⟩
          case measure => simp only [intOf]; omega
        case hputa =>
          repeat (refine ⟨fun f v => rfl, ?_⟩)
          trivial
        case stepa =>
          refine ⟨?_, ?_⟩
          · intro done f W hP hdn hd K hK
            clear hd
            go_simp
            exact hK _ _ rfl (hP.pure _ (by decide) _)
          refine ⟨?_, ?_⟩
          · intro done f W hP hdn hd K hK
            have d0 := (hd.1 rfl).2
            have e0 : done 0 = true := (hd.1 rfl).1
            clear hd
            replace d0 : f 0 = .pointer (some ⟨L.D, 0, none⟩) := d0
            generalize f 0 = x0 at *
            subst d0
            clear e0
            go_simp
            exact hK _ _ rfl (hP.pure _ (by decide) _)
          refine ⟨?_, ?_⟩
          · intro done f W hP hdn hd K hK
            have d1 := (hd.1 rfl).2
            have e1 : done 1 = true := (hd.1 rfl).1
            clear hd
            replace d1 : f 1 = .pointer (some ⟨L.D, 0, none⟩) := d1
            generalize f 1 = x1 at *
            subst d1
            clear e1
            go_simp
            exact hK _ _ rfl (hP.pure _ (by decide) _)
          refine ⟨?_, ?_⟩
          · intro done f W hP hdn hd K hK
            have d2 := (hd.1 rfl).2
            have e2 : done 2 = true := (hd.1 rfl).1
            clear hd
            replace d2 : f 2 = .pointer (some ⟨L.D, 3, none⟩) := d2
            generalize f 2 = x2 at *
            subst d2
            clear e2
            have q := (hP.one HOK.out).2
            go_simp
            exact hK _ _ rfl (hP.pure _ (by decide) _)
          refine ⟨?_, ?_⟩
          · intro done f W hP hdn hd K hK
            clear hd
            go_simp
            exact hK _ _ rfl (hP.pure _ (by decide) _)
          refine ⟨?_, ?_⟩
          · intro done f W hP hdn hd K hK
            have d4 := (hd.1 rfl).2
            have e4 : done 4 = true := (hd.1 rfl).1
            clear hd
            replace d4 : f 4 = .pointer (some ⟨wr.heap.size, 0, none⟩) := d4
            generalize f 4 = x4 at *
            subst d4
            clear e4
            have q := (hP.loc (hP.o5 hdn) HL0.out).1
            go_simp
            exact hK _ _ rfl (hP.pure _ (by decide) _)
          refine ⟨?_, ?_⟩
          · intro done f W hP hdn hd K hK
            clear hd
            go_simp
            exact hK _ _ rfl (hP.pure _ (by decide) _)
          refine ⟨?_, ?_⟩
          · intro done f W hP hdn hd K hK
            have d6 := (hd.1 rfl).2
            have e6 : done 6 = true := (hd.1 rfl).1
            clear hd
            replace d6 : f 6 = .pointer (some ⟨wr.heap.size, 1, none⟩) := d6
            generalize f 6 = x6 at *
            subst d6
            clear e6
            rw [if_pos (show Region.wanted _ _ = true from rfl)]
            refine wp_load_mid 147 _ rfl wr.heap.size 1 rfl (lwas st k) _ (hP.loc (hP.o7 hdn) HL0.out).2 Try.underlying147 rfl HW64.out ?_
            exact hK _ _ rfl (hP.pure _ (by decide) _)
          refine ⟨?_, ?_⟩
          · intro done f W hP hdn hd K hK
            have d3 := (hd.1 rfl).2
            have e3 : done 3 = true := (hd.1 rfl).1
            have d5 := (hd.2.1 rfl).2
            have e5 : done 5 = true := (hd.2.1 rfl).1
            clear hd
            replace d3 : f 3 = .slice (some ⟨L.S, 0, none⟩) st.n st.n := d3
            replace d5 : f 5 = .int .i64 (ats k : Nat) := d5
            generalize f 3 = x3 at *
            subst d3
            clear e3
            generalize f 5 = x5 at *
            subst d5
            clear e5
            go_simp
            exact hK _ _ rfl (hP.pure _ (by decide) _)
          refine ⟨?_, ?_⟩
          · intro done f W hP hdn hd K hK
            have d8 := (hd.1 rfl).2
            have e8 : done 8 = true := (hd.1 rfl).1
            have d7 := (hd.2.1 rfl).2
            have e7 : done 7 = true := (hd.2.1 rfl).1
            have e5 : done 5 = true := (hd.2.2.2.2.2.2.2.1 rfl).1
            clear hd
            replace d8 : f 8 = .pointer (some ⟨L.S, ats k * 64, none⟩) := d8
            replace d7 : f 7 = .agg (lwas st k).toArray := d7
            generalize f 8 = x8 at *
            subst d8
            clear e8
            generalize f 7 = x7 at *
            subst d7
            rw [if_pos (show Region.wanted _ _ = true from rfl)]
            refine wp_store_mid 147 _ _ rfl L.S (ats k * 64) (lwas st k).toArray rfl rfl (hP.there HOK.out hdn) HA64.out HO1.out ?_
            exact hK undef _ trivial (hP.stored HOK.out hdn e5 e7)
          trivial
    · have hke : st.ln = k := by omega
      have hf := HO.out.flush
      obtain ⟨aoc, cp, rfl, _⟩ := HC.out
      have HC2 : Hid (ChL K o N st.ln (.slice aoc (N - k) cp)) := by rw [hke]; exact HC.out
      have HKE : Hid _ := hke
      clear HO HC hke
      go_wp2_with fail
      go_call hf as e w1 ⟨rfl, h1⟩
      have H1 : Hid _ := h1
      clear hf h1
      go_wp2
      go_returns
      refine ⟨_, rfl, HC2.out, ?_⟩
      rw [HKE.out]
      exact H1.out
end
end Go.Proofs.Ytiohkdpmgkobiaa
