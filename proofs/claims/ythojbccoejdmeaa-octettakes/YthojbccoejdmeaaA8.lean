/- The law OctetTakes as a call. -/
import Derived.Test.YthojbccoejdmeaaA7
namespace Go.Proofs.Ythojbccoejdmeaa
open Go.RowKit
def prt (k0 nn : Nat → Int) (j : Nat) : Prt := ⟨kdOf (k0 j), nn j⟩
theorem own_cell {w : World} {base : Nat} {s : ByteArray} {ps : Nat → Prt} {ag : Option Addr} {m cg : Nat} (h : w.ownsRow base 9 1 (.slice ag m cg) m (outs s ps m)) (j : Nat) (hj : j < m) : ∃ g, ag = some ⟨g, 0, none⟩ ∧ w.cell? ⟨g, j, none⟩ = some (.string (oAt s ps j)) := by
  rcases h.2 with ⟨_, h0⟩ | ⟨g, cap, cur, e, h2, h3, h4, h5, h6, h7⟩
  · omega
  · injection e with e1 e2 e3
    refine ⟨g, e1, ?_⟩
    rw [cell_of h3]
    have : (outs s ps m)[j]? = some (.string (oAt s ps j)) := by unfold outs; simp [hj]
    rw [← h7, List.getElem?_take_of_lt (by omega), Array.getElem?_toList] at this
    exact this
/-- Nothing was written. -/
structure SmW (w W : World) : Prop where
  heap : W.heap = w.heap
  os : W.os = w.os
  tape : W.tape = w.tape
  output : W.output = w.output
theorem SmW.refl (w : World) : SmW w w := ⟨rfl, rfl, rfl, rfl⟩
theorem SmW.cell {w W : World} (h : SmW w W) (a : Addr) : W.cell? a = w.cell? a := by simp [World.cell?, h.heap]
set_option maxHeartbeats 4000000 in
set_option maxRecDepth 100000 in
theorem takes_walk (s0 : ByteArray) (al : Option Addr) (nl capl b off : Nat) (k0 nn : Nat → Int) (w : World) (hal : 0 < nl → al = some ⟨b, off, none⟩) (hlc : nl ≤ capl) (hcm : capl ≤ 9223372036854775807)
    (hrow : ∀ w', Below w.heap.size w w' → ∀ j, j < nl → w'.cell? ⟨b, off + j * 2, none⟩ = some (.int .i64 (k0 j)) ∧ w'.cell? ⟨b, off + j * 2 + 1, none⟩ = some (.int .i64 (nn j))) (hbw : 0 < nl → b < w.heap.size) :
    Calls Try.prog 3 #[.string s0, .slice al nl capl] w fun e w' => e = .returned (.bool true) ∧ Below w.heap.size w w' := by
  have hmf : ∀ (fn : Fn) (first cap : Array Value) (w : World), (Instr.makeFunc fn first cap).run Try.prog w = .ok (.func fn first cap) w := fun _ _ _ _ => rfl
  obtain ⟨s, hsE⟩ : ∃ s, s = s0.extract 0 100 := ⟨_, rfl⟩
  have hs100 : s.size ≤ 100 := by rw [hsE, ByteArray.size_extract]; omega
  have HROW : Hid _ := hrow
  have HBW : Hid _ := hbw
  have HAL : Hid _ := hal
  clear hrow hbw hal
  by_cases h12 : 12 < nl
  · obtain rfl : al = some ⟨b, off, none⟩ := HAL.out (by omega)
    have h12i : (12 : Int) < (nl : Int) := by omega
    have hc12 : 12 ≤ capl := by omega
    go_enter Try.func3, Try.ntmps3
    go_wp2_with fail
    go_call (awake_any _) as e w1 ⟨rfl, hb1⟩
    have HB1 : Hid _ := hb1
    clear hb1
    go_wp2_with fail
    go_call (cut_any s0 100 (by decide) _) as e w2 ⟨rfl, hw2⟩
    rw [← hw2] at HB1
    rw [← hsE]
    clear hw2 hsE
    go_wp2_with (at_builtin; refine parts_append w.heap.size w2 _ 12 capl b off k0 nn rfl rfl rfl rfl (by omega) (fun _ => rfl) ?p2b ?p3b HB1.out.size ?p4b)
    case p2b => exact fun j hj => HROW.out w2 HB1.out j (by omega)
    case p3b => exact fun h => by have := HBW.out (by omega); have := HB1.out.size; omega
    case p4b =>
      intro ob cap cur w3 hbl hob hrb hkk
      have HS : Hid (∃ cur, OwnP w.heap.size w w3.heap.size ob 12 cap cur (w3.alloc (.cells #[.slice (some ⟨ob, 0, none⟩) 12 cap] 22)) ∧ KindsAt cur k0 nn 12 0) := by
        have hlt := lt_of_get hrb
        have h1 := HB1.out.size
        have h2 := hbl.size
        have hb2 : Below w3.heap.size w3 (w3.alloc (.cells #[.slice (some ⟨ob, 0, none⟩) 12 cap] 22)) := Below.alloc (Below.refl _ _) (Nat.le_refl _) _
        exact ⟨cur, ⟨(HB1.out.trans (hbl.mono h1)).trans (hb2.mono (by omega)), by omega, by omega, by omega, heap_new _ _, (hb2.block _ hlt).trans hrb⟩, hkk⟩
      clear hbl hob hrb hkk HB1
      generalize hb0 : w.heap.size = b0 at *
      generalize hO : w3.heap.size = O at *
      go_wp2
      generalize decide ((12 : Int) < (nl : Int)) = bq at *
      go_loopw [28] (fun i wr => ∃ k : Nat, k ≤ 12 ∧ i = .int .i64 (k : Nat) ∧ Hid (∃ cur, OwnP b0 w O ob 12 cap cur wr ∧ KindsAt cur k0 nn 12 k)) (fun i _ => 12 - (intOf i).toNat)
      case atStart => exact ⟨0, by omega, rfl, HS⟩
      case round =>
        obtain ⟨k, hk, rfl, HS0⟩ := hrel
        clear HS
        rcases Nat.lt_or_ge k 12 with hkn | hge
        · go_wp2_with fail
          generalize decide ((k : Int) < 12) = bk at *
          refine wp_region_ph (fun f => ⟨#[.string s, .slice (some ⟨b, off, none⟩) 12 capl, undef, undef, .bool false, .pointer (some ⟨O, 0, none⟩), .int .i64 (k : Nat), undef, undef, undef, undef, undef, undef, undef, .bool true, .bool false, .string s0, .string s, .slice (some ⟨b, off, none⟩) nl capl, .int .i64 (nl : Nat), .bool true, .slice (some ⟨b, off, none⟩) nl capl, .slice (some ⟨b, off, none⟩) 12 capl, .slice (some ⟨w2.heap.size, 0, none⟩) 0 0, .slice (some ⟨b, off, none⟩) 12 capl, .slice (some ⟨ob, 0, none⟩) 12 cap, .slice (some ⟨ob, 0, none⟩) 12 cap, .int .i64 12, .int .i64 (k : Nat), .bool bk, .int .i64 (k : Nat), f 0, f 1, f 2, f 3, f 4, f 5, f 6, f 7, f 8, f 9, f 10, f 11, u43, undef, undef, undef, undef, undef, undef, undef, undef, undef, undef, undef, undef, undef, undef, undef, undef, undef, undef, undef, undef, undef, undef, undef, undef, undef, undef, undef, undef, undef, undef, undef, undef, undef, undef, undef, undef, undef, undef, undef, undef, undef, undef, undef], []⟩) (KV ob 12 cap k k0) (KPh b0 w O ob 12 cap k k0 nn) (fun i => [u31, u32, u33, u34, u35, u36, u37, u38, u39, u40, u41, u42, undef].getD i undef) (by kernel_rfl) rfl rfl ?hIb ?hputb ?stepb ?finb
          case hIb => exact ⟨fun _ => rfl, (fun e => HS0.out.imp (fun cur h => ⟨h.1.ofBelow ⟨rfl, rfl, rfl, Nat.le_refl _, fun _ _ => rfl⟩, h.2⟩)), (fun e => by cases e)⟩
          case finb =>
            intro f W hP hV
            have H1 : Hid (∃ cur, OwnP b0 w O ob 12 cap cur W ∧ KindsAt cur k0 nn 12 (k + 1)) := hP.b rfl
            clear hP hV HS0
            go_wp2
            go_roundw
            case rel => exact ⟨k + 1, by omega, by simp, H1⟩
            case measure => simp only [intOf]; omega
          case hputb =>
            repeat (refine ⟨fun f v => rfl, ?_⟩)
            trivial
          case stepb =>
            refine ⟨?_, ?_⟩
            · intro done f W hP hdn hd K hK
              clear hd
              have q := hP.var
              go_simp
              exact hK _ _ rfl (hP.pure _ (by decide) _)
            refine ⟨?_, ?_⟩
            · intro done f W hP hdn hd K hK
              clear hd
              go_simp
              exact hK _ _ rfl (hP.pure _ (by decide) _)
            refine ⟨?_, ?_⟩
            · intro done f W hP hdn hd K hK
              clear hd
              have q := hP.var
              go_simp
              exact hK _ _ rfl (hP.pure _ (by decide) _)
            refine ⟨?_, ?_⟩
            · intro done f W hP hdn hd K hK
              clear hd
              go_simp
              exact hK _ _ rfl (hP.pure _ (by decide) _)
            refine ⟨?_, ?_⟩
            · intro done f W hP hdn hd K hK
              have d2 := (hd.1 rfl).2
              have e2 : done 2 = true := (hd.1 rfl).1
              have d3 := (hd.2.1 rfl).2
              have e3 : done 3 = true := (hd.2.1 rfl).1
              clear hd
              replace d2 : f 2 = .slice (some ⟨ob, 0, none⟩) 12 cap := d2
              replace d3 : f 3 = .int .i64 (k : Nat) := d3
              generalize f 2 = x2 at *
              subst d2
              clear e2
              generalize f 3 = x3 at *
              subst d3
              clear e3
              go_simp
              exact hK _ _ rfl (hP.pure _ (by decide) _)
            refine ⟨?_, ?_⟩
            · intro done f W hP hdn hd K hK
              have d4 := (hd.1 rfl).2
              have e4 : done 4 = true := (hd.1 rfl).1
              clear hd
              replace d4 : f 4 = .pointer (some ⟨ob, k * 2, none⟩) := d4
              generalize f 4 = x4 at *
              subst d4
              clear e4
              go_simp
              exact hK _ _ rfl (hP.pure _ (by decide) _)
            refine ⟨?_, ?_⟩
            · intro done f W hP hdn hd K hK
              have d5 := (hd.1 rfl).2
              have e5 : done 5 = true := (hd.1 rfl).1
              clear hd
              replace d5 : f 5 = .pointer (some ⟨ob, k * 2, none⟩) := d5
              generalize f 5 = x5 at *
              subst d5
              clear e5
              have q := hP.kind hkn (hP.o6 hdn)
              go_simp
              exact hK _ _ rfl (hP.pure _ (by decide) _)
            refine ⟨?_, ?_⟩
            · intro done f W hP hdn hd K hK
              have d6 := (hd.1 rfl).2
              have e6 : done 6 = true := (hd.1 rfl).1
              clear hd
              replace d6 : f 6 = .int .i64 (k0 k) := d6
              generalize f 6 = x6 at *
              subst d6
              clear e6
              go_simp
              exact hK _ _ rfl (hP.pure _ (by decide) _)
            refine ⟨?_, ?_⟩
            · intro done f W hP hdn hd K hK
              have d7 := (hd.1 rfl).2
              have e7 : done 7 = true := (hd.1 rfl).1
              clear hd
              replace d7 : f 7 = .int .i64 ((k0 k).tmod 5) := d7
              generalize f 7 = x7 at *
              subst d7
              clear e7
              have q := tm5 (k0 k)
              go_simp
              exact hK _ _ (by show Value.int _ _ = Value.int _ _; first | rfl | (congr 1; rw [IntKind.wrap_i64]; generalize (k0 k).tmod 5 = y at *; omega)) (hP.pure _ (by decide) _)
            refine ⟨?_, ?_⟩
            · intro done f W hP hdn hd K hK
              have d8 := (hd.1 rfl).2
              have e8 : done 8 = true := (hd.1 rfl).1
              clear hd
              replace d8 : f 8 = .int .i64 ((k0 k).tmod 5 + 5) := d8
              generalize f 8 = x8 at *
              subst d8
              clear e8
              have q := kdOf_eq (k0 k)
              go_simp
              exact hK _ _ (by show Value.int _ _ = Value.int _ _; first | rfl | (congr 1; rw [← q]; done) | (congr 1; exact q)) (hP.pure _ (by decide) _)
            refine ⟨?_, ?_⟩
            · intro done f W hP hdn hd K hK
              have d0 := (hd.1 rfl).2
              have e0 : done 0 = true := (hd.1 rfl).1
              have d1 := (hd.2.1 rfl).2
              have e1 : done 1 = true := (hd.2.1 rfl).1
              clear hd
              replace d0 : f 0 = .slice (some ⟨ob, 0, none⟩) 12 cap := d0
              replace d1 : f 1 = .int .i64 (k : Nat) := d1
              generalize f 0 = x0 at *
              subst d0
              clear e0
              generalize f 1 = x1 at *
              subst d1
              clear e1
              go_simp
              exact hK _ _ rfl (hP.pure _ (by decide) _)
            refine ⟨?_, ?_⟩
            · intro done f W hP hdn hd K hK
              have d10 := (hd.1 rfl).2
              have e10 : done 10 = true := (hd.1 rfl).1
              clear hd
              replace d10 : f 10 = .pointer (some ⟨ob, k * 2, none⟩) := d10
              generalize f 10 = x10 at *
              subst d10
              clear e10
              go_simp
              exact hK _ _ rfl (hP.pure _ (by decide) _)
            refine ⟨?_, ?_⟩
            · intro done f W hP hdn hd K hK
              have d11 := (hd.1 rfl).2
              have e11 : done 11 = true := (hd.1 rfl).1
              have d9 := (hd.2.1 rfl).2
              have e9 : done 9 = true := (hd.2.1 rfl).1
              have e6 : done 6 = true := (hd.2.2.2.2.2.2.2.2.1 rfl).1
              clear hd
              replace d11 : f 11 = .pointer (some ⟨ob, k * 2, none⟩) := d11
              replace d9 : f 9 = .int .i64 (kdOf (k0 k) : Nat) := d9
              generalize f 11 = x11 at *
              subst d11
              clear e11
              generalize f 9 = x9 at *
              subst d9
              clear e9
              obtain ⟨⟨z, q1⟩, q2⟩ := hP.store_cells hkn
              go_simp
              exact hK undef _ trivial (hP.stored hkn hdn e6)
            trivial
        · obtain rfl : 12 = k := by omega
          obtain ⟨cur, hown, hkk⟩ := HS0.out
          obtain ⟨m, hm, hgood, hend⟩ := ends_at s (prt k0 nn) 12
          have ow2 := hown.ofBelow (Below.alloc (Below.refl _ wr) (Nat.le_refl _) (.cells #[.slice none 0 0] 27))
          have hOlt := lt_of_get hown.var
          have holt := lt_of_get hown.row
          have hbO := hown.bO
          have hpt : PartsIn (some ⟨ob, 0, none⟩) 12 ob (prt k0 nn) [(O, .cells #[.slice (some ⟨ob, 0, none⟩) 12 cap] 22), (ob, .cells cur 26)] := fun _ => ⟨cur, rfl, by simp, fun j hj => by
            have := hkk j hj
            rw [if_pos hj] at this
            exact this⟩
          have hkd : ∀ j, j < 12 → (prt k0 nn j).kd < 5 := fun j _ => kdOf_lt _
          have hst := takes_take b0 w wr.heap.size O ob 12 cap m (some ⟨ob, 0, none⟩) (prt k0 nn) [(O, .cells #[.slice (some ⟨ob, 0, none⟩) 12 cap] 22), (ob, .cells cur 26)] s (by omega) (by omega) hkd (by simp) hpt hm hgood hend (wr.alloc (.cells #[.slice none 0 0] 27)) (heap_new _ _) (by omega) ow2.below (fun p hp => by
            simp only [List.mem_cons, List.not_mem_nil, or_false] at hp
            rcases hp with rfl | rfl
            · exact ⟨ow2.var, by show O ≠ wr.heap.size; omega, ow2.bO⟩
            · exact ⟨ow2.row, by show ob ≠ wr.heap.size; omega, ow2.bo⟩)
          have HKK : Hid (∀ j, j < 12 → cur[j * 2]? = some (.int .i64 ((prt k0 nn j).kd : Nat)) ∧ cur[j * 2 + 1]? = some (.int .i64 (prt k0 nn j).n)) := fun j hj => by
            have := hkk j hj
            rw [if_pos hj] at this
            exact this
          have HRT : Hid (∀ W, (∀ j, j < 12 → W.cell? ⟨ob, j * 2, none⟩ = some (.int .i64 ((prt k0 nn j).kd : Nat)) ∧ W.cell? ⟨ob, j * 2 + 1, none⟩ = some (.int .i64 (prt k0 nn j).n)) → ob < W.heap.size → Calls Try.prog 13 #[.string s, .slice (some ⟨ob, 0, none⟩) 12 cap] W fun e w' => RTEnd W.heap.size W s (prt k0 nn) 12 m e w') := fun W h1 h2 => rtakes 12 cap ob m (some ⟨ob, 0, none⟩) (prt k0 nn) s (by omega) (by omega) hkd W (fun _ => ⟨rfl, h2, h1⟩) hm hgood hend
          clear hgood hend hpt ow2 hown hkk HS0 hkd
          generalize hrs : (if m = 12 then sAt s (prt k0 nn) m else ⟨#[]⟩) = rs at *
          generalize hcd : (if m = 12 then 0 else eAt s (prt k0 nn) m) = cd at *
          have HRS : Hid _ := And.intro hrs hcd
          clear hrs hcd
          go_wp2_with fail
          go_call hst as e w4 ⟨rfl, gv, hT⟩
          clear hst
          have cO : w4.cell? ⟨O, 0, none⟩ = some (.slice (some ⟨ob, 0, none⟩) 12 cap) := cell_of (hT.oth (O, .cells #[.slice (some ⟨ob, 0, none⟩) 12 cap] 22) (by simp)) 0
          have hro := hT.oth (ob, .cells cur 26) (by simp)
          have hrt := HRT.out w4 (fun j hj => ⟨(cell_of hro _).trans (HKK.out j hj).1, (cell_of hro _).trans (HKK.out j hj).2⟩) (lt_of_get hro)
          have hrt2 : Calls Try.prog 13 #[.string s, .slice (some ⟨ob, 0, none⟩) 12 cap] w4 fun e w' => ∃ aw cw, e = .returned (.tuple #[.slice aw m cw, .string rs, .int .i64 cd]) ∧ RT w4.heap.size w4 s (prt k0 nn) (.slice aw m cw) m w' := hrt.mono (by
            rintro e w' ⟨v, he, hr⟩
            obtain ⟨aw, cw, rfl⟩ := slice_of_own hr.own
            rw [HRS.out.1, HRS.out.2] at he
            exact ⟨aw, cw, he, hr⟩)
          obtain ⟨ag, cg, rfl⟩ := slice_of_own hT.own
          have HT : Hid _ := hT
          clear hT hrt hro HRT HKK
          go_wp2_with fail
          go_call hrt2 as e w5 ⟨aw, cw, rfl, hr⟩
          clear hrt2 cO
          have cG : w5.cell? ⟨wr.heap.size, 0, none⟩ = some (.slice ag m cg) := by
            have hg := HT.out.got
            exact cell_of ((hr.below.block _ (lt_of_get hg)).trans hg) 0
          have HGC : Hid (∀ j, j < m → ∃ g, ag = some ⟨g, 0, none⟩ ∧ w5.cell? ⟨g, j, none⟩ = some (.string (oAt s (prt k0 nn) j))) := fun j hj => own_cell (own_below HT.out.own hr.below) j hj
          have HWC : Hid (∀ j, j < m → ∃ g, aw = some ⟨g, 0, none⟩ ∧ w5.cell? ⟨g, j, none⟩ = some (.string (oAt s (prt k0 nn) j))) := fun j hj => own_cell hr.own j hj
          have HBF : Hid (Below b0 w w5) := HT.out.below.trans (hr.below.mono (by have := lt_of_get HT.out.got; have := HT.out.below.size; omega))
          have hm12 : m ≤ 12 := by omega
          clear hr HT HRS
          generalize wr.heap.size = Gz at *
          go_wp2
          go_loopw [74] (fun i wr5 => ∃ k : Nat, k ≤ m ∧ i = .int .i64 (k : Nat) ∧ Hid (SmW w5 wr5)) (fun i _ => m - (intOf i).toNat)
          case atStart => exact ⟨0, by omega, rfl, SmW.refl w5⟩
          case round =>
            obtain ⟨k, hk, rfl, hS⟩ := hrel
            rcases Nat.lt_or_ge k m with hkm | hge2
            · obtain ⟨g1, rfl, hc1⟩ := HGC.out k hkm
              obtain ⟨g2, rfl, hc2⟩ := HWC.out k hkm
              have hd1 := (hS.out.cell _).trans hc1
              have hd2 := (hS.out.cell _).trans hc2
              have hd3 := (hS.out.cell _).trans cG
              generalize oAt s (prt k0 nn) k = x at *
              clear hc1 hc2
              have HSS : Hid _ := hS
              clear hS
              go_wp2_with fail
              go_quiet (fail)
              go_wp2
              go_roundw
              case rel => exact ⟨k + 1, by omega, by simp, ⟨HSS.out.heap, HSS.out.os, HSS.out.tape, HSS.out.output⟩⟩
              case measure => simp only [intOf]; omega
            · obtain rfl : m = k := by omega
              have HF : Hid (Below b0 w wr) := HBF.out.trans ⟨hS.out.os, hS.out.tape, hS.out.output, by rw [hS.out.heap]; exact Nat.le_refl _, fun j _ => by rw [hS.out.heap]⟩
              clear hS
              go_wp2
              go_returns
              exact ⟨rfl, by rw [hb0]; exact HF.out⟩

  · have h12i : ¬ (12 : Int) < (nl : Int) := by omega
    go_enter Try.func3, Try.ntmps3
    go_wp2_with fail
    go_call (awake_any _) as e w1 ⟨rfl, hb1⟩
    have HB1 : Hid _ := hb1
    clear hb1
    go_wp2_with fail
    go_call (cut_any s0 100 (by decide) _) as e w2 ⟨rfl, hw2⟩
    rw [← hw2] at HB1
    rw [← hsE]
    clear hw2 hsE
    go_wp2_with (at_builtin; refine parts_append w.heap.size w2 _ nl capl b off k0 nn rfl rfl rfl rfl (by omega) HAL.out ?p2a ?p3a HB1.out.size ?p4a)
    case p2a => exact fun j hj => HROW.out w2 HB1.out j (by omega)
    case p3a => exact fun h => by have := HBW.out (by omega); have := HB1.out.size; omega
    case p4a =>
      intro ob cap cur w3 hbl hob hrb hkk
      have HS : Hid (∃ cur, OwnP w.heap.size w w3.heap.size ob nl cap cur (w3.alloc (.cells #[.slice (some ⟨ob, 0, none⟩) nl cap] 22)) ∧ KindsAt cur k0 nn nl 0) := by
        have hlt := lt_of_get hrb
        have h1 := HB1.out.size
        have h2 := hbl.size
        have hb2 : Below w3.heap.size w3 (w3.alloc (.cells #[.slice (some ⟨ob, 0, none⟩) nl cap] 22)) := Below.alloc (Below.refl _ _) (Nat.le_refl _) _
        exact ⟨cur, ⟨(HB1.out.trans (hbl.mono h1)).trans (hb2.mono (by omega)), by omega, by omega, by omega, heap_new _ _, (hb2.block _ hlt).trans hrb⟩, hkk⟩
      clear hbl hob hrb hkk HB1
      generalize hb0 : w.heap.size = b0 at *
      generalize hO : w3.heap.size = O at *
      go_wp2
      generalize decide ((12 : Int) < (nl : Int)) = bq at *
      go_loopw [28] (fun i wr => ∃ k : Nat, k ≤ nl ∧ i = .int .i64 (k : Nat) ∧ Hid (∃ cur, OwnP b0 w O ob nl cap cur wr ∧ KindsAt cur k0 nn nl k)) (fun i _ => nl - (intOf i).toNat)
      case atStart => exact ⟨0, by omega, rfl, HS⟩
      case round =>
        obtain ⟨k, hk, rfl, HS0⟩ := hrel
        clear HS
        rcases Nat.lt_or_ge k nl with hkn | hge
        · go_wp2_with fail
          skip
          refine wp_region_ph (fun f => ⟨#[.string s, .slice al nl capl, undef, undef, .bool false, .pointer (some ⟨O, 0, none⟩), .int .i64 (k : Nat), undef, undef, undef, undef, undef, undef, undef, .bool true, .bool false, .string s0, .string s, .slice al nl capl, .int .i64 (nl : Nat), .bool bq, undef, undef, .slice (some ⟨w2.heap.size, 0, none⟩) 0 0, .slice al nl capl, .slice (some ⟨ob, 0, none⟩) nl cap, .slice (some ⟨ob, 0, none⟩) nl cap, .int .i64 (nl : Nat), .int .i64 (k : Nat), .bool true, .int .i64 (k : Nat), f 0, f 1, f 2, f 3, f 4, f 5, f 6, f 7, f 8, f 9, f 10, f 11, u43, undef, undef, undef, undef, undef, undef, undef, undef, undef, undef, undef, undef, undef, undef, undef, undef, undef, undef, undef, undef, undef, undef, undef, undef, undef, undef, undef, undef, undef, undef, undef, undef, undef, undef, undef, undef, undef, undef, undef, undef, undef, undef, undef], []⟩) (KV ob nl cap k k0) (KPh b0 w O ob nl cap k k0 nn) (fun i => [u31, u32, u33, u34, u35, u36, u37, u38, u39, u40, u41, u42, undef].getD i undef) (by kernel_rfl) rfl rfl ?hIa ?hputa ?stepa ?fina
          case hIa => exact ⟨fun _ => rfl, (fun e => HS0.out.imp (fun cur h => ⟨h.1.ofBelow ⟨rfl, rfl, rfl, Nat.le_refl _, fun _ _ => rfl⟩, h.2⟩)), (fun e => by cases e)⟩
          case fina =>
            intro f W hP hV
            have H1 : Hid (∃ cur, OwnP b0 w O ob nl cap cur W ∧ KindsAt cur k0 nn nl (k + 1)) := hP.b rfl
            clear hP hV HS0
            go_wp2
            go_roundw
            case rel => exact ⟨k + 1, by omega, by simp, H1⟩
            case measure => simp only [intOf]; omega
          case hputa =>
            repeat (refine ⟨fun f v => rfl, ?_⟩)
            trivial
          case stepa =>
            refine ⟨?_, ?_⟩
            · intro done f W hP hdn hd K hK
              clear hd
              have q := hP.var
              go_simp
              exact hK _ _ rfl (hP.pure _ (by decide) _)
            refine ⟨?_, ?_⟩
            · intro done f W hP hdn hd K hK
              clear hd
              go_simp
              exact hK _ _ rfl (hP.pure _ (by decide) _)
            refine ⟨?_, ?_⟩
            · intro done f W hP hdn hd K hK
              clear hd
              have q := hP.var
              go_simp
              exact hK _ _ rfl (hP.pure _ (by decide) _)
            refine ⟨?_, ?_⟩
            · intro done f W hP hdn hd K hK
              clear hd
              go_simp
              exact hK _ _ rfl (hP.pure _ (by decide) _)
            refine ⟨?_, ?_⟩
            · intro done f W hP hdn hd K hK
              have d2 := (hd.1 rfl).2
              have e2 : done 2 = true := (hd.1 rfl).1
              have d3 := (hd.2.1 rfl).2
              have e3 : done 3 = true := (hd.2.1 rfl).1
              clear hd
              replace d2 : f 2 = .slice (some ⟨ob, 0, none⟩) nl cap := d2
              replace d3 : f 3 = .int .i64 (k : Nat) := d3
              generalize f 2 = x2 at *
              subst d2
              clear e2
              generalize f 3 = x3 at *
              subst d3
              clear e3
              go_simp
              exact hK _ _ rfl (hP.pure _ (by decide) _)
            refine ⟨?_, ?_⟩
            · intro done f W hP hdn hd K hK
              have d4 := (hd.1 rfl).2
              have e4 : done 4 = true := (hd.1 rfl).1
              clear hd
              replace d4 : f 4 = .pointer (some ⟨ob, k * 2, none⟩) := d4
              generalize f 4 = x4 at *
              subst d4
              clear e4
              go_simp
              exact hK _ _ rfl (hP.pure _ (by decide) _)
            refine ⟨?_, ?_⟩
            · intro done f W hP hdn hd K hK
              have d5 := (hd.1 rfl).2
              have e5 : done 5 = true := (hd.1 rfl).1
              clear hd
              replace d5 : f 5 = .pointer (some ⟨ob, k * 2, none⟩) := d5
              generalize f 5 = x5 at *
              subst d5
              clear e5
              have q := hP.kind hkn (hP.o6 hdn)
              go_simp
              exact hK _ _ rfl (hP.pure _ (by decide) _)
            refine ⟨?_, ?_⟩
            · intro done f W hP hdn hd K hK
              have d6 := (hd.1 rfl).2
              have e6 : done 6 = true := (hd.1 rfl).1
              clear hd
              replace d6 : f 6 = .int .i64 (k0 k) := d6
              generalize f 6 = x6 at *
              subst d6
              clear e6
              go_simp
              exact hK _ _ rfl (hP.pure _ (by decide) _)
            refine ⟨?_, ?_⟩
            · intro done f W hP hdn hd K hK
              have d7 := (hd.1 rfl).2
              have e7 : done 7 = true := (hd.1 rfl).1
              clear hd
              replace d7 : f 7 = .int .i64 ((k0 k).tmod 5) := d7
              generalize f 7 = x7 at *
              subst d7
              clear e7
              have q := tm5 (k0 k)
              go_simp
              exact hK _ _ (by show Value.int _ _ = Value.int _ _; first | rfl | (congr 1; rw [IntKind.wrap_i64]; generalize (k0 k).tmod 5 = y at *; omega)) (hP.pure _ (by decide) _)
            refine ⟨?_, ?_⟩
            · intro done f W hP hdn hd K hK
              have d8 := (hd.1 rfl).2
              have e8 : done 8 = true := (hd.1 rfl).1
              clear hd
              replace d8 : f 8 = .int .i64 ((k0 k).tmod 5 + 5) := d8
              generalize f 8 = x8 at *
              subst d8
              clear e8
              have q := kdOf_eq (k0 k)
              go_simp
              exact hK _ _ (by show Value.int _ _ = Value.int _ _; first | rfl | (congr 1; rw [← q]; done) | (congr 1; exact q)) (hP.pure _ (by decide) _)
            refine ⟨?_, ?_⟩
            · intro done f W hP hdn hd K hK
              have d0 := (hd.1 rfl).2
              have e0 : done 0 = true := (hd.1 rfl).1
              have d1 := (hd.2.1 rfl).2
              have e1 : done 1 = true := (hd.2.1 rfl).1
              clear hd
              replace d0 : f 0 = .slice (some ⟨ob, 0, none⟩) nl cap := d0
              replace d1 : f 1 = .int .i64 (k : Nat) := d1
              generalize f 0 = x0 at *
              subst d0
              clear e0
              generalize f 1 = x1 at *
              subst d1
              clear e1
              go_simp
              exact hK _ _ rfl (hP.pure _ (by decide) _)
            refine ⟨?_, ?_⟩
            · intro done f W hP hdn hd K hK
              have d10 := (hd.1 rfl).2
              have e10 : done 10 = true := (hd.1 rfl).1
              clear hd
              replace d10 : f 10 = .pointer (some ⟨ob, k * 2, none⟩) := d10
              generalize f 10 = x10 at *
              subst d10
              clear e10
              go_simp
              exact hK _ _ rfl (hP.pure _ (by decide) _)
            refine ⟨?_, ?_⟩
            · intro done f W hP hdn hd K hK
              have d11 := (hd.1 rfl).2
              have e11 : done 11 = true := (hd.1 rfl).1
              have d9 := (hd.2.1 rfl).2
              have e9 : done 9 = true := (hd.2.1 rfl).1
              have e6 : done 6 = true := (hd.2.2.2.2.2.2.2.2.1 rfl).1
              clear hd
              replace d11 : f 11 = .pointer (some ⟨ob, k * 2, none⟩) := d11
              replace d9 : f 9 = .int .i64 (kdOf (k0 k) : Nat) := d9
              generalize f 11 = x11 at *
              subst d11
              clear e11
              generalize f 9 = x9 at *
              subst d9
              clear e9
              obtain ⟨⟨z, q1⟩, q2⟩ := hP.store_cells hkn
              go_simp
              exact hK undef _ trivial (hP.stored hkn hdn e6)
            trivial
        · obtain rfl : nl = k := by omega
          obtain ⟨cur, hown, hkk⟩ := HS0.out
          obtain ⟨m, hm, hgood, hend⟩ := ends_at s (prt k0 nn) nl
          have ow2 := hown.ofBelow (Below.alloc (Below.refl _ wr) (Nat.le_refl _) (.cells #[.slice none 0 0] 27))
          have hOlt := lt_of_get hown.var
          have holt := lt_of_get hown.row
          have hbO := hown.bO
          have hpt : PartsIn (some ⟨ob, 0, none⟩) nl ob (prt k0 nn) [(O, .cells #[.slice (some ⟨ob, 0, none⟩) nl cap] 22), (ob, .cells cur 26)] := fun _ => ⟨cur, rfl, by simp, fun j hj => by
            have := hkk j hj
            rw [if_pos hj] at this
            exact this⟩
          have hkd : ∀ j, j < nl → (prt k0 nn j).kd < 5 := fun j _ => kdOf_lt _
          have hst := takes_take b0 w wr.heap.size O ob nl cap m (some ⟨ob, 0, none⟩) (prt k0 nn) [(O, .cells #[.slice (some ⟨ob, 0, none⟩) nl cap] 22), (ob, .cells cur 26)] s (by omega) (by omega) hkd (by simp) hpt hm hgood hend (wr.alloc (.cells #[.slice none 0 0] 27)) (heap_new _ _) (by omega) ow2.below (fun p hp => by
            simp only [List.mem_cons, List.not_mem_nil, or_false] at hp
            rcases hp with rfl | rfl
            · exact ⟨ow2.var, by show O ≠ wr.heap.size; omega, ow2.bO⟩
            · exact ⟨ow2.row, by show ob ≠ wr.heap.size; omega, ow2.bo⟩)
          have HKK : Hid (∀ j, j < nl → cur[j * 2]? = some (.int .i64 ((prt k0 nn j).kd : Nat)) ∧ cur[j * 2 + 1]? = some (.int .i64 (prt k0 nn j).n)) := fun j hj => by
            have := hkk j hj
            rw [if_pos hj] at this
            exact this
          have HRT : Hid (∀ W, (∀ j, j < nl → W.cell? ⟨ob, j * 2, none⟩ = some (.int .i64 ((prt k0 nn j).kd : Nat)) ∧ W.cell? ⟨ob, j * 2 + 1, none⟩ = some (.int .i64 (prt k0 nn j).n)) → ob < W.heap.size → Calls Try.prog 13 #[.string s, .slice (some ⟨ob, 0, none⟩) nl cap] W fun e w' => RTEnd W.heap.size W s (prt k0 nn) nl m e w') := fun W h1 h2 => rtakes nl cap ob m (some ⟨ob, 0, none⟩) (prt k0 nn) s (by omega) (by omega) hkd W (fun _ => ⟨rfl, h2, h1⟩) hm hgood hend
          clear hgood hend hpt ow2 hown hkk HS0 hkd
          generalize hrs : (if m = nl then sAt s (prt k0 nn) m else ⟨#[]⟩) = rs at *
          generalize hcd : (if m = nl then 0 else eAt s (prt k0 nn) m) = cd at *
          have HRS : Hid _ := And.intro hrs hcd
          clear hrs hcd
          go_wp2_with fail
          go_call hst as e w4 ⟨rfl, gv, hT⟩
          clear hst
          have cO : w4.cell? ⟨O, 0, none⟩ = some (.slice (some ⟨ob, 0, none⟩) nl cap) := cell_of (hT.oth (O, .cells #[.slice (some ⟨ob, 0, none⟩) nl cap] 22) (by simp)) 0
          have hro := hT.oth (ob, .cells cur 26) (by simp)
          have hrt := HRT.out w4 (fun j hj => ⟨(cell_of hro _).trans (HKK.out j hj).1, (cell_of hro _).trans (HKK.out j hj).2⟩) (lt_of_get hro)
          have hrt2 : Calls Try.prog 13 #[.string s, .slice (some ⟨ob, 0, none⟩) nl cap] w4 fun e w' => ∃ aw cw, e = .returned (.tuple #[.slice aw m cw, .string rs, .int .i64 cd]) ∧ RT w4.heap.size w4 s (prt k0 nn) (.slice aw m cw) m w' := hrt.mono (by
            rintro e w' ⟨v, he, hr⟩
            obtain ⟨aw, cw, rfl⟩ := slice_of_own hr.own
            rw [HRS.out.1, HRS.out.2] at he
            exact ⟨aw, cw, he, hr⟩)
          obtain ⟨ag, cg, rfl⟩ := slice_of_own hT.own
          have HT : Hid _ := hT
          clear hT hrt hro HRT HKK
          go_wp2_with fail
          go_call hrt2 as e w5 ⟨aw, cw, rfl, hr⟩
          clear hrt2 cO
          have cG : w5.cell? ⟨wr.heap.size, 0, none⟩ = some (.slice ag m cg) := by
            have hg := HT.out.got
            exact cell_of ((hr.below.block _ (lt_of_get hg)).trans hg) 0
          have HGC : Hid (∀ j, j < m → ∃ g, ag = some ⟨g, 0, none⟩ ∧ w5.cell? ⟨g, j, none⟩ = some (.string (oAt s (prt k0 nn) j))) := fun j hj => own_cell (own_below HT.out.own hr.below) j hj
          have HWC : Hid (∀ j, j < m → ∃ g, aw = some ⟨g, 0, none⟩ ∧ w5.cell? ⟨g, j, none⟩ = some (.string (oAt s (prt k0 nn) j))) := fun j hj => own_cell hr.own j hj
          have HBF : Hid (Below b0 w w5) := HT.out.below.trans (hr.below.mono (by have := lt_of_get HT.out.got; have := HT.out.below.size; omega))
          have hm12 : m ≤ 12 := by omega
          clear hr HT HRS
          generalize wr.heap.size = Gz at *
          go_wp2
          go_loopw [74] (fun i wr5 => ∃ k : Nat, k ≤ m ∧ i = .int .i64 (k : Nat) ∧ Hid (SmW w5 wr5)) (fun i _ => m - (intOf i).toNat)
          case atStart => exact ⟨0, by omega, rfl, SmW.refl w5⟩
          case round =>
            obtain ⟨k, hk, rfl, hS⟩ := hrel
            rcases Nat.lt_or_ge k m with hkm | hge2
            · obtain ⟨g1, rfl, hc1⟩ := HGC.out k hkm
              obtain ⟨g2, rfl, hc2⟩ := HWC.out k hkm
              have hd1 := (hS.out.cell _).trans hc1
              have hd2 := (hS.out.cell _).trans hc2
              have hd3 := (hS.out.cell _).trans cG
              generalize oAt s (prt k0 nn) k = x at *
              clear hc1 hc2
              have HSS : Hid _ := hS
              clear hS
              go_wp2_with fail
              go_quiet (fail)
              go_wp2
              go_roundw
              case rel => exact ⟨k + 1, by omega, by simp, ⟨HSS.out.heap, HSS.out.os, HSS.out.tape, HSS.out.output⟩⟩
              case measure => simp only [intOf]; omega
            · obtain rfl : m = k := by omega
              have HF : Hid (Below b0 w wr) := HBF.out.trans ⟨hS.out.os, hS.out.tape, hS.out.output, by rw [hS.out.heap]; exact Nat.le_refl _, fun j _ => by rw [hS.out.heap]⟩
              clear hS
              go_wp2
              go_returns
              exact ⟨rfl, by rw [hb0]; exact HF.out⟩

end Go.Proofs.Ythojbccoejdmeaa
