/- TableMany as a call: of any numbers it returns true, and nothing that was there has turned; where the table of rounds reads as the program's text lays it. -/
import Derived.Test.YtcgmngafodmfcaaDoorN
namespace Go.Proofs.YtcgmngafodmfcaaDoor
open Go.RowKit
theorem Two.lt {T : Nat} {w : World} {ta pa tb pb : Nat} {E F : List Ent} {W : World} (h : Two T w ta pa tb pb E F W) : T ≤ W.heap.size := h.la.sz
set_option maxHeartbeats 4000000 in
set_option maxRecDepth 100000 in
theorem many_walk (sd : Nat) (hsd : sd < 18446744073709551616) (n0 d0 : Int) (w : World) (ht : Tab w) :
    Calls Tryd.prog 4 #[.int .u64 (sd : Nat), .int .i64 n0, .int .i64 d0] w fun e w' => e = .returned (.bool true) ∧ Below w.heap.size w w' := by
  have hsz := ht.size
  have haw := awake_any w ht
  obtain ⟨m, hm⟩ : ∃ m : Nat, max 0 (min n0 300) = (m : Int) := ⟨(max 0 (min n0 300)).toNat, by omega⟩
  have hm300 : m ≤ 300 := by omega
  obtain ⟨d1, hd1⟩ : ∃ d : Nat, max 0 (min d0 6) = (d : Int) := ⟨(max 0 (min d0 6)).toNat, by omega⟩
  have hd6 : d1 ≤ 6 := by omega
  obtain ⟨sd1, hsd1⟩ : ∃ s : Nat, IntKind.u64.wrap ((sd : Int) + 1) = (s : Int) ∧ s < 18446744073709551616 := ⟨(sd + 1) % 18446744073709551616, by rw [IntKind.wrap_u64]; omega, by omega⟩
  obtain ⟨hsw, hsl⟩ := hsd1
  have HT : Hid (Tab w) := ht
  have hent := ent18
  clear ht
  go_enter Tryd.func4, Tryd.ntmps4
  go_wp2_with fail
  go_call haw as e w1 ⟨rfl, hb1⟩
  have HTB1 : Hid (Tab w1) := HT.out.below hsz hb1
  have hnw := tnew sd hsd w1 HTB1.out
  have HB1 : Hid _ := hb1
  clear haw hb1
  go_wp2_with fail
  go_call hnw as e w2 ⟨ta, pa, rfl, hTa, hb2, ha1, ha2⟩
  have HTB2 : Hid (Tab w2) := HTB1.out.below HTB1.out.size hb2
  have hnw2 := tnew sd1 hsl w2 HTB2.out
  have HTa : Hid _ := hTa
  have HB2 : Hid _ := hb2
  clear hnw hTa hb2
  go_wp2_with fail
  go_call hnw2 as e w3 ⟨tb, pb, rfl, hTb, hb3, ha3, ha4⟩
  have HTW : Hid (Two w.heap.size w ta pa tb pb [] [] w3) := by
    obtain ⟨l1, l2, _, _⟩ := HTa.out.lt
    have s1 := HB1.out.size
    have s2 := HB2.out.size
    have s3 := hb3.size
    have bl : Below w.heap.size w w3 := (HB1.out.trans (HB2.out.mono s1)).trans (hb3.mono (by omega))
    exact ⟨HTa.out.below hb3, hTb, ⟨bl, by omega, by omega, by omega⟩, ⟨bl, by omega, by omega, by omega⟩, by omega, by omega, by omega, by omega⟩
  clear hnw2 hTb hb3 ha1 ha2 ha3 ha4 HTa HB1 HB2 HTB1 HTB2
  go_wp2
  rename_i K hK
  have HK : Hid _ := hK
  clear hK
  go_loopw [39] (fun x wr => ∃ (i pa' : Nat) (E : List Ent), x = .int .i64 (i : Nat) ∧ i ≤ m ∧ Hid (Two w.heap.size w ta pa' tb pb E [] wr) ∧ Hid (∀ j, j < m → lk E (kN j) = if j < i then some ((j : Nat) : Int) else none) ∧ E.length = i) (fun x _ => m - (intOf x).toNat)
  case atStart => exact ⟨0, pa, [], rfl, Nat.zero_le _, HTW, (fun j _ => by rw [if_neg (Nat.not_lt_zero _)]; rfl), rfl⟩
  case round =>
    obtain ⟨i, pa', E, rfl, hin, hW, hE, hlE⟩ := hrel
    clear HTW
    rcases Nat.lt_or_ge i m with hi | hi
    · have hky := key_any i (by omega) wr
      have hlk := hE.out i hi
      rw [if_neg (Nat.lt_irrefl _)] at hlk
      have HLK : Hid _ := hlk
      clear hlk
      go_wp2_with fail
      go_call hky as e W1 ⟨rfl, hb1⟩
      have HW1 : Hid _ := hW.out.below hb1
      clear hky hb1
      have hpt := put_any HW1.out.a (kN i) (kN_le i) (i : Nat) (by omega)
      go_wp2_with fail
      go_call hpt as e W2 ⟨rfl, pa2, h1, h2, h3⟩
      have HW2 : Hid _ := HW1.out.stepA h1 h2 h3
      clear hpt h1 h2 h3
      go_wp2
      go_roundw
      case rel =>
        refine ⟨i + 1, pa2, _, by go_num, by omega, HW2, (fun j hj => ?_), by rw [len_new HLK.out, hlE]⟩
        rw [lk_put]
        by_cases e : j = i
        · rw [e, if_pos rfl, if_pos (by omega)]
        · rw [if_neg (fun e2 => e (kN_inj (by omega) (by omega) e2).symm), hE.out j hj]
          by_cases c : j < i
          · rw [if_pos c, if_pos (by omega)]
          · rw [if_neg c, if_neg (by omega)]
      case measure => simp only [intOf]; omega
    · obtain rfl : i = m := by omega
      have HE0 : Hid (∀ j, j < i → lk E (kN j) = some ((j : Nat) : Int)) := fun j hj => by rw [hE.out j hj, if_pos hj]
      clear hE
      go_wp2
      refine HK.out _ _ ?_
      clear HK
      go_wp2
      rename_i K2 hK2
      have HK2 : Hid _ := hK2
      clear hK2
      go_loopw [11, 50] (fun x y wq => ∃ (q c pa2 pb2 : Nat) (E2 F : List Ent), x = .int .i64 (c : Nat) ∧ y = .int .i64 (q : Nat) ∧ q ≤ i ∧ Hid (Two w.heap.size w ta pa2 tb pb2 E2 F wq) ∧ Hid (∀ j, j < i → lk E2 (kN j) = if j < q ∧ j % (1 + d1) = 0 then none else some ((j : Nat) : Int)) ∧ Hid (∀ j, j < i → lk F (kN j) = if j < q ∧ ¬ j % (1 + d1) = 0 then some ((j : Nat) : Int) else none) ∧ F.length = c ∧ E2.length + q = i + c ∧ c ≤ q) (fun _ y _ => i - (intOf y).toNat)
      case atStart =>
        refine ⟨0, 0, pa', pb, E, [], rfl, rfl, Nat.zero_le _, hW, (fun j hj => ?_), (fun j hj => ?_), rfl, by omega, Nat.le_refl _⟩
        · rw [if_neg (fun h => absurd h.1 (Nat.not_lt_zero _))]; exact HE0.out j hj
        · rw [if_neg (fun h => absurd h.1 (Nat.not_lt_zero _))]; rfl
      case round =>
        obtain ⟨q, c, pa2, pb2, E2, F, rfl, rfl, hq, hW2, hE2, hF2, hlF, hlE2, hcq⟩ := hrel
        clear hW HE0
        rcases Nat.lt_or_ge q i with hqi | hqi
        · have hky := key_any q (by omega) wr
          have hrm : ((q : Int)).tmod (1 + (d1 : Int)) = ((q % (1 + d1) : Nat) : Int) := by
            rw [Int.tmod_eq_emod_of_nonneg (by omega), Int.natCast_emod]
            rfl
          have hd0 : ¬ (1 + (d1 : Int) = 0) := by omega
          have hE2q := hE2.out q hqi
          have hF2q := hF2.out q hqi
          rw [if_neg (fun h => absurd h.1 (Nat.lt_irrefl _))] at hE2q hF2q
          have HEQ : Hid _ := hE2q
          have HFQ : Hid _ := hF2q
          clear hE2q hF2q
          by_cases hr : q % (1 + d1) = 0
          · rw [hr] at hrm
            have hrm0 : ((q : Int)).tmod (1 + (d1 : Int)) = 0 := hrm
            have HR : Hid _ := hr
            clear hrm hr
            go_wp2_with fail
            go_call hky as e W1 ⟨rfl, hb1⟩
            have HW1 : Hid _ := hW2.out.below hb1
            clear hky hb1
            have hdp := drop_any HW1.out.a (kN q) (kN_le q)
            rw [HEQ.out] at hdp
            go_wp2_with fail
            go_call hdp as e W2 ⟨rfl, pa3, h1, h2, h3⟩
            have HW3 : Hid _ := HW1.out.stepA h1 h2 h3
            have HLW : Hid _ := len_wo HW1.out.a.keys HEQ.out
            clear hdp h1 h2 h3
            go_wp2
            go_roundw
            case rel =>
              refine ⟨q + 1, c, pa3, pb2, _, F, rfl, by go_num, by omega, HW3, (fun j hj => ?_), (fun j hj => ?_), hlF, by have := HLW.out; omega, by omega⟩
              · by_cases e : j = q
                · rw [e, lk_wo_self, if_pos ⟨by omega, HR.out⟩]
                · rw [lk_wo (fun e2 => e (kN_inj (by omega) (by omega) e2).symm), hE2.out j hj]
                  by_cases c1 : j < q ∧ j % (1 + d1) = 0
                  · rw [if_pos c1, if_pos ⟨by omega, c1.2⟩]
                  · rw [if_neg c1, if_neg (fun h => c1 ⟨by omega, h.2⟩)]
              · rw [hF2.out j hj]
                by_cases c1 : j < q ∧ ¬ j % (1 + d1) = 0
                · rw [if_pos c1, if_pos ⟨by omega, c1.2⟩]
                · rw [if_neg c1, if_neg]
                  intro h
                  by_cases e : j = q
                  · exact h.2 (by rw [e]; exact HR.out)
                  · exact c1 ⟨by omega, h.2⟩
            case measure => simp only [intOf]; omega
          · have hrn : ¬ ((q % (1 + d1) : Nat) : Int) = 0 := by omega
            obtain ⟨r, hrr⟩ : ∃ r : Int, r = ((q % (1 + d1) : Nat) : Int) := ⟨_, rfl⟩
            rw [← hrr] at hrm hrn
            have HR : Hid _ := hr
            clear hrr hr
            go_wp2_with fail
            go_call hky as e W1 ⟨rfl, hb1⟩
            have HW1 : Hid _ := hW2.out.below hb1
            clear hky hb1
            have hpt := put_any HW1.out.b (kN q) (kN_le q) (q : Nat) (by omega)
            go_wp2_with fail
            go_call hpt as e W2 ⟨rfl, pb3, h1, h2, h3⟩
            have HW3 : Hid _ := HW1.out.stepB h1 h2 h3
            clear hpt h1 h2 h3
            go_wp2
            go_roundw
            case rel =>
              refine ⟨q + 1, c + 1, pa2, pb3, E2, _, by go_num, by go_num, by omega, HW3, (fun j hj => ?_), (fun j hj => ?_), by rw [len_new HFQ.out, hlF], by omega, by omega⟩
              · rw [hE2.out j hj]
                by_cases c1 : j < q ∧ j % (1 + d1) = 0
                · rw [if_pos c1, if_pos ⟨by omega, c1.2⟩]
                · rw [if_neg c1, if_neg]
                  intro h
                  by_cases e : j = q
                  · exact HR.out (by rw [← e]; exact h.2)
                  · exact c1 ⟨by omega, h.2⟩
              · rw [lk_put]
                by_cases e : j = q
                · rw [e, if_pos rfl, if_pos ⟨by omega, HR.out⟩]
                · rw [if_neg (fun e2 => e (kN_inj (by omega) (by omega) e2).symm), hF2.out j hj]
                  by_cases c1 : j < q ∧ ¬ j % (1 + d1) = 0
                  · rw [if_pos c1, if_pos ⟨by omega, c1.2⟩]
                  · rw [if_neg c1, if_neg (fun h => c1 ⟨by omega, h.2⟩)]
            case measure => simp only [intOf]; omega
        · obtain rfl : q = i := by omega
          have hlE3 : E2.length = c := by omega
          have HEE : Hid (∀ j, j < q → lk E2 (kN j) = if j % (1 + d1) = 0 then none else some ((j : Nat) : Int)) := fun j hj => by
            rw [hE2.out j hj]
            by_cases c1 : j % (1 + d1) = 0
            · rw [if_pos ⟨hj, c1⟩, if_pos c1]
            · rw [if_neg (fun h => c1 h.2), if_neg c1]
          have HFF : Hid (∀ j, j < q → lk F (kN j) = if j % (1 + d1) = 0 then none else some ((j : Nat) : Int)) := fun j hj => by
            rw [hF2.out j hj]
            by_cases c1 : j % (1 + d1) = 0
            · rw [if_neg (fun h => h.2 c1), if_pos c1]
            · rw [if_pos ⟨hj, c1⟩, if_neg c1]
          clear hE2 hF2
          go_wp2
          refine HK2.out _ _ ?_
          clear HK2
          have hlA := tlen hW2.out.a
          have hlB := tlen hW2.out.b
          rw [hlE3] at hlA
          rw [hlF] at hlB
          go_wp2_with fail
          go_call hlA as e W1 ⟨rfl, rfl⟩
          go_wp2_with fail
          go_call hlB as e W2 ⟨rfl, rfl⟩
          clear hlA hlB
          go_wp2
          go_loopw [83] (fun x wz => ∃ z : Nat, x = .int .i64 (z : Nat) ∧ z ≤ q ∧ Hid (Two w.heap.size w ta pa2 tb pb2 E2 F wz)) (fun x _ => q - (intOf x).toNat)
          case atStart => exact ⟨0, rfl, Nat.zero_le _, hW2⟩
          case round =>
            obtain ⟨z, rfl, hz, hW3⟩ := hrel
            clear hW2
            rcases Nat.lt_or_ge z q with hzq | hzq
            · have hky := key_any z (by omega)
              have HKY : Hid _ := hky
              have hrm : ((z : Int)).tmod (1 + (d1 : Int)) = ((z % (1 + d1) : Nat) : Int) := by
                rw [Int.tmod_eq_emod_of_nonneg (by omega), Int.natCast_emod]
                rfl
              have hd0 : ¬ (1 + (d1 : Int) = 0) := by omega
              have hEz := HEE.out z hzq
              have hFz := HFF.out z hzq
              clear hky
              by_cases hr : z % (1 + d1) = 0
              · rw [if_pos hr] at hEz hFz
                rw [hr] at hrm
                have hrm0 : ((z : Int)).tmod (1 + (d1 : Int)) = 0 := hrm
                clear hrm hr
                have HEz : Hid _ := hEz
                have HFz : Hid _ := hFz
                clear hEz hFz
                have hk1 := HKY.out wr
                go_wp2_with fail
                go_call hk1 as e V1 ⟨rfl, hb1⟩
                have HV1 : Hid _ := hW3.out.below hb1
                clear hk1 hb1
                have hg1 := tget HV1.out.a (kN z) (kN_le z)
                rw [HEz.out] at hg1
                go_wp2_with fail
                go_call hg1 as e V2 ⟨rfl, hb2⟩
                have HV2 : Hid _ := HV1.out.below hb2
                have hk2 := HKY.out V2
                clear hg1 hb2
                go_wp2_with fail
                go_call hk2 as e V3 ⟨rfl, hb3⟩
                have HV3 : Hid _ := HV2.out.below hb3
                have hg3 := tget HV3.out.b (kN z) (kN_le z)
                rw [HFz.out] at hg3
                clear hk2 hb3
                go_wp2_with fail
                go_call hg3 as e V4 ⟨rfl, hb4⟩
                have HV4 : Hid _ := HV3.out.below hb4
                have hk4 := HKY.out V4
                clear hg3 hb4
                go_wp2_with fail
                go_call hk4 as e V5 ⟨rfl, hb5⟩
                have HV5 : Hid _ := HV4.out.below hb5
                have hst := tsteps HV5.out.a (kN z) (kN_le z)
                clear hk4 hb5
                go_wp2_with fail
                go_call hst as e V6 ⟨⟨s, rfl, hs⟩, hb6⟩
                have HV6 : Hid _ := HV5.out.below hb6
                have hsc : ¬ ((c : Int) + 1 < (s : Int) + 1) := by omega
                have hsc2 : ¬ ((c : Int) < (s : Int)) := by omega
                clear hst hb6
                go_wp2
                go_roundw
                case rel => exact ⟨z + 1, by go_num, by omega, HV6⟩
                case measure => simp only [intOf]; omega
              · rw [if_neg hr] at hEz hFz
                have hrn : ¬ ((z % (1 + d1) : Nat) : Int) = 0 := by omega
                obtain ⟨r, hrr⟩ : ∃ r : Int, r = ((z % (1 + d1) : Nat) : Int) := ⟨_, rfl⟩
                rw [← hrr] at hrm hrn
                have hrb : (r != 0) = true := bne_iff_ne.2 hrn
                clear hrr hr
                have HEz : Hid _ := hEz
                have HFz : Hid _ := hFz
                clear hEz hFz
                have hk1 := HKY.out wr
                go_wp2_with fail
                go_call hk1 as e V1 ⟨rfl, hb1⟩
                have HV1 : Hid _ := hW3.out.below hb1
                clear hk1 hb1
                have hg1 := tget HV1.out.a (kN z) (kN_le z)
                rw [HEz.out] at hg1
                go_wp2_with fail
                go_call hg1 as e V2 ⟨rfl, hb2⟩
                have HV2 : Hid _ := HV1.out.below hb2
                have hk2 := HKY.out V2
                clear hg1 hb2
                go_wp2_with fail
                go_call hk2 as e V3 ⟨rfl, hb3⟩
                have HV3 : Hid _ := HV2.out.below hb3
                have hg3 := tget HV3.out.b (kN z) (kN_le z)
                rw [HFz.out] at hg3
                clear hk2 hb3
                go_wp2_with fail
                go_call hg3 as e V4 ⟨rfl, hb4⟩
                have HV4 : Hid _ := HV3.out.below hb4
                have hk4 := HKY.out V4
                clear hg3 hb4
                go_wp2_with fail
                go_call hk4 as e V5 ⟨rfl, hb5⟩
                have HV5 : Hid _ := HV4.out.below hb5
                have hst := tsteps HV5.out.a (kN z) (kN_le z)
                clear hk4 hb5
                go_wp2_with fail
                go_call hst as e V6 ⟨⟨s, rfl, hs⟩, hb6⟩
                have HV6 : Hid _ := HV5.out.below hb6
                have hsc : ¬ ((c : Int) + 1 < (s : Int) + 1) := by omega
                have hsc2 : ¬ ((c : Int) < (s : Int)) := by omega
                clear hst hb6
                go_wp2
                go_roundw
                case rel => exact ⟨z + 1, by go_num, by omega, HV6⟩
                case measure => simp only [intOf]; omega
            · obtain rfl : z = q := by omega
              go_wp2
              go_returns
              exact ⟨rfl, hW3.out.la.bl⟩
end Go.Proofs.YtcgmngafodmfcaaDoor
