/- RankSpread's walk. -/
import Derived.Test.YtbbapaphfijpcaaDoorI
namespace Go.Proofs.YtbbapaphfijpcaaDoor
open Go.RowKit Go.Sort Go.Lib
theorem spread {k : ByteArray} {l : List Int} {n : Nat} {s : Int} (h : s ∈ topL k l 2) (hs : s ∈ l.take n) : s ∈ topL k (l.take n) 2 := by
  unfold topL at *
  rcases Nat.lt_or_ge n l.length with hn | hn
  · refine take_more l (l.length - n) n hs ?_
    rw [show n + (l.length - n) = l.length by omega, List.take_length]
    exact h
  · rw [List.take_of_length_le hn]; exact h
set_option maxHeartbeats 8000000 in
set_option maxRecDepth 100000 in
theorem spread_walk {v : Value} {l0 : List Int} (kao : Option Addr) (nk kc kb ko : Nat) (ks : Nat → ByteArray) (w : World) (ht : Tab w) (hka : 0 < nk → kao = some ⟨kb, ko, none⟩) (hkc : ∀ j, j < nk → w.cell? ⟨kb, ko + j, none⟩ = some (.string (ks j))) (hkz : ∀ j, j < nk → (ks j).size ≤ 9223372036854775807) (hk63 : nk ≤ 9223372036854775807) (h : Rd v l0 w) (hz : l0.length ≤ 9223372036854775807) :
    Calls Tryd.prog 5 #[.slice kao nk kc, v] w fun e w' => e = .returned (.bool true) ∧ Below w.heap.size w w' := by
  have ha := awake7 w ht
  have HT : Hid (Tab w) := ht
  have HR : Hid (Rd v l0 w) := h
  obtain ⟨ao, cp, rfl, -⟩ := id h
  obtain ⟨l, hl⟩ : ∃ l, fewL l0 = l := ⟨_, rfl⟩
  have hl16 : l.length ≤ 16 := by rw [← hl]; exact fewL_len _
  have HM : Hid (∀ x ∈ l, 0 ≤ x ∧ x ≤ 1000) := by rw [← hl]; exact fun x hx => fewL_mem hx
  have HL : Hid (fewL l0 = l) := hl
  have HKA : Hid (0 < nk → kao = some ⟨kb, ko, none⟩) := hka
  have HKC : Hid (∀ W, Below w.heap.size w W → ∀ j, j < nk → W.cell? ⟨kb, ko + j, none⟩ = some (.string (ks j)) ∧ (ks j).size ≤ 9223372036854775807) := fun W hb j hj => ⟨(hb.cell (World.block_lt_of_cell? w _ (hkc j hj))).trans (hkc j hj), hkz j hj⟩
  clear ht h hl hka hkc hkz
  go_enter Tryd.func5, Tryd.ntmps5
  go_wp2_with fail
  go_call ha as e w1 ⟨rfl, b1⟩
  have hfew := few9 (HR.out.below b1) hz
  rw [HL.out] at hfew
  have B1 : Hid (Below w.heap.size w w1) := b1
  clear ha b1
  go_wp2_with fail
  go_call hfew as e w2 ⟨vl, rfl, ol, b2⟩
  have B2 : Hid (Below w.heap.size w w2) := B1.out.trans (b2.mono B1.out.size)
  have OL : Hid (Own w1.heap.size vl l w2) := ol
  clear ol b2 hfew B1 HL HR
  rcases OL.out.cases with ⟨rfl, e0⟩ | ⟨g, cap, cur, rfl, e2, e3, e4, e5, e6, _⟩
  · subst e0
    have hord : ∀ k : ByteArray, (ord (wt k) []).take (2 : Int).toNat = [] := fun k => rfl
    have HORD : Hid (∀ k : ByteArray, (ord (wt k) []).take (2 : Int).toNat = []) := hord
    clear hord
    have hrn : ∀ W, Rd (.slice none 0 0) [] W := fun W => ⟨none, 0, rfl, Nat.le_refl _, fun h => absurd h (Nat.lt_irrefl _)⟩
    have HRN : Hid (∀ W, Rd (.slice none 0 0) [] W) := hrn
    have hcn : (compact (asc [])).length ≤ 19 := comp_le (by decide)
    have HCN : Hid ((compact (asc [])).length ≤ 19) := hcn
    clear hrn hcn HM OL hl16
    go_wp2_with fail
    go_loopw [5] (fun y wr => ∃ (i : Nat), y = .int .i64 (i : Nat) ∧ i ≤ nk ∧ i ≤ 10 ∧ Hid (Below w2.heap.size w2 wr)) (fun y _ => 10 - (intOf y).toNat)
    case atStart => exact ⟨0, rfl, Nat.zero_le _, Nat.zero_le _, Below.refl _ _⟩
    case round =>
      obtain ⟨i, rfl, hi, hi10, hB⟩ := hrel
      by_cases hlt : i < nk
      · by_cases h10 : i < 10
        · obtain rfl := HKA.out (by omega)
          obtain ⟨hkx, hkz⟩ := HKC.out wr (B2.out.trans (hB.out.mono B2.out.size)) i hlt
          have hcut := cut24 (ks i) hkz wr
          have hK := cut_size (ks i)
          obtain ⟨k, hk⟩ : ∃ k, (ks i).extract 0 24 = k := ⟨_, rfl⟩
          rw [hk] at hcut hK
          generalize ks i = s0 at *
          clear hk hkz
          go_wp2_with fail
          go_call hcut as e w3 ⟨rfl, rfl⟩
          clear hkx hcut
          go_wp2_with fail
          go_loopw [40] (fun y wr4 => ∃ (j : Nat), y = .int .i64 (j : Nat) ∧ j ≤ 1 ∧ Hid (Below w2.heap.size w2 wr4)) (fun y _ => 1 - (intOf y).toNat)
          case atStart => exact ⟨0, rfl, Nat.zero_le _, hB.out⟩
          case round =>
            clear hB
            obtain ⟨j, rfl, hj, hB⟩ := hrel
            by_cases hjl : j < 1
            · obtain rfl : j = 0 := by omega
              have BR : Hid (Below w.heap.size w wr) := B2.out.trans (hB.out.mono B2.out.size)
              have h1 := top12 (k := k) 2 hK (HRN.out wr) (by decide) (HT.out.below HT.out.size BR.out) (by decide) HCN.out
              rw [HORD.out] at h1
              have h1' : Calls Tryd.prog 12 #[.string k, .slice none 0 0, .int .i64 2] wr fun e w' => ∃ a c, e = .returned (.slice a 0 c) ∧ Below wr.heap.size wr w' := by
                refine h1.mono ?_
                rintro e w' ⟨v', rfl, o', hb⟩
                obtain ⟨a, c, rfl⟩ := nil_of o'.rd
                exact ⟨a, c, rfl, hb⟩
              clear h1
              go_wp2_with fail
              go_call h1' as e w4 ⟨aa, ca, rfl, b4⟩
              have h2 := top12 (k := k) 2 hK (HRN.out w4) (by decide) (HT.out.below HT.out.size (BR.out.trans (b4.mono BR.out.size))) (by decide) HCN.out
              rw [HORD.out] at h2
              have h2' : Calls Tryd.prog 12 #[.string k, .slice none 0 0, .int .i64 2] w4 fun e w' => ∃ a c, e = .returned (.slice a 0 c) ∧ Below w4.heap.size w4 w' := by
                refine h2.mono ?_
                rintro e w' ⟨v', rfl, o', hb⟩
                obtain ⟨a, c, rfl⟩ := nil_of o'.rd
                exact ⟨a, c, rfl, hb⟩
              have B4 : Hid (Below w2.heap.size w2 w4) := hB.out.trans (b4.mono hB.out.size)
              clear h2 b4 BR hB h1'
              go_wp2_with fail
              go_call h2' as e w5 ⟨ab, cb, rfl, b5⟩
              have B5 : Hid (Below w2.heap.size w2 w5) := B4.out.trans (b5.mono B4.out.size)
              clear h2' b5 B4
              go_wp2_with fail
              refine wp_loop_rounds 1 ?_
              rw [rounds_succ]
              go_wp2
              go_roundw
              case rel => exact ⟨1, rfl, Nat.le_refl _, B5.out⟩
              case measure => simp [intOf]
            · go_wp2
              go_roundw
              case rel => exact ⟨i + 1, by go_num, by omega, by omega, hB.out⟩
              case measure => simp only [intOf]; omega
        · go_wp2
          go_ret
          exact ⟨rfl, B2.out.trans (hB.out.mono B2.out.size)⟩
      · go_wp2
        go_ret
        exact ⟨rfl, B2.out.trans (hB.out.mono B2.out.size)⟩
  · have hcap : l.length ≤ cap := e4
    clear e2 e3 e4 e5 e6
    go_wp2_with fail
    go_loopw [5] (fun y wr => ∃ (i : Nat), y = .int .i64 (i : Nat) ∧ i ≤ nk ∧ i ≤ 10 ∧ Hid (Below w2.heap.size w2 wr)) (fun y _ => 10 - (intOf y).toNat)
    case atStart => exact ⟨0, rfl, Nat.zero_le _, Nat.zero_le _, Below.refl _ _⟩
    case round =>
      obtain ⟨i, rfl, hi, hi10, hB⟩ := hrel
      by_cases hlt : i < nk
      · by_cases h10 : i < 10
        · obtain rfl := HKA.out (by omega)
          obtain ⟨hkx, hkz⟩ := HKC.out wr (B2.out.trans (hB.out.mono B2.out.size)) i hlt
          have hcut := cut24 (ks i) hkz wr
          have hK := cut_size (ks i)
          obtain ⟨k, hk⟩ : ∃ k, (ks i).extract 0 24 = k := ⟨_, rfl⟩
          rw [hk] at hcut hK
          generalize ks i = s0 at *
          clear hk hkz
          go_wp2_with fail
          go_call hcut as e w3 ⟨rfl, rfl⟩
          clear hkx hcut
          go_wp2_with fail
          go_loopw [40] (fun y wr4 => ∃ (j : Nat), y = .int .i64 (j : Nat) ∧ j ≤ l.length + 1 ∧ Hid (Below w2.heap.size w2 wr4)) (fun y _ => l.length + 1 - (intOf y).toNat)
          case atStart => exact ⟨0, rfl, Nat.zero_le _, hB.out⟩
          case round =>
            clear hB
            obtain ⟨j, rfl, hj, hB⟩ := hrel
            by_cases hjl : j < l.length + 1
            · have hj2 : j ≤ l.length := by omega
              have hjc : (j : Int) ≤ (cap : Int) := by omega
              have BR : Hid (Below w.heap.size w wr) := B2.out.trans (hB.out.mono B2.out.size)
              have h1 := top12 (k := k) 2 hK ((OL.out.below hB.out).take hj2).rd (by rw [List.length_take]; omega) (HT.out.below HT.out.size BR.out) (fun x hx => HM.out x (List.mem_of_mem_take hx)) (comp_le (by rw [List.length_take]; omega))
              obtain ⟨ta, hta⟩ : ∃ x, topL k (l.take j) 2 = x := ⟨_, rfl⟩
              obtain ⟨tb, htb⟩ : ∃ x, topL k l 2 = x := ⟨_, rfl⟩
              have hta' : (ord (wt k) (l.take j)).take (2 : Int).toNat = ta := hta
              have HTB' : Hid ((ord (wt k) l).take (2 : Int).toNat = tb) := htb
              rw [hta'] at h1
              have HSP : Hid (∀ s, s ∈ tb → s ∈ l.take j → s ∈ ta) := by
                intro s h2 h3
                rw [← hta]; rw [← htb] at h2
                exact spread h2 h3
              have hal : ta.length ≤ 1000 := by
                rw [← hta]; have := topL_len k (l.take j) 2; rw [List.length_take] at this; omega
              have hbl16 : tb.length ≤ 1000 := by
                rw [← htb]; have := topL_len k l 2; omega
              clear hta htb hta'
              go_wp2_with fail
              go_call h1 as e w4 ⟨va, rfl, oa, b4⟩
              have h2 := top12 (k := k) 2 hK ((OL.out.below (hB.out)).below b4).rd (by omega) (HT.out.below HT.out.size (BR.out.trans (b4.mono BR.out.size))) HM.out (comp_le (by omega))
              rw [HTB'.out] at h2
              have B4 : Hid (Below w2.heap.size w2 w4) := hB.out.trans (b4.mono hB.out.size)
              have OA : Hid (Rd va ta w4) := oa.rd
              obtain ⟨aa, ca, rfl⟩ := oa.len
              clear oa b4 h1 BR hB
              go_wp2_with fail
              go_call h2 as e w5 ⟨vb, rfl, ob, b5⟩
              have B5 : Hid (Below w2.heap.size w2 w5) := B4.out.trans (b5.mono B4.out.size)
              have OA5 : Hid (Rd (.slice aa ta.length ca) ta w5) := OA.out.below b5
              have OB5 : Hid (Rd vb tb w5) := ob.rd
              have OL5 : Hid (Rd (.slice (some ⟨g, 0, none⟩) l.length cap) l w5) := (OL.out.below B5.out).rd
              obtain ⟨ab, cb, rfl⟩ := ob.len
              clear ob b5 h2 OA B4 HTB'
              go_wp2_with fail
              go_loop [53] (fun y => ∃ (m : Nat), y = .int .i64 (m : Nat) ∧ m ≤ tb.length) (fun y => tb.length - (intOf y).toNat)
              case atStart => exact ⟨0, rfl, Nat.zero_le _⟩
              case round =>
                obtain ⟨m, rfl, hm⟩ := hrel
                by_cases hmt : m < tb.length
                · obtain ⟨a1, c1, e1, -, h5⟩ := OB5.out
                  obtain ⟨bb, ob, e2, h6, h7⟩ := h5 (by omega)
                  injection e1 with e1 _ e3
                  subst e3
                  rw [← e1] at e2
                  subst e2
                  have cm := h7 m hmt
                  have HS : Hid (tb.getD m 0 ∈ tb) := by
                    have e : tb.getD m 0 = tb[m] := by simp [List.getD, hmt]
                    rw [e]; exact List.getElem_mem hmt
                  generalize tb.getD m 0 = s at *
                  clear h5 h7 e1
                  go_wp2_with fail
                  go_loop [12, 61] (fun x y => ∃ (q : Nat) (o : Bool), x = .bool o ∧ y = .int .i64 (q : Nat) ∧ q ≤ j ∧ Hid (o = decide (s ∈ l.take q))) (fun _ y => j - (intOf y).toNat)
                  case atStart => exact ⟨0, false, rfl, rfl, Nat.zero_le _, by simp [Hid]⟩
                  case round =>
                    obtain ⟨q, o, rfl, rfl, hq, hO⟩ := hrel
                    by_cases hqj : q < j
                    · obtain ⟨a1, c1, e1, -, h5⟩ := OL5.out
                      obtain ⟨bl, ol, e2, h6', h7⟩ := h5 (by omega)
                      injection e1 with e1 _ e3
                      subst e3
                      rw [← e1] at e2
                      injection e2 with e2
                      injection e2 with e2 e4
                      subst e2 e4
                      have hql : q < l.length := by omega
                      have cq := h7 q hql
                      rw [Nat.zero_add] at cq
                      have HTK : Hid (l.take (q + 1) = l.take q ++ [l.getD q 0]) := by
                        show _ = _
                        rw [List.take_succ_eq_append_getElem hql]
                        simp [List.getD, hql]
                      generalize l.getD q 0 = x at *
                      clear h5 h7 e1
                      cases o with
                      | true =>
                        have HN : Hid (true = decide (s ∈ l.take (q + 1))) := by
                          show _ = _
                          rw [HTK.out, eq_comm, decide_eq_true_iff]
                          exact List.mem_append_left _ (of_decide_eq_true hO.out.symm)
                        go_wp2
                        go_round
                        case rel => exact ⟨q + 1, true, rfl, by go_num, by omega, HN.out⟩
                        case measure => simp only [intOf]; omega
                      | false =>
                        have hns : s ∉ l.take q := of_decide_eq_false hO.out.symm
                        by_cases hsx : s = x
                        · have HN : Hid (true = decide (s ∈ l.take (q + 1))) := by
                            show _ = _
                            rw [HTK.out, eq_comm, decide_eq_true_iff, hsx]
                            exact List.mem_append_right _ (List.mem_singleton.2 rfl)
                          have hb : (s == x) = true := by rw [hsx]; exact beq_self_eq_true x
                          clear hsx hns
                          go_wp2
                          go_round
                          case rel => exact ⟨q + 1, true, by first | rfl | rw [hb], by go_num, by omega, HN.out⟩
                          case measure => simp only [intOf]; omega
                        · have HN : Hid (false = decide (s ∈ l.take (q + 1))) := by
                            show _ = _
                            rw [HTK.out, eq_comm, decide_eq_false_iff_not]
                            intro hm2
                            rcases List.mem_append.1 hm2 with hm2 | hm2
                            · exact hns hm2
                            · exact hsx (List.mem_singleton.1 hm2)
                          have hb : (s == x) = false := by simpa using hsx
                          clear hsx hns
                          go_wp2
                          go_round
                          case rel => exact ⟨q + 1, false, by first | rfl | rw [hb], by go_num, by omega, HN.out⟩
                          case measure => simp only [intOf]; omega
                    · have hqe : q = j := by omega
                      rw [hqe] at hO
                      clear hqe hq
                      have HO : Hid (o = decide (s ∈ l.take j)) := hO
                      clear hO
                      go_wp2_with fail
                      go_loop [15, 74] (fun x y => ∃ (q : Nat) (kp : Bool), x = .bool kp ∧ y = .int .i64 (q : Nat) ∧ q ≤ ta.length ∧ Hid (kp = decide (s ∈ ta.take q))) (fun _ y => ta.length - (intOf y).toNat)
                      case atStart => exact ⟨0, false, rfl, rfl, Nat.zero_le _, by simp [Hid]⟩
                      case round =>
                        obtain ⟨q, kp, rfl, rfl, hq, hKP⟩ := hrel
                        by_cases hqj : q < ta.length
                        · obtain ⟨a1, c1, e1, -, h5⟩ := OA5.out
                          obtain ⟨bl, ol, e2, h6', h7⟩ := h5 (by omega)
                          injection e1 with e1 _ e3
                          subst e3
                          rw [← e1] at e2
                          subst e2
                          have cq := h7 q hqj
                          have HTK : Hid (ta.take (q + 1) = ta.take q ++ [ta.getD q 0]) := by
                            show _ = _
                            rw [List.take_succ_eq_append_getElem hqj]
                            simp [List.getD, hqj]
                          generalize ta.getD q 0 = x at *
                          clear h5 h7 e1
                          cases kp with
                          | true =>
                            have HN : Hid (true = decide (s ∈ ta.take (q + 1))) := by
                              show _ = _
                              rw [HTK.out, eq_comm, decide_eq_true_iff]
                              exact List.mem_append_left _ (of_decide_eq_true hKP.out.symm)
                            go_wp2
                            go_round
                            case rel => exact ⟨q + 1, true, rfl, by go_num, by omega, HN.out⟩
                            case measure => simp only [intOf]; omega
                          | false =>
                            have hns : s ∉ ta.take q := of_decide_eq_false hKP.out.symm
                            by_cases hsx : s = x
                            · have HN : Hid (true = decide (s ∈ ta.take (q + 1))) := by
                                show _ = _
                                rw [HTK.out, eq_comm, decide_eq_true_iff, hsx]
                                exact List.mem_append_right _ (List.mem_singleton.2 rfl)
                              have hb : (s == x) = true := by rw [hsx]; exact beq_self_eq_true x
                              clear hsx hns
                              go_wp2
                              go_round
                              case rel => exact ⟨q + 1, true, by first | rfl | rw [hb], by go_num, by omega, HN.out⟩
                              case measure => simp only [intOf]; omega
                            · have HN : Hid (false = decide (s ∈ ta.take (q + 1))) := by
                                show _ = _
                                rw [HTK.out, eq_comm, decide_eq_false_iff_not]
                                intro hm2
                                rcases List.mem_append.1 hm2 with hm2 | hm2
                                · exact hns hm2
                                · exact hsx (List.mem_singleton.1 hm2)
                              have hb : (s == x) = false := by simpa using hsx
                              clear hsx hns
                              go_wp2
                              go_round
                              case rel => exact ⟨q + 1, false, by first | rfl | rw [hb], by go_num, by omega, HN.out⟩
                              case measure => simp only [intOf]; omega
                        · have hkt : Hid (o = true → kp = true) := by
                            intro ho
                            have h1 := hKP.out
                            rw [List.take_of_length_le (by omega)] at h1
                            have h2 := HO.out
                            rw [ho] at h2
                            rw [h1, decide_eq_true_iff]
                            exact HSP.out s HS.out (of_decide_eq_true h2.symm)
                          cases o with
                          | false =>
                            go_wp2
                            go_round
                            case rel => exact ⟨m + 1, by go_num, by omega⟩
                            case measure => simp only [intOf]; omega
                          | true =>
                            obtain rfl : kp = true := hkt.out rfl
                            go_wp2
                            go_round
                            case rel => exact ⟨m + 1, by go_num, by omega⟩
                            case measure => simp only [intOf]; omega
                · clear hm
                  go_wp2
                  go_roundw
                  case rel => exact ⟨j + 1, by go_num, by omega, B5.out⟩
                  case measure => simp only [intOf]; omega
            · go_wp2
              go_roundw
              case rel => exact ⟨i + 1, by go_num, by omega, by omega, hB.out⟩
              case measure => simp only [intOf]; omega
        · go_wp2
          go_ret
          exact ⟨rfl, B2.out.trans (hB.out.mono B2.out.size)⟩
      · go_wp2
        go_ret
        exact ⟨rfl, B2.out.trans (hB.out.mono B2.out.size)⟩
end Go.Proofs.YtbbapaphfijpcaaDoor
