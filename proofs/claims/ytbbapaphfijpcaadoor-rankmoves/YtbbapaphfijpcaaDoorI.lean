/- The fixed fact; RankGrows' walk. -/
import Derived.Test.YtbbapaphfijpcaaDoorH
namespace Go.Proofs.YtbbapaphfijpcaaDoor
open Go.RowKit Go.Sort Go.Lib
set_option maxHeartbeats 1000000 in
theorem awake7 (w : World) (ht : Tab w) : Calls Tryd.prog 7 #[] w fun e w' => e = .returned (.bool true) ∧ Below w.heap.size w w' := by
  have hb1 : Below w.heap.size w (w.alloc (.cells #[.int .i64 7] 3)) := (Below.refl _ _).alloc (Nat.le_refl _) _
  have hr : Rd (.slice (some ⟨w.heap.size, 0, none⟩) 1 1) [7] (w.alloc (.cells #[.int .i64 7] 3)) := by
    refine ⟨_, 1, rfl, Nat.le_refl _, fun _ => ⟨w.heap.size, 0, rfl, getElem?_lt (heap_new _ _), fun j hj => ?_⟩⟩
    have : j = 0 := by simpa using hj
    subst this
    exact cell_of (heap_new _ _) 0
  have h1 := top12 (k := ⟨#[97]⟩) 2 (by decide) hr (by decide) (ht.below ht.size hb1) (by decide) (comp_le (by decide))
  have ho : (ord (wt ⟨#[97]⟩) [7]).take (2 : Int).toNat = [7] := rfl
  rw [ho] at h1
  have HT : Hid (Tab w) := ht
  have HB1 : Hid (Below w.heap.size w (w.alloc (.cells #[.int .i64 7] 3))) := hb1
  clear hr ho ht hb1
  go_enter Tryd.func7, Tryd.ntmps7
  go_wp2_with fail
  go_call h1 as e w1 ⟨v1, rfl, o1, b1⟩
  obtain ⟨ao, cp, h2, h3, h4⟩ := o1.rd
  obtain ⟨g, o, rfl, h5, h6⟩ := h4 (by decide)
  have c0 : w1.cell? ⟨g, o, none⟩ = some (.int .i64 7) := h6 0 (by decide)
  obtain rfl : v1 = .slice (some ⟨g, o, none⟩) 1 cp := h2
  have B1 : Hid (Below w.heap.size w w1) := HB1.out.trans (b1.mono HB1.out.size)
  have h7 := weight13 (k := ⟨#[97]⟩) (by decide) 7 w1 (HT.out.below HT.out.size B1.out)
  have h8 := refWeight_any (⟨#[97]⟩ : ByteArray) (by decide) 7 (by decide)
  clear h1 o1 h3 h4 h6 b1
  generalize wt ⟨#[97]⟩ 7 = p at h7 h8
  go_wp2_with fail
  go_call h7 as e w2 ⟨rfl, b2⟩
  have h9 := h8 w2
  clear h8 h7 c0
  go_wp2_with fail
  go_call h9 as e w3 ⟨rfl, rfl⟩
  go_wp2
  go_ret
  exact ⟨by simp, B1.out.trans (b2.mono B1.out.size)⟩
theorem cut24 (s : ByteArray) (hs : s.size ≤ 9223372036854775807) (w : World) : Calls Tryd.prog 8 #[.string s, .int .i64 24] w fun e w' => e = .returned (.string (s.extract 0 24)) ∧ w' = w := cut_any s 24 hs (by decide) w
theorem cut_size (s : ByteArray) : (s.extract 0 24).size ≤ 9223372036854775807 := by
  rw [ByteArray.size_extract]; omega
theorem nil_of {v : Value} {w : World} (h : Rd v [] w) : ∃ ao cp, v = .slice ao 0 cp := by
  obtain ⟨ao, cp, h1, -⟩ := h
  exact ⟨ao, cp, h1⟩
theorem topL_pre (k : ByteArray) (l : List Int) (r : Nat) : topL k l (r : Nat) = (topL k l ((r : Int) + 1)).take (topL k l (r : Nat)).length ∧ (topL k l (r : Nat)).length ≤ (topL k l ((r : Int) + 1)).length ∧ (topL k l ((r : Int) + 1)).length ≤ (topL k l (r : Nat)).length + 1 := by
  unfold topL
  rw [show ((r : Nat) : Int).toNat = r by omega, show ((r : Int) + 1).toNat = r + 1 by omega, List.length_take, List.length_take]
  refine ⟨?_, by omega, by omega⟩
  rw [List.take_take]
  rcases Nat.le_total r (ord (wt k) l).length with h | h
  · rw [Nat.min_eq_left h, Nat.min_eq_left (by omega)]
  · rw [Nat.min_eq_right h, Nat.min_eq_left (by omega), List.take_length, List.take_of_length_le h]
/-- The first ones of a row of the call's own. -/
theorem Own.take {T : Nat} {g cap : Nat} {l : List Int} {n : Nat} {w : World} (h : Own T (.slice (some ⟨g, 0, none⟩) l.length cap) l w) (hn : n ≤ l.length) : Own T (.slice (some ⟨g, 0, none⟩) n cap) (l.take n) w := by
  rcases h.cases with ⟨h1, _⟩ | ⟨g', cap', cur, h1, h2, h3, h4, h5, h6, h7⟩
  · cases h1
  · injection h1 with h1 _ h8
    injection h1 with h1
    injection h1 with h1
    subst h1 h8
    have hz : (l.take n).length = n := by rw [List.length_take]; omega
    have := Own.mk (l := l.take n) h2 h3 (by omega) h5 h6 (by
      rw [hz]
      have e : (cur.toList.take l.length).take n = (l.map (Value.int .i64)).take n := by rw [h7]
      rw [List.take_take, Nat.min_eq_left hn, ← List.map_take] at e
      exact e)
    rw [hz] at this
    exact this
set_option maxHeartbeats 2000000 in
theorem grows_walk {v : Value} {l0 : List Int} (s : ByteArray) (r0 : Int) (hs : s.size ≤ 9223372036854775807) (w : World) (ht : Tab w) (h : Rd v l0 w) (hz : l0.length ≤ 9223372036854775807) :
    Calls Tryd.prog 6 #[.string s, v, .int .i64 r0] w fun e w' => e = .returned (.bool true) ∧ Below w.heap.size w w' := by
  have ha := awake7 w ht
  obtain ⟨r, hr⟩ : ∃ r : Nat, max 0 (min r0 20) = (r : Int) := ⟨(max 0 (min r0 20)).toNat, by omega⟩
  have hr20 : r ≤ 20 := by omega
  have HT : Hid (Tab w) := ht
  have HR : Hid (Rd v l0 w) := h
  obtain ⟨ao, cp, rfl, -⟩ := id h
  have hK := cut_size s
  have hcut := cut24 s hs
  obtain ⟨k, hk⟩ : ∃ k, s.extract 0 24 = k := ⟨_, rfl⟩
  rw [hk] at hK hcut
  obtain ⟨l, hl⟩ : ∃ l, fewL l0 = l := ⟨_, rfl⟩
  have hl16 : l.length ≤ 16 := by rw [← hl]; exact fewL_len _
  have HM : Hid (∀ x ∈ l, 0 ≤ x ∧ x ≤ 1000) := by rw [← hl]; exact fun x hx => fewL_mem hx
  have HL : Hid (fewL l0 = l) := hl
  have HC : Hid ((compact (asc l)).length ≤ 19) := comp_le (by omega)
  clear ht h hk hl
  go_enter Tryd.func6, Tryd.ntmps6
  go_wp2_with fail
  go_call ha as e w1 ⟨rfl, b1⟩
  have hcut1 := hcut w1
  have hfew := few9 (HR.out.below b1) hz
  rw [HL.out] at hfew
  have B1 : Hid (Below w.heap.size w w1) := b1
  clear ha b1 hcut
  go_wp2_with fail
  go_call hcut1 as e w1 ⟨rfl, rfl⟩
  go_wp2_with fail
  go_call hfew as e w2 ⟨vl, rfl, ol, b2⟩
  have B2 : Hid (Below w.heap.size w w2) := B1.out.trans (b2.mono B1.out.size)
  have OL : Hid (Rd vl l w2) := ol.rd
  obtain ⟨al, cl, rfl⟩ := ol.len
  have h1 := top12 (k := k) (r : Int) hK ol.rd (by omega) (HT.out.below HT.out.size B2.out) HM.out HC.out
  obtain ⟨a, hA⟩ : ∃ a, topL k l (r : Nat) = a := ⟨_, rfl⟩
  obtain ⟨b, hB⟩ : ∃ b, topL k l ((r : Int) + 1) = b := ⟨_, rfl⟩
  have hA' : (ord (wt k) l).take ((r : Nat) : Int).toNat = a := hA
  have hB' : (ord (wt k) l).take ((r : Int) + 1).toNat = b := hB
  rw [hA'] at h1
  have hpre := topL_pre k l r
  rw [hA, hB] at hpre
  have HB' : Hid ((ord (wt k) l).take ((r : Int) + 1).toNat = b) := hB'
  have HAA : Hid (topL k l (r : Nat) = a) := hA
  have HP1 : Hid (a = b.take a.length) := hpre.1
  have hp2 := hpre.2.1
  have hp3 := hpre.2.2
  have hal : a.length ≤ 16 := by rw [← hA]; have := topL_len k l (r : Nat); omega
  clear ol b2 hcut1 hfew B1 hA hB hA' hB' hpre
  go_wp2_with fail
  go_call h1 as e w3 ⟨va, rfl, oa, b3⟩
  have h2 := top12 (k := k) ((r : Int) + 1) hK (OL.out.below b3) (by omega) (HT.out.below HT.out.size (B2.out.trans (b3.mono B2.out.size))) HM.out HC.out
  rw [HB'.out] at h2
  have B3 : Hid (Below w.heap.size w w3) := B2.out.trans (b3.mono B2.out.size)
  have OL3 : Hid (Rd (.slice al l.length cl) l w3) := OL.out.below b3
  have OA : Hid (Rd va a w3) := oa.rd
  obtain ⟨aa, ca, rfl⟩ := oa.len
  clear oa b3 h1 OL B2
  go_wp2_with fail
  go_call h2 as e w4 ⟨vb, rfl, ob, b4⟩
  have B4 : Hid (Below w.heap.size w w4) := B3.out.trans (b4.mono B3.out.size)
  have OL4 : Hid (Rd (.slice al l.length cl) l w4) := OL3.out.below b4
  have OA4 : Hid (Rd (.slice aa a.length ca) a w4) := OA.out.below b4
  -- behind the two tops
  have back : ∀ (vb2 : Value), Rd vb2 (b.take a.length) w4 → Calls Tryd.prog 15 #[.slice aa a.length ca, vb2] w4 fun e w' => e = .returned (.bool true) ∧ Below w4.heap.size w4 w' := by
    intro vb2 hvb
    have := same15 OA4.out hvb (by omega) (by rw [List.length_take]; omega)
    rw [decide_eq_true HP1.out] at this
    exact this
  have BACK : Hid (∀ (vb2 : Value), Rd vb2 (b.take a.length) w4 → Calls Tryd.prog 15 #[.slice aa a.length ca, vb2] w4 fun e w' => e = .returned (.bool true) ∧ Below w4.heap.size w4 w') := back
  have rest : ∀ w5, Below w4.heap.size w4 w5 → Calls Tryd.prog 16 #[.string k, .slice al l.length cl, .slice al l.length cl, .int .i64 (r : Nat)] w5 fun e w' => ∃ a1 c1 a2 c2, e = .returned (.tuple #[.slice a1 0 c1, .slice a2 0 c2]) ∧ Below w5.heap.size w5 w' := by
    intro w5 hb
    have := moved16 (k := k) (r : Int) hK (OL4.out.below hb) (OL4.out.below hb) (by omega) (by omega) (HT.out.below HT.out.size (B4.out.trans (hb.mono B4.out.size))) HM.out HM.out
    refine this.mono ?_
    rintro e w' ⟨x, y, rfl, r1, r2, hb2⟩
    rw [wo_self] at r1 r2
    obtain ⟨a1, c1, rfl⟩ := nil_of r1
    obtain ⟨a2, c2, rfl⟩ := nil_of r2
    exact ⟨a1, c1, a2, c2, rfl, hb2⟩
  have REST : Hid (∀ w5, Below w4.heap.size w4 w5 → Calls Tryd.prog 16 #[.string k, .slice al l.length cl, .slice al l.length cl, .int .i64 (r : Nat)] w5 fun e w' => ∃ a1 c1 a2 c2, e = .returned (.tuple #[.slice a1 0 c1, .slice a2 0 c2]) ∧ Below w5.heap.size w5 w') := rest
  have last : ∀ w5, Below w4.heap.size w4 w5 → Calls Tryd.prog 12 #[.string k, .slice al l.length cl, .int .i64 (-1)] w5 fun e w' => ∃ a1 c1, e = .returned (.slice a1 0 c1) ∧ Below w5.heap.size w5 w' := by
    intro w5 hb
    have := top12 (k := k) (-1) hK (OL4.out.below hb) (by omega) (HT.out.below HT.out.size (B4.out.trans (hb.mono B4.out.size))) HM.out HC.out
    refine this.mono ?_
    rintro e w' ⟨v', rfl, o, hb2⟩
    obtain ⟨a1, c1, rfl⟩ := nil_of o.rd
    exact ⟨a1, c1, rfl, hb2⟩
  have LAST : Hid (∀ w5, Below w4.heap.size w4 w5 → Calls Tryd.prog 12 #[.string k, .slice al l.length cl, .int .i64 (-1)] w5 fun e w' => ∃ a1 c1, e = .returned (.slice a1 0 c1) ∧ Below w5.heap.size w5 w') := last
  clear back rest last h2 OL3 OA B3 b4
  have hn1 : ¬ (b.length : Int) < (a.length : Int) := by omega
  have hn2 : ¬ (a.length : Int) + 1 < (b.length : Int) := by omega
  rcases ob.cases with ⟨rfl, rfl⟩ | ⟨g, cap, cur, rfl, e2, e3, e4, e5, e6, e7⟩
  · have ha0 : a.length = 0 := by simpa using hp2
    obtain rfl : a = [] := List.length_eq_zero_iff.1 ha0
    have hsm : Calls Tryd.prog 15 #[.slice aa 0 ca, .slice none 0 0] w4 fun e w' => e = .returned (.bool true) ∧ Below w4.heap.size w4 w' := BACK.out _ ⟨none, 0, rfl, Nat.le_refl _, fun h => absurd h (Nat.lt_irrefl _)⟩
    clear hn1 hn2 ha0 hp2 hp3 hal ob
    go_wp2_with fail
    go_call hsm as e w5 ⟨rfl, b5⟩
    have hmv := REST.out w5 b5
    clear hsm
    go_wp2_with fail
    go_call hmv as e w6 ⟨a1, c1, a2, c2, rfl, b6⟩
    have hlt := LAST.out w6 (b5.trans (b6.mono b5.size))
    clear hmv
    go_wp2_with fail
    go_call hlt as e w7 ⟨a3, c3, rfl, b7⟩
    go_wp2
    go_ret
    exact ⟨rfl, B4.out.trans ((b5.trans ((b6.trans (b7.mono b6.size)).mono b5.size)).mono B4.out.size)⟩
  · have OB : Hid (Rd (.slice (some ⟨g, 0, none⟩) a.length cap) (b.take a.length) w4) := (ob.take hp2).rd
    have hsm := BACK.out _ OB.out
    have hca : (a.length : Int) ≤ (cap : Int) := by omega
    clear ob e2 e3 e4 e5 e6 e7
    go_wp2_with fail
    go_call hsm as e w5 ⟨rfl, b5⟩
    have hmv := REST.out w5 b5
    clear hsm
    go_wp2_with fail
    go_call hmv as e w6 ⟨a1, c1, a2, c2, rfl, b6⟩
    have hlt := LAST.out w6 (b5.trans (b6.mono b5.size))
    clear hmv
    go_wp2_with fail
    go_call hlt as e w7 ⟨a3, c3, rfl, b7⟩
    go_wp2
    go_ret
    exact ⟨rfl, B4.out.trans ((b5.trans ((b6.trans (b7.mono b6.size)).mono b5.size)).mono B4.out.size)⟩
end Go.Proofs.YtbbapaphfijpcaaDoor
