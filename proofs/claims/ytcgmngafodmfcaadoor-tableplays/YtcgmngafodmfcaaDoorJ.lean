/- What a table answers, in the words of a list; the statements' own fixed fact and Cut, as calls. -/
import Derived.Test.YtcgmngafodmfcaaDoorI
namespace Go.Proofs.YtcgmngafodmfcaaDoor
open Go.RowKit
section
variable {w : World} {tb pb : Nat} {E : List Ent}
theorem Tb.lt (h : Tb w tb pb E) : tb < w.heap.size ∧ pb < w.heap.size ∧ 0 < tb ∧ 0 < pb := by
  obtain ⟨sd, n, L, h1, _⟩ := h.ex
  exact ⟨getElem?_lt h1.t, h1.plt, h1.t0, h1.p0⟩
theorem Tb.kp {w' : World} {x y : Nat} (h : Tb w tb pb E) (hk : Kp x y w w') (h1 : tb ≠ x) (h2 : tb ≠ y) (h3 : pb ≠ x) (h4 : pb ≠ y) (h5 : 0 < x) (h6 : 0 < y) : Tb w' tb pb E := by
  obtain ⟨a1, a2, a3, a4⟩ := h.lt
  obtain ⟨sd, n, L, ht, hr⟩ := h.ex
  obtain ⟨C, p1, p2⟩ := ht.p
  exact ⟨sd, n, L, ⟨(hk.block _ a1 h1 h2).trans ht.t, ⟨C, (hk.block _ a2 h3 h4).trans p1, p2⟩, ht.n4, ht.nb, ht.sdb, ht.kz, ht.rt.below (n := 1) (by decide) (hk.below (by omega) h5 h6), ht.t0, ht.p0⟩, hr⟩
theorem tnew (sd : Nat) (hsd : sd < 18446744073709551616) (w : World) (ht : Tab w) :
    Calls Tryd.prog 7 #[.int .u64 (sd : Nat)] w fun e w' => ∃ tb pb, e = .returned (.pointer (some ⟨tb, 0, none⟩)) ∧ Tb w' tb pb [] ∧ Below w.heap.size w w' ∧ w.heap.size ≤ tb ∧ w.heap.size ≤ pb := by
  refine (new_any sd hsd w ht).mono ?_
  rintro e w' ⟨tb, pb, he, h1, h2, h3, h4⟩
  exact ⟨tb, pb, he, ⟨sd, 8, fun _ => none, h1, good_none sd (by decide), by rw [ents_none], by decide⟩, h2, h3, h4⟩
theorem tlen (h : Tb w tb pb E) : Calls Tryd.prog 16 #[.pointer (some ⟨tb, 0, none⟩)] w fun e w' => e = .returned (.int .i64 (E.length : Nat)) ∧ w' = w := by
  obtain ⟨sd, n, L, h1, _⟩ := h.ex
  exact len_any h1
theorem tsteps (h : Tb w tb pb E) (k : ByteArray) (hk : k.size ≤ 4096) :
    Calls Tryd.prog 15 #[.pointer (some ⟨tb, 0, none⟩), .string k] w fun e w' => (∃ s : Nat, e = .returned (.int .i64 (s + 1 : Nat)) ∧ s ≤ E.length) ∧ Below w.heap.size w w' := by
  obtain ⟨sd, n, L, h1, h2, h3, h4⟩ := h.ex
  have n4 := h1.n4
  have hl := h3.length_eq
  rw [← hl]
  exact steps_any h1 (by omega) k hk
theorem tget (h : Tb w tb pb E) (k : ByteArray) (hk : k.size ≤ 4096) :
    Calls Tryd.prog 9 #[.pointer (some ⟨tb, 0, none⟩), .string k] w fun e w' => e = .returned (.tuple #[.int .i64 ((lk E k).getD 0), .bool (lk E k).isSome]) ∧ Below w.heap.size w w' := by
  obtain ⟨sd, n, L, h1, h2, h3, h4⟩ := h.ex
  have n4 := h1.n4
  have hl := h3.length_eq
  refine (get_any h1 (by omega) k hk).mono ?_
  rintro e w' ⟨⟨a, s, is, rfl, hF⟩, hb⟩
  refine ⟨?_, hb⟩
  cases e : L a with
  | none =>
    have his : is = false := by rw [hF.tk, e]; rfl
    rw [lk_none (fun p hp => hF.f.none h2 e p (h3.mem_iff.2 hp)), his]
    rfl
  | some p =>
    have his : is = true := by rw [hF.tk, e]; rfl
    have hk2 := hF.ky p e
    obtain ⟨k0, v0⟩ := p
    obtain rfl : k0 = k := hk2
    rw [lk_some h.keys (h3.mem_iff.1 (mem_ents.2 ⟨a, hF.f.lt, e⟩)), his]
    rfl
end
/-- What was there ahead of all is as it was; the table lies behind it. -/
structure Lo (T : Nat) (w : World) (tb pb : Nat) (W : World) : Prop where
  bl : Below T w W
  t1 : T ≤ tb
  t2 : T ≤ pb
  sz : T ≤ W.heap.size
theorem Lo.below {T : Nat} {w : World} {tb pb : Nat} {W W' : World} (h : Lo T w tb pb W) {n : Nat} (hb : Below n W W') (hn : T ≤ n) : Lo T w tb pb W' :=
  ⟨h.bl.trans (hb.mono hn), h.t1, h.t2, Nat.le_trans h.sz hb.size⟩
theorem Lo.step {T : Nat} {w : World} {tb pb pb' : Nat} {W W' : World} (h : Lo T w tb pb W) (hk : Kp tb pb W W') (hp : pb' = pb ∨ W.heap.size ≤ pb') : Lo T w tb pb' W' :=
  ⟨h.bl.trans (hk.below h.sz h.t1 h.t2), h.t1, by have := h.t2; have := h.sz; omega, Nat.le_trans h.sz hk.size⟩
/-- The text, cut. -/
def cutN (s : ByteArray) (n : Nat) : ByteArray := if n < s.size then s.extract 0 n else s
theorem cutN_le (s : ByteArray) (n : Nat) : (cutN s n).size ≤ n := by
  unfold cutN
  split
  · rw [ByteArray.size_extract]; omega
  · omega
theorem cut_any (s : ByteArray) (n : Nat) (hn : n ≤ 4096) (hs : s.size ≤ 9223372036854775807) (w : World) :
    Calls Tryd.prog 8 #[.string s, .int .i64 (n : Nat)] w fun e w' => e = .returned (.string (cutN s n)) ∧ w' = w := by
  by_cases h : n < s.size
  · have hi : (n : Int) < (s.size : Int) := by omega
    have e1 : cutN s n = s.extract 0 n := if_pos h
    have HE : Hid _ := e1
    clear e1
    go_enter Tryd.func8, Tryd.ntmps8
    go_wp2
    go_returns
    exact ⟨by rw [HE.out]; rfl, rfl⟩
  · have hi : ¬ (n : Int) < (s.size : Int) := by omega
    have e1 : cutN s n = s := if_neg h
    have HE : Hid _ := e1
    clear e1
    go_enter Tryd.func8, Tryd.ntmps8
    go_wp2
    go_returns
    exact ⟨by rw [HE.out]; rfl, rfl⟩
abbrev kA : ByteArray := ⟨#[97]⟩
abbrev kB : ByteArray := ⟨#[98]⟩
theorem e1_lk : lk [(kA, 1)] kB = none := by decide
theorem e1_wo : wo [(kA, 1)] kB = [(kA, 1)] := by decide
theorem e2_lk : lk [(kB, 2), (kA, 1)] kA = some 1 := by decide
theorem e2_wo : wo [(kB, 2), (kA, 1)] kA = [(kB, 2)] := by decide
theorem e3_lk : lk [(kB, 2)] kB = some 2 := by decide
theorem e3_kl : kl [(kB, 2)] = [[98]] := by unfold kl kb; simp
set_option maxHeartbeats 2000000 in
theorem awake_any (w : World) (ht : Tab w) : Calls Tryd.prog 6 #[] w fun e w' => e = .returned (.bool true) ∧ Below w.heap.size w w' := by
  have hsz := ht.size
  have hn : Calls Tryd.prog 7 #[.int .u64 1] w _ := tnew 1 (by decide) w ht
  go_enter Tryd.func6, Tryd.ntmps6
  go_wp2_with fail
  go_call hn as e w1 ⟨tb, pb, rfl, hT1, hb1, ht1, hp1⟩
  have hc := put_any hT1 kA (by decide) 1 (by decide)
  have HB1 : Hid _ := hb1
  clear hn hT1 hb1 ht
  go_wp2_with fail
  go_call hc as e w2 ⟨rfl, pb2, hT2, hK2, hp2⟩
  have hT2' : Tb w2 tb pb2 [(kA, 1)] := hT2
  have hc2 := put_any hT2' kB (by decide) 2 (by decide)
  rw [e1_lk, e1_wo] at hc2
  have HK2 : Hid _ := hK2
  clear hc hT2 hT2' hK2
  go_wp2_with fail
  go_call hc2 as e w3 ⟨rfl, pb3, hT3, hK3, hp3⟩
  have hc3 := drop_any hT3 kA (by decide)
  rw [e2_lk, e2_wo] at hc3
  have HK3 : Hid _ := hK3
  clear hc2 hT3 hK3
  go_wp2_with fail
  go_call hc3 as e w4 ⟨rfl, pb4, hT4, hK4, hp4⟩
  have HT4 : Hid _ := hT4
  have hc4 := tget hT4 kB (by decide)
  rw [e3_lk] at hc4
  have HK4 : Hid _ := hK4
  clear hc3 hT4 hK4
  go_wp2_with fail
  go_call hc4 as e w5 ⟨rfl, hb5⟩
  have HT5 : Hid _ := HT4.out.below hb5
  have HB5 : Hid _ := hb5
  have hc5 := keys_any HT5.out (by decide)
  rw [e3_kl] at hc5
  clear hc4 hb5
  go_wp2_with fail
  go_call hc5 as e w6 ⟨⟨g, cap, rfl, hO⟩, hb6⟩
  have HT6 : Hid _ := HT5.out.below hb6
  have HB6 : Hid _ := hb6
  have hc6 := tlen HT6.out
  have hg0 : w6.cell? ⟨g, 0, none⟩ = some (.string kB) := by
    rcases hO.2 with ⟨_, h0⟩ | ⟨g', cap', cur, e, h1, h2, h3, h4, h5, h6⟩
    · cases h0
    · cases e
      rw [cell_of h2]
      have : (cur.toList.take 1)[0]? = some (.string kB) := by
        simp at h6
        rw [h6]; rfl
      rw [List.getElem?_take_of_lt (by decide)] at this
      simpa using this
  clear hc5 hb6 hO
  go_wp2_with fail
  go_call hc6 as e w7 ⟨rfl, rfl⟩
  go_wp2
  go_returns
  have l1 : Lo w.heap.size w tb pb w1 := ⟨HB1.out, ht1, hp1, HB1.out.size⟩
  have l4 := ((l1.step HK2.out hp2).step HK3.out hp3).step HK4.out hp4
  exact ⟨rfl, ((l4.below HB5.out l4.sz).below HB6.out (Nat.le_trans l4.sz HB5.out.size)).bl⟩
end Go.Proofs.YtcgmngafodmfcaaDoor
