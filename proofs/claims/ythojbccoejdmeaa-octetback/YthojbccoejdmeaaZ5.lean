/- The law OctetBack as a call, over puts that lie in memory. -/
import Derived.Test.YthojbccoejdmeaaY2
import Derived.Test.YthojbccoejdmeaaR
import Derived.Test.YthojbccoejdmeaaZ3
namespace Go.Proofs.Ythojbccoejdmeaa
open Go.RowKit

def BV (B2 b o cap n m : Nat) (p : Put) : Nat → Value → Prop
  | 0, v => v = .slice (some ⟨b, o, none⟩) n cap
  | 1, v => v = .int .i64 (m : Nat)
  | 2, v => v = .pointer (some ⟨b, o + m * 4, none⟩)
  | 3, v => v = .pointer (some ⟨b, o + m * 4 + 2, none⟩)
  | 4, v => v = .int .u64 (p.x : Nat)
  | 5, v => v = .pointer (some ⟨B2, 0, none⟩)
  | 6, v => v = .slice (some ⟨b, o, none⟩) n cap
  | 7, v => v = .int .i64 (m : Nat)
  | 8, v => v = .pointer (some ⟨b, o + m * 4, none⟩)
  | 9, v => v = .pointer (some ⟨b, o + m * 4 + 3, none⟩)
  | 10, v => v = .string p.s
  | 11, v => v = .string p.q
  | 12, v => v = .pointer (some ⟨B2, 0, none⟩)
  | _, _ => True
structure BPh (w5 : World) (B2 : Nat) (l : List UInt8) (p : Put) (done : Nat → Bool) (f : Nat → Value) (W : World) : Prop where
  below : Below B2 w5 W
  no5 : done 5 = false → done 12 = false
  out : ∃ v, OutIs W B2 v (if done 12 = true then l ++ p.one else if done 5 = true then l ++ numB p.x 8 else l)
theorem BPh.pure {w5 : World} {B2 : Nat} {l : List UInt8} {p : Put} {done : Nat → Bool} {f : Nat → Value} {W : World} (h : BPh w5 B2 l p done f W) (i : Nat) (hi : i ≠ 5 ∧ i ≠ 12) (v : Value) : BPh w5 B2 l p (updB done i) (upd f i v) W := by
  have a5 : updB done i 5 = done 5 := if_neg (Ne.symm hi.1)
  have a12 : updB done i 12 = done 12 := if_neg (Ne.symm hi.2)
  exact ⟨h.below, by rw [a5, a12]; exact h.no5, by rw [a5, a12]; exact h.out⟩
theorem BPh.box {w5 : World} {B2 : Nat} {l : List UInt8} {p : Put} {done : Nat → Bool} {f : Nat → Value} {W : World} (h : BPh w5 B2 l p done f W) {L : Nat} {x : Value} (hc : w5.cell? ⟨L, 0, none⟩ = some x) (hL : L < B2) : W.cell? ⟨L, 0, none⟩ = some x := by
  rw [h.below.cell (show L < B2 from hL)]; exact hc
theorem BPh.puts {w5 : World} {B2 : Nat} {l : List UInt8} {p : Put} {done : Nat → Bool} {f : Nat → Value} {W : World} (h : BPh w5 B2 l p done f W) {b o : Nat} {ps : List Put} (hp : PutsAt w5 b o ps) (hb : b < B2) : PutsAt W b o ps := hp.keep hb h.below

theorem BPh.num {w5 : World} {B2 : Nat} {l : List UInt8} {p : Put} {done : Nat → Bool} {f : Nat → Value} {W W' : World} {x v3 v4 : Value} (h : BPh w5 B2 l p done f W) (h12 : done 12 = false) (ho : OutIs W B2 v3 l) (hw : Wr B2 v3 l (numB p.x (wd 8)) W v4 W') : BPh w5 B2 l p (updB done 5) (upd f 5 x) W' := by
  have hwd : wd 8 = 8 := by decide
  rw [hwd] at hw
  have a5 : updB done 5 5 = true := if_pos rfl
  have a12 : updB done 5 12 = done 12 := if_neg (by decide)
  refine ⟨h.below.trans (hw.below ho), (fun e => by rw [a5] at e; cases e), ⟨v4, ?_⟩⟩
  rw [a12, h12, if_neg (by decide), if_pos a5]
  exact hw.out
theorem BPh.text {w5 : World} {B2 : Nat} {l : List UInt8} {p : Put} {done : Nat → Bool} {f : Nat → Value} {W W' : World} {x v3 v4 : Value} (h : BPh w5 B2 l p done f W) (h5 : done 5 = true) (ho : OutIs W B2 v3 (l ++ numB p.x 8)) (hw : Wr B2 v3 (l ++ numB p.x 8) (numB p.q.size 2 ++ p.q.data.toList) W v4 W') : BPh w5 B2 l p (updB done 12) (upd f 12 x) W' := by
  have a5 : updB done 12 5 = done 5 := if_neg (by decide)
  have a12 : updB done 12 12 = true := if_pos rfl
  refine ⟨h.below.trans (hw.below ho), (fun e => by rw [a5, h5] at e; cases e), ⟨v4, ?_⟩⟩
  rw [if_pos a12]
  have := hw.out
  rw [List.append_assoc] at this
  exact this
set_option maxHeartbeats 800000 in
set_option maxRecDepth 100000 in
theorem back_walk (w : World) (b o cap : Nat) (ao : Option Addr) (ps : List Put) (hlen : ps.length ≤ 9223372036854775807) (hao : 0 < ps.length → ao = some ⟨b, o, none⟩) (hp : ∀ w', Below w.heap.size w w' → PutsAt w' b o ps) (hb : b ≤ w.heap.size) :
    Calls Try.prog 4 #[.slice ao ps.length cap] w fun e w' => e = .returned (.bool true) ∧ Below w.heap.size w w' := by
  go_enter Try.func4, Try.ntmps4
  go_wp2_with fail
  go_call (awake_any _) as e w1 ⟨rfl, hb1⟩
  have hbx0 : (w.alloc (.cells #[.slice ao ps.length cap] 37)).cell? ⟨w.heap.size, 0, none⟩ = some (.slice ao ps.length cap) := by simp
  have hsz0 : (w.alloc (.cells #[.slice ao ps.length cap] 37)).heap.size = w.heap.size + 1 := by simp
  have hbx : w1.cell? ⟨w.heap.size, 0, none⟩ = some (.slice ao ps.length cap) := by
    rw [hb1.cell (by rw [hsz0]; exact Nat.lt_succ_self _)]; exact hbx0
  have hLB : w.heap.size < w1.heap.size := by have := hb1.size; rw [hsz0] at this; omega
  have hBW : Hid (Below w.heap.size w w1) := (Below.alloc (Below.refl _ _) (Nat.le_refl _) _).trans (hb1.mono (by rw [hsz0]; omega))
  have hp1 := hp w1 hBW.out
  have hbB : b < w1.heap.size := Nat.lt_of_le_of_lt hb hLB
  clear hbx0 hsz0 hb1 hp
  have ho := out_new w1
  have hb2 : Below w1.heap.size w1 (w1.alloc (.cells #[.slice none 0 0] 40)) := Below.alloc (Below.refl _ _) (Nat.le_refl _) _
  generalize hL : w.heap.size = L at *
  generalize hB : w1.heap.size = B at *
  generalize hW2 : w1.alloc (.cells #[.slice none 0 0] 40) = w2 at *
  have HO : Hid (OutIs w2 B (.slice none 0 0) []) := ho
  have HB2 : Hid (Below B w1 w2) := hb2
  clear ho hb2
  go_wp2_with fail
  go_loopw [4, 5] (fun s i wr => ∃ (k : Nat) (v : Value) (l : List UInt8), k ≤ ps.length ∧ k ≤ 12 ∧ s = .string (tb l) ∧ i = .int .i64 (k : Nat) ∧ l.length ≤ 40 * k ∧ Hid (OutIs wr B v l) ∧ Hid (Below B w1 wr))
    (fun _ i _ => 12 - (intOf i).toNat)
  case atStart => exact ⟨0, _, [], by omega, by omega, rfl, rfl, by simp, HO, HB2⟩
  case round =>
    obtain ⟨k, v, l, hk, hk12, rfl, rfl, hl, hO, hB1⟩ := hrel
    clear HO HB2
    have hbxr : wr.cell? ⟨L, 0, none⟩ = some (.slice ao ps.length cap) := by rw [hB1.out.cell hLB]; exact hbx
    by_cases hin : k < ps.length ∧ k < 12
    · obtain ⟨hlt, hlt2⟩ := hin
      obtain rfl : ao = some ⟨b, o, none⟩ := hao (by omega)
      obtain ⟨p, hpk⟩ : ∃ p, ps[k]? = some p := ⟨_, List.getElem?_eq_getElem hlt⟩
      have hpr := hp1.keep hbB hB1.out
      have c0 := hpr.kind k p hpk
      have c1 := hpr.n k p hpk
      have c2 := hpr.x k p hpk
      have c3 := hpr.s k p hpk
      have hpx := hpr.ok p (List.mem_of_getElem? hpk)
      clear hpr hbx
      obtain ⟨q, hq⟩ : ∃ q, q = p.s.extract 0 20 := ⟨_, rfl⟩
      have hqs : q.size ≤ 20 := by rw [hq]; exact cut_size _ _
      obtain ⟨j, hj, hkd⟩ := and3 p.kind
      have hm8 : (if (8 : Int) < p.n then 8 else p.n) = min p.n 8 := by omega
      have hmx : (if min p.n 8 > 0 then min p.n 8 else 0) = ((wd p.n : Nat) : Int) := by unfold wd; omega
      have hmx2 : (if 0 < min p.n 8 then min p.n 8 else 0) = ((wd p.n : Nat) : Int) := by unfold wd; omega
      go_wp2_with fail
      go_call (cut_any p.s 20 (by omega) _) as e w3 ⟨rfl, hw3⟩
      rw [← hq]
      clear hq
      obtain ⟨P, hP⟩ : ∃ P, P = wr.heap.size := ⟨_, rfl⟩
      have e0 : w3.cell? ⟨P, 0, none⟩ = some (.int .i64 p.kind) := by rw [hw3, hP]; simp
      have e1 : w3.cell? ⟨P, 1, none⟩ = some (.int .i64 p.n) := by rw [hw3, hP]; simp
      have e2 : w3.cell? ⟨P, 2, none⟩ = some (.int .u64 (p.x : Nat)) := by rw [hw3, hP]; simp
      have hPB : B ≤ P := by rw [hP, ← hB]; exact hB1.out.size
      have hP3 : w3.heap.size = P + 1 := by rw [hw3, hP]; simp
      have hbl : Below wr.heap.size wr w3 := by rw [hw3]; exact Below.alloc (Below.refl _ _) (Nat.le_refl _) _
      have HO3 : Hid (OutIs w3 B v l) := hO.out.below hbl
      have HB3 : Hid (Below B w1 w3) := hB1.out.trans (hbl.mono (by rw [← hP]; exact hPB))
      have keepP : ∀ {nw : List UInt8} {v' : Value} {w4 : World} {o : Nat}, Wr B v l nw w3 v' w4 → w4.cell? ⟨P, o, none⟩ = w3.cell? ⟨P, o, none⟩ := fun {nw v' w4 o} h =>
        World.cell?_of_block (w := w3) (h.kp.block P (by omega) (by have := hO.out.lt; omega) (fun hv => by have := hO.out.own_lt hv; omega))
      rw [← hP]
      clear hw3 hbl hP c0 c1 c2 c3 hbxr hpk
      have hj4 : j = 0 ∨ j = 1 ∨ j = 2 ∨ j = 3 := by omega
      rcases hj4 with rfl | rfl | rfl | rfl
      · -- 0
        go_wp2_with fail
        go_call (num_any B v l p.x p.n w3 HO3.out hpx.1 (by omega)) as e w4 ⟨rfl, v', hw⟩
        have HW : Hid (Wr B v l (numB p.x (wd p.n)) w3 v' w4) := hw
        have d2 : w4.cell? ⟨P, 2, none⟩ = some (.int .u64 (p.x : Nat)) := by rw [keepP hw]; exact e2
        clear hw
        go_wp2_with fail
        go_call (rnum_any p.x (wd p.n) hpx.1 (wd_le _) w4) as e w5 ⟨rfl, hb5⟩
        have HO5 : Hid (OutIs w5 B v' (l ++ (numB p.x (wd p.n)))) := HW.out.out.below hb5
        have HB5 : Hid (Below B w1 w5) := (HB3.out.trans (HW.out.below HO3.out)).trans (hb5.mono (by have := HW.out.kp.size; have := hP3; omega))
        clear hb5
        have hcat : tb l ++ tb (numB p.x (wd p.n)) = tb (l ++ (numB p.x (wd p.n))) := tb_append _ _
        have hs1 : (tb l).size = l.length := tb_size _
        have hs2 : (tb (numB p.x (wd p.n))).size ≤ 30 := by rw [tb_size, numB_length]; have := wd_le p.n; omega
        have hnl : (l ++ (numB p.x (wd p.n))).length ≤ 40 * (k + 1) := by rw [List.length_append, numB_length]; have := wd_le p.n; omega
        have hcmp := tb_list (l ++ (numB p.x (wd p.n)))
        clear HW
        go_wp2_with fail
        go_call (bytes_any B v' (l ++ (numB p.x (wd p.n))) w5 HO5.out) as e w6 ⟨rfl, rfl⟩
        go_wp2
        go_roundw
        case rel => exact ⟨k + 1, v', l ++ (numB p.x (wd p.n)), by omega, by omega, rfl, rfl, hnl, HO5, HB5⟩
        case measure => simp only [intOf]; omega
      · -- 1
        go_wp2_with fail
        go_call (text_any B v l q w3 HO3.out (by omega) (by omega)) as e w4 ⟨rfl, v', hw⟩
        have HW : Hid (Wr B v l (numB q.size 2 ++ q.data.toList) w3 v' w4) := hw
        have d2 : w4.cell? ⟨P, 2, none⟩ = some (.int .u64 (p.x : Nat)) := by rw [keepP hw]; exact e2
        clear hw
        go_wp2_with fail
        go_call (rtext_any q (by omega) w4) as e w5 ⟨rfl, hb5⟩
        have HO5 : Hid (OutIs w5 B v' (l ++ (numB q.size 2 ++ q.data.toList))) := HW.out.out.below hb5
        have HB5 : Hid (Below B w1 w5) := (HB3.out.trans (HW.out.below HO3.out)).trans (hb5.mono (by have := HW.out.kp.size; have := hP3; omega))
        clear hb5
        have hcat : tb l ++ tb (numB q.size 2 ++ q.data.toList) = tb (l ++ (numB q.size 2 ++ q.data.toList)) := tb_append _ _
        have hs1 : (tb l).size = l.length := tb_size _
        have hs2 : (tb (numB q.size 2 ++ q.data.toList)).size ≤ 30 := by rw [tb_size, List.length_append, numB_length, ← size_list]; omega
        have hnl : (l ++ (numB q.size 2 ++ q.data.toList)).length ≤ 40 * (k + 1) := by rw [List.length_append, List.length_append, numB_length, ← size_list]; omega
        have hcmp := tb_list (l ++ (numB q.size 2 ++ q.data.toList))
        clear HW
        go_wp2_with fail
        go_call (bytes_any B v' (l ++ (numB q.size 2 ++ q.data.toList)) w5 HO5.out) as e w6 ⟨rfl, rfl⟩
        go_wp2
        go_roundw
        case rel => exact ⟨k + 1, v', l ++ (numB q.size 2 ++ q.data.toList), by omega, by omega, rfl, rfl, hnl, HO5, HB5⟩
        case measure => simp only [intOf]; omega
      · -- 2
        go_wp2_with fail
        go_call (raw_any B v l q w3 HO3.out (by omega)) as e w4 ⟨rfl, v', hw⟩
        have HW : Hid (Wr B v l (q.data.toList) w3 v' w4) := hw
        have d2 : w4.cell? ⟨P, 2, none⟩ = some (.int .u64 (p.x : Nat)) := by rw [keepP hw]; exact e2
        clear hw
        have hb5 : Below w4.heap.size w4 w4 := Below.refl _ _

        have HO5 : Hid (OutIs w4 B v' (l ++ (q.data.toList))) := HW.out.out.below hb5
        have HB5 : Hid (Below B w1 w4) := (HB3.out.trans (HW.out.below HO3.out)).trans (hb5.mono (by have := HW.out.kp.size; have := hP3; omega))
        clear hb5
        have hcat : tb l ++ q = tb (l ++ (q.data.toList)) := tb_append l q.data.toList
        have hs1 : (tb l).size = l.length := tb_size _
        have hs2 : (q).size ≤ 30 := by omega
        have hnl : (l ++ (q.data.toList)).length ≤ 40 * (k + 1) := by rw [List.length_append, ← size_list]; omega
        have hcmp := tb_list (l ++ (q.data.toList))
        clear HW
        go_wp2_with fail
        go_call (bytes_any B v' (l ++ (q.data.toList)) w4 HO5.out) as e w6 ⟨rfl, rfl⟩
        go_wp2
        go_roundw
        case rel => exact ⟨k + 1, v', l ++ (q.data.toList), by omega, by omega, rfl, rfl, hnl, HO5, HB5⟩
        case measure => simp only [intOf]; omega
      · obtain ⟨c, hc⟩ : ∃ c, c = wd p.n := ⟨_, rfl⟩
        have hc8 : c ≤ 8 := by rw [hc]; exact wd_le _
        obtain ⟨F, hF⟩ : ∃ F, F = fillN l.length c := ⟨_, rfl⟩
        have hF8 : F ≤ 8 := by rw [hF]; exact fill_le _ _ hc8
        rw [← hc] at hmx hmx2
        clear hc
        go_wp2_with fail
        go_call (fill_any B v l c w3 HO3.out (by omega) (by omega)) as e w4 ⟨rfl, v', hw⟩
        rw [← hF] at hw
        have HO5 : Hid (OutIs w4 B v' (l ++ List.replicate F 0)) := hw.out
        have HB5 : Hid (Below B w1 w4) := HB3.out.trans (hw.below HO3.out)
        have hnl : (l ++ List.replicate F 0).length ≤ 40 * (k + 1) := by rw [List.length_append, List.length_replicate]; omega
        have hcmp := tb_list (l ++ List.replicate F 0)
        have HF : Hid (F = fillN l.length c) := hF
        clear hw hF
        go_wp2_with fail
        go_loop [4] (fun s => ∃ m : Nat, m ≤ F ∧ s = .string (tb (l ++ List.replicate m 0))) (fun s => l.length + F - szOf s)
        case atStart => exact ⟨0, by omega, by simp⟩
        case round =>
          obtain ⟨m, hm, rfl⟩ := hrel
          have hsz : (tb (l ++ List.replicate m 0)).size = l.length + m := by rw [tb_size, List.length_append, List.length_replicate]
          rcases Nat.lt_or_ge m F with hlt3 | hge3
          · obtain ⟨hc0, hr0⟩ : 0 < c ∧ (l.length + m) % c ≠ 0 := fill_more (by rw [← HF.out]; exact hlt3)
            obtain ⟨r, hr⟩ : ∃ r, r = (l.length + m) % c := ⟨_, rfl⟩
            rw [← hr] at hr0
            have hrem1 : ((l.length : Int) + (m : Int)).tmod (c : Int) = (r : Int) := by
              rw [Int.tmod_eq_emod_of_nonneg (by omega), hr]; norm_cast
            have hrem2 : ((l.length : Int) + (m : Int)) % (c : Int) = (r : Int) := by
              rw [hr]; norm_cast
            have hcat : tb (l ++ List.replicate m 0) ++ ⟨#[0]⟩ = tb (l ++ List.replicate (m + 1) 0) := by
              have := tb_append (l ++ List.replicate m 0) [0]
              rw [List.append_assoc, ← List.replicate_succ'] at this
              exact this
            have hr1 : ¬ (r : Int) = 0 := by omega
            clear hr hcmp
            go_wp2
            go_round
            case rel => exact ⟨m + 1, by omega, rfl⟩
            case measure =>
              simp only [szOf]
              rw [hsz, tb_size, List.length_append, List.length_replicate]; omega
          · obtain rfl : m = F := by omega
            have hend : c = 0 ∨ (0 < c ∧ (l.length + m) % c = 0) := by
              rcases Nat.eq_zero_or_pos c with h | h
              · exact Or.inl h
              · refine Or.inr ⟨h, ?_⟩
                rw [HF.out]; exact fill_end h
            rcases hend with rfl | ⟨hc0, hr0⟩
            · go_wp2_with fail
              go_call (bytes_any B v' (l ++ List.replicate m 0) w4 HO5.out) as e w6 ⟨rfl, rfl⟩
              go_wp2
              go_roundw
              case rel => exact ⟨k + 1, v', l ++ List.replicate m 0, by omega, by omega, rfl, rfl, hnl, HO5, HB5⟩
              case measure => simp only [intOf]; omega
            · have hrem1 : ((l.length : Int) + (m : Int)).tmod (c : Int) = 0 := by
                rw [Int.tmod_eq_emod_of_nonneg (by omega)]; norm_cast
              have hrem2 : ((l.length : Int) + (m : Int)) % (c : Int) = 0 := by norm_cast
              go_wp2_with fail
              go_call (bytes_any B v' (l ++ List.replicate m 0) w4 HO5.out) as e w6 ⟨rfl, rfl⟩
              go_wp2
              go_roundw
              case rel => exact ⟨k + 1, v', l ++ List.replicate m 0, by omega, by omega, rfl, rfl, hnl, HO5, HB5⟩
              case measure => simp only [intOf]; omega
    · have hx : ps.length ≤ k ∨ (12 ≤ k ∧ k < ps.length) := by omega
      obtain ⟨w5, rfl⟩ : ∃ w5, w5 = wr := ⟨_, rfl⟩
      have hpr := hp1.keep hbB hB1.out
      have hB2 : B ≤ w5.heap.size := by rw [← hB]; exact hB1.out.size
      have ho2 := out_new w5
      have hb2 : Below w5.heap.size w5 (w5.alloc (.cells #[.slice none 0 0] 40)) := Below.alloc (Below.refl _ _) (Nat.le_refl _) _
      have HO2 : Hid (OutIs (w5.alloc (.cells #[.slice none 0 0] 40)) w5.heap.size (.slice none 0 0) []) := ho2
      have HB2 : Hid (Below w5.heap.size w5 (w5.alloc (.cells #[.slice none 0 0] 40))) := hb2
      clear ho2 hb2 hbx
      rcases hx with hx | ⟨hx, hx2⟩
      · go_wp2_with fail
        generalize hB2' : w5.heap.size = B2 at *
        go_loopw [10] (fun i wr => ∃ (m : Nat) (v : Value) (l : List UInt8), m ≤ ps.length ∧ m ≤ 12 ∧ i = .int .i64 (m : Nat) ∧ l = encs (ps.take m) ∧ Hid (OutIs wr B2 v l) ∧ Hid (Below B2 w5 wr))
          (fun i _ => 12 - (intOf i).toNat)
        case atStart => exact ⟨0, _, [], by omega, by omega, rfl, rfl, HO2, HB2⟩
        case round =>
          obtain ⟨m, v2, l2, hm, hm12, rfl, hl2, hO2, hBq⟩ := hrel
          clear HO2 HB2
          have hbq : wr.cell? ⟨L, 0, none⟩ = some (.slice ao ps.length cap) := by rw [hBq.out.cell (show L < B2 by omega)]; exact hbxr
          by_cases hin2 : m < ps.length ∧ m < 12
          · obtain ⟨h1, h2⟩ := hin2
            obtain rfl : ao = some ⟨b, o, none⟩ := hao (by omega)
            obtain ⟨p, hpk⟩ : ∃ p, ps[m]? = some p := ⟨_, List.getElem?_eq_getElem h1⟩
            have hpx := hpr.ok p (List.mem_of_getElem? hpk)
            have hl2n : l2.length ≤ 400 := by
              have := encs_length (ps.take m)
              rw [List.length_take] at this
              rw [hl2]; omega
            go_wp2_with fail
            refine wp_region_ph (fun f => ⟨#[.slice (some ⟨b, o, none⟩) ps.length cap, .pointer (some ⟨L, 0, none⟩), u2, .pointer (some ⟨B, 0, none⟩), .string (tb l), .int .i64 (k : Nat), u6, u7, u8, .pointer (some ⟨B2, 0, none⟩), .int .i64 (m : Nat), undef, undef, undef, .bool true, .bool false, .int .i64 (k : Nat), .slice (some ⟨b, o, none⟩) ps.length cap, .int .i64 (ps.length : Nat), .bool false, .bool false, undef, undef, .bool false, u24, u25, u26, u27, u28, u29, u30, u31, u32, u33, u34, u35, u36, u37, u38, u39, u40, u41, u42, u43, u44, u45, u46, u47, u48, u49, u50, u51, u52, u53, u54, u55, u56, u57, u58, u59, u60, u61, u62, u63, u64, u65, u66, u67, u68, u69, u70, u71, u72, u73, u74, u75, u76, u77, u78, u79, u80, u81, u82, u83, u84, u85, .int .i64 (m : Nat), .slice (some ⟨b, o, none⟩) ps.length cap, .int .i64 (ps.length : Nat), .bool true, .bool true, .int .i64 (m : Nat), .bool true, .bool true, u94, u95, f 0, f 1, f 2, f 3, f 4, f 5, f 6, f 7, f 8, f 9, f 10, f 11, f 12, undef, undef, undef, undef, undef, undef, undef, undef, undef, undef, undef, undef, undef, undef, undef, undef], []⟩) (BV B2 b o cap ps.length m p) (BPh w5 B2 l2 p) (fun i => [u96, u97, u98, u99, u100, u101, u102, u103, u104, u105, u106, u107, u108].getD i undef) (by kernel_rfl) rfl rfl ?hI ?hput ?step ?fin
            case hI => exact ⟨Below.drew hBq.out, fun _ => rfl, ⟨v2, hO2.out.of_blocks rfl (fun _ _ => rfl)⟩⟩
            case fin =>
              intro f W hP hV
              obtain ⟨v3, ho3⟩ := hP.out
              have ho4 : Hid (OutIs W B2 v3 (l2 ++ p.one)) := ho3
              have hb4 : Hid (Below B2 w5 W) := hP.below
              have hl3 : l2 ++ p.one = encs (ps.take (m + 1)) := by rw [encs_take ps m p hpk, hl2]
              clear hP hV ho3
              go_wp2
              go_roundw
              case rel => exact ⟨m + 1, v3, l2 ++ p.one, by omega, by omega, rfl, hl3, ho4, hb4⟩
              case measure => simp only [intOf]; omega
            case hput =>
              repeat (refine ⟨fun f v => rfl, ?_⟩)
              trivial
            case step =>
              refine ⟨?_, ?_⟩
              · intro done f W hP hdn hd K hK
                clear hd
                have hcL := hP.box hbxr (by omega)
                go_simp
                exact hK _ _ rfl (hP.pure _ (by decide) _)
              refine ⟨?_, ?_⟩
              · intro done f W hP hdn hd K hK
                clear hd
                go_simp
                exact hK _ _ rfl (hP.pure _ (by decide) _)
              refine ⟨?_, ?_⟩
              · intro done f W hP hdn hd K hK
                have d0 := (hd.1 rfl).2
                have d1 := (hd.2.1 rfl).2
                have e0 := (hd.1 rfl).1
                have e1 := (hd.2.1 rfl).1
                clear hd
                replace d0 : f 0 = .slice (some ⟨b, o, none⟩) ps.length cap := d0
                replace d1 : f 1 = .int .i64 (m : Nat) := d1
                generalize f 0 = x0 at *
                subst d0
                clear e0
                generalize f 1 = x1 at *
                subst d1
                clear e1
                go_simp
                exact hK _ _ rfl (hP.pure _ (by decide) _)
              refine ⟨?_, ?_⟩
              · intro done f W hP hdn hd K hK
                have d2 := (hd.1 rfl).2
                have e2 := (hd.1 rfl).1
                clear hd
                replace d2 : f 2 = .pointer (some ⟨b, o + m * 4, none⟩) := d2
                generalize f 2 = x2 at *
                subst d2
                clear e2
                go_simp
                exact hK _ _ rfl (hP.pure _ (by decide) _)
              refine ⟨?_, ?_⟩
              · intro done f W hP hdn hd K hK
                have d3 := (hd.1 rfl).2
                have e3 := (hd.1 rfl).1
                clear hd
                replace d3 : f 3 = .pointer (some ⟨b, o + m * 4 + 2, none⟩) := d3
                generalize f 3 = x3 at *
                subst d3
                clear e3
                have hcx := (hP.puts hpr (by omega)).x m p hpk
                go_simp
                exact hK _ _ rfl (hP.pure _ (by decide) _)
              refine ⟨?_, ?_⟩
              · intro done f W hP hdn hd K hK
                have d4 := (hd.1 rfl).2
                have e4 := (hd.1 rfl).1
                clear hd
                replace d4 : f 4 = .int .u64 (p.x : Nat) := d4
                generalize f 4 = x4 at *
                subst d4
                clear e4
                go_simp
                have hdn5 : done 5 = false := hdn
                have h12 := hP.no5 hdn5
                obtain ⟨v3, ho3⟩ := hP.out
                rw [if_neg (by rw [h12]; decide), if_neg (by rw [hdn5]; decide)] at ho3
                refine Calls.mono (num_any B2 v3 l2 p.x 8 W ho3 hpx.1 (by omega)) ?_
                rintro e W' ⟨rfl, v4, hw⟩
                exact hK _ _ rfl (hP.num h12 ho3 hw)
              refine ⟨?_, ?_⟩
              · intro done f W hP hdn hd K hK
                clear hd
                have hcL := hP.box hbxr (by omega)
                go_simp
                exact hK _ _ rfl (hP.pure _ (by decide) _)
              refine ⟨?_, ?_⟩
              · intro done f W hP hdn hd K hK
                clear hd
                go_simp
                exact hK _ _ rfl (hP.pure _ (by decide) _)
              refine ⟨?_, ?_⟩
              · intro done f W hP hdn hd K hK
                have d6 := (hd.1 rfl).2
                have d7 := (hd.2.1 rfl).2
                have e6 := (hd.1 rfl).1
                have e7 := (hd.2.1 rfl).1
                clear hd
                replace d6 : f 6 = .slice (some ⟨b, o, none⟩) ps.length cap := d6
                replace d7 : f 7 = .int .i64 (m : Nat) := d7
                generalize f 6 = x6 at *
                subst d6
                clear e6
                generalize f 7 = x7 at *
                subst d7
                clear e7
                go_simp
                exact hK _ _ rfl (hP.pure _ (by decide) _)
              refine ⟨?_, ?_⟩
              · intro done f W hP hdn hd K hK
                have d8 := (hd.1 rfl).2
                have e8 := (hd.1 rfl).1
                clear hd
                replace d8 : f 8 = .pointer (some ⟨b, o + m * 4, none⟩) := d8
                generalize f 8 = x8 at *
                subst d8
                clear e8
                go_simp
                exact hK _ _ rfl (hP.pure _ (by decide) _)
              refine ⟨?_, ?_⟩
              · intro done f W hP hdn hd K hK
                have d9 := (hd.1 rfl).2
                have e9 := (hd.1 rfl).1
                clear hd
                replace d9 : f 9 = .pointer (some ⟨b, o + m * 4 + 3, none⟩) := d9
                generalize f 9 = x9 at *
                subst d9
                clear e9
                have hcx := (hP.puts hpr (by omega)).s m p hpk
                go_simp
                exact hK _ _ rfl (hP.pure _ (by decide) _)
              refine ⟨?_, ?_⟩
              · intro done f W hP hdn hd K hK
                have d10 := (hd.1 rfl).2
                have e10 := (hd.1 rfl).1
                clear hd
                replace d10 : f 10 = .string p.s := d10
                generalize f 10 = x10 at *
                subst d10
                clear e10
                go_simp
                refine Calls.mono (cut_any p.s 20 (by omega) W) ?_
                rintro e W' ⟨rfl, rfl⟩
                exact hK _ _ rfl (hP.pure _ (by decide) _)
              refine ⟨?_, ?_⟩
              · intro done f W hP hdn hd K hK
                have d5 := (hd.1 rfl).2
                have d11 := (hd.2.1 rfl).2
                have e5 := (hd.1 rfl).1
                have e11 := (hd.2.1 rfl).1
                clear hd
                replace d5 : f 5 = .pointer (some ⟨B2, 0, none⟩) := d5
                replace d11 : f 11 = .string p.q := d11
                have hdn12 : done 12 = false := hdn
                obtain ⟨v3, ho3⟩ := hP.out
                rw [if_neg (by rw [hdn12]; decide), if_pos e5] at ho3
                generalize f 5 = x5 at *
                subst d5
                generalize f 11 = x11 at *
                subst d11
                clear e11
                go_simp
                have hqs := q_size p
                refine Calls.mono (text_any B2 v3 (l2 ++ numB p.x 8) p.q W ho3 (by omega) (by rw [List.length_append, numB_length]; omega)) ?_
                rintro e W' ⟨rfl, v4, hw⟩
                exact hK _ _ rfl (hP.text e5 ho3 hw)
              trivial
          · have hend : ps.take m = ps.take 12 := by rw [List.take_of_length_le (by omega), List.take_of_length_le (by omega)]
            have hge : ¬ (m : Int) < (ps.length : Int) := by omega
            rw [hend] at hl2
            have hl2n : l2.length ≤ 400 := by
              have := encs_length (ps.take 12)
              rw [List.length_take] at this
              rw [hl2]; omega
            obtain ⟨G, hGe⟩ : ∃ G, G = wr.heap.size := ⟨_, rfl⟩
            have hwr : B2 ≤ wr.heap.size := by rw [← hB2']; exact hBq.out.size
            have hBn := hO2.out.lt
            have hA : Below wr.heap.size wr (wr.alloc (.cells #[.bool true] 4)) := Below.alloc (Below.refl _ _) (Nat.le_refl _) _
            have hO3 : OutIs (wr.alloc (.cells #[.bool true] 4)) B2 v2 l2 := hO2.out.below hA
            have hGc : (wr.alloc (.cells #[.bool true] 4)).heap[G]? = some (.cells #[.bool true] 4) := by
              rw [hGe]; show (wr.heap.push _)[wr.heap.size]? = _
              rw [Array.getElem?_push, if_pos rfl]
            have HGc : Hid _ := hGc
            have HB3 : Hid (Below B2 w5 (wr.alloc (.cells #[.bool true] 4))) := hBq.out.trans (hA.mono hwr)
            have hvG : ∀ q, v2.ownBlock = some q → q < G := fun q hq => by rw [hGe]; exact hO2.out.own_lt hq
            have hsG : (wr.alloc (.cells #[.bool true] 4)).heap.size = G + 1 := by rw [hGe]; simp
            have HVG : Hid (∀ q, v2.ownBlock = some q → q < G) := hvG
            have HSG : Hid ((wr.alloc (.cells #[.bool true] 4)).heap.size = G + 1) := hsG
            have hB2G : B2 < G := by rw [hGe]; exact hBn
            clear hGc hvG hsG hA
            go_wp2_with fail
            go_call (fill_any B2 v2 l2 64 (wr.alloc (.cells #[.bool true] 4)) hO3 (by omega) (by omega)) as e w7 ⟨rfl, v7, hw7⟩
            have hzle := fillN_le l2.length 64 (by omega)
            obtain ⟨z, hz⟩ : ∃ z, z = fillN l2.length 64 := ⟨_, rfl⟩
            rw [← hz] at hw7 hzle
            clear hz
            have hb7 := hw7.below hO3
            have hg7 : w7.heap[G]? = some (.cells #[.bool true] 4) := by
              rw [hw7.kp.block G (by rw [HSG.out]; omega) (by omega) (fun hv => by have := HVG.out G hv; omega)]; exact HGc.out
            have hL7 : w7.cell? ⟨L, 0, none⟩ = some (.slice ao ps.length cap) := by
              rw [(HB3.out.trans hb7).cell (show L < B2 by omega)]; exact hbxr
            have hp7 : PutsAt w7 b o ps := hpr.keep (show b < B2 by omega) (HB3.out.trans hb7)
            have hs7 : G + 1 ≤ w7.heap.size := by have := hw7.kp.size; rw [HSG.out] at this; omega
            have htk := take_back w7 G L b o cap z ao ps hao hL7 hp7 (by omega) (by simp only [World.cell?, hg7]; rfl) (by simp only [World.frozen?, hg7]; simp) (by omega) (by omega) hzle
            have HT : Hid (Below B2 w5 w7) := HB3.out.trans hb7
            have ho7 := hw7.out
            rw [hl2] at ho7
            rw [← hGe]
            clear hGe
            clear hw7 hb7 hg7 hL7 hp7 HGc HVG HSG HB3 hO3 hl2n hzle
            have hby : Calls Try.prog 20 #[.pointer (some ⟨B2, 0, none⟩)] w7 fun e w' => e = .returned (.string (tx (encs (ps.take 12) ++ List.replicate z 0))) ∧ w' = w7 := bytes_any B2 v7 _ w7 ho7
            clear ho7
            generalize tx (encs (ps.take 12) ++ List.replicate z 0) = X at hby htk
            go_wp2_with fail
            go_call hby as e w8 ⟨rfl, rfl⟩
            go_wp2_with fail
            go_call htk as e w9 ⟨rfl, c9, hb9⟩
            have HF : Hid (Below L w w9) := (hBW.out.trans ((hB1.out.trans (HT.out.mono (by omega))).mono (by omega))).trans (hb9.mono (by omega))
            clear htk hb9 HT
            go_wp2
            go_ret
            exact ⟨rfl, by rw [hL]; exact HF.out⟩
      · go_wp2_with fail
        generalize hB2' : w5.heap.size = B2 at *
        generalize decide ((k : Int) < 12) = bk
        go_loopw [10] (fun i wr => ∃ (m : Nat) (v : Value) (l : List UInt8), m ≤ ps.length ∧ m ≤ 12 ∧ i = .int .i64 (m : Nat) ∧ l = encs (ps.take m) ∧ Hid (OutIs wr B2 v l) ∧ Hid (Below B2 w5 wr))
          (fun i _ => 12 - (intOf i).toNat)
        case atStart => exact ⟨0, _, [], by omega, by omega, rfl, rfl, HO2, HB2⟩
        case round =>
          obtain ⟨m, v2, l2, hm, hm12, rfl, hl2, hO2, hBq⟩ := hrel
          clear HO2 HB2
          have hbq : wr.cell? ⟨L, 0, none⟩ = some (.slice ao ps.length cap) := by rw [hBq.out.cell (show L < B2 by omega)]; exact hbxr
          by_cases hin2 : m < ps.length ∧ m < 12
          · obtain ⟨h1, h2⟩ := hin2
            obtain rfl : ao = some ⟨b, o, none⟩ := hao (by omega)
            obtain ⟨p, hpk⟩ : ∃ p, ps[m]? = some p := ⟨_, List.getElem?_eq_getElem h1⟩
            have hpx := hpr.ok p (List.mem_of_getElem? hpk)
            have hl2n : l2.length ≤ 400 := by
              have := encs_length (ps.take m)
              rw [List.length_take] at this
              rw [hl2]; omega
            go_wp2_with fail
            refine wp_region_ph (fun f => ⟨#[.slice (some ⟨b, o, none⟩) ps.length cap, .pointer (some ⟨L, 0, none⟩), u2, .pointer (some ⟨B, 0, none⟩), .string (tb l), .int .i64 (k : Nat), u6, u7, u8, .pointer (some ⟨B2, 0, none⟩), .int .i64 (m : Nat), undef, undef, undef, .bool true, .bool false, .int .i64 (k : Nat), .slice (some ⟨b, o, none⟩) ps.length cap, .int .i64 (ps.length : Nat), .bool true, .bool true, .int .i64 (k : Nat), .bool bk, .bool bk, u24, u25, u26, u27, u28, u29, u30, u31, u32, u33, u34, u35, u36, u37, u38, u39, u40, u41, u42, u43, u44, u45, u46, u47, u48, u49, u50, u51, u52, u53, u54, u55, u56, u57, u58, u59, u60, u61, u62, u63, u64, u65, u66, u67, u68, u69, u70, u71, u72, u73, u74, u75, u76, u77, u78, u79, u80, u81, u82, u83, u84, u85, .int .i64 (m : Nat), .slice (some ⟨b, o, none⟩) ps.length cap, .int .i64 (ps.length : Nat), .bool true, .bool true, .int .i64 (m : Nat), .bool true, .bool true, u94, u95, f 0, f 1, f 2, f 3, f 4, f 5, f 6, f 7, f 8, f 9, f 10, f 11, f 12, undef, undef, undef, undef, undef, undef, undef, undef, undef, undef, undef, undef, undef, undef, undef, undef], []⟩) (BV B2 b o cap ps.length m p) (BPh w5 B2 l2 p) (fun i => [u96, u97, u98, u99, u100, u101, u102, u103, u104, u105, u106, u107, u108].getD i undef) (by kernel_rfl) rfl rfl ?hI ?hput ?step ?fin
            case hI => exact ⟨Below.drew hBq.out, fun _ => rfl, ⟨v2, hO2.out.of_blocks rfl (fun _ _ => rfl)⟩⟩
            case fin =>
              intro f W hP hV
              obtain ⟨v3, ho3⟩ := hP.out
              have ho4 : Hid (OutIs W B2 v3 (l2 ++ p.one)) := ho3
              have hb4 : Hid (Below B2 w5 W) := hP.below
              have hl3 : l2 ++ p.one = encs (ps.take (m + 1)) := by rw [encs_take ps m p hpk, hl2]
              clear hP hV ho3
              go_wp2
              go_roundw
              case rel => exact ⟨m + 1, v3, l2 ++ p.one, by omega, by omega, rfl, hl3, ho4, hb4⟩
              case measure => simp only [intOf]; omega
            case hput =>
              repeat (refine ⟨fun f v => rfl, ?_⟩)
              trivial
            case step =>
              refine ⟨?_, ?_⟩
              · intro done f W hP hdn hd K hK
                clear hd
                have hcL := hP.box hbxr (by omega)
                go_simp
                exact hK _ _ rfl (hP.pure _ (by decide) _)
              refine ⟨?_, ?_⟩
              · intro done f W hP hdn hd K hK
                clear hd
                go_simp
                exact hK _ _ rfl (hP.pure _ (by decide) _)
              refine ⟨?_, ?_⟩
              · intro done f W hP hdn hd K hK
                have d0 := (hd.1 rfl).2
                have d1 := (hd.2.1 rfl).2
                have e0 := (hd.1 rfl).1
                have e1 := (hd.2.1 rfl).1
                clear hd
                replace d0 : f 0 = .slice (some ⟨b, o, none⟩) ps.length cap := d0
                replace d1 : f 1 = .int .i64 (m : Nat) := d1
                generalize f 0 = x0 at *
                subst d0
                clear e0
                generalize f 1 = x1 at *
                subst d1
                clear e1
                go_simp
                exact hK _ _ rfl (hP.pure _ (by decide) _)
              refine ⟨?_, ?_⟩
              · intro done f W hP hdn hd K hK
                have d2 := (hd.1 rfl).2
                have e2 := (hd.1 rfl).1
                clear hd
                replace d2 : f 2 = .pointer (some ⟨b, o + m * 4, none⟩) := d2
                generalize f 2 = x2 at *
                subst d2
                clear e2
                go_simp
                exact hK _ _ rfl (hP.pure _ (by decide) _)
              refine ⟨?_, ?_⟩
              · intro done f W hP hdn hd K hK
                have d3 := (hd.1 rfl).2
                have e3 := (hd.1 rfl).1
                clear hd
                replace d3 : f 3 = .pointer (some ⟨b, o + m * 4 + 2, none⟩) := d3
                generalize f 3 = x3 at *
                subst d3
                clear e3
                have hcx := (hP.puts hpr (by omega)).x m p hpk
                go_simp
                exact hK _ _ rfl (hP.pure _ (by decide) _)
              refine ⟨?_, ?_⟩
              · intro done f W hP hdn hd K hK
                have d4 := (hd.1 rfl).2
                have e4 := (hd.1 rfl).1
                clear hd
                replace d4 : f 4 = .int .u64 (p.x : Nat) := d4
                generalize f 4 = x4 at *
                subst d4
                clear e4
                go_simp
                have hdn5 : done 5 = false := hdn
                have h12 := hP.no5 hdn5
                obtain ⟨v3, ho3⟩ := hP.out
                rw [if_neg (by rw [h12]; decide), if_neg (by rw [hdn5]; decide)] at ho3
                refine Calls.mono (num_any B2 v3 l2 p.x 8 W ho3 hpx.1 (by omega)) ?_
                rintro e W' ⟨rfl, v4, hw⟩
                exact hK _ _ rfl (hP.num h12 ho3 hw)
              refine ⟨?_, ?_⟩
              · intro done f W hP hdn hd K hK
                clear hd
                have hcL := hP.box hbxr (by omega)
                go_simp
                exact hK _ _ rfl (hP.pure _ (by decide) _)
              refine ⟨?_, ?_⟩
              · intro done f W hP hdn hd K hK
                clear hd
                go_simp
                exact hK _ _ rfl (hP.pure _ (by decide) _)
              refine ⟨?_, ?_⟩
              · intro done f W hP hdn hd K hK
                have d6 := (hd.1 rfl).2
                have d7 := (hd.2.1 rfl).2
                have e6 := (hd.1 rfl).1
                have e7 := (hd.2.1 rfl).1
                clear hd
                replace d6 : f 6 = .slice (some ⟨b, o, none⟩) ps.length cap := d6
                replace d7 : f 7 = .int .i64 (m : Nat) := d7
                generalize f 6 = x6 at *
                subst d6
                clear e6
                generalize f 7 = x7 at *
                subst d7
                clear e7
                go_simp
                exact hK _ _ rfl (hP.pure _ (by decide) _)
              refine ⟨?_, ?_⟩
              · intro done f W hP hdn hd K hK
                have d8 := (hd.1 rfl).2
                have e8 := (hd.1 rfl).1
                clear hd
                replace d8 : f 8 = .pointer (some ⟨b, o + m * 4, none⟩) := d8
                generalize f 8 = x8 at *
                subst d8
                clear e8
                go_simp
                exact hK _ _ rfl (hP.pure _ (by decide) _)
              refine ⟨?_, ?_⟩
              · intro done f W hP hdn hd K hK
                have d9 := (hd.1 rfl).2
                have e9 := (hd.1 rfl).1
                clear hd
                replace d9 : f 9 = .pointer (some ⟨b, o + m * 4 + 3, none⟩) := d9
                generalize f 9 = x9 at *
                subst d9
                clear e9
                have hcx := (hP.puts hpr (by omega)).s m p hpk
                go_simp
                exact hK _ _ rfl (hP.pure _ (by decide) _)
              refine ⟨?_, ?_⟩
              · intro done f W hP hdn hd K hK
                have d10 := (hd.1 rfl).2
                have e10 := (hd.1 rfl).1
                clear hd
                replace d10 : f 10 = .string p.s := d10
                generalize f 10 = x10 at *
                subst d10
                clear e10
                go_simp
                refine Calls.mono (cut_any p.s 20 (by omega) W) ?_
                rintro e W' ⟨rfl, rfl⟩
                exact hK _ _ rfl (hP.pure _ (by decide) _)
              refine ⟨?_, ?_⟩
              · intro done f W hP hdn hd K hK
                have d5 := (hd.1 rfl).2
                have d11 := (hd.2.1 rfl).2
                have e5 := (hd.1 rfl).1
                have e11 := (hd.2.1 rfl).1
                clear hd
                replace d5 : f 5 = .pointer (some ⟨B2, 0, none⟩) := d5
                replace d11 : f 11 = .string p.q := d11
                have hdn12 : done 12 = false := hdn
                obtain ⟨v3, ho3⟩ := hP.out
                rw [if_neg (by rw [hdn12]; decide), if_pos e5] at ho3
                generalize f 5 = x5 at *
                subst d5
                generalize f 11 = x11 at *
                subst d11
                clear e11
                go_simp
                have hqs := q_size p
                refine Calls.mono (text_any B2 v3 (l2 ++ numB p.x 8) p.q W ho3 (by omega) (by rw [List.length_append, numB_length]; omega)) ?_
                rintro e W' ⟨rfl, v4, hw⟩
                exact hK _ _ rfl (hP.text e5 ho3 hw)
              trivial
          · obtain rfl : m = 12 := by omega
            have hend : True := trivial
            have hge : ((12 : Nat) : Int) < (ps.length : Int) := by omega
            have hl2n : l2.length ≤ 400 := by
              have := encs_length (ps.take 12)
              rw [List.length_take] at this
              rw [hl2]; omega
            obtain ⟨G, hGe⟩ : ∃ G, G = wr.heap.size := ⟨_, rfl⟩
            have hwr : B2 ≤ wr.heap.size := by rw [← hB2']; exact hBq.out.size
            have hBn := hO2.out.lt
            have hA : Below wr.heap.size wr (wr.alloc (.cells #[.bool true] 4)) := Below.alloc (Below.refl _ _) (Nat.le_refl _) _
            have hO3 : OutIs (wr.alloc (.cells #[.bool true] 4)) B2 v2 l2 := hO2.out.below hA
            have hGc : (wr.alloc (.cells #[.bool true] 4)).heap[G]? = some (.cells #[.bool true] 4) := by
              rw [hGe]; show (wr.heap.push _)[wr.heap.size]? = _
              rw [Array.getElem?_push, if_pos rfl]
            have HGc : Hid _ := hGc
            have HB3 : Hid (Below B2 w5 (wr.alloc (.cells #[.bool true] 4))) := hBq.out.trans (hA.mono hwr)
            have hvG : ∀ q, v2.ownBlock = some q → q < G := fun q hq => by rw [hGe]; exact hO2.out.own_lt hq
            have hsG : (wr.alloc (.cells #[.bool true] 4)).heap.size = G + 1 := by rw [hGe]; simp
            have HVG : Hid (∀ q, v2.ownBlock = some q → q < G) := hvG
            have HSG : Hid ((wr.alloc (.cells #[.bool true] 4)).heap.size = G + 1) := hsG
            have hB2G : B2 < G := by rw [hGe]; exact hBn
            clear hGc hvG hsG hA
            go_wp2_with fail
            go_call (fill_any B2 v2 l2 64 (wr.alloc (.cells #[.bool true] 4)) hO3 (by omega) (by omega)) as e w7 ⟨rfl, v7, hw7⟩
            have hzle := fillN_le l2.length 64 (by omega)
            obtain ⟨z, hz⟩ : ∃ z, z = fillN l2.length 64 := ⟨_, rfl⟩
            rw [← hz] at hw7 hzle
            clear hz
            have hb7 := hw7.below hO3
            have hg7 : w7.heap[G]? = some (.cells #[.bool true] 4) := by
              rw [hw7.kp.block G (by rw [HSG.out]; omega) (by omega) (fun hv => by have := HVG.out G hv; omega)]; exact HGc.out
            have hL7 : w7.cell? ⟨L, 0, none⟩ = some (.slice ao ps.length cap) := by
              rw [(HB3.out.trans hb7).cell (show L < B2 by omega)]; exact hbxr
            have hp7 : PutsAt w7 b o ps := hpr.keep (show b < B2 by omega) (HB3.out.trans hb7)
            have hs7 : G + 1 ≤ w7.heap.size := by have := hw7.kp.size; rw [HSG.out] at this; omega
            have htk := take_back w7 G L b o cap z ao ps hao hL7 hp7 (by omega) (by simp only [World.cell?, hg7]; rfl) (by simp only [World.frozen?, hg7]; simp) (by omega) (by omega) hzle
            have HT : Hid (Below B2 w5 w7) := HB3.out.trans hb7
            have ho7 := hw7.out
            rw [hl2] at ho7
            rw [← hGe]
            clear hGe
            clear hw7 hb7 hg7 hL7 hp7 HGc HVG HSG HB3 hO3 hl2n hzle
            have hby : Calls Try.prog 20 #[.pointer (some ⟨B2, 0, none⟩)] w7 fun e w' => e = .returned (.string (tx (encs (ps.take 12) ++ List.replicate z 0))) ∧ w' = w7 := bytes_any B2 v7 _ w7 ho7
            clear ho7
            generalize tx (encs (ps.take 12) ++ List.replicate z 0) = X at hby htk
            go_wp2_with fail
            go_call hby as e w8 ⟨rfl, rfl⟩
            go_wp2_with fail
            go_call htk as e w9 ⟨rfl, c9, hb9⟩
            have HF : Hid (Below L w w9) := (hBW.out.trans ((hB1.out.trans (HT.out.mono (by omega))).mono (by omega))).trans (hb9.mono (by omega))
            clear htk hb9 HT
            go_wp2
            go_ret
            exact ⟨rfl, by rw [hL]; exact HF.out⟩
end Go.Proofs.Ythojbccoejdmeaa
