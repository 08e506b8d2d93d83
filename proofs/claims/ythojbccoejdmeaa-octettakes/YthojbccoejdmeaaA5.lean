/- The document's Take, as a call. -/
import Derived.Test.YthojbccoejdmeaaA4
namespace Go.Proofs.Ythojbccoejdmeaa
open Go.RowKit
/-- What was taken so far lies in a row of the call's own. -/
structure RT (B : Nat) (w : World) (s : ByteArray) (ps : Nat → Prt) (v : Value) (k : Nat) (W : World) : Prop where
  own : W.ownsRow B 9 1 v k (outs s ps k)
  below : Below B w W
theorem own_below {w W : World} {base e size : Nat} {v : Value} {n : Nat} {xs : List Value} (h : w.ownsRow base e size v n xs) (hb : Below w.heap.size w W) : W.ownsRow base e size v n xs := by
  refine ⟨h.1, ?_⟩
  rcases h.2 with h2 | ⟨g, cap, cur, e, hbg, hg, r⟩
  · exact Or.inl h2
  · exact Or.inr ⟨g, cap, cur, e, hbg, (hb.block g (lt_of_get hg)).trans hg, r⟩
theorem RT.ofBelow {B : Nat} {w : World} {s : ByteArray} {ps : Nat → Prt} {v : Value} {k : Nat} {W W' : World} (h : RT B w s ps v k W) (hB : B ≤ W.heap.size) (hb : Below W.heap.size W W') : RT B w s ps v k W' := ⟨own_below h.own hb, h.below.trans (hb.mono hB)⟩
theorem rt_append {B : Nat} {w : World} {s : ByteArray} {ps : Nat → Prt} {k : Nat} {ops : Array Oper} {rest : List Oper} {o : Oper} {a : Act} {Q : Exit → Act → World → Prop} (W : World) (v : Value) (x : ByteArray) (hgd : o.guard = none) (ho : o.op = .call { callee := .builtin .append, args := #[.tmp 89, .tmp 91], argTypes := #[27, 27] })
    (hs : a.eval (.tmp 89) = v) (hx : a.eval (.tmp 91) = .slice (some ⟨W.heap.size, 0, none⟩) 1 1) (hB : B ≤ W.heap.size) (hRT : RT B w s ps v k W) (hk : k ≤ 12) (hxo : x = oAt s ps k)
    (h : ∀ ao cap W', RT B w s ps (.slice ao (k + 1) cap) (k + 1) W' → B ≤ W'.heap.size → wpList Try.prog ops Q rest (a.put o.dst (.slice ao (k + 1) cap)) W') : wpList Try.prog ops Q (o :: rest) a (W.alloc (.cells #[.string x] 9)) := by
  obtain ⟨i, hi, hr⟩ := Option.map_eq_some_iff.1 info9
  simp only [Prod.mk.injEq] at hr
  obtain ⟨hz, hsz, hby⟩ := hr
  have hb : Below W.heap.size W (W.alloc (.cells #[.string x] 9)) := Below.alloc (Below.refl _ _) (Nat.le_refl _) _
  have hR2 := hRT.ofBelow hB hb
  refine wpList_append_own_at _ hgd (.tmp 89) (.tmp 91) 27 ho B 9 i (.string ⟨#[]⟩) 1 16 Try.underlying27 hi hz hsz hby rfl (by decide) v k (outs s ps k) hs hR2.own ⟨W.heap.size, 0, none⟩ 1 1 [.string x] hx rfl ?_ ?_ (by unfold maxLen; omega) (by omega) (Nat.le_trans hB hb.size) ?_
  · intro j u hj
    rcases j with _ | j
    · simp at hj; subst hj
      have : (⟨W.heap.size, 0, none⟩ : Addr).add 0 = ⟨W.heap.size, 0, none⟩ := by simp [Addr.add]
      rw [this, cell_of (heap_new _ _) 0]; rfl
    · simp at hj
  · intro u hu; simp at hu; rw [hu]; rfl
  · intro v' W' q1 q2 _ _
    obtain ⟨ao, cap, rfl⟩ := slice_of_own q1
    refine h ao cap W' ⟨?_, ?_⟩ (Nat.le_trans hB (Nat.le_trans hb.size q2.size))
    · rw [outs_succ, ← hxo]; exact q1
    · refine hR2.below.trans ⟨q2.os, q2.tape, q2.output, q2.size, fun j hj => q2.block j (by have := hb.size; omega) (fun e => ?_)⟩
      have := (hR2.own.lt j e.symm).1
      omega
/-- How the document's Take ends. -/
def RTEnd (B : Nat) (w : World) (s : ByteArray) (ps : Nat → Prt) (n m : Nat) (e : Ending) (w' : World) : Prop :=
  ∃ v, e = .returned (.tuple #[v, .string (if m = n then sAt s ps m else ⟨#[]⟩), .int .i64 (if m = n then 0 else eAt s ps m)]) ∧ RT B w s ps v m w'
theorem RTEnd.ok {B : Nat} {w : World} {s : ByteArray} {ps : Nat → Prt} {n : Nat} {v : Value} {w' : World} (h : RT B w s ps v n w') : RTEnd B w s ps n n (.returned (.tuple #[v, .string (sAt s ps n), .int .i64 0])) w' := ⟨v, by rw [if_pos rfl, if_pos rfl], h⟩
theorem RTEnd.no {B : Nat} {w : World} {s : ByteArray} {ps : Nat → Prt} {n m : Nat} {v : Value} {w' : World} (y : Int) (hm : m < n) (hy : eAt s ps m = y) (h : RT B w s ps v m w') : RTEnd B w s ps n m (.returned (.tuple #[v, .string ⟨#[]⟩, .int .i64 y])) w' := ⟨v, by rw [if_neg (by omega), if_neg (by omega), hy], h⟩
set_option maxHeartbeats 4000000 in
set_option maxRecDepth 100000 in
theorem rtakes (n cap ob m : Nat) (ao : Option Addr) (ps : Nat → Prt) (s : ByteArray) (hs : s.size ≤ 1000) (hn12 : n ≤ 12) (hkd : ∀ j, j < n → (ps j).kd < 5) (w : World)
    (hrow : 0 < n → ao = some ⟨ob, 0, none⟩ ∧ ob < w.heap.size ∧ ∀ j, j < n → w.cell? ⟨ob, j * 2, none⟩ = some (.int .i64 ((ps j).kd : Nat)) ∧ w.cell? ⟨ob, j * 2 + 1, none⟩ = some (.int .i64 (ps j).n))
    (hm : m ≤ n) (hgood : ∀ j, j < m → eAt s ps j = 0) (hend : m = n ∨ (m < n ∧ ¬ eAt s ps m = 0)) :
    Calls Try.prog 13 #[.string s, .slice ao n cap] w fun e w' => RTEnd w.heap.size w s ps n m e w' := by
  have H0 : Hid (RT w.heap.size w s ps (.slice (some ⟨w.heap.size, 0, none⟩) 0 0) 0 (w.alloc (.cells #[] 9))) := by
    refine ⟨⟨rfl, Or.inr ⟨w.heap.size, 0, #[], rfl, Nat.le_refl _, heap_new _ _, Nat.le_refl _, by unfold maxLen; omega, rfl, rfl⟩⟩, Below.alloc (Below.refl _ _) (Nat.le_refl _) _⟩
  have HKD : Hid _ := hkd
  have HRW : Hid _ := hrow
  have HG : Hid _ := hgood
  have HE : Hid _ := hend
  clear hkd hrow hgood hend
  generalize hB : w.heap.size = B at *
  have hB1 : B ≤ (w.alloc (.cells #[] 9)).heap.size := by rw [← hB]; simp
  go_enter Try.func13, Try.ntmps13
  go_wp2
  go_loopw [0, 7, 21] (fun sv ov i wr => ∃ (k : Nat) (ao' : Option Addr) (cap' : Nat), k ≤ m ∧ sv = .string (sAt s ps k) ∧ ov = .slice ao' k cap' ∧ i = .int .i64 (k : Nat) ∧ B ≤ wr.heap.size ∧ Hid (RT B w s ps (.slice ao' k cap') k wr)) (fun _ _ i _ => n - (intOf i).toNat)
  case atStart => exact ⟨0, _, _, by omega, rfl, rfl, rfl, hB1, H0⟩
  case round =>
    obtain ⟨k, ao', cap', hk, rfl, rfl, rfl, hBr, hR⟩ := hrel
    clear H0 hB1
    rcases Nat.lt_or_ge k n with hkn | hge
    · obtain ⟨rfl, hob, hcl⟩ := HRW.out (by omega)
      have hc0 : wr.cell? ⟨ob, k * 2, none⟩ = some (.int .i64 ((ps k).kd : Nat)) := (hR.out.below.cell (p := ⟨ob, k * 2, none⟩) (by exact hob)).trans (hcl k hkn).1
      have hc1 : wr.cell? ⟨ob, k * 2 + 1, none⟩ = some (.int .i64 (ps k).n) := (hR.out.below.cell (p := ⟨ob, k * 2 + 1, none⟩) (by exact hob)).trans (hcl k hkn).2
      have hsk : (sAt s ps k).size ≤ 1000 := Nat.le_trans (sAt_le s ps k) hs
      have hK5 := HKD.out k hkn
      have HNX : Hid (sAt s ps (k + 1) = pRst (sAt s ps k) (ps k).kd (ps k).n) := rfl
      have HOA : Hid (oAt s ps k = pOut (sAt s ps k) (ps k).kd (ps k).n) := rfl
      have HEA : Hid (eAt s ps k = pErr (sAt s ps k) (ps k).kd (ps k).n) := rfl
      have HKM : Hid ((k < m ∧ eAt s ps k = 0) ∨ (k = m ∧ ¬ eAt s ps k = 0)) := by
        rcases Nat.lt_or_ge k m with h | h
        · exact Or.inl ⟨h, HG.out k h⟩
        · obtain rfl : k = m := by omega
          rcases HE.out with h | h
          · omega
          · exact Or.inr ⟨rfl, h.2⟩
      clear hcl
      generalize (ps k).kd = kd at *
      generalize (ps k).n = nn at *
      generalize hsE : sAt s ps k = t at *
      have HSE : Hid _ := hsE
      clear hsE
      match kd, hK5 with
      | 0, _ =>
        have hc0' : wr.cell? ⟨ob, k * 2, none⟩ = some (.int .i64 0) := hc0
        have hbp : Below wr.heap.size wr (wr.alloc (.cells #[.int .i64 0, .int .i64 nn] 26)) := Below.alloc (Below.refl _ _) (Nat.le_refl _) _
        have HBP : Hid _ := hbp
        clear hc0 hbp
        by_cases hneg : nn < 0
        · have hwd : (0 : Int).toNat = wd nn := by unfold wd; omega
          have hw8 := wd_le nn
          by_cases hle : wd nn ≤ t.size
          · have ht := rtake_ok t 0 (wd nn) hwd hle (by omega) (wr.alloc (.cells #[.int .i64 0, .int .i64 nn] 26))
            have hxs := ext_size t (wd nn) hle
            have hnv : nv (t.extract 0 (wd nn)) (t.extract 0 (wd nn)).size = nv t (wd nn) := by rw [hxs]; exact nv_extract t _ _ (Nat.le_refl _)
            have hnum := fun W => number_any (t.extract 0 (wd nn)) (by omega) W
            rw [hnv] at hnum
            have hrn := fun W => rnum_any (nv t (wd nn)) 8 (nv_lt64 t _ hw8) (by decide) W
            have HX : Hid (tb (numB (nv t (wd nn)) 8) = oAt s ps k) := HOA.out.symm
            have hkm : k < m := by
              rcases HKM.out with h | h
              · exact h.1
              · exact absurd (by rw [HEA.out]; show pErr t 0 nn = 0; unfold pErr; rw [if_pos rfl, if_pos hle]) h.2
            have HNX2 : Hid (sAt s ps (k + 1) = t.extract (wd nn) t.size) := HNX.out
            clear hnv hxs hwd hw8 hle HNX
            have HNX : Hid _ := HNX2
            clear HNX2
            generalize nv t (wd nn) = x at *
            generalize t.extract 0 (wd nn) = hd at *
            generalize t.extract (wd nn) t.size = tl at *
            go_wp2_with fail
            go_call ht as e w2 ⟨rfl, b2⟩
            have HB2 : Hid _ := b2
            have pc0 : w2.cell? ⟨wr.heap.size, 0, none⟩ = some (.int .i64 0) := ((b2).cell (p := ⟨wr.heap.size, 0, none⟩) (by simp)).trans ((cell_of (heap_new _ _) 0).trans rfl)
            have pc1 : w2.cell? ⟨wr.heap.size, 1, none⟩ = some (.int .i64 nn) := ((b2).cell (p := ⟨wr.heap.size, 1, none⟩) (by simp)).trans ((cell_of (heap_new _ _) 1).trans rfl)
            clear ht b2
            have hnum2 := hnum w2
            clear hnum
            go_wp2_with fail
            go_call hnum2 as e w3 ⟨rfl, hw3⟩
            rw [← hw3] at HB2
            clear hnum2 hw3 pc0 pc1
            have hrn2 := hrn w3
            clear hrn
            go_wp2_with fail
            go_call hrn2 as e w4 ⟨rfl, b4⟩
            have HBW : Hid (Below wr.heap.size wr w4) := (HBP.out.trans (HB2.out.mono (by simp))).trans (b4.mono (by have := HB2.out.size; have := HBP.out.size; omega))
            have HB4 : Hid (B ≤ w4.heap.size) := by have := HBW.out.size; show B ≤ _; omega
            have HRT : Hid (RT B w s ps (.slice ao' k cap') k w4) := hR.out.ofBelow hBr HBW.out
            clear hrn2 b4 HB2
            generalize tb (numB x 8) = xx at *
            go_wp2_with (at_builtin; refine rt_append w4 _ xx rfl rfl rfl rfl HB4.out HRT.out (by omega) HX.out ?_)
            intro ao2 cap2 w5 hR5 hB5
            have HR5 : Hid _ := hR5
            clear hR5 hR HRT HX HBP
            go_wp2
            go_roundw
            case rel => exact ⟨k + 1, ao2, cap2, by omega, by rw [HNX.out], rfl, by simp, hB5, HR5⟩
            case measure => simp only [intOf]; omega
          · have ht := rtake_no t 0 (by omega) (wr.alloc (.cells #[.int .i64 0, .int .i64 nn] 26))
            clear hwd hw8
            go_wp2_with fail
            go_call ht as e w2 ⟨rfl, hw2⟩
            have HBW2 : Hid (Below wr.heap.size wr w2) := by rw [hw2]; exact HBP.out
            clear ht hw2
            have HE3 : Hid (eAt s ps k = 3) := HEA.out.trans (by show pErr t 0 nn = 3; unfold pErr; rw [if_pos rfl, if_neg hle])
            have HRT : Hid (RT B w s ps (.slice ao' k cap') k w2) := hR.out.ofBelow hBr (HBW2.out)
            have HKM2 : Hid (k = m) := by
              rcases HKM.out with h | h
              · exact absurd h.2 (by rw [HE3.out]; decide)
              · exact h.1
            clear hR HKM HEA HNX HOA
            go_wp2
            go_returns
            have hkm := HKM2.out
            subst hkm
            exact RTEnd.no 3 hkn HE3.out HRT.out
        by_cases h8 : 8 < nn
        · have hwd : (8 : Int).toNat = wd nn := by unfold wd; omega
          have hw8 := wd_le nn
          by_cases hle : wd nn ≤ t.size
          · have ht := rtake_ok t 8 (wd nn) hwd hle (by omega) (wr.alloc (.cells #[.int .i64 0, .int .i64 nn] 26))
            have hxs := ext_size t (wd nn) hle
            have hnv : nv (t.extract 0 (wd nn)) (t.extract 0 (wd nn)).size = nv t (wd nn) := by rw [hxs]; exact nv_extract t _ _ (Nat.le_refl _)
            have hnum := fun W => number_any (t.extract 0 (wd nn)) (by omega) W
            rw [hnv] at hnum
            have hrn := fun W => rnum_any (nv t (wd nn)) 8 (nv_lt64 t _ hw8) (by decide) W
            have HX : Hid (tb (numB (nv t (wd nn)) 8) = oAt s ps k) := HOA.out.symm
            have hkm : k < m := by
              rcases HKM.out with h | h
              · exact h.1
              · exact absurd (by rw [HEA.out]; show pErr t 0 nn = 0; unfold pErr; rw [if_pos rfl, if_pos hle]) h.2
            have HNX2 : Hid (sAt s ps (k + 1) = t.extract (wd nn) t.size) := HNX.out
            clear hnv hxs hwd hw8 hle HNX
            have HNX : Hid _ := HNX2
            clear HNX2
            generalize nv t (wd nn) = x at *
            generalize t.extract 0 (wd nn) = hd at *
            generalize t.extract (wd nn) t.size = tl at *
            go_wp2_with fail
            go_call ht as e w2 ⟨rfl, b2⟩
            have HB2 : Hid _ := b2
            have pc0 : w2.cell? ⟨wr.heap.size, 0, none⟩ = some (.int .i64 0) := ((b2).cell (p := ⟨wr.heap.size, 0, none⟩) (by simp)).trans ((cell_of (heap_new _ _) 0).trans rfl)
            have pc1 : w2.cell? ⟨wr.heap.size, 1, none⟩ = some (.int .i64 nn) := ((b2).cell (p := ⟨wr.heap.size, 1, none⟩) (by simp)).trans ((cell_of (heap_new _ _) 1).trans rfl)
            clear ht b2
            have hnum2 := hnum w2
            clear hnum
            go_wp2_with fail
            go_call hnum2 as e w3 ⟨rfl, hw3⟩
            rw [← hw3] at HB2
            clear hnum2 hw3 pc0 pc1
            have hrn2 := hrn w3
            clear hrn
            go_wp2_with fail
            go_call hrn2 as e w4 ⟨rfl, b4⟩
            have HBW : Hid (Below wr.heap.size wr w4) := (HBP.out.trans (HB2.out.mono (by simp))).trans (b4.mono (by have := HB2.out.size; have := HBP.out.size; omega))
            have HB4 : Hid (B ≤ w4.heap.size) := by have := HBW.out.size; show B ≤ _; omega
            have HRT : Hid (RT B w s ps (.slice ao' k cap') k w4) := hR.out.ofBelow hBr HBW.out
            clear hrn2 b4 HB2
            generalize tb (numB x 8) = xx at *
            go_wp2_with (at_builtin; refine rt_append w4 _ xx rfl rfl rfl rfl HB4.out HRT.out (by omega) HX.out ?_)
            intro ao2 cap2 w5 hR5 hB5
            have HR5 : Hid _ := hR5
            clear hR5 hR HRT HX HBP
            go_wp2
            go_roundw
            case rel => exact ⟨k + 1, ao2, cap2, by omega, by rw [HNX.out], rfl, by simp, hB5, HR5⟩
            case measure => simp only [intOf]; omega
          · have ht := rtake_no t 8 (by omega) (wr.alloc (.cells #[.int .i64 0, .int .i64 nn] 26))
            clear hwd hw8
            go_wp2_with fail
            go_call ht as e w2 ⟨rfl, hw2⟩
            have HBW2 : Hid (Below wr.heap.size wr w2) := by rw [hw2]; exact HBP.out
            clear ht hw2
            have HE3 : Hid (eAt s ps k = 3) := HEA.out.trans (by show pErr t 0 nn = 3; unfold pErr; rw [if_pos rfl, if_neg hle])
            have HRT : Hid (RT B w s ps (.slice ao' k cap') k w2) := hR.out.ofBelow hBr (HBW2.out)
            have HKM2 : Hid (k = m) := by
              rcases HKM.out with h | h
              · exact absurd h.2 (by rw [HE3.out]; decide)
              · exact h.1
            clear hR HKM HEA HNX HOA
            go_wp2
            go_returns
            have hkm := HKM2.out
            subst hkm
            exact RTEnd.no 3 hkn HE3.out HRT.out
        · have h8' : nn ≤ 8 := by omega
          have hpos : 0 ≤ nn := by omega
          have hwd : (nn : Int).toNat = wd nn := by unfold wd; omega
          have hw8 := wd_le nn
          by_cases hle : wd nn ≤ t.size
          · have ht := rtake_ok t nn (wd nn) hwd hle (by omega) (wr.alloc (.cells #[.int .i64 0, .int .i64 nn] 26))
            have hxs := ext_size t (wd nn) hle
            have hnv : nv (t.extract 0 (wd nn)) (t.extract 0 (wd nn)).size = nv t (wd nn) := by rw [hxs]; exact nv_extract t _ _ (Nat.le_refl _)
            have hnum := fun W => number_any (t.extract 0 (wd nn)) (by omega) W
            rw [hnv] at hnum
            have hrn := fun W => rnum_any (nv t (wd nn)) 8 (nv_lt64 t _ hw8) (by decide) W
            have HX : Hid (tb (numB (nv t (wd nn)) 8) = oAt s ps k) := HOA.out.symm
            have hkm : k < m := by
              rcases HKM.out with h | h
              · exact h.1
              · exact absurd (by rw [HEA.out]; show pErr t 0 nn = 0; unfold pErr; rw [if_pos rfl, if_pos hle]) h.2
            have HNX2 : Hid (sAt s ps (k + 1) = t.extract (wd nn) t.size) := HNX.out
            clear hnv hxs hwd hw8 hle HNX
            have HNX : Hid _ := HNX2
            clear HNX2
            generalize nv t (wd nn) = x at *
            generalize t.extract 0 (wd nn) = hd at *
            generalize t.extract (wd nn) t.size = tl at *
            go_wp2_with fail
            go_call ht as e w2 ⟨rfl, b2⟩
            have HB2 : Hid _ := b2
            have pc0 : w2.cell? ⟨wr.heap.size, 0, none⟩ = some (.int .i64 0) := ((b2).cell (p := ⟨wr.heap.size, 0, none⟩) (by simp)).trans ((cell_of (heap_new _ _) 0).trans rfl)
            have pc1 : w2.cell? ⟨wr.heap.size, 1, none⟩ = some (.int .i64 nn) := ((b2).cell (p := ⟨wr.heap.size, 1, none⟩) (by simp)).trans ((cell_of (heap_new _ _) 1).trans rfl)
            clear ht b2
            have hnum2 := hnum w2
            clear hnum
            go_wp2_with fail
            go_call hnum2 as e w3 ⟨rfl, hw3⟩
            rw [← hw3] at HB2
            clear hnum2 hw3 pc0 pc1
            have hrn2 := hrn w3
            clear hrn
            go_wp2_with fail
            go_call hrn2 as e w4 ⟨rfl, b4⟩
            have HBW : Hid (Below wr.heap.size wr w4) := (HBP.out.trans (HB2.out.mono (by simp))).trans (b4.mono (by have := HB2.out.size; have := HBP.out.size; omega))
            have HB4 : Hid (B ≤ w4.heap.size) := by have := HBW.out.size; show B ≤ _; omega
            have HRT : Hid (RT B w s ps (.slice ao' k cap') k w4) := hR.out.ofBelow hBr HBW.out
            clear hrn2 b4 HB2
            generalize tb (numB x 8) = xx at *
            go_wp2_with (at_builtin; refine rt_append w4 _ xx rfl rfl rfl rfl HB4.out HRT.out (by omega) HX.out ?_)
            intro ao2 cap2 w5 hR5 hB5
            have HR5 : Hid _ := hR5
            clear hR5 hR HRT HX HBP
            go_wp2
            go_roundw
            case rel => exact ⟨k + 1, ao2, cap2, by omega, by rw [HNX.out], rfl, by simp, hB5, HR5⟩
            case measure => simp only [intOf]; omega
          · have ht := rtake_no t nn (by omega) (wr.alloc (.cells #[.int .i64 0, .int .i64 nn] 26))
            clear hwd hw8
            go_wp2_with fail
            go_call ht as e w2 ⟨rfl, hw2⟩
            have HBW2 : Hid (Below wr.heap.size wr w2) := by rw [hw2]; exact HBP.out
            clear ht hw2
            have HE3 : Hid (eAt s ps k = 3) := HEA.out.trans (by show pErr t 0 nn = 3; unfold pErr; rw [if_pos rfl, if_neg hle])
            have HRT : Hid (RT B w s ps (.slice ao' k cap') k w2) := hR.out.ofBelow hBr (HBW2.out)
            have HKM2 : Hid (k = m) := by
              rcases HKM.out with h | h
              · exact absurd h.2 (by rw [HE3.out]; decide)
              · exact h.1
            clear hR HKM HEA HNX HOA
            go_wp2
            go_returns
            have hkm := HKM2.out
            subst hkm
            exact RTEnd.no 3 hkn HE3.out HRT.out
      | 1, _ =>
        have hc0' : wr.cell? ⟨ob, k * 2, none⟩ = some (.int .i64 1) := hc0
        have hbp : Below wr.heap.size wr (wr.alloc (.cells #[.int .i64 1, .int .i64 nn] 26)) := Below.alloc (Below.refl _ _) (Nat.le_refl _) _
        have HBP : Hid _ := hbp
        clear hc0 hbp
        by_cases h2 : 2 ≤ t.size
        · have ht := rtake_ok t 2 2 rfl h2 (by omega) (wr.alloc (.cells #[.int .i64 1, .int .i64 nn] 26))
          have hxs := ext_size t 2 h2
          have hnv : nv (t.extract 0 2) (t.extract 0 2).size = nv t 2 := by rw [hxs]; exact nv_extract t _ _ (Nat.le_refl _)
          have hnum := fun W => number_any (t.extract 0 2) (by omega) W
          rw [hnv] at hnum
          have hq := nv_lt t 2
          have hq2 : nv t 2 < 65536 := hq
          have hr1 : (t.extract 2 t.size).size = t.size - 2 := by rw [ByteArray.size_extract]; omega
          clear hnv hxs hq
          by_cases hle : nv t 2 + 2 ≤ t.size
          · have HX : Hid ((t.extract 2 t.size).extract 0 (nv t 2) = oAt s ps k) := HOA.out.symm
            have hkm : k < m := by
              rcases HKM.out with h | h
              · exact h.1
              · exact absurd (by rw [HEA.out]; show pErr t 1 nn = 0; unfold pErr; rw [if_neg (by decide), if_pos rfl, if_pos ⟨h2, hle⟩]) h.2
            have HNX2 : Hid (sAt s ps (k + 1) = (t.extract 2 t.size).extract (nv t 2) (t.extract 2 t.size).size) := HNX.out
            clear HNX
            have HNX : Hid _ := HNX2
            clear HNX2
            generalize nv t 2 = q at *
            generalize t.extract 0 2 = hd at *
            generalize t.extract 2 t.size = tl at *
            have hle2 : q ≤ tl.size := by omega
            have htl : tl.size ≤ 1000 := by omega
            have ht2 := fun W => rtake_ok tl (q : Int) q (by omega) hle2 (by omega) W
            clear hr1 hle
            generalize tl.extract 0 q = x2 at *
            generalize tl.extract q tl.size = tl2 at *
            go_wp2_with fail
            go_call ht as e w2 ⟨rfl, b2⟩
            have HB2 : Hid _ := b2
            have pc0 : w2.cell? ⟨wr.heap.size, 0, none⟩ = some (.int .i64 1) := ((b2).cell (p := ⟨wr.heap.size, 0, none⟩) (by simp)).trans ((cell_of (heap_new _ _) 0).trans rfl)
            have pc1 : w2.cell? ⟨wr.heap.size, 1, none⟩ = some (.int .i64 nn) := ((b2).cell (p := ⟨wr.heap.size, 1, none⟩) (by simp)).trans ((cell_of (heap_new _ _) 1).trans rfl)
            clear ht b2
            have hnum2 := hnum w2
            clear hnum
            go_wp2_with fail
            go_call hnum2 as e w3 ⟨rfl, hw3⟩
            rw [← hw3] at HB2 pc0 pc1
            clear hnum2 hw3
            have ht3 := ht2 w3
            clear ht2
            go_wp2_with fail
            go_call ht3 as e w4 ⟨rfl, b4⟩
            have HBW : Hid (Below wr.heap.size wr w4) := (HBP.out.trans (HB2.out.mono (by simp))).trans (b4.mono (by have := HB2.out.size; have := HBP.out.size; omega))
            have HB4 : Hid (B ≤ w4.heap.size) := by have := HBW.out.size; show B ≤ _; omega
            have HRT : Hid (RT B w s ps (.slice ao' k cap') k w4) := hR.out.ofBelow hBr HBW.out
            clear pc0 pc1
            have pc0 : w4.cell? ⟨wr.heap.size, 0, none⟩ = some (.int .i64 1) := (((HB2.out.trans (b4.mono HB2.out.size))).cell (p := ⟨wr.heap.size, 0, none⟩) (by simp)).trans ((cell_of (heap_new _ _) 0).trans rfl)
            have pc1 : w4.cell? ⟨wr.heap.size, 1, none⟩ = some (.int .i64 nn) := (((HB2.out.trans (b4.mono HB2.out.size))).cell (p := ⟨wr.heap.size, 1, none⟩) (by simp)).trans ((cell_of (heap_new _ _) 1).trans rfl)
            clear ht3 b4 HB2
            go_wp2_with (at_builtin; refine rt_append w4 _ x2 rfl rfl rfl rfl HB4.out HRT.out (by omega) HX.out ?_)
            intro ao2 cap2 w5 hR5 hB5
            have HR5 : Hid _ := hR5
            clear hR5 hR HRT HX HBP
            go_wp2
            go_roundw
            case rel => exact ⟨k + 1, ao2, cap2, by omega, by rw [HNX.out], rfl, by simp, hB5, HR5⟩
            case measure => simp only [intOf]; omega
          · have HNL : Hid (¬ (2 ≤ t.size ∧ nv t 2 + 2 ≤ t.size)) := fun h => hle h.2
            generalize hqq : nv t 2 = q at hle hq2 hnum
            generalize t.extract 0 2 = hd at *
            generalize t.extract 2 t.size = tl at *
            have hle2 : (tl.size : Int) < (q : Int) := by omega
            have ht2 := fun W => rtake_no tl (q : Int) hle2 W
            clear hr1 hle hqq hle2
            go_wp2_with fail
            go_call ht as e w2 ⟨rfl, b2⟩
            have HB2 : Hid _ := b2
            have pc0 : w2.cell? ⟨wr.heap.size, 0, none⟩ = some (.int .i64 1) := ((b2).cell (p := ⟨wr.heap.size, 0, none⟩) (by simp)).trans ((cell_of (heap_new _ _) 0).trans rfl)
            have pc1 : w2.cell? ⟨wr.heap.size, 1, none⟩ = some (.int .i64 nn) := ((b2).cell (p := ⟨wr.heap.size, 1, none⟩) (by simp)).trans ((cell_of (heap_new _ _) 1).trans rfl)
            clear ht b2
            have hnum2 := hnum w2
            clear hnum
            go_wp2_with fail
            go_call hnum2 as e w3 ⟨rfl, hw3⟩
            rw [← hw3] at HB2 pc0 pc1
            clear hnum2 hw3
            have ht3 := ht2 w3
            clear ht2
            go_wp2_with fail
            go_call ht3 as e w4 ⟨rfl, hw4⟩
            rw [← hw4] at HB2
            clear ht3 hw4
            have HE3 : Hid (eAt s ps k = 3) := HEA.out.trans (by show pErr t 1 nn = 3; unfold pErr; rw [if_neg (by decide), if_pos rfl, if_neg HNL.out])
            have HRT : Hid (RT B w s ps (.slice ao' k cap') k w4) := hR.out.ofBelow hBr (HBP.out.trans (HB2.out.mono (by simp)))
            have HKM2 : Hid (k = m) := by
              rcases HKM.out with h | h
              · exact absurd h.2 (by rw [HE3.out]; decide)
              · exact h.1
            clear hR HKM HEA HNX HOA
            go_wp2
            go_returns
            have hkm := HKM2.out
            subst hkm
            exact RTEnd.no 3 hkn HE3.out HRT.out
        · have ht := rtake_no t 2 (by omega) (wr.alloc (.cells #[.int .i64 1, .int .i64 nn] 26))
          have HNL : Hid (¬ (2 ≤ t.size ∧ nv t 2 + 2 ≤ t.size)) := fun h => h2 h.1
          go_wp2_with fail
          go_call ht as e w2 ⟨rfl, hw2⟩
          have HBW2 : Hid (Below wr.heap.size wr w2) := by rw [hw2]; exact HBP.out
          clear ht hw2
          have HE3 : Hid (eAt s ps k = 3) := HEA.out.trans (by show pErr t 1 nn = 3; unfold pErr; rw [if_neg (by decide), if_pos rfl, if_neg HNL.out])
          have HRT : Hid (RT B w s ps (.slice ao' k cap') k w2) := hR.out.ofBelow hBr (HBW2.out)
          have HKM2 : Hid (k = m) := by
            rcases HKM.out with h | h
            · exact absurd h.2 (by rw [HE3.out]; decide)
            · exact h.1
          clear hR HKM HEA HNX HOA
          go_wp2
          go_returns
          have hkm := HKM2.out
          subst hkm
          exact RTEnd.no 3 hkn HE3.out HRT.out
      | 2, _ =>
        have hc0' : wr.cell? ⟨ob, k * 2, none⟩ = some (.int .i64 2) := hc0
        have hbp : Below wr.heap.size wr (wr.alloc (.cells #[.int .i64 2, .int .i64 nn] 26)) := Below.alloc (Below.refl _ _) (Nat.le_refl _) _
        have HBP : Hid _ := hbp
        clear hc0 hbp
        by_cases hle : nn.toNat ≤ t.size
        · have ht := rtake_ok t nn nn.toNat rfl hle (by omega) (wr.alloc (.cells #[.int .i64 2, .int .i64 nn] 26))
          have HX : Hid (t.extract 0 nn.toNat = oAt s ps k) := HOA.out.symm
          have hkm : k < m := by
            rcases HKM.out with h | h
            · exact h.1
            · exact absurd (by rw [HEA.out]; show pErr t 2 nn = 0; unfold pErr; rw [if_neg (by decide), if_neg (by decide), if_neg (by decide), if_neg (by decide), if_pos hle]) h.2
          have HNX2 : Hid (sAt s ps (k + 1) = t.extract nn.toNat t.size) := HNX.out
          clear hle HNX
          have HNX : Hid _ := HNX2
          clear HNX2
          generalize t.extract 0 nn.toNat = hd at *
          generalize t.extract nn.toNat t.size = tl at *
          go_wp2_with fail
          go_call ht as e w4 ⟨rfl, b4⟩
          have HBW : Hid (Below wr.heap.size wr w4) := HBP.out.trans (b4.mono (by simp))
          have HB4 : Hid (B ≤ w4.heap.size) := by have := HBW.out.size; show B ≤ _; omega
          have HRT : Hid (RT B w s ps (.slice ao' k cap') k w4) := hR.out.ofBelow hBr HBW.out
          have pc0 : w4.cell? ⟨wr.heap.size, 0, none⟩ = some (.int .i64 2) := ((b4).cell (p := ⟨wr.heap.size, 0, none⟩) (by simp)).trans ((cell_of (heap_new _ _) 0).trans rfl)
          have pc1 : w4.cell? ⟨wr.heap.size, 1, none⟩ = some (.int .i64 nn) := ((b4).cell (p := ⟨wr.heap.size, 1, none⟩) (by simp)).trans ((cell_of (heap_new _ _) 1).trans rfl)
          clear ht b4
          go_wp2_with (at_builtin; refine rt_append w4 _ hd rfl rfl rfl rfl HB4.out HRT.out (by omega) HX.out ?_)
          intro ao2 cap2 w5 hR5 hB5
          have HR5 : Hid _ := hR5
          clear hR5 hR HRT HX HBP
          go_wp2
          go_roundw
          case rel => exact ⟨k + 1, ao2, cap2, by omega, by rw [HNX.out], rfl, by simp, hB5, HR5⟩
          case measure => simp only [intOf]; omega
        · have ht := rtake_no t nn (by omega) (wr.alloc (.cells #[.int .i64 2, .int .i64 nn] 26))
          go_wp2_with fail
          go_call ht as e w2 ⟨rfl, hw2⟩
          have HBW2 : Hid (Below wr.heap.size wr w2) := by rw [hw2]; exact HBP.out
          clear ht hw2
          have HE3 : Hid (eAt s ps k = 3) := HEA.out.trans (by show pErr t 2 nn = 3; unfold pErr; rw [if_neg (by decide), if_neg (by decide), if_neg (by decide), if_neg (by decide), if_neg hle])
          have HRT : Hid (RT B w s ps (.slice ao' k cap') k w2) := hR.out.ofBelow hBr (HBW2.out)
          have HKM2 : Hid (k = m) := by
            rcases HKM.out with h | h
            · exact absurd h.2 (by rw [HE3.out]; decide)
            · exact h.1
          clear hR HKM HEA HNX HOA
          go_wp2
          go_returns
          have hkm := HKM2.out
          subst hkm
          exact RTEnd.no 3 hkn HE3.out HRT.out
      | 3, _ =>
        have hc0' : wr.cell? ⟨ob, k * 2, none⟩ = some (.int .i64 3) := hc0
        have hbp : Below wr.heap.size wr (wr.alloc (.cells #[.int .i64 3, .int .i64 nn] 26)) := Below.alloc (Below.refl _ _) (Nat.le_refl _) _
        have HBP : Hid _ := hbp
        clear hc0 hbp
        have ht := rtake_ok t (t.size : Int) t.size (by omega) (Nat.le_refl _) (by omega) (wr.alloc (.cells #[.int .i64 3, .int .i64 nn] 26))
        rw [extract_all t] at ht
        have hz0 : t.extract t.size t.size = ⟨#[]⟩ := by apply ByteArray.ext; simp
        rw [hz0] at ht
        clear hz0
        go_wp2_with fail
        go_call ht as e w4 ⟨rfl, b4⟩
        have HBW : Hid (Below wr.heap.size wr w4) := HBP.out.trans (b4.mono (by simp))
        have HB4 : Hid (B ≤ w4.heap.size) := by have := HBW.out.size; show B ≤ _; omega
        have HRT : Hid (RT B w s ps (.slice ao' k cap') k w4) := hR.out.ofBelow hBr HBW.out
        have pc0 : w4.cell? ⟨wr.heap.size, 0, none⟩ = some (.int .i64 3) := ((b4).cell (p := ⟨wr.heap.size, 0, none⟩) (by simp)).trans ((cell_of (heap_new _ _) 0).trans rfl)
        have pc1 : w4.cell? ⟨wr.heap.size, 1, none⟩ = some (.int .i64 nn) := ((b4).cell (p := ⟨wr.heap.size, 1, none⟩) (by simp)).trans ((cell_of (heap_new _ _) 1).trans rfl)
        clear ht b4
        go_wp2_with fail
        go_loop [17] (fun i => ∃ j : Nat, j ≤ t.size ∧ i = .int .i64 (j : Nat) ∧ Hid (∀ l, l < j → bn t l = 0)) (fun i => t.size - (intOf i).toNat)
        case atStart => exact ⟨0, Nat.zero_le _, rfl, fun l hl => absurd hl (Nat.not_lt_zero _)⟩
        case round =>
          obtain ⟨j, hj, rfl, hzs⟩ := hrel
          by_cases hlt : j < t.size
          · have hb : (t[j]'hlt).toNat = bn t j := by unfold bn; rw [dif_pos hlt]
            by_cases hbz : bn t j = 0
            · have HZS : Hid (∀ l, l < j + 1 → bn t l = 0) := fun l hl => by
                rcases Nat.lt_or_ge l j with h | h
                · exact hzs.out l h
                · obtain rfl : l = j := by omega
                  exact hbz
              rw [hbz] at hb
              clear hbz hzs
              go_wp2
              go_round
              case rel => exact ⟨j + 1, by omega, by go_num, HZS⟩
              case measure => simp only [intOf]; omega
            · have HNZ : Hid (¬ zeros t) := fun h => hbz (h j hlt)
              have hbb := bn_lt t j
              have hb2 : ¬ ((t[j]'hlt).toNat : Int) = 0 := by omega
              have hb3 : ¬ (t[j]'hlt).toNat = 0 := by omega
              have hb4 : ((((t[j]'hlt).toNat : Int)) == 0) = false := by simpa using hb2
              clear hb hbz hzs
              have HE3 : Hid (eAt s ps k = 4) := HEA.out.trans (by show pErr t 3 nn = 4; unfold pErr; rw [if_neg (by decide), if_neg (by decide), if_pos rfl, if_neg HNZ.out])
              have HRT : Hid (RT B w s ps (.slice ao' k cap') k w4) := hR.out.ofBelow hBr (HBW.out)
              have HKM2 : Hid (k = m) := by
                rcases HKM.out with h | h
                · exact absurd h.2 (by rw [HE3.out]; decide)
                · exact h.1
              clear hR HKM HEA HNX HOA
              go_wp2
              go_returns
              have hkm := HKM2.out
              subst hkm
              exact RTEnd.no 4 hkn HE3.out HRT.out
          · obtain rfl : j = t.size := by omega
            have HZ : Hid (zeros t) := hzs.out
            have HX : Hid ((⟨#[]⟩ : ByteArray) = oAt s ps k) := HOA.out.symm
            have hkm : k < m := by
              rcases HKM.out with h | h
              · exact h.1
              · exact absurd (by rw [HEA.out]; show pErr t 3 nn = 0; unfold pErr; rw [if_neg (by decide), if_neg (by decide), if_pos rfl, if_pos HZ.out]) h.2
            have HNX2 : Hid (sAt s ps (k + 1) = ⟨#[]⟩) := HNX.out
            clear HNX hzs HZ
            have HNX : Hid _ := HNX2
            clear HNX2
            go_wp2_with (at_builtin; refine rt_append w4 _ ⟨#[]⟩ rfl rfl rfl rfl HB4.out HRT.out (by omega) HX.out ?_)
            intro ao2 cap2 w5 hR5 hB5
            have HR5 : Hid _ := hR5
            clear hR5 hR HRT HX HBP
            go_wp2
            go_roundw
            case rel => exact ⟨k + 1, ao2, cap2, by omega, by rw [HNX.out], rfl, by simp, hB5, HR5⟩
            case measure => simp only [intOf]; omega
      | 4, _ =>
        have hc0' : wr.cell? ⟨ob, k * 2, none⟩ = some (.int .i64 4) := hc0
        have hbp : Below wr.heap.size wr (wr.alloc (.cells #[.int .i64 4, .int .i64 nn] 26)) := Below.alloc (Below.refl _ _) (Nat.le_refl _) _
        have HBP : Hid _ := hbp
        clear hc0 hbp
        have HE3 : Hid (eAt s ps k = 12) := HEA.out.trans (by show pErr t 4 nn = 12; unfold pErr; rw [if_neg (by decide), if_neg (by decide), if_neg (by decide), if_pos rfl])
        have HRT : Hid (RT B w s ps (.slice ao' k cap') k (wr.alloc (.cells #[.int .i64 4, .int .i64 nn] 26))) := hR.out.ofBelow hBr (HBP.out)
        have HKM2 : Hid (k = m) := by
          rcases HKM.out with h | h
          · exact absurd h.2 (by rw [HE3.out]; decide)
          · exact h.1
        clear hR HKM HEA HNX HOA
        go_wp2
        go_returns
        have hkm := HKM2.out
        subst hkm
        exact RTEnd.no 12 hkn HE3.out HRT.out
    · obtain rfl : k = n := by omega
      have hmk : m = k := by omega
      subst hmk
      go_wp2
      go_returns
      exact RTEnd.ok hR.out
end Go.Proofs.Ythojbccoejdmeaa
