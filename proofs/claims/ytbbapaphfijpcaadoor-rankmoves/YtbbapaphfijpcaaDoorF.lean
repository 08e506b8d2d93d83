/- few, same, has; rank's Order and Top; what is in one row and not in another one. -/
import Derived.Test.YtbbapaphfijpcaaDoorE
import Derived.Deep.Draws
namespace Go.Proofs.YtbbapaphfijpcaaDoor
open Go.RowKit Go.Sort Go.Lib
theorem info3 : (Tryd.prog.info? 3).map (fun i => (i.zero, i.size, i.bytes)) = some (some (.int .i64 0), 1, 8) := by kernel_rfl
theorem info_parts {t : TypeId} {z : Value} {s b : Nat} (h : (Tryd.prog.info? t).map (fun i => (i.zero, i.size, i.bytes)) = some (some z, s, b)) : ∃ i, Tryd.prog.info? t = some i ∧ i.zero = some z ∧ i.size = s ∧ i.bytes = b := by
  cases h2 : Tryd.prog.info? t with
  | none => rw [h2] at h; cases h
  | some i =>
    rw [h2] at h
    simp only [Option.map_some, Option.some.injEq, Prod.mk.injEq] at h
    exact ⟨i, rfl, h.1, h.2.1, h.2.2⟩
/-- Numbers are appended to a row of the call's own. -/
theorem iappend {ops : Array Oper} {rest : List Oper} {o : Oper} {a : Act} {w : World} {Q : Exit → Act → World → Prop} (hgd : o.guard = none) (s x : Operand) (ho : o.op = .call { callee := .builtin .append, args := #[s, x], argTypes := #[22, 22] })
    (base : Nat) (v : Value) (l : List Int) (hs : a.eval s = v) (hown : Own base v l w) (ad : Addr) (c : Nat) (ms : List Int) (hx : a.eval x = .slice (some ad) ms.length c) (hG : ∀ j, j < ms.length → w.cell? (ad.add j) = some (.int .i64 (ms.getD j 0))) (hl : l.length ≤ 1000) (hm : ms.length ≤ 1000) (hb : base ≤ w.heap.size)
    (k : ∀ v' w', Own base v' (l ++ ms) w' → Below base w w' → w.grownBy w' v.ownBlock → wpList Tryd.prog ops Q rest (a.put o.dst v') w') : wpList Tryd.prog ops Q (o :: rest) a w := by
  obtain ⟨i0, hi0, hz0, hs0, hby0⟩ := info_parts info3
  refine wpList_append_own w hgd s x 22 ho base 3 i0 (.int .i64 0) 1 8 Tryd.underlying22 hi0 hz0 hs0 hby0 (by kernel_rfl) (by decide) v l.length (l.map (Value.int .i64)) hs hown ad ms.length c (ms.map (Value.int .i64)) hx (by simp) ?_ ?_ (by unfold maxLen; omega) (by omega) hb ?_
  · intro j u hj
    have hlt : j < ms.length := by
      have := (List.getElem?_eq_some_iff.1 hj).1
      simpa using this
    rw [hG j hlt]
    rw [← hj]
    simp [hlt]
  · intro u hu
    obtain ⟨y, _, rfl⟩ := List.mem_map.1 hu
    rfl
  · intro v' w' h1 h2 h3
    refine k v' w' ?_ ((Below.refl _ w).grown h2 hb (fun q hq => (World.ownsRow.lt hown q hq).1)) h2
    show w'.ownsRow _ _ _ _ _ _
    rw [List.length_append, List.map_append]
    exact h1
theorem i64_and1023 (n : Int) : bits .and .i64 n 1023 = n % 1024 := by
  have h1 : (BitVec.ofInt 64 1023).toNat = 2 ^ 10 - 1 := by decide
  have key : (BitVec.ofInt 64 n &&& BitVec.ofInt 64 1023).toNat = (n % ((2 ^ 64 : Nat) : Int)).toNat % 2 ^ 10 := by
    rw [BitVec.toNat_and, BitVec.toNat_ofInt, h1, Nat.and_two_pow_sub_one_eq_mod]
  show IntKind.i64.wrap ((BitVec.ofInt 64 n &&& BitVec.ofInt 64 1023).toNat : Nat) = n % 1024
  rw [key, IntKind.wrap_i64]
  omega
/-- At most sixteen numbers from 1 to 1000. -/
def fewN (x : Int) : Int := 1 + (x % 1024) % 1000
def fewL (l : List Int) : List Int := (l.take 16).map fewN
theorem fewL_len (l : List Int) : (fewL l).length ≤ 16 := by unfold fewL; rw [List.length_map, List.length_take]; omega
theorem fewL_mem {l : List Int} {x : Int} (h : x ∈ fewL l) : 0 ≤ x ∧ x ≤ 1000 := by
  obtain ⟨y, _, rfl⟩ := List.mem_map.1 h
  unfold fewN; omega
set_option maxHeartbeats 1000000 in
theorem few9 {v : Value} {l : List Int} {w : World} (h : Rd v l w) (hz : l.length ≤ 9223372036854775807) :
    Calls Tryd.prog 9 #[v] w fun e w' => ∃ v', e = .returned v' ∧ Own w.heap.size v' (fewL l) w' ∧ Below w.heap.size w w' := by
  obtain ⟨ao, cp, rfl, h2, h3⟩ := h
  have H3 : Hid _ := h3
  clear h3 h2
  go_enter Tryd.func9, Tryd.ntmps9
  go_wp2_with fail
  go_loopw [3, 4] (fun x y wr => ∃ (i : Nat) (ls : List Int), y = .int .i64 (i : Nat) ∧ i ≤ l.length ∧ i ≤ 16 ∧ Hid (ls = (l.take i).map fewN) ∧ Hid (Own w.heap.size x ls wr) ∧ Hid (Below w.heap.size w wr)) (fun _ y _ => 16 - (intOf y).toNat)
  case atStart => exact ⟨0, [], rfl, Nat.zero_le _, Nat.zero_le _, rfl, World.ownsRow_nil _ _ _ _, Below.refl _ _⟩
  case round =>
    obtain ⟨i, ls, rfl, hi, hi16, hls, hO, hB⟩ := hrel
    by_cases hlt : i < l.length
    · by_cases h16 : i < 16
      · obtain ⟨b, o, rfl, hb, hc⟩ := H3.out (by omega)
        have cx : wr.cell? ⟨b, o + i, none⟩ = some (.int .i64 (l.getD i 0)) := (hB.out.cell hb).trans (hc i hlt)
        have HLS : Hid (ls ++ [fewN (l.getD i 0)] = (l.take (i + 1)).map fewN) := by
          show _ = _
          rw [List.take_succ_eq_append_getElem hlt, List.map_append, hls.out]
          simp [List.getD, hlt]
        clear hc
        generalize l.getD i 0 = y at *
        obtain ⟨r, hr⟩ : ∃ r, (y % 1024) % 1000 = r := ⟨_, rfl⟩
        have hr0 : 0 ≤ r := by omega
        have hr1 : r < 1000 := by omega
        have hand := i64_and1023 y
        have htm : (y % 1024).tmod 1000 = r := by rw [Int.tmod_eq_emod_of_nonneg (by omega)]; exact hr
        have hfn : fewN y = 1 + r := by unfold fewN; rw [hr]
        rw [hfn] at HLS
        clear hr hfn
        have hbx : Below wr.heap.size wr (wr.alloc (.cells #[.int .i64 (1 + r)] 3)) := (Below.refl _ _).alloc (Nat.le_refl _) _
        have HO2 : Hid (Own w.heap.size u3 ls (wr.alloc (.cells #[.int .i64 (1 + r)] 3))) := hO.out.below hbx
        have HB2 : Hid (Below w.heap.size w (wr.alloc (.cells #[.int .i64 (1 + r)] 3))) := hB.out.trans (hbx.mono hB.out.size)
        have HG : Hid ((wr.alloc (.cells #[.int .i64 (1 + r)] 3)).heap[wr.heap.size]? = some (.cells #[.int .i64 (1 + r)] 3)) := heap_new _ _
        have HL : Hid (ls.length ≤ 16) := by
          show _ ≤ _
          rw [hls.out, List.length_map, List.length_take]; omega
        clear hbx
        go_wp2_with (refine iappend rfl _ _ rfl w.heap.size _ ls rfl HO2.out ⟨wr.heap.size, 0, none⟩ 1 [1 + r] rfl ?g1 (by have := HL.out; omega) (by simp) HB2.out.size ?k1)
        · intro j hj
          have : j = 0 := by simpa using hj
          subst this
          rw [Addr.add_lit]
          exact cell_of HG.out 0
        · intro v' w' h1 h2 h3
          have H1 : Hid (Own w.heap.size v' (ls ++ [1 + r]) w') := h1
          have H2 : Hid (Below w.heap.size w w') := HB2.out.trans h2
          clear h1 h2 h3
          go_wp2
          go_roundw
          case rel => exact ⟨i + 1, ls ++ [1 + r], by go_num, by omega, by omega, HLS.out, H1.out, H2.out⟩
          case measure => simp only [intOf]; omega
      · have he : Hid ((l.take i).map fewN = fewL l) := by
          show _ = _
          unfold fewL
          rw [show i = 16 by omega]
        go_wp2
        go_ret
        have := hO.out
        rw [hls.out, he.out] at this
        exact ⟨_, rfl, this, hB.out⟩
    · have he : Hid ((l.take i).map fewN = fewL l) := by
        show _ = _
        unfold fewL
        rw [List.take_of_length_le (by omega), List.take_of_length_le (by omega)]
      go_wp2
      go_ret
      have := hO.out
      rw [hls.out, he.out] at this
      exact ⟨_, rfl, this, hB.out⟩
set_option maxHeartbeats 1000000 in
theorem same15 {u v : Value} {a b : List Int} {w : World} (h : Rd u a w) (k : Rd v b w) (ha : a.length ≤ 1000) (hb : b.length ≤ 1000) :
    Calls Tryd.prog 15 #[u, v] w fun e w' => e = .returned (.bool (decide (a = b))) ∧ Below w.heap.size w w' := by
  obtain ⟨ao, cp, rfl, h2, h3⟩ := h
  obtain ⟨bo, cq, rfl, k2, k3⟩ := k
  have H3 : Hid _ := h3
  have K3 : Hid _ := k3
  clear h3 k3 h2 k2
  by_cases hz : a.length = b.length
  · have hzi : ((a.length : Int) != (b.length : Int)) = false := by simp; omega
    go_enter Tryd.func15, Tryd.ntmps15
    go_wp2_with fail
    go_loopw [13] (fun y wr => ∃ (i : Nat), y = .int .i64 (i : Nat) ∧ i ≤ a.length ∧ Hid (a.take i = b.take i) ∧ Hid (Below w.heap.size w wr)) (fun y _ => a.length - (intOf y).toNat)
    case atStart => exact ⟨0, rfl, Nat.zero_le _, rfl, Below.refl _ _⟩
    case round =>
      obtain ⟨i, rfl, hi, hE, hB⟩ := hrel
      by_cases hlt : i < a.length
      · have hltb : i < b.length := by omega
        obtain ⟨ba, oa, rfl, h4, h5⟩ := H3.out (by omega)
        obtain ⟨bb, ob, rfl, k4, k5⟩ := K3.out (by omega)
        have c1 : wr.cell? ⟨ba, oa + i, none⟩ = some (.int .i64 (a.getD i 0)) := (hB.out.cell h4).trans (h5 i hlt)
        have c2 : wr.cell? ⟨bb, ob + i, none⟩ = some (.int .i64 (b.getD i 0)) := (hB.out.cell k4).trans (k5 i hltb)
        have ea : a.getD i 0 = a[i] := by simp [List.getD, hlt]
        have eb : b.getD i 0 = b[i] := by simp [List.getD, hltb]
        clear h5 k5
        by_cases hxy : a.getD i 0 = b.getD i 0
        · have HE2 : Hid (a.take (i + 1) = b.take (i + 1)) := by
            show _ = _
            rw [List.take_succ_eq_append_getElem hlt, List.take_succ_eq_append_getElem hltb, hE.out, ← ea, ← eb, hxy]
          have hb : (a.getD i 0 != b.getD i 0) = false := by rw [hxy]; exact bne_self_eq_false _
          clear ea eb hxy
          generalize a.getD i 0 = x at *
          generalize b.getD i 0 = y at *
          clear hzi hz
          go_wp2_with fail
          go_quiet (fail)
          go_wp2
          go_roundw
          case rel => exact ⟨i + 1, by go_num, by omega, HE2.out, hB.out.trans ((Below.refl _ _).trans ⟨rfl, rfl, rfl, Nat.le_refl _, fun _ _ => rfl⟩)⟩
          case measure => simp only [intOf]; omega
        · have HE2 : Hid (a ≠ b) := fun e => hxy (by rw [e])
          have hb : (a.getD i 0 != b.getD i 0) = true := by simpa using hxy
          clear ea eb hxy
          generalize a.getD i 0 = x at *
          generalize b.getD i 0 = y at *
          clear hzi hz
          go_wp2_with fail
          go_quiet (fail)
          go_wp2
          go_ret
          exact ⟨by rw [decide_eq_false HE2.out]; rfl, hB.out.trans ⟨rfl, rfl, rfl, Nat.le_refl _, fun _ _ => rfl⟩⟩
      · have he : Hid (a = b) := by
          show a = b
          have := hE.out
          rwa [List.take_of_length_le (by omega), List.take_of_length_le (by omega)] at this
        clear hzi
        go_wp2
        go_ret
        exact ⟨by rw [decide_eq_true he.out]; rfl, hB.out⟩
  · have hzi : ((a.length : Int) != (b.length : Int)) = true := by simp; omega
    have he : Hid (a ≠ b) := fun e => hz (by rw [e])
    clear hz
    go_enter Tryd.func15, Tryd.ntmps15
    go_wp2
    go_ret
    exact ⟨by rw [decide_eq_false he.out]; rfl, Below.refl _ _⟩
set_option maxHeartbeats 1000000 in
theorem has17 {u : Value} {a : List Int} {x : Int} {w : World} (h : Rd u a w) (ha : a.length ≤ 1000) :
    Calls Tryd.prog 17 #[u, .int .i64 x] w fun e w' => e = .returned (.bool (decide (x ∈ a))) ∧ w' = w := by
  obtain ⟨ao, cp, rfl, h2, h3⟩ := h
  have H3 : Hid _ := h3
  clear h3 h2
  go_enter Tryd.func17, Tryd.ntmps17
  go_wp2_with fail
  go_loop [9] (fun y => ∃ (i : Nat), y = .int .i64 (i : Nat) ∧ i ≤ a.length ∧ Hid (x ∉ a.take i)) (fun y => a.length - (intOf y).toNat)
  case atStart => exact ⟨0, rfl, Nat.zero_le _, by simp [Hid]⟩
  case round =>
    obtain ⟨i, rfl, hi, hE⟩ := hrel
    by_cases hlt : i < a.length
    · obtain ⟨ba, oa, rfl, h4, h5⟩ := H3.out (by omega)
      have c1 : w.cell? ⟨ba, oa + i, none⟩ = some (.int .i64 (a.getD i 0)) := h5 i hlt
      have ea : a.getD i 0 = a[i] := by simp [List.getD, hlt]
      have HM : Hid (a[i] ∈ a) := List.getElem_mem hlt
      have HT : Hid (a.take (i + 1) = a.take i ++ [a[i]]) := List.take_succ_eq_append_getElem hlt
      rw [← ea] at HM HT
      clear h5 ea
      by_cases hxy : x = a.getD i 0
      · have hb : (x == a.getD i 0) = true := by rw [← hxy]; simp
        have HR : Hid (x ∈ a) := by
          have := HM.out
          rw [← hxy] at this
          exact this
        clear hxy
        generalize a.getD i 0 = y at *
        go_wp2
        go_ret
        exact ⟨by rw [decide_eq_true HR.out]; rfl, rfl⟩
      · have hb : (x == a.getD i 0) = false := by simpa using hxy
        have HR : Hid (x ∉ a.take (i + 1)) := by
          show ¬ _
          rw [HT.out]
          intro hm
          rcases List.mem_append.1 hm with hm | hm
          · exact hE.out hm
          · exact hxy (List.mem_singleton.1 hm)
        clear hxy HM HT
        generalize a.getD i 0 = y at *
        go_wp2
        go_round
        case rel => exact ⟨i + 1, by go_num, by omega, HR.out⟩
        case measure => simp only [intOf]; omega
    · have he : Hid (x ∉ a) := by
        have := hE.out
        rwa [List.take_of_length_le (by omega)] at this
      go_wp2
      go_ret
      exact ⟨by rw [decide_eq_false he.out]; rfl, rfl⟩
end Go.Proofs.YtbbapaphfijpcaaDoor
