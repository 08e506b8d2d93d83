/- Add to a pool of many devices; the law FlashFull as a call. -/
import Derived.Test.YtiohkdpmgkobiaaY2
namespace Go.Proofs.Ytiohkdpmgkobiaa
open Go.RowKit
/-- A pool of n devices, of the serials 1 to n. -/
structure Many (b0 : Nat) (w0 : World) (P n : Nat) (v : Value) (ds : List Nat) (w : World) : Prop where
  below : Below b0 w0 w
  bP : b0 ≤ P
  pool : w.heap[P]? = some (.cells #[v, .bool false, .int .i64 0, .bool false, .int .i64 0] 95)
  own : w.ownsRow b0 98 1 v n (ds.map fun d => .pointer (some ⟨d, 0, none⟩))
  len : ds.length = n
  dev : ∀ (j : Nat) (d : Nat), ds[j]? = some d → b0 ≤ d ∧ ∃ c, w.heap[d]? = some (.cells c 102) ∧ c[0]? = some (.int .i64 ((j : Int) + 1))
section
variable {b0 : Nat} {w0 : World} {P n : Nat} {v : Value} {ds : List Nat} {w : World}
theorem Many.place (h : Many b0 w0 P n v ds w) (hn : n ≤ 1000) (t : Int) (i : Nat) (hi : i ≤ n) (h1 : ∀ j, j < i → (j : Int) + 1 < t) (h2 : ∀ j, i ≤ j → j < n → t ≤ (j : Int) + 1) :
    Calls Try.prog 63 #[.pointer (some ⟨P, 0, none⟩), .int .i64 t] w fun e w' => e = .returned (.tuple #[.int .i64 (i : Nat), .bool (decide (i < n ∧ (i : Int) + 1 = t))]) ∧ w' = w := by
  have c0 : w.cell? ⟨P, 0, none⟩ = some v := cell_of h.pool 0
  rcases h.own.2 with ⟨rfl, h0⟩ | ⟨g, cap, cur, rfl, hb, hg, hnc, hm, hsz, htk⟩
  · obtain rfl : i = 0 := by omega
    rw [decide_eq_false (by omega)]
    exact place_nil P t w c0
  · have hget : ∀ j, j < n → ∃ d, ds[j]? = some d := fun j hj => ⟨_, List.getElem?_eq_getElem (by rw [h.len]; exact hj)⟩
    refine place_any P g cap n (fun j => ds.getD j 0) (fun j => (j : Int) + 1) t i hi hn w c0 (fun j hj => ?_) (fun j hj => ?_) h1 h2
    · obtain ⟨d, hd⟩ := hget j hj
      have e : (cur.toList.take (n * 1))[j]? = some (.pointer (some ⟨d, 0, none⟩)) := by rw [htk, List.getElem?_map, hd]; rfl
      rw [List.getElem?_take, if_pos (by omega), Array.getElem?_toList] at e
      rw [cell_of hg, e]
      simp [List.getD, hd]
    · obtain ⟨d, hd⟩ := hget j hj
      obtain ⟨_, c, hc, hc0⟩ := h.dev j d hd
      have e : ds.getD j 0 = d := by simp [List.getD, hd]
      show w.cell? ⟨ds.getD j 0, 0, none⟩ = _
      rw [e, cell_of hc]; exact hc0
theorem add_arg (P : Nat) (a b : Int) (w : World) (h : a < 1 ∨ 1000 < a ∨ b < 1 ∨ 4096 < b) : Calls Try.prog 14 #[.pointer (some ⟨P, 0, none⟩), .int .i64 a, .int .i64 b] w fun e w' => e = .returned (.int .i64 1) ∧ w' = w := by
  by_cases h1 : a < 1
  · go_enter Try.func14, Try.ntmps14
    go_wp2
    go_returns
    exact ⟨rfl, rfl⟩
  · by_cases h2 : 1000 < a
    · go_enter Try.func14, Try.ntmps14
      go_wp2
      go_returns
      exact ⟨rfl, rfl⟩
    · by_cases h3 : b < 1
      · go_enter Try.func14, Try.ntmps14
        go_wp2
        go_returns
        exact ⟨rfl, rfl⟩
      · have h4 : 4096 < b := by omega
        clear h
        go_enter Try.func14, Try.ntmps14
        go_wp2
        go_returns
        exact ⟨rfl, rfl⟩
theorem Many.there (h : Many b0 w0 P n v ds w) (hn : n ≤ 1000) (h1 : 1 ≤ n) : Calls Try.prog 14 #[.pointer (some ⟨P, 0, none⟩), .int .i64 1, .int .i64 1] w fun e w' => e = .returned (.int .i64 11) ∧ w' = w := by
  have hp := h.place hn 1 0 (by omega) (fun j hj => by omega) (fun j _ _ => by omega)
  rw [decide_eq_true (by omega)] at hp
  clear h
  go_enter Try.func14, Try.ntmps14
  go_wp2_with fail
  go_call hp as e w1 ⟨rfl, rfl⟩
  go_wp2
  go_returns
  exact ⟨rfl, rfl⟩
set_option maxRecDepth 100000 in
theorem Many.full (h : Many b0 w0 P 17 v ds w) (k : Nat) (hk : 17 ≤ k) (hk2 : k ≤ 100) : Calls Try.prog 14 #[.pointer (some ⟨P, 0, none⟩), .int .i64 ((k : Int) + 1), .int .i64 1] w fun e w' => e = .returned (.int .i64 12) ∧ w' = w := by
  have hp := h.place (by omega) ((k : Int) + 1) 17 (by omega) (fun j hj => by omega) (fun j h1 h2 => by omega)
  rw [decide_eq_false (by omega)] at hp
  have c0 : w.cell? ⟨P, 0, none⟩ = some v := cell_of h.pool 0
  obtain ⟨ao, cap, rfl⟩ : ∃ ao cap, v = .slice ao 17 cap := by
    rcases h.own.2 with ⟨_, h0⟩ | ⟨g, cap, _, h1, _⟩
    · omega
    · exact ⟨_, cap, h1⟩
  clear h
  go_enter Try.func14, Try.ntmps14
  go_wp2_with fail
  go_call hp as e w1 ⟨rfl, rfl⟩
  go_wp2
  go_returns
  exact ⟨rfl, rfl⟩
set_option maxHeartbeats 1000000 in
set_option maxRecDepth 100000 in
theorem Many.more (h : Many b0 w0 P n v ds w) (hn : n ≤ 16) :
    Calls Try.prog 14 #[.pointer (some ⟨P, 0, none⟩), .int .i64 ((n : Int) + 1), .int .i64 1] w fun e w' => e = .returned (.int .i64 0) ∧ ∃ v' ds', Many b0 w0 P (n + 1) v' ds' w' := by
  have hPs := getElem?_lt h.pool
  have hbP := h.bP
  have c0 : w.cell? ⟨P, 0, none⟩ = some v := cell_of h.pool 0
  have hpl := h.place (by omega) ((n : Int) + 1) n (Nat.le_refl _) (fun j hj => by omega) (fun j h1 h2 => by omega)
  rw [decide_eq_false (by omega)] at hpl
  have hmk : ∀ w : World, (Instr.makeSlice 99 (.int .i64 1) (.int .i64 1)).run Try.prog w = .ok (.slice (some ⟨w.heap.size, 0, none⟩) 1 1) (w.alloc (.cells (secs0 1) 147)) := fun w => mk_secs 1 (by decide) w
  have hbs : b0 ≤ w.heap.size := Nat.le_trans hbP (Nat.le_of_lt hPs)
  obtain ⟨ao, cap, hv, hcap⟩ : ∃ ao cap, v = .slice ao n cap ∧ cap ≤ maxLen := by
    rcases h.own.2 with ⟨h1, h0⟩ | ⟨g, cap, _, h1, _, _, _, h2, _⟩
    · exact ⟨none, 0, by rw [h1, h0], by unfold maxLen; omega⟩
    · exact ⟨_, cap, h1, h2⟩
  obtain ⟨w1, hw1⟩ : ∃ w1, w1 = w.alloc (.cells (secs0 1) 147) := ⟨_, rfl⟩
  obtain ⟨w2, hw2⟩ : ∃ w2, w2 = w1.alloc (.cells #[.int .i64 ((n : Int) + 1), .int .i64 1, .bool true, .slice (some ⟨w.heap.size, 0, none⟩) 1 1, .slice none 0 0, .bool false, .int .i64 0, .bool false] 102) := ⟨_, rfl⟩
  obtain ⟨w3, hw3⟩ : ∃ w3, w3 = w2.alloc (.cells #[.pointer (some ⟨w.heap.size + 1, 0, none⟩)] 98) := ⟨_, rfl⟩
  have s1 : w1.heap.size = w.heap.size + 1 := by rw [hw1]; simp
  have s2 : w2.heap.size = w.heap.size + 2 := by rw [hw2]; simp [s1]
  have s3 : w3.heap.size = w.heap.size + 3 := by rw [hw3]; simp [s2]
  have hvb : w3.cell? ⟨w.heap.size + 2, 0, none⟩ = some (.pointer (some ⟨w.heap.size + 1, 0, none⟩)) := by
    have := heap_new w2 (.cells #[.pointer (some ⟨w.heap.size + 1, 0, none⟩)] 98)
    rw [s2, ← hw3] at this
    rw [cell_of this 0]; rfl
  have b3 : Below w.heap.size w w3 := by
    rw [hw3, hw2, hw1]
    exact ((Below.alloc (Below.refl _ _) (Nat.le_refl _) _).alloc (by simp) _).alloc (by simp; omega) _
  have hD : w3.heap[w.heap.size + 1]? = some (.cells #[.int .i64 ((n : Int) + 1), .int .i64 1, .bool true, .slice (some ⟨w.heap.size, 0, none⟩) 1 1, .slice none 0 0, .bool false, .int .i64 0, .bool false] 102) := by
    rw [hw3, Below.heap_alloc _ _ _ (by omega), hw2, ← s1]; exact heap_new _ _
  have own3 : w3.ownsRow b0 98 1 v n (ds.map fun d => .pointer (some ⟨d, 0, none⟩)) := by
    refine ⟨h.own.1, ?_⟩
    rcases h.own.2 with h1 | ⟨g, cap, cur, e, h2, h3, h4⟩
    · exact Or.inl h1
    · exact Or.inr ⟨g, cap, cur, e, h2, (b3.block _ (getElem?_lt h3)).trans h3, h4⟩
  have hins := insert_end b0 w3 v n _ own3 (by omega) (w.heap.size + 2) (some ⟨w.heap.size + 1, 0, none⟩) hvb (by omega)
  have HX : Hid (Below w.heap.size w w3 ∧ w3.heap[w.heap.size + 1]? = some (.cells #[.int .i64 ((n : Int) + 1), .int .i64 1, .bool true, .slice (some ⟨w.heap.size, 0, none⟩) 1 1, .slice none 0 0, .bool false, .int .i64 0, .bool false] 102) ∧ w3.heap.size = w.heap.size + 3) := ⟨b3, hD, s3⟩
  have c2 : w2.cell? ⟨P, 0, none⟩ = some v := by
    rw [hw2, World.cell?_alloc_past _ _ _ (by show P < _; omega), hw1, World.cell?_alloc_past _ _ _ (by show P < _; omega)]; exact c0
  have HM : Hid (Many b0 w0 P n v ds w) := h
  clear hD b3 hvb own3 h
  subst hv
  go_enter Try.func14, Try.ntmps14
  go_wp2_with fail
  go_call hpl as e w' ⟨rfl, rfl⟩
  go_wp2_with fail
  subst hw3 hw2 hw1
  go_call hins as e w4 ⟨v', rfl, hown, hgr⟩
  clear hins hmk hpl c2
  have hm := HM.out
  obtain ⟨x2, x4, x5⟩ := HX.out
  have tne : ∀ {k : Nat} {c : Array Value} {t : TypeId}, w'.heap[k]? = some (.cells c t) → t ≠ 98 → (Value.slice ao n cap).ownBlock ≠ some k := by
    intro k c t hk ht e
    rcases hm.own.2 with ⟨h1, _⟩ | ⟨g, cap', cur, h1, _, h3, _⟩
    · rw [h1] at e; cases e
    · rw [h1] at e
      injection e with e
      have e' : g = k := e
      rw [e', hk] at h3
      injection h3 with h3
      injection h3 with _ h3 _
      exact ht h3
  have hbl : ∀ {k : Nat} {c : Array Value} {t : TypeId}, w'.heap[k]? = some (.cells c t) → t ≠ 98 → w4.heap[k]? = some (.cells c t) := by
    intro k c t hk ht
    have hks := getElem?_lt hk
    rw [hgr.block k (by omega) (fun e => tne hk ht e.symm), x2.block k hks]; exact hk
  have hP4 : w4.heap[P]? = some (.cells #[.slice ao n cap, .bool false, .int .i64 0, .bool false, .int .i64 0] 95) := hbl hm.pool (by decide)
  have hD4 : w4.heap[w'.heap.size + 1]? = some (.cells #[.int .i64 ((n : Int) + 1), .int .i64 1, .bool true, .slice (some ⟨w'.heap.size, 0, none⟩) 1 1, .slice none 0 0, .bool false, .int .i64 0, .bool false] 102) := by
    rw [hgr.block _ (by omega) ?_]
    · exact x4
    · intro e
      rcases hm.own.2 with ⟨h1, _⟩ | ⟨g, cap', cur, h1, _, h3, _⟩
      · rw [h1] at e; cases e
      · rw [h1] at e
        injection e with e
        have e' : w'.heap.size + 1 = g := e
        have := getElem?_lt h3
        omega
  have cP : w4.cell? ⟨P, 0, none⟩ = some (.slice ao n cap) := cell_of hP4 0
  have fP : w4.frozen? ⟨P, 0, none⟩ = false := frz_of hP4 0
  obtain ⟨g, cp, hv'⟩ : ∃ g cp, v' = .slice (some ⟨g, 0, none⟩) (n + 1) cp := by
    rcases hown.2 with ⟨_, h⟩ | ⟨g, cp, _, h1, _⟩
    · omega
    · exact ⟨g, cp, h1⟩
  have hfin : Many b0 w0 P (n + 1) v' (ds ++ [w'.heap.size + 1]) (w4.setCell ⟨P, 0, none⟩ v') := by
    have hoth : ∀ k, k ≠ P → (w4.setCell ⟨P, 0, none⟩ v').heap[k]? = w4.heap[k]? := fun k hk => Below.heap_setCell _ _ _ _ (by exact hk)
    have pne : ∀ {k : Nat} {c : Array Value} {t : TypeId}, w4.heap[k]? = some (.cells c t) → t ≠ 95 → k ≠ P := by
      intro k c t hk ht e
      rw [e, hP4] at hk
      injection hk with hk
      injection hk with _ hk _
      exact ht hk.symm
    refine ⟨?_, hbP, ?_, ?_, by rw [List.length_append, hm.len]; rfl, ?_⟩
    · have hbb := hm.below
      refine ⟨hgr.os.trans (x2.os.trans hbb.os), hgr.tape.trans (x2.tape.trans hbb.tape), hgr.output.trans (x2.output.trans hbb.output), ?_, fun k hk => ?_⟩
      · have := hgr.size; have := hbb.size; simp [World.setCell]; omega
      · rw [hoth k (by omega), hgr.block k (by omega) ?_, x2.block k (by omega)]
        · exact hbb.block k hk
        · intro e
          rcases hm.own.2 with ⟨h1, _⟩ | ⟨g, cap', cur, h1, h2, h3, _⟩
          · rw [h1] at e; cases e
          · rw [h1] at e
            injection e with e
            have e' : k = g := e
            omega
    · rw [block_set hP4]; rfl
    · rw [List.map_append]
      refine ⟨hown.1, ?_⟩
      rcases hown.2 with h1 | ⟨g, cap', cur, e, h2, h3, h4⟩
      · exact Or.inl h1
      · exact Or.inr ⟨g, cap', cur, e, h2, by rw [hoth g (pne h3 (by decide))]; exact h3, h4⟩
    · intro j d hd
      rcases Nat.lt_or_ge j ds.length with hj | hj
      · rw [List.getElem?_append_left hj] at hd
        obtain ⟨q1, c, q2, q3⟩ := hm.dev j d hd
        have q4 := hbl q2 (by decide)
        exact ⟨q1, c, by rw [hoth d (pne q4 (by decide))]; exact q4, q3⟩
      · rw [List.getElem?_append_right hj] at hd
        have hj2 : j - ds.length = 0 := by
          rcases Nat.eq_zero_or_pos (j - ds.length) with h | h
          · exact h
          · rw [List.getElem?_eq_none (by simp; omega)] at hd; cases hd
        rw [hj2] at hd
        have hd2 : w'.heap.size + 1 = d := by simpa using hd
        subst hd2
        have hjn : j = n := by have := hm.len; omega
        subst hjn
        refine ⟨by omega, _, by rw [hoth _ (pne hD4 (by decide))]; exact hD4, rfl⟩
  have HF : Hid _ := hfin
  clear hfin hbl tne hown hgr x2 x4 x5 HX hm HM hP4 hD4
  subst hv'
  go_wp2
  go_returns
  exact ⟨rfl, _, _, HF.out⟩
end
set_option maxHeartbeats 1000000 in
theorem full_walk (x : Int) (w : World) : Calls Try.prog 4 #[.int .i64 x] w fun e w' => e = .returned (.bool true) ∧ Below w.heap.size w w' := by
  obtain ⟨n, hnE⟩ : ∃ n : Nat, n = (max 0 (min x 20)).toNat := ⟨_, rfl⟩
  have hn : n ≤ 20 := by omega
  have hnx : max 0 (min x 20) = (n : Int) := by omega
  clear hnE
  go_enter Try.func4, Try.ntmps4
  go_wp2_with fail
  go_call (awake5 w) as e w1 ⟨rfl, b1⟩
  have H0 : Hid (∃ v ds, Many w.heap.size w w1.heap.size 0 v ds (w1.alloc (.cells #[.slice none 0 0, .bool false, .int .i64 0, .bool false, .int .i64 0] 95))) :=
    ⟨.slice none 0 0, [], ⟨Below.alloc b1 b1.size _, b1.size, heap_new _ _, World.ownsRow_nil _ _ _ _, rfl, fun j d e => by cases e⟩⟩
  clear b1
  generalize hT : w.heap.size = T at *
  generalize hP : w1.heap.size = P at *
  go_wp2_with fail
  go_call (new_any w1) as e w2 ⟨rfl, hw2⟩
  rw [← hw2] at H0
  rw [hP]
  clear hw2
  go_wp2
  go_loopw [13] (fun i wr => ∃ k : Nat, k ≤ n ∧ i = .int .i64 (k : Nat) ∧ Hid (∃ v ds, Many T w P (min k 17) v ds wr)) (fun i _ => n - (intOf i).toNat)
  case atStart => exact ⟨0, by omega, rfl, H0⟩
  case round =>
    obtain ⟨k, hk, rfl, hM⟩ := hrel
    clear H0
    rcases Nat.lt_or_ge k n with hlt | hge
    · rcases Nat.lt_or_ge k 17 with h17 | h17
      · have hadd : Calls Try.prog 14 #[.pointer (some ⟨P, 0, none⟩), .int .i64 ((k : Int) + 1), .int .i64 1] wr fun e w' => e = .returned (.int .i64 0) ∧ ∃ v' ds', Many T w P (min (k + 1) 17) v' ds' w' := by
          obtain ⟨v, ds, h⟩ := hM.out
          rw [Nat.min_eq_left (by omega)] at h
          rw [Nat.min_eq_left (by omega)]
          exact h.more (by omega)
        clear hM
        go_wp2_with fail
        go_call hadd as e w3 ⟨rfl, h3⟩
        have H3 : Hid _ := h3
        clear hadd h3
        go_wp2
        go_roundw
        case rel => exact ⟨k + 1, by omega, by simp, H3⟩
        case measure => simp only [intOf]; omega
      · have hadd : Calls Try.prog 14 #[.pointer (some ⟨P, 0, none⟩), .int .i64 ((k : Int) + 1), .int .i64 1] wr fun e w' => e = .returned (.int .i64 12) ∧ w' = wr := by
          obtain ⟨v, ds, h⟩ := hM.out
          rw [Nat.min_eq_right (by omega)] at h
          exact h.full k h17 (by omega)
        have H3 : Hid (∃ v ds, Many T w P (min (k + 1) 17) v ds wr) := by
          have := hM.out
          rw [Nat.min_eq_right (by omega)] at this
          show ∃ v ds, Many T w P (min (k + 1) 17) v ds wr
          rw [Nat.min_eq_right (by omega)]; exact this
        clear hM
        go_wp2_with fail
        go_call hadd as e w3 ⟨rfl, rfl⟩
        go_wp2
        go_roundw
        case rel => exact ⟨k + 1, by omega, by simp, H3⟩
        case measure => simp only [intOf]; omega
    · obtain rfl : k = n := by omega
      have hb : Hid (Below T w wr) := by obtain ⟨v, ds, h⟩ := hM.out; exact h.below
      rcases Nat.eq_zero_or_pos k with rfl | hpos
      · clear hM
        go_wp2_with fail
        go_call (add_arg P 1001 1 wr (by decide)) as e w3 ⟨rfl, rfl⟩
        go_wp2_with fail
        go_call (add_arg P 0 1 w3 (by decide)) as e w4 ⟨rfl, rfl⟩
        go_wp2_with fail
        go_call (add_arg P 30 4097 w4 (by decide)) as e w5 ⟨rfl, rfl⟩
        go_wp2
        go_returns
        exact ⟨rfl, by rw [hT]; exact hb.out⟩
      · have hth : Calls Try.prog 14 #[.pointer (some ⟨P, 0, none⟩), .int .i64 1, .int .i64 1] wr fun e w' => e = .returned (.int .i64 11) ∧ w' = wr := by
          obtain ⟨v, ds, h⟩ := hM.out
          exact h.there (by omega) (by omega)
        have hk0 : ¬ (k : Int) = 0 := by omega
        clear hM
        go_wp2_with fail
        go_call (add_arg P 1001 1 wr (by decide)) as e w3 ⟨rfl, rfl⟩
        go_wp2_with fail
        go_call (add_arg P 0 1 w3 (by decide)) as e w4 ⟨rfl, rfl⟩
        go_wp2_with fail
        go_call (add_arg P 30 4097 w4 (by decide)) as e w5 ⟨rfl, rfl⟩
        go_wp2_with fail
        go_call hth as e w6 ⟨rfl, rfl⟩
        go_wp2
        go_returns
        exact ⟨rfl, by rw [hT]; exact hb.out⟩
end Go.Proofs.Ytiohkdpmgkobiaa
