/- The law MediumBreaks as a call. -/
import Derived.Test.YtiohkdpmgkobiaaV1
namespace Go.Proofs.Ytiohkdpmgkobiaa
open Go.RowKit
theorem cut_size (s : ByteArray) (n : Nat) : (s.extract 0 n).size ≤ n := by rw [ByteArray.size_extract]; omega
/-- The state behind Arm. -/
theorem brk_start (a : Nat) (d : Bool) : BrkInv a d 0 { st0 7 8 with aw := true, al := (a : Int), ad := d } :=
  ⟨rfl, rfl, rfl, rfl, rfl, rfl, fun _ => ⟨⟨(st0_ok 7 8).size, (st0_ok 7 8).bytes⟩, ⟨rfl, Nat.zero_le _, fun j hj => absurd hj (Nat.not_lt_zero _)⟩, rfl, rfl, rfl, rfl, rfl⟩, fun h => by omega⟩
theorem inner_guard (T : Nat) (w w9 : World) (N : Nat) (hTN : T ≤ N) (h9 : w9.heap[N]? = some (.cells #[.bool false] 4)) (b9 : Below T w w9) :
    Calls Try.prog 29 #[.func (.func 37) #[] #[.pointer (some ⟨N, 0, none⟩)]] w9 fun e w' => e = .returned (.tuple #[.agg #[.int .i64 0, .int .i64 0], .bool false]) ∧ w'.cell? ⟨N, 0, none⟩ = some (.bool true) ∧ Below T w w' := by
  have bG : Below w9.heap.size w9 (G0 w9) := (Below.alloc (Below.refl _ _) (Nat.le_refl _) _).alloc (by simp) _
  have hN := getElem?_lt h9
  have e1 : (G0 w9).heap[w9.heap.size + 1]? = some iob := by
    have := heap_new (w9.alloc bob) iob
    rw [show (w9.alloc bob).heap.size = w9.heap.size + 1 by simp] at this
    exact this
  have e0 : (G0 w9).heap[w9.heap.size]? = some bob := by
    show ((w9.alloc bob).alloc iob).heap[w9.heap.size]? = _
    rw [Below.heap_alloc _ _ _ (by simp)]; exact heap_new _ _
  refine (guard_ok 37 _ (fun W => W.heap[N]? = some (.cells #[.bool true] 4) ∧ Below T w W ∧ w9.heap.size ≤ W.heap.size) w9 ent37 ((do37 N (G0 w9) ((bG.block N hN).trans h9)).mono ?_)).mono ?_
  · rintro e W ⟨rfl, q1, q2, q3, q4, q5, q6⟩
    have hsz := bG.size
    refine ⟨rfl, ?_, ?_, q1, ?_, by omega⟩
    · rw [q6 _ (getElem?_lt e0) (by omega)]; exact e0
    · rw [q6 _ (getElem?_lt e1) (by omega)]; exact e1
    · exact b9.trans ⟨q2.trans bG.os, q3.trans bG.tape, q4.trans bG.output, by omega, fun k hk => by
        have hk9 : k < w9.heap.size := by omega
        rw [q6 k (by omega) (by omega)]; exact bG.block k hk9⟩
  · rintro e w' ⟨rfl, W, ⟨q1, q2, hsW⟩, hk⟩
    have hNW := getElem?_lt q1
    have hTw : T ≤ w9.heap.size := by omega
    refine ⟨rfl, cell_of ((hk.block N hNW (by omega) (by omega)).trans q1) 0, q2.trans ⟨hk.os, hk.tape, hk.output, hk.size, fun k hk2 => hk.block k (by omega) (by omega) (by omega)⟩⟩
set_option maxHeartbeats 2000000 in
theorem breaks_walk (s : ByteArray) (x : Int) (d : Bool) (w : World) :
    Calls Try.prog 7 #[.string s, .int .i64 x, .bool d] w fun e w' => e = .returned (.bool true) ∧ Below w.heap.size w w' := by
  have hmf : ∀ (fn : Fn) (first cap : Array Value) (w : World), (Instr.makeFunc fn first cap).run Try.prog w = .ok (.func fn first cap) w := fun _ _ _ _ => rfl
  obtain ⟨c, hc⟩ : ∃ c, c = s.extract 0 500 := ⟨_, rfl⟩
  have hcs : c.size ≤ 500 := by rw [hc]; exact cut_size _ _
  obtain ⟨a, haE⟩ : ∃ a : Nat, a = (max 0 (min x 10)).toNat := ⟨_, rfl⟩
  have ha : a ≤ 10 := by omega
  have hax : max 0 (min x 10) = (a : Int) := by omega
  clear haE
  go_enter Try.func7, Try.ntmps7
  go_wp2_with fail
  go_call (awake6 _) as e w1 ⟨rfl, hb1⟩
  have h1 : w1.heap[w.heap.size]? = some (.cells #[.string s] 9) := by
    rw [hb1.block _ (by simp)]; exact heap_new _ _
  have b1 : Below w.heap.size w w1 := (Below.alloc (Below.refl _ _) (Nat.le_refl _) _).trans (hb1.mono (by simp))
  clear hb1
  have hmd := made_any w.heap.size w w1 [(w.heap.size, .cells #[.string s] 9)] b1 b1.size (fun p hp => by
    rcases List.mem_cons.1 hp with rfl | hp
    · exact ⟨h1, apart_of (by decide), Nat.le_refl _⟩
    · cases hp) 7 (by decide) (by decide) 8 (by decide) (by decide)
  clear h1 b1
  generalize hT : w.heap.size = T at *
  go_wp2_with fail
  go_call hmd as e w2 ⟨L, M, rfl, o2⟩
  clear hmd
  have o3 := o2.alloc (.cells #[.pointer (some ⟨M, 0, none⟩)] 53) (apart_of (by decide))
  have c3 : (w2.alloc (.cells #[.pointer (some ⟨M, 0, none⟩)] 53)).cell? ⟨w2.heap.size, 0, none⟩ = some (.pointer (some ⟨M, 0, none⟩)) := by rw [cell_of (heap_new _ _) 0]; rfl
  have t3 : (w2.alloc (.cells #[.pointer (some ⟨M, 0, none⟩)] 53)).cell? ⟨T, 0, none⟩ = some (.string s) := cell_of (o3.oth (T, .cells #[.string s] 9) (by simp)).1 0
  have ft3 : (w2.alloc (.cells #[.pointer (some ⟨M, 0, none⟩)] 53)).frozen? ⟨T, 0, none⟩ = false := frz_of (o3.oth (T, .cells #[.string s] 9) (by simp)).1 0
  -- the text is cut
  have o3' : One T w L (st0 7 8) (.slice none 0 0) ((T, .cells #[.string s] 9) :: [(w2.heap.size, .cells #[.pointer (some ⟨M, 0, none⟩)] 53), (M, med L.P 7 1)]) (w2.alloc (.cells #[.pointer (some ⟨M, 0, none⟩)] 53)) := o3.forget (fun p hp => by simp at hp ⊢; rcases hp with h | h | h <;> simp [h])
  have hneT : ∀ p ∈ ([(w2.heap.size, .cells #[.pointer (some ⟨M, 0, none⟩)] 53), (M, med L.P 7 1)] : List (Nat × Obj)), p.1 ≠ T := by
    intro p hp e
    have hp1 := (o3'.oth p (List.mem_cons_of_mem _ hp)).1
    have hp2 := (o3'.oth _ (List.mem_cons_self ..)).1
    rw [e] at hp1
    rw [hp1] at hp2
    injection hp2 with hp2
    rcases List.mem_cons.1 hp with rfl | hp
    · injection hp2 with _ t _; exact absurd t (by decide)
    · rcases List.mem_cons.1 hp with rfl | hp
      · unfold med at hp2; injection hp2 with _ t _; exact absurd t (by decide)
      · cases hp
  have o4 := o3'.setOther (v := .string c) hneT (by decide)
  have O4 : Hid _ := o4
  clear o2 o3 o3' o4 hneT
  go_wp2_with fail
  go_call (cut_any s 500 (by decide) _) as e w3 ⟨rfl, hw3⟩
  rw [← hc]
  have o5 := O4.out
  rw [← hw3] at t3 ft3 c3 o5
  clear hw3 hc O4
  have t5 : (w3.setCell ⟨T, 0, none⟩ (.string c)).cell? ⟨T, 0, none⟩ = some (.string c) := cell_of (o5.oth _ (List.mem_cons_self ..)).1 0
  have hpn : ((c.size : Int) + 63) / 64 = ((parts c : Nat) : Int) := by unfold parts; omega
  have hp8 : parts c ≤ 8 := by unfold parts; omega
  have harm := o5.arm (a : Int) (by omega) d
  replace harm : Calls Try.prog 35 #[.pointer (some ⟨L.P, 0, none⟩), .int .i64 7, .int .i64 (a : Int), .bool d] (w3.setCell ⟨T, 0, none⟩ (.string c)) fun e w' => e = .returned (.int .i64 0) ∧ One T w L { st0 7 8 with aw := true, al := (a : Int), ad := d } (.slice none 0 0) ((T, .cells #[.string c] 9) :: [(w2.heap.size, .cells #[.pointer (some ⟨M, 0, none⟩)] 53), (M, med L.P 7 1)]) w' := harm
  clear o5
  generalize hn : parts c = n at *
  go_wp2_with fail
  go_call harm as e w4 ⟨rfl, o6⟩
  clear harm
  have o7 := o6.alloc (.cells #[.bool false] 4) (apart_of (by decide))
  have hlt4 := o6.lts
  clear o6 t3 ft3 c3 t5
  have hs5 : (w4.alloc (.cells #[.bool false] 4)).heap.size = w4.heap.size + 1 := by simp
  generalize hOT : ((w4.heap.size, Obj.cells #[.bool false] 4) :: (T, Obj.cells #[.string c] 9) :: [(w2.heap.size, Obj.cells #[.pointer (some ⟨M, 0, none⟩)] 53), (M, med L.P 7 1)] : List (Nat × Obj)) = OT at o7
  have hlt5 : ∀ p ∈ OT, p.1 < (w4.alloc (.cells #[.bool false] 4)).heap.size := o7.lts
  have mM : (M, med L.P 7 1) ∈ OT := by rw [← hOT]; simp
  have mC : (w2.heap.size, Obj.cells #[.pointer (some ⟨M, 0, none⟩)] 53) ∈ OT := by rw [← hOT]; simp
  have mT : (T, Obj.cells #[.string c] 9) ∈ OT := by rw [← hOT]; simp
  have mR : (w4.heap.size, Obj.cells #[.bool false] 4) ∈ OT := by rw [← hOT]; simp
  have g7 := o7.guarded
  clear o7
  go_wp2_with fail
  generalize hw5 : w4.alloc (.cells #[.bool false] 4) = w5 at *
  rcases Nat.lt_or_ge a n with hlt | hge
  · have hdo : Calls Try.prog 36 #[.pointer (some ⟨w2.heap.size, 0, none⟩), .pointer (some ⟨T, 0, none⟩), .pointer (some ⟨w4.heap.size, 0, none⟩)] (G0 w5) fun e W => e = .panicked [fl 7 7] ∧ W.heap[w5.heap.size]? = some bob ∧ W.heap[w5.heap.size + 1]? = some iob ∧ (∃ st lv, One T w L st lv (gob w5.heap.size OT) W ∧ BrkInv a d (a + 1) st) := by
      refine (brk_do_fail T w L (gob w5.heap.size OT) M w2.heap.size T w4.heap.size (by simp [gob, mM]) c hcs (by simp [gob, mC]) (by simp [gob, mT]) a ha d (G0 w5) ⟨_, _, g7, brk_start a d⟩ (by rw [hn]; exact hlt)).mono ?_
      rintro e W ⟨rfl, st, lv, oW, iW⟩
      exact ⟨rfl, (oW.oth (w5.heap.size, bob) (by simp [gob])).1, (oW.oth (w5.heap.size + 1, iob) (by simp [gob])).1, st, lv, oW, iW⟩
    have hgd := guard_fail 36 _ 7 7 _ w5 ent36 hdo
    clear hdo g7
    go_call hgd as e w6 ⟨rfl, W, ⟨st, lv, oW, iW⟩, hk⟩
    clear hgd
    have o8 := oW.kt hlt5 hk
    have hsr := iW.serial
    have hln := iW.over rfl
    clear oW hk iW
    have r6 : ∀ o, (w6.alloc o).cell? ⟨w4.heap.size, 0, none⟩ = some (.bool false) := fun o => cell_of ((o8.laid o).oth _ mR).1 0
    have hlo : ∀ o, Calls Try.prog 21 #[.pointer (some ⟨L.P, 0, none⟩), .int .i64 7] (w6.alloc o) fun e w' => e = .returned (.int .i64 (st.ln : Nat)) ∧ w' = w6.alloc o := fun o => by
      have := (o8.laid o).loose_any
      rw [hsr] at this
      exact this
    have HB : Hid (∀ o, Below T w (w6.alloc o)) := fun o => (o8.laid o).below
    have HS6 : Hid (T ≤ w6.heap.size) := by have := getElem?_lt o8.pool; have := o8.bP; show T ≤ _; omega
    clear o8 hlt5 mM mC mT mR hOT hw5 hs5 hlt4
    have hlt2 : (a : Int) < (n : Int) := by omega
    cases d with
    | true =>
      rw [if_pos rfl] at hln
      rw [hln] at hlo
      go_wp2_with fail
      go_call (hlo _) as e w8 ⟨rfl, hw8⟩
      have HB8 : Hid (Below T w w8) := by rw [hw8]; exact HB.out _
      have HS8 : Hid (T ≤ w8.heap.size) := by have := HS6.out; show T ≤ _; rw [hw8]; simp; omega
      clear hlo hw8 HB HS6 r6
      have h9 : (w8.alloc (.cells #[.bool false] 4)).heap[w8.heap.size]? = some (.cells #[.bool false] 4) := heap_new _ _
      have s9 : (w8.alloc (.cells #[.bool false] 4)).heap.size = w8.heap.size + 1 := by simp
      have b9 : Below T w (w8.alloc (.cells #[.bool false] 4)) := HB8.out.alloc HS8.out _
      have H9 : Hid (Below T w (w8.alloc (.cells #[.bool false] 4))) := b9
      clear b9
      go_wp2_with fail
      have hg9 := inner_guard T w (w8.alloc (.cells #[.bool false] 4)) w8.heap.size HS8.out h9 H9.out
      go_call hg9 as e w10 ⟨rfl, c10, b10⟩
      have HF : Hid _ := b10
      clear hg9 b10 h9 H9
      go_wp2
      go_returns
      exact ⟨rfl, by rw [hT]; exact HF.out⟩
    | false =>
      rw [if_neg (by decide)] at hln
      rw [hln] at hlo
      go_wp2_with fail
      go_call (hlo _) as e w8 ⟨rfl, hw8⟩
      have HB8 : Hid (Below T w w8) := by rw [hw8]; exact HB.out _
      have HS8 : Hid (T ≤ w8.heap.size) := by have := HS6.out; show T ≤ _; rw [hw8]; simp; omega
      clear hlo hw8 HB HS6 r6
      have h9 : (w8.alloc (.cells #[.bool false] 4)).heap[w8.heap.size]? = some (.cells #[.bool false] 4) := heap_new _ _
      have s9 : (w8.alloc (.cells #[.bool false] 4)).heap.size = w8.heap.size + 1 := by simp
      have b9 : Below T w (w8.alloc (.cells #[.bool false] 4)) := HB8.out.alloc HS8.out _
      have H9 : Hid (Below T w (w8.alloc (.cells #[.bool false] 4))) := b9
      clear b9
      go_wp2_with fail
      have hg9 := inner_guard T w (w8.alloc (.cells #[.bool false] 4)) w8.heap.size HS8.out h9 H9.out
      go_call hg9 as e w10 ⟨rfl, c10, b10⟩
      have HF : Hid _ := b10
      clear hg9 b10 h9 H9
      go_wp2
      go_returns
      exact ⟨rfl, by rw [hT]; exact HF.out⟩
  · have hneR : ∀ p ∈ (w5.heap.size + 1, iob) :: (w5.heap.size, bob) :: (T, Obj.cells #[.string c] 9) :: [(w2.heap.size, Obj.cells #[.pointer (some ⟨M, 0, none⟩)] 53), (M, med L.P 7 1)], p.1 ≠ w4.heap.size := by
      intro p hp
      have hsz : w5.heap.size = w4.heap.size + 1 := hs5
      rcases List.mem_cons.1 hp with rfl | hp
      · show w5.heap.size + 1 ≠ _; omega
      · rcases List.mem_cons.1 hp with rfl | hp
        · show w5.heap.size ≠ _; omega
        · have := hlt4 p hp; omega
    have g8 : One T w L { st0 7 8 with aw := true, al := (a : Int), ad := d } (.slice none 0 0) ((w4.heap.size, Obj.cells #[.bool false] 4) :: (w5.heap.size + 1, iob) :: (w5.heap.size, bob) :: (T, Obj.cells #[.string c] 9) :: [(w2.heap.size, Obj.cells #[.pointer (some ⟨M, 0, none⟩)] 53), (M, med L.P 7 1)]) (G0 w5) := g7.forget (fun p hp => by rw [← hOT]; simp [gob] at hp ⊢; rcases hp with h | h | h | h | h | h <;> simp [h])
    have hdo : Calls Try.prog 36 #[.pointer (some ⟨w2.heap.size, 0, none⟩), .pointer (some ⟨T, 0, none⟩), .pointer (some ⟨w4.heap.size, 0, none⟩)] (G0 w5) fun e W => e = .returned (.tuple #[]) ∧ W.heap[w5.heap.size]? = some bob ∧ W.heap[w5.heap.size + 1]? = some iob ∧ (∃ st lv, One T w L st lv (gob w5.heap.size [(w4.heap.size, Obj.cells #[.bool true] 4)]) W ∧ BrkInv a d n st) := by
      have hx := brk_do_ok T w L ((w5.heap.size + 1, iob) :: (w5.heap.size, bob) :: (T, Obj.cells #[.string c] 9) :: [(w2.heap.size, Obj.cells #[.pointer (some ⟨M, 0, none⟩)] 53), (M, med L.P 7 1)]) M w2.heap.size T w4.heap.size (by simp) c hcs (by simp) (by simp) hneR a ha d (G0 w5) ⟨_, _, g8, brk_start a d⟩ (by rw [hn]; exact hge)
      rw [hn] at hx
      refine hx.mono ?_
      rintro e W ⟨rfl, st, lv, oW, iW⟩
      exact ⟨rfl, (oW.oth (w5.heap.size, bob) (by simp)).1, (oW.oth (w5.heap.size + 1, iob) (by simp)).1, st, lv, oW.forget (fun p hp => by simp [gob] at hp ⊢; rcases hp with h | h | h <;> simp [h]), iW⟩
    have hgd := guard_ok 36 _ _ w5 ent36 hdo
    clear hdo g7 g8 hneR
    go_call hgd as e w6 ⟨rfl, W, ⟨st, lv, oW, iW⟩, hk⟩
    clear hgd
    have o8 := oW.kt (fun p hp => by rcases List.mem_cons.1 hp with rfl | hp
                                     · show w4.heap.size < w5.heap.size; rw [hs5]; omega
                                     · cases hp) hk
    have hsr := iW.serial
    have hln := (iW.go hge).2.2.1
    clear oW hk iW
    have r6 : ∀ o, (w6.alloc o).cell? ⟨w4.heap.size, 0, none⟩ = some (.bool true) := fun o => cell_of ((o8.laid o).oth _ (List.mem_cons_self ..)).1 0
    have hlo : ∀ o, Calls Try.prog 21 #[.pointer (some ⟨L.P, 0, none⟩), .int .i64 7] (w6.alloc o) fun e w' => e = .returned (.int .i64 (st.ln : Nat)) ∧ w' = w6.alloc o := fun o => by
      have := (o8.laid o).loose_any
      rw [hsr] at this
      exact this
    rw [hln] at hlo
    have HB : Hid (∀ o, Below T w (w6.alloc o)) := fun o => (o8.laid o).below
    have HS6 : Hid (T ≤ w6.heap.size) := by have := getElem?_lt o8.pool; have := o8.bP; show T ≤ _; omega
    clear o8 hlt5 mM mC mT mR hOT hw5 hs5 hlt4
    have hlt2 : ¬ (a : Int) < (n : Int) := by omega
    go_wp2_with fail
    go_call (hlo _) as e w8 ⟨rfl, hw8⟩
    have HB8 : Hid (Below T w w8) := by rw [hw8]; exact HB.out _
    have HS8 : Hid (T ≤ w8.heap.size) := by have := HS6.out; show T ≤ _; rw [hw8]; simp; omega
    clear hlo hw8 HB HS6 r6
    have h9 : (w8.alloc (.cells #[.bool false] 4)).heap[w8.heap.size]? = some (.cells #[.bool false] 4) := heap_new _ _
    have s9 : (w8.alloc (.cells #[.bool false] 4)).heap.size = w8.heap.size + 1 := by simp
    have b9 : Below T w (w8.alloc (.cells #[.bool false] 4)) := HB8.out.alloc HS8.out _
    have H9 : Hid (Below T w (w8.alloc (.cells #[.bool false] 4))) := b9
    clear b9
    go_wp2_with fail
    have hg9 := inner_guard T w (w8.alloc (.cells #[.bool false] 4)) w8.heap.size HS8.out h9 H9.out
    go_call hg9 as e w10 ⟨rfl, c10, b10⟩
    have HF : Hid _ := b10
    clear hg9 b10 h9 H9
    go_wp2
    go_returns
    exact ⟨rfl, by rw [hT]; exact HF.out⟩
end Go.Proofs.Ytiohkdpmgkobiaa
