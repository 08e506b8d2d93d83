/- The law MediumBack as a call. -/
import Derived.Test.YtiohkdpmgkobiaaX4
import Derived.Test.YtiohkdpmgkobiaaX6
namespace Go.Proofs.Ytiohkdpmgkobiaa
open Go.RowKit
set_option maxHeartbeats 4000000 in
set_option maxRecDepth 100000 in
theorem back_walk (s : ByteArray) (x y : Int) (w : World) :
    Calls Try.prog 6 #[.string s, .int .i64 x, .int .i64 y] w fun e w' => e = .returned (.bool true) ∧ Below w.heap.size w w' := by
  have hmf : ∀ (fn : Fn) (first cap : Array Value) (w : World), (Instr.makeFunc fn first cap).run Try.prog w = .ok (.func fn first cap) w := fun _ _ _ _ => rfl
  obtain ⟨c, hc⟩ : ∃ c, c = s.extract 0 400 := ⟨_, rfl⟩
  have hcs : c.size ≤ 400 := by rw [hc]; exact cut_size _ _
  obtain ⟨f, hf⟩ : ∃ f : Int, max (-2) (min x 12) = f := ⟨_, rfl⟩
  obtain ⟨o, ho⟩ : ∃ o : Int, max (-1) (min y 10) = o := ⟨_, rfl⟩
  have hf1 : -2 ≤ f := by omega
  have hf2 : f ≤ 12 := by omega
  have ho1 : -1 ≤ o := by omega
  have ho2 : o ≤ 10 := by omega
  go_enter Try.func6, Try.ntmps6
  go_wp2_with fail
  go_call (awake6 _) as e w1 ⟨rfl, hb1⟩
  have h1 : w1.heap[w.heap.size]? = some (.cells #[.string s] 9) := by
    rw [hb1.block _ (by simp; omega), Below.heap_alloc _ _ _ (by simp; omega), Below.heap_alloc _ _ _ (by simp)]; exact heap_new _ _
  have h2 : w1.heap[w.heap.size + 1]? = some (.cells #[.int .i64 x] 3) := by
    rw [hb1.block _ (by simp), Below.heap_alloc _ _ _ (by simp)]
    have := heap_new (w.alloc (.cells #[.string s] 9)) (.cells #[.int .i64 x] 3)
    rw [show (w.alloc (.cells #[.string s] 9)).heap.size = w.heap.size + 1 by simp] at this
    exact this
  have h3 : w1.heap[w.heap.size + 2]? = some (.cells #[.int .i64 y] 3) := by
    rw [hb1.block _ (by simp)]
    have := heap_new ((w.alloc (.cells #[.string s] 9)).alloc (.cells #[.int .i64 x] 3)) (.cells #[.int .i64 y] 3)
    rw [show ((w.alloc (.cells #[.string s] 9)).alloc (.cells #[.int .i64 x] 3)).heap.size = w.heap.size + 2 by simp] at this
    exact this
  have b1 : Below w.heap.size w w1 := ((((Below.refl _ _).alloc (Nat.le_refl _) _).alloc (by simp) _).alloc (by simp; omega) _).trans (hb1.mono (by simp; omega))
  clear hb1
  have hmd := made_any w.heap.size w w1 [(w.heap.size, .cells #[.string s] 9), (w.heap.size + 1, .cells #[.int .i64 x] 3), (w.heap.size + 2, .cells #[.int .i64 y] 3)] b1 b1.size (fun p hp => by
    rcases List.mem_cons.1 hp with rfl | hp
    · exact ⟨h1, apart_of (by decide), Nat.le_refl _⟩
    rcases List.mem_cons.1 hp with rfl | hp
    · exact ⟨h2, apart_of (by decide), by simp⟩
    rcases List.mem_cons.1 hp with rfl | hp
    · exact ⟨h3, apart_of (by decide), by simp⟩
    · cases hp) 4 (by decide) (by decide) 9 (by decide) (by decide)
  clear h1 h2 h3 b1
  generalize hT : w.heap.size = T at *
  go_wp2_with fail
  rw [show T + 1 + 1 = T + 2 from rfl]
  go_call hmd as e w2 ⟨L, M, rfl, o2⟩
  clear hmd
  have o3 := o2.alloc (.cells #[.pointer (some ⟨M, 0, none⟩)] 53) (apart_of (by decide))
  have hlt2 := o2.lts
  have hMt : ∀ j, M = T + j → ∀ o, (T + j, o) ∈ [(T, Obj.cells #[.string s] 9), (T + 1, .cells #[.int .i64 x] 3), (T + 2, .cells #[.int .i64 y] 3)] → False := fun j hj o ho => by
    have q1 := (o2.oth (M, med L.P 4 1) (by simp)).1
    have q2 := (o2.oth _ (List.mem_cons_of_mem _ ho)).1
    rw [hj] at q1
    rw [q1] at q2
    injection q2 with q2
    simp at ho
    rcases ho with h | h | h <;> (rw [h.2] at q2; unfold med at q2; injection q2 with _ t _; exact absurd t (by decide))
  have hl0 : T + 2 < w2.heap.size := hlt2 (T + 2, .cells #[.int .i64 y] 3) (by simp)
  have HNE : Hid (M ≠ T ∧ M ≠ T + 1 ∧ M ≠ T + 2 ∧ M < w2.heap.size ∧ T + 2 < w2.heap.size) := ⟨fun e => hMt 0 e (.cells #[.string s] 9) (by simp), fun e => hMt 1 e (.cells #[.int .i64 x] 3) (by simp), fun e => hMt 2 e (.cells #[.int .i64 y] 3) (by simp), hlt2 (M, med L.P 4 1) (by simp), hl0⟩
  have hsr := serial_any M 4 (w2.alloc (.cells #[.pointer (some ⟨M, 0, none⟩)] 53)) (cell_of (o3.oth (M, med L.P 4 1) (by simp)).1 1)
  have hsz : Calls Try.prog 27 #[.pointer (some ⟨M, 0, none⟩)] (w2.alloc (.cells #[.pointer (some ⟨M, 0, none⟩)] 53)) fun e w' => e = .returned (.int .i64 9) ∧ One T w L (st0 4 9) (.slice none 0 0) ((w2.heap.size, Obj.cells #[.pointer (some ⟨M, 0, none⟩)] 53) :: (M, med L.P 4 1) :: (T, Obj.cells #[.string s] 9) :: (T + 1, .cells #[.int .i64 x] 3) :: [(T + 2, .cells #[.int .i64 y] 3)]) w' := o3.msize M (by show (M, med L.P 4 1) ∈ _; simp)
  clear o2 o3 hMt hlt2
  generalize hW3 : w2.alloc (.cells #[.pointer (some ⟨M, 0, none⟩)] 53) = w3 at *
  have c3 : w3.cell? ⟨w2.heap.size, 0, none⟩ = some (.pointer (some ⟨M, 0, none⟩)) := by rw [← hW3, cell_of (heap_new _ _) 0]; rfl
  go_wp2_with fail
  go_call hsr as e w4 ⟨rfl, hw4⟩
  rw [← hw4] at hsz c3
  clear hsr hw4 hW3
  go_wp2_with fail
  go_call hsz as e w5 ⟨rfl, o5⟩
  clear hsz c3
  have HD : Hid (w2.heap.size ≠ T ∧ w2.heap.size ≠ T + 1 ∧ w2.heap.size ≠ T + 2 ∧ w2.heap.size ≠ M) := by
    have := HNE.out
    exact ⟨by omega, by omega, by omega, by omega⟩
  have o6 := (o5.forget (oth' := (T, Obj.cells #[.string s] 9) :: (w2.heap.size, Obj.cells #[.pointer (some ⟨M, 0, none⟩)] 53) :: (M, med L.P 4 1) :: (T + 1, .cells #[.int .i64 x] 3) :: [(T + 2, .cells #[.int .i64 y] 3)]) (fun p hp => by simp at hp ⊢; rcases hp with h | h | h | h | h <;> simp [h])).setOther (v := .string c) (fun p hp => by
    have q1 := HNE.out; have q2 := HD.out
    simp only [List.mem_cons, List.not_mem_nil, or_false] at hp
    rcases hp with rfl | rfl | rfl | rfl
    · exact q2.1
    · exact q1.1
    · show T + 1 ≠ T; omega
    · show T + 2 ≠ T; omega) (by decide)
  have o7 := (o6.forget (oth' := (T + 1, .cells #[.int .i64 x] 3) :: (T, Obj.cells #[.string c] 9) :: (w2.heap.size, Obj.cells #[.pointer (some ⟨M, 0, none⟩)] 53) :: (M, med L.P 4 1) :: [(T + 2, .cells #[.int .i64 y] 3)]) (fun p hp => by simp at hp ⊢; rcases hp with h | h | h | h | h <;> simp [h])).setOther (v := .int .i64 f) (fun p hp => by
    have q1 := HNE.out; have q2 := HD.out
    simp only [List.mem_cons, List.not_mem_nil, or_false] at hp
    rcases hp with rfl | rfl | rfl | rfl
    · show T ≠ T + 1; omega
    · exact q2.2.1
    · exact q1.2.1
    · show T + 2 ≠ T + 1; omega) (by decide)
  have o8 := o7.alloc (.cells #[.int .i64 (parts c : Nat)] 3) (apart_of (by decide))
  have d1 : w5.cell? ⟨T, 0, none⟩ = some (.string s) := cell_of (o5.oth (T, Obj.cells #[.string s] 9) (by simp)).1 0
  have d1f : w5.frozen? ⟨T, 0, none⟩ = false := frz_of (o5.oth (T, Obj.cells #[.string s] 9) (by simp)).1 0
  have d2 : w5.cell? ⟨T + 1, 0, none⟩ = some (.int .i64 x) := cell_of (o5.oth (T + 1, Obj.cells #[.int .i64 x] 3) (by simp)).1 0
  have d2f : w5.frozen? ⟨T + 1, 0, none⟩ = false := frz_of (o5.oth (T + 1, Obj.cells #[.int .i64 x] 3) (by simp)).1 0
  have hlt5 := o7.lts
  have hs5 : ((w5.setCell ⟨T, 0, none⟩ (.string c)).setCell ⟨T + 1, 0, none⟩ (.int .i64 f)).heap.size = w5.heap.size := by simp [World.setCell]
  rw [hs5] at hlt5 o8
  have HL5 : Hid _ := hlt5
  have O8 : Hid _ := o8
  have hT5 : T < w5.heap.size := hlt5 (T, Obj.cells #[.string c] 9) (by simp)
  have hT6 : T + 1 < w5.heap.size := hlt5 (T + 1, Obj.cells #[.int .i64 f] 3) (by simp)
  have hpn : ((c.size : Int) + 63) / 64 = ((parts c : Nat) : Int) := by unfold parts; omega
  have hp7 : parts c ≤ 7 := by unfold parts; omega
  clear o5 o6 o7 o8 hlt5 hs5
  generalize hn : parts c = n at *
  go_wp2_with fail
  go_call (cut_any s 400 (by decide) _) as e w6 ⟨rfl, hw6⟩
  rw [← hc]
  subst hw6
  clear hc
  have Hn2 : Hid (c.size ≤ 64 * n ∧ 64 * n < c.size + 64) := by
    have := hn; unfold parts at this; show _ ∧ _; omega
  by_cases hn0 : n = 0
  · have hz0 : ((n : Int) == 0) = true := by rw [hn0]; rfl
    have hfit : n = 0 ∨ (0 ≤ f ∧ f + (n : Int) ≤ 9) := Or.inl hn0
    clear hn0
    go_wp2_with fail
    generalize hw7 : (((w6.setCell ⟨T, 0, none⟩ (.string c)).setCell ⟨T + 1, 0, none⟩ (.int .i64 f)).alloc (.cells #[.int .i64 (n : Nat)] 3)) = w7 at *
    have g7 := O8.out.guarded
    have s7 : w7.heap.size = w6.heap.size + 1 := by rw [← hw7]; simp [World.setCell]
    have hdo : Calls Try.prog 30 #[.pointer (some ⟨w2.heap.size, 0, none⟩), .pointer (some ⟨T + 1, 0, none⟩), .pointer (some ⟨T, 0, none⟩)] (G0 w7) fun e W' => e = .returned (.tuple #[]) ∧ W'.heap[w7.heap.size]? = some bob ∧ W'.heap[w7.heap.size + 1]? = some iob ∧ (∃ st lv, One T w L st lv (gob w7.heap.size ((w6.heap.size, Obj.cells #[.int .i64 (n : Nat)] 3) :: (T + 1, Obj.cells #[.int .i64 f] 3) :: (T, Obj.cells #[.string c] 9) :: (w2.heap.size, Obj.cells #[.pointer (some ⟨M, 0, none⟩)] 53) :: (M, med L.P 4 1) :: [(T + 2, Obj.cells #[.int .i64 y] 3)])) W' ∧ BackInv 100 c f st) := by
      refine (bk_do30_ok T w L _ M w2.heap.size (T + 1) T c hcs f ⟨hf1, hf2⟩ (G0 w7) ⟨by simp [gob], by simp [gob], by simp [gob], by simp [gob]⟩ (by rw [hn]; exact hfit) _ g7).mono ?_
      rintro e W' ⟨rfl, st, lv, oW, iW⟩
      exact ⟨rfl, (oW.oth (w7.heap.size, bob) (by simp [gob])).1, (oW.oth (w7.heap.size + 1, iob) (by simp [gob])).1, st, lv, oW, iW⟩
    have hgd := guard_ok 30 _ _ w7 ent30 hdo
    clear hdo g7
    go_call hgd as e w8 ⟨rfl, W', ⟨st, lv, oW, iW⟩, hk⟩
    clear hgd
    have o8 := oW.kt (fun p hp => by
      have q := HL5.out
      rcases List.mem_cons.1 hp with rfl | hp
      · show w6.heap.size < _; omega
      · have := q p hp; omega) hk
    clear oW hk hw7
    have hl8 := o8.lts
    have e1 : w8.cell? ⟨T + 2, 0, none⟩ = some (.int .i64 y) := cell_of (o8.oth (T + 2, Obj.cells #[.int .i64 y] 3) (by simp)).1 0
    have e2 : w8.frozen? ⟨T + 2, 0, none⟩ = false := frz_of (o8.oth (T + 2, Obj.cells #[.int .i64 y] 3) (by simp)).1 0
    have e3 : T + 2 < w8.heap.size := hl8 (T + 2, Obj.cells #[.int .i64 y] 3) (by simp)
    have hnT2 : ∀ p ∈ [(w6.heap.size, Obj.cells #[.int .i64 (n : Nat)] 3), (T + 1, Obj.cells #[.int .i64 f] 3), (T, Obj.cells #[.string c] 9), (w2.heap.size, Obj.cells #[.pointer (some ⟨M, 0, none⟩)] 53), (M, med L.P 4 1)], p.1 ≠ T + 2 := fun p hp => by
      have q1 := HNE.out; have q2 := HD.out
      have q3 := HL5.out (T + 2, Obj.cells #[.int .i64 y] 3) (by simp)
      replace q3 : T + 2 < w6.heap.size := q3
      simp only [List.mem_cons, List.not_mem_nil, or_false] at hp
      rcases hp with rfl | rfl | rfl | rfl | rfl
      · show w6.heap.size ≠ T + 2; omega
      · show T + 1 ≠ T + 2; omega
      · show T ≠ T + 2; omega
      · exact q2.2.2.1
      · exact q1.2.2.1
    have o9 := (o8.forget (oth' := (T + 2, Obj.cells #[.int .i64 y] 3) :: [(w6.heap.size, Obj.cells #[.int .i64 (n : Nat)] 3), (T + 1, Obj.cells #[.int .i64 f] 3), (T, Obj.cells #[.string c] 9), (w2.heap.size, Obj.cells #[.pointer (some ⟨M, 0, none⟩)] 53), (M, med L.P 4 1)]) (fun p hp => by simp at hp ⊢; rcases hp with h | h | h | h | h | h <;> simp [h])).setOther (v := .int .i64 o) hnT2 (by decide)
    have o10 := (o9.alloc (Obj.cells #[.int .i64 0, .int .i64 0] 59) (apart_of (by decide))).alloc (Obj.cells #[.string ⟨#[]⟩] 9) (apart_of (by decide))
    have s8 : (w8.setCell ⟨T + 2, 0, none⟩ (.int .i64 o)).heap.size = w8.heap.size := by simp [World.setCell]
    have s9 : ((w8.setCell ⟨T + 2, 0, none⟩ (.int .i64 o)).alloc (Obj.cells #[.int .i64 0, .int .i64 0] 59)).heap.size = w8.heap.size + 1 := by simp [s8]
    rw [s9, s8] at o10
    have O10 : Hid (One T w L st lv ((w8.heap.size + 1, (Obj.cells #[.string ⟨#[]⟩] 9)) :: [(w8.heap.size, (Obj.cells #[.int .i64 0, .int .i64 0] 59)), (T + 2, Obj.cells #[.int .i64 o] 3), (w6.heap.size, Obj.cells #[.int .i64 (n : Nat)] 3), (T + 1, Obj.cells #[.int .i64 f] 3), (T, Obj.cells #[.string c] 9), (w2.heap.size, Obj.cells #[.pointer (some ⟨M, 0, none⟩)] 53), (M, med L.P 4 1)]) (((w8.setCell ⟨T + 2, 0, none⟩ (.int .i64 o)).alloc (Obj.cells #[.int .i64 0, .int .i64 0] 59)).alloc (Obj.cells #[.string ⟨#[]⟩] 9))) := o10.forget (fun p hp => by simp at hp ⊢; rcases hp with h | h | h | h | h | h | h | h <;> simp [h])
    have HIW : Hid _ := iW
    have HL8 : Hid _ := hl8
    clear o8 o9 o10 hnT2 iW hl8 s9 s8
    go_wp2_with fail
    generalize hw9 : (((w8.setCell ⟨T + 2, 0, none⟩ (.int .i64 o)).alloc (Obj.cells #[.int .i64 0, .int .i64 0] 59)).alloc (Obj.cells #[.string ⟨#[]⟩] 9)) = w9 at *
    have s10 : w9.heap.size = w8.heap.size + 2 := by rw [← hw9]; simp [World.setCell]
    clear hw9 e1 e2
    have g9 := O10.out.guarded
    have g10 : One T w L st lv ((w8.heap.size + 1, (Obj.cells #[.string ⟨#[]⟩] 9)) :: (w9.heap.size + 1, iob) :: (w9.heap.size, bob) :: [(w8.heap.size, (Obj.cells #[.int .i64 0, .int .i64 0] 59)), (T + 2, Obj.cells #[.int .i64 o] 3), (w6.heap.size, Obj.cells #[.int .i64 (n : Nat)] 3), (T + 1, Obj.cells #[.int .i64 f] 3), (T, Obj.cells #[.string c] 9), (w2.heap.size, Obj.cells #[.pointer (some ⟨M, 0, none⟩)] 53), (M, med L.P 4 1)]) (G0 w9) := g9.forget (fun p hp => by simp [gob] at hp ⊢; rcases hp with h | h | h | h | h | h | h | h | h | h <;> simp [h])
    have hlo : ∀ p ∈ ((w9.heap.size + 1, iob) :: (w9.heap.size, bob) :: [(w8.heap.size, (Obj.cells #[.int .i64 0, .int .i64 0] 59)), (T + 2, Obj.cells #[.int .i64 o] 3), (w6.heap.size, Obj.cells #[.int .i64 (n : Nat)] 3), (T + 1, Obj.cells #[.int .i64 f] 3), (T, Obj.cells #[.string c] 9), (w2.heap.size, Obj.cells #[.pointer (some ⟨M, 0, none⟩)] 53), (M, med L.P 4 1)]), p.1 ≠ w8.heap.size + 1 := fun p hp => by
      simp only [List.mem_cons, List.not_mem_nil, or_false] at hp
      rcases hp with rfl | rfl | rfl | rfl | rfl | rfl | rfl | rfl | rfl
      · show w9.heap.size + 1 ≠ _; omega
      · show w9.heap.size ≠ _; omega
      · show w8.heap.size ≠ _; omega
      · show T + 2 ≠ _; omega
      · have : w6.heap.size < w8.heap.size := HL8.out (w6.heap.size, Obj.cells #[.int .i64 (n : Nat)] 3) (by simp)
        show w6.heap.size ≠ _; omega
      · show T + 1 ≠ _; omega
      · show T ≠ _; omega
      · have : w2.heap.size < w8.heap.size := HL8.out (w2.heap.size, Obj.cells #[.pointer (some ⟨M, 0, none⟩)] 53) (by simp)
        show w2.heap.size ≠ _; omega
      · have : M < w8.heap.size := HL8.out (M, med L.P 4 1) (by simp)
        show M ≠ _; omega
    have h5 : ∀ p ∈ ((w9.heap.size + 1, iob) :: (w9.heap.size, bob) :: [(w8.heap.size, (Obj.cells #[.int .i64 0, .int .i64 0] 59)), (T + 2, Obj.cells #[.int .i64 o] 3), (w6.heap.size, Obj.cells #[.int .i64 (n : Nat)] 3), (T + 1, Obj.cells #[.int .i64 f] 3), (T, Obj.cells #[.string c] 9), (w2.heap.size, Obj.cells #[.pointer (some ⟨M, 0, none⟩)] 53), (M, med L.P 4 1)]), ∀ c fz, p.2 ≠ .cells c 5 fz := fun p hp c fz e => by
      simp only [List.mem_cons, List.not_mem_nil, or_false] at hp
      rcases hp with rfl | rfl | rfl | rfl | rfl | rfl | rfl | rfl | rfl <;> (first | (unfold iob at e) | (unfold bob at e) | (unfold med at e) | skip) <;> (injection e with _ t _; exact absurd t (by decide))
    have hdo := fun bad hbad => bk_do32 (M := M) (C := w2.heap.size) (F := T + 1) (N := w6.heap.size) (G := w8.heap.size + 1) (O := T + 2) (c := c) (f := f) (o := o) ⟨by simp, by simp, by simp, by rw [hn]; simp, by simp⟩ hlo h5 st lv g10 HIW.out bad hbad
    have HDO : Hid _ := hdo
    clear hdo g9 g10 hlo h5 O10 HIW
    generalize hpc : (⟨(filledL c.data.toList).toArray⟩ : ByteArray) = pc at *
    by_cases ho9 : o ≤ 9
    · have hdo2 := HDO.out false ⟨(fun e => by cases e), fun _ => ho9⟩
      have hgd := guard_ok 32 _ (BkEnd T w L ((w9.heap.size + 1, iob) :: (w9.heap.size, bob) :: [(w8.heap.size, (Obj.cells #[.int .i64 0, .int .i64 0] 59)), (T + 2, Obj.cells #[.int .i64 o] 3), (w6.heap.size, Obj.cells #[.int .i64 (n : Nat)] 3), (T + 1, Obj.cells #[.int .i64 f] 3), (T, Obj.cells #[.string c] 9), (w2.heap.size, Obj.cells #[.pointer (some ⟨M, 0, none⟩)] 53), (M, med L.P 4 1)]) (w8.heap.size + 1) pc) w9 ent32 (hdo2.mono (by
        rintro e W ⟨rfl, hE⟩
        obtain ⟨st, lv, oW, q⟩ := hE
        exact ⟨rfl, (oW.oth (w9.heap.size, bob) (by simp)).1, (oW.oth (w9.heap.size + 1, iob) (by simp)).1, st, lv, oW, q⟩))
      clear hdo2 HDO
      go_call hgd as e w10 ⟨rfl, W', ⟨st', lv', oW, hln, hsr'⟩, hk⟩
      clear hgd
      have o11 := (oW.forget (oth' := gob w9.heap.size ((w8.heap.size + 1, Obj.cells #[.string pc] 9) :: [(w8.heap.size, (Obj.cells #[.int .i64 0, .int .i64 0] 59)), (T + 2, Obj.cells #[.int .i64 o] 3), (w6.heap.size, Obj.cells #[.int .i64 (n : Nat)] 3), (T + 1, Obj.cells #[.int .i64 f] 3), (T, Obj.cells #[.string c] 9), (w2.heap.size, Obj.cells #[.pointer (some ⟨M, 0, none⟩)] 53), (M, med L.P 4 1)])) (fun p hp => by simp [gob] at hp ⊢; rcases hp with h | h | h | h | h | h | h | h | h | h <;> simp [h])).kt (fun p hp => by
        simp only [List.mem_cons, List.not_mem_nil, or_false] at hp
        rcases hp with rfl | rfl | rfl | rfl | rfl | rfl | rfl | rfl
        · show w8.heap.size + 1 < _; omega
        · show w8.heap.size < _; omega
        · show T + 2 < _; omega
        · have : w6.heap.size < w8.heap.size := HL8.out (w6.heap.size, Obj.cells #[.int .i64 (n : Nat)] 3) (by simp)
          show w6.heap.size < _; omega
        · show T + 1 < _; omega
        · show T < _; omega
        · have : w2.heap.size < w8.heap.size := HL8.out (w2.heap.size, Obj.cells #[.pointer (some ⟨M, 0, none⟩)] 53) (by simp)
          show w2.heap.size < _; omega
        · have : M < w8.heap.size := HL8.out (M, med L.P 4 1) (by simp)
          show M < _; omega) hk
      clear oW hk
      have f1 : w10.cell? ⟨w8.heap.size, 0, none⟩ = some (.int .i64 0) := cell_of (o11.oth (w8.heap.size, (Obj.cells #[.int .i64 0, .int .i64 0] 59)) (by simp)).1 0
      have f2 : w10.cell? ⟨w8.heap.size, 1, none⟩ = some (.int .i64 0) := cell_of (o11.oth (w8.heap.size, (Obj.cells #[.int .i64 0, .int .i64 0] 59)) (by simp)).1 1
      have f3 : ∀ k, w10.frozen? ⟨w8.heap.size, k, none⟩ = false := fun k => frz_of (o11.oth (w8.heap.size, (Obj.cells #[.int .i64 0, .int .i64 0] 59)) (by simp)).1 k
      have f4 : w10.cell? ⟨T + 2, 0, none⟩ = some (.int .i64 o) := cell_of (o11.oth (T + 2, Obj.cells #[.int .i64 o] 3) (by simp)).1 0
      have o12 : One T w L st' lv' ((T, Obj.cells #[.string c] 9) :: (w8.heap.size + 1, Obj.cells #[.string pc] 9) :: [(w8.heap.size, (Obj.cells #[.int .i64 0, .int .i64 0] 59)), (T + 2, Obj.cells #[.int .i64 o] 3)]) ((w10.setCell ⟨w8.heap.size, 0, none⟩ (.int .i64 0)).setCell ⟨w8.heap.size, 1, none⟩ (.int .i64 0)) := ((o11.forget (oth' := (w8.heap.size, (Obj.cells #[.int .i64 0, .int .i64 0] 59)) :: [(w8.heap.size + 1, Obj.cells #[.string pc] 9), (T, Obj.cells #[.string c] 9), (T + 2, Obj.cells #[.int .i64 o] 3)]) (fun p hp => by simp at hp ⊢; rcases hp with h | h | h | h <;> simp [h])).setOther2 (v0 := .int .i64 0) (v1 := .int .i64 0) (fun p hp => by
        simp only [List.mem_cons, List.not_mem_nil, or_false] at hp
        rcases hp with rfl | rfl | rfl
        · show w8.heap.size + 1 ≠ w8.heap.size; omega
        · show T ≠ w8.heap.size; omega
        · show T + 2 ≠ w8.heap.size; omega)).forget (fun p hp => by simp at hp ⊢; rcases hp with h | h | h | h <;> simp [h])
      have f5 : ((w10.setCell ⟨w8.heap.size, 0, none⟩ (.int .i64 0)).setCell ⟨w8.heap.size, 1, none⟩ (.int .i64 0)).cell? ⟨T + 2, 0, none⟩ = some (.int .i64 o) := cell_of (o12.oth (T + 2, Obj.cells #[.int .i64 o] 3) (by simp)).1 0
      have f6 : ((w10.setCell ⟨w8.heap.size, 0, none⟩ (.int .i64 0)).setCell ⟨w8.heap.size, 1, none⟩ (.int .i64 0)).cell? ⟨w8.heap.size, 1, none⟩ = some (.int .i64 0) := cell_of (o12.oth (w8.heap.size, (Obj.cells #[.int .i64 0, .int .i64 0] 59)) (by simp)).1 1
      have O12 : Hid _ := o12
      clear o11 o12
      go_wp2_with fail
      have HO12 : Hid (BkL T w L c pc w8.heap.size 0 0 o 0 ((w10.setCell ⟨w8.heap.size, 0, none⟩ (.int .i64 0)).setCell ⟨w8.heap.size, 1, none⟩ (.int .i64 0))) := ⟨st', lv', by rw [zs_zero]; exact O12.out, hln, hsr'⟩
      have Hpc : Hid _ := hpc
      have HN : Hid _ := hn
      clear O12 hpc hn f1 f2 f3 f4 f5 f6 hln hsr'
      have hj0 : c.size ≤ 64 * n := Hn2.out.1
      go_loopw [] (fun wr => ∃ j : Nat, c.size + j ≤ 64 * n ∧ Hid (BkL T w L c pc w8.heap.size 0 0 o j wr)) (fun wr => 64 * n - strAt T wr)
      case atStart => exact ⟨0, by omega, HO12⟩
      case round =>
        obtain ⟨j, hj, hR⟩ := hrel
        clear HO12
        obtain ⟨t1, t2, t3⟩ := hR.out.text
        have hz := zs_size c j
        have HST : Hid (strAt T wr = (zs c j).size) := strAt_of t1
        have HZ : Hid (zs c j ++ ⟨#[0]⟩ = zs c (j + 1)) := zs_next c j
        by_cases hm : (c.size + j) % 64 = 0
        · have hall : zs c j = pc := by rw [← Hpc.out]; exact zs_all c j (by rw [HN.out]; have := Hn2.out; omega)
          rw [hall] at t1 hz
          have hlo := hR.out.loose
          have HB : Hid (Below T w wr) := hR.out.below
          have hm2 : ((pc.size : Int) % 64 == 0) = true := by rw [hz]; simp; omega
          clear hR HST HZ hz hall hm
          go_wp2_with fail
          go_call hlo as e w12 ⟨rfl, hw12⟩
          rw [← hw12] at HB
          clear hw12 hlo
          go_wp2
          go_returns
          exact ⟨rfl, by rw [hT]; exact HB.out⟩
        · have hm2 : (((zs c j).size : Int) % 64 == 0) = false := by rw [hz]; simp; omega
          have hsz : (zs c j).size ≤ 1000 := by rw [hz]; have := Hn2.out; omega
          have HF : Hid (BkL T w L c pc w8.heap.size 0 0 o (j + 1) (wr.setCell ⟨T, 0, none⟩ (.string (zs c (j + 1))))) := hR.out.next (by omega)
          have HS1 : Hid (strAt T (wr.setCell ⟨T, 0, none⟩ (.string (zs c (j + 1)))) = (zs c (j + 1)).size) := strAt_of HF.out.text.1
          have HS2 : Hid ((zs c (j + 1)).size = c.size + j + 1) := zs_size c (j + 1)
          have hj1 : c.size + (j + 1) ≤ 64 * n := by have := Hn2.out; omega
          have HZS : Hid _ := hz
          rw [← HZ.out] at HF HS1 HS2
          clear hR hz hm
          generalize zs c j = z at *
          go_wp2
          skip

    · have ho10 : o = 10 := by omega
      have hdo2 := HDO.out true ⟨fun _ => ho10, (fun e => by cases e)⟩
      have hgd := guard_fail 32 _ 4 6 (BkEnd T w L ((w9.heap.size + 1, iob) :: (w9.heap.size, bob) :: [(w8.heap.size, (Obj.cells #[.int .i64 0, .int .i64 0] 59)), (T + 2, Obj.cells #[.int .i64 o] 3), (w6.heap.size, Obj.cells #[.int .i64 (n : Nat)] 3), (T + 1, Obj.cells #[.int .i64 f] 3), (T, Obj.cells #[.string c] 9), (w2.heap.size, Obj.cells #[.pointer (some ⟨M, 0, none⟩)] 53), (M, med L.P 4 1)]) (w8.heap.size + 1) pc) w9 ent32 (hdo2.mono (by
        rintro e W ⟨rfl, hE⟩
        obtain ⟨st, lv, oW, q⟩ := hE
        exact ⟨rfl, (oW.oth (w9.heap.size, bob) (by simp)).1, (oW.oth (w9.heap.size + 1, iob) (by simp)).1, st, lv, oW, q⟩))
      clear hdo2 HDO
      have ho11 : 9 < o := by omega
      clear ho10
      go_call hgd as e w10 ⟨rfl, W', ⟨st', lv', oW, hln, hsr'⟩, hk⟩
      clear hgd
      have o11 := (oW.forget (oth' := gob w9.heap.size ((w8.heap.size + 1, Obj.cells #[.string pc] 9) :: [(w8.heap.size, (Obj.cells #[.int .i64 0, .int .i64 0] 59)), (T + 2, Obj.cells #[.int .i64 o] 3), (w6.heap.size, Obj.cells #[.int .i64 (n : Nat)] 3), (T + 1, Obj.cells #[.int .i64 f] 3), (T, Obj.cells #[.string c] 9), (w2.heap.size, Obj.cells #[.pointer (some ⟨M, 0, none⟩)] 53), (M, med L.P 4 1)])) (fun p hp => by simp [gob] at hp ⊢; rcases hp with h | h | h | h | h | h | h | h | h | h <;> simp [h])).kt (fun p hp => by
        simp only [List.mem_cons, List.not_mem_nil, or_false] at hp
        rcases hp with rfl | rfl | rfl | rfl | rfl | rfl | rfl | rfl
        · show w8.heap.size + 1 < _; omega
        · show w8.heap.size < _; omega
        · show T + 2 < _; omega
        · have : w6.heap.size < w8.heap.size := HL8.out (w6.heap.size, Obj.cells #[.int .i64 (n : Nat)] 3) (by simp)
          show w6.heap.size < _; omega
        · show T + 1 < _; omega
        · show T < _; omega
        · have : w2.heap.size < w8.heap.size := HL8.out (w2.heap.size, Obj.cells #[.pointer (some ⟨M, 0, none⟩)] 53) (by simp)
          show w2.heap.size < _; omega
        · have : M < w8.heap.size := HL8.out (M, med L.P 4 1) (by simp)
          show M < _; omega) hk
      clear oW hk
      have f1 : w10.cell? ⟨w8.heap.size, 0, none⟩ = some (.int .i64 0) := cell_of (o11.oth (w8.heap.size, (Obj.cells #[.int .i64 0, .int .i64 0] 59)) (by simp)).1 0
      have f2 : w10.cell? ⟨w8.heap.size, 1, none⟩ = some (.int .i64 0) := cell_of (o11.oth (w8.heap.size, (Obj.cells #[.int .i64 0, .int .i64 0] 59)) (by simp)).1 1
      have f3 : ∀ k, w10.frozen? ⟨w8.heap.size, k, none⟩ = false := fun k => frz_of (o11.oth (w8.heap.size, (Obj.cells #[.int .i64 0, .int .i64 0] 59)) (by simp)).1 k
      have f4 : w10.cell? ⟨T + 2, 0, none⟩ = some (.int .i64 o) := cell_of (o11.oth (T + 2, Obj.cells #[.int .i64 o] 3) (by simp)).1 0
      have o12 : One T w L st' lv' ((T, Obj.cells #[.string c] 9) :: (w8.heap.size + 1, Obj.cells #[.string pc] 9) :: [(w8.heap.size, (Obj.cells #[.int .i64 4, .int .i64 6] 59)), (T + 2, Obj.cells #[.int .i64 o] 3)]) ((w10.setCell ⟨w8.heap.size, 0, none⟩ (.int .i64 4)).setCell ⟨w8.heap.size, 1, none⟩ (.int .i64 6)) := ((o11.forget (oth' := (w8.heap.size, (Obj.cells #[.int .i64 0, .int .i64 0] 59)) :: [(w8.heap.size + 1, Obj.cells #[.string pc] 9), (T, Obj.cells #[.string c] 9), (T + 2, Obj.cells #[.int .i64 o] 3)]) (fun p hp => by simp at hp ⊢; rcases hp with h | h | h | h <;> simp [h])).setOther2 (v0 := .int .i64 4) (v1 := .int .i64 6) (fun p hp => by
        simp only [List.mem_cons, List.not_mem_nil, or_false] at hp
        rcases hp with rfl | rfl | rfl
        · show w8.heap.size + 1 ≠ w8.heap.size; omega
        · show T ≠ w8.heap.size; omega
        · show T + 2 ≠ w8.heap.size; omega)).forget (fun p hp => by simp at hp ⊢; rcases hp with h | h | h | h <;> simp [h])
      have f5 : ((w10.setCell ⟨w8.heap.size, 0, none⟩ (.int .i64 4)).setCell ⟨w8.heap.size, 1, none⟩ (.int .i64 6)).cell? ⟨T + 2, 0, none⟩ = some (.int .i64 o) := cell_of (o12.oth (T + 2, Obj.cells #[.int .i64 o] 3) (by simp)).1 0
      have f6 : ((w10.setCell ⟨w8.heap.size, 0, none⟩ (.int .i64 4)).setCell ⟨w8.heap.size, 1, none⟩ (.int .i64 6)).cell? ⟨w8.heap.size, 1, none⟩ = some (.int .i64 6) := cell_of (o12.oth (w8.heap.size, (Obj.cells #[.int .i64 4, .int .i64 6] 59)) (by simp)).1 1
      have O12 : Hid _ := o12
      clear o11 o12
      go_wp2_with fail
      have HO12 : Hid (BkL T w L c pc w8.heap.size 4 6 o 0 ((w10.setCell ⟨w8.heap.size, 0, none⟩ (.int .i64 4)).setCell ⟨w8.heap.size, 1, none⟩ (.int .i64 6))) := ⟨st', lv', by rw [zs_zero]; exact O12.out, hln, hsr'⟩
      have Hpc : Hid _ := hpc
      have HN : Hid _ := hn
      clear O12 hpc hn f1 f2 f3 f4 f5 f6 hln hsr'
      have hj0 : c.size ≤ 64 * n := Hn2.out.1
      go_loopw [] (fun wr => ∃ j : Nat, c.size + j ≤ 64 * n ∧ Hid (BkL T w L c pc w8.heap.size 4 6 o j wr)) (fun wr => 64 * n - strAt T wr)
      case atStart => exact ⟨0, by omega, HO12⟩
      case round =>
        obtain ⟨j, hj, hR⟩ := hrel
        clear HO12
        obtain ⟨t1, t2, t3⟩ := hR.out.text
        have hz := zs_size c j
        have HST : Hid (strAt T wr = (zs c j).size) := strAt_of t1
        have HZ : Hid (zs c j ++ ⟨#[0]⟩ = zs c (j + 1)) := zs_next c j
        by_cases hm : (c.size + j) % 64 = 0
        · have hall : zs c j = pc := by rw [← Hpc.out]; exact zs_all c j (by rw [HN.out]; have := Hn2.out; omega)
          rw [hall] at t1 hz
          have hlo := hR.out.loose
          have HB : Hid (Below T w wr) := hR.out.below
          have hm2 : ((pc.size : Int) % 64 == 0) = true := by rw [hz]; simp; omega
          clear hR HST HZ hz hall hm
          go_wp2_with fail
          go_call hlo as e w12 ⟨rfl, hw12⟩
          rw [← hw12] at HB
          clear hw12 hlo
          go_wp2
          go_returns
          exact ⟨rfl, by rw [hT]; exact HB.out⟩
        · have hm2 : (((zs c j).size : Int) % 64 == 0) = false := by rw [hz]; simp; omega
          have hsz : (zs c j).size ≤ 1000 := by rw [hz]; have := Hn2.out; omega
          have HF : Hid (BkL T w L c pc w8.heap.size 4 6 o (j + 1) (wr.setCell ⟨T, 0, none⟩ (.string (zs c (j + 1))))) := hR.out.next (by omega)
          have HS1 : Hid (strAt T (wr.setCell ⟨T, 0, none⟩ (.string (zs c (j + 1)))) = (zs c (j + 1)).size) := strAt_of HF.out.text.1
          have HS2 : Hid ((zs c (j + 1)).size = c.size + j + 1) := zs_size c (j + 1)
          have hj1 : c.size + (j + 1) ≤ 64 * n := by have := Hn2.out; omega
          have HZS : Hid _ := hz
          rw [← HZ.out] at HF HS1 HS2
          clear hR hz hm
          generalize zs c j = z at *
          go_wp2
          skip


  · have hz0 : ((n : Int) == 0) = false := by simpa using hn0
    by_cases hg : 0 ≤ f ∧ f + (n : Int) ≤ 9
    · have hg1 := hg.1
      have hg2 := hg.2
      have hfit : n = 0 ∨ (0 ≤ f ∧ f + (n : Int) ≤ 9) := Or.inr hg
      clear hn0 hg
      go_wp2_with fail
      generalize hw7 : (((w6.setCell ⟨T, 0, none⟩ (.string c)).setCell ⟨T + 1, 0, none⟩ (.int .i64 f)).alloc (.cells #[.int .i64 (n : Nat)] 3)) = w7 at *
      have g7 := O8.out.guarded
      have s7 : w7.heap.size = w6.heap.size + 1 := by rw [← hw7]; simp [World.setCell]
      have hdo : Calls Try.prog 30 #[.pointer (some ⟨w2.heap.size, 0, none⟩), .pointer (some ⟨T + 1, 0, none⟩), .pointer (some ⟨T, 0, none⟩)] (G0 w7) fun e W' => e = .returned (.tuple #[]) ∧ W'.heap[w7.heap.size]? = some bob ∧ W'.heap[w7.heap.size + 1]? = some iob ∧ (∃ st lv, One T w L st lv (gob w7.heap.size ((w6.heap.size, Obj.cells #[.int .i64 (n : Nat)] 3) :: (T + 1, Obj.cells #[.int .i64 f] 3) :: (T, Obj.cells #[.string c] 9) :: (w2.heap.size, Obj.cells #[.pointer (some ⟨M, 0, none⟩)] 53) :: (M, med L.P 4 1) :: [(T + 2, Obj.cells #[.int .i64 y] 3)])) W' ∧ BackInv 100 c f st) := by
        refine (bk_do30_ok T w L _ M w2.heap.size (T + 1) T c hcs f ⟨hf1, hf2⟩ (G0 w7) ⟨by simp [gob], by simp [gob], by simp [gob], by simp [gob]⟩ (by rw [hn]; exact hfit) _ g7).mono ?_
        rintro e W' ⟨rfl, st, lv, oW, iW⟩
        exact ⟨rfl, (oW.oth (w7.heap.size, bob) (by simp [gob])).1, (oW.oth (w7.heap.size + 1, iob) (by simp [gob])).1, st, lv, oW, iW⟩
      have hgd := guard_ok 30 _ _ w7 ent30 hdo
      clear hdo g7
      go_call hgd as e w8 ⟨rfl, W', ⟨st, lv, oW, iW⟩, hk⟩
      clear hgd
      have o8 := oW.kt (fun p hp => by
        have q := HL5.out
        rcases List.mem_cons.1 hp with rfl | hp
        · show w6.heap.size < _; omega
        · have := q p hp; omega) hk
      clear oW hk hw7
      have hl8 := o8.lts
      have e1 : w8.cell? ⟨T + 2, 0, none⟩ = some (.int .i64 y) := cell_of (o8.oth (T + 2, Obj.cells #[.int .i64 y] 3) (by simp)).1 0
      have e2 : w8.frozen? ⟨T + 2, 0, none⟩ = false := frz_of (o8.oth (T + 2, Obj.cells #[.int .i64 y] 3) (by simp)).1 0
      have e3 : T + 2 < w8.heap.size := hl8 (T + 2, Obj.cells #[.int .i64 y] 3) (by simp)
      have hnT2 : ∀ p ∈ [(w6.heap.size, Obj.cells #[.int .i64 (n : Nat)] 3), (T + 1, Obj.cells #[.int .i64 f] 3), (T, Obj.cells #[.string c] 9), (w2.heap.size, Obj.cells #[.pointer (some ⟨M, 0, none⟩)] 53), (M, med L.P 4 1)], p.1 ≠ T + 2 := fun p hp => by
        have q1 := HNE.out; have q2 := HD.out
        have q3 := HL5.out (T + 2, Obj.cells #[.int .i64 y] 3) (by simp)
        replace q3 : T + 2 < w6.heap.size := q3
        simp only [List.mem_cons, List.not_mem_nil, or_false] at hp
        rcases hp with rfl | rfl | rfl | rfl | rfl
        · show w6.heap.size ≠ T + 2; omega
        · show T + 1 ≠ T + 2; omega
        · show T ≠ T + 2; omega
        · exact q2.2.2.1
        · exact q1.2.2.1
      have o9 := (o8.forget (oth' := (T + 2, Obj.cells #[.int .i64 y] 3) :: [(w6.heap.size, Obj.cells #[.int .i64 (n : Nat)] 3), (T + 1, Obj.cells #[.int .i64 f] 3), (T, Obj.cells #[.string c] 9), (w2.heap.size, Obj.cells #[.pointer (some ⟨M, 0, none⟩)] 53), (M, med L.P 4 1)]) (fun p hp => by simp at hp ⊢; rcases hp with h | h | h | h | h | h <;> simp [h])).setOther (v := .int .i64 o) hnT2 (by decide)
      have o10 := (o9.alloc (Obj.cells #[.int .i64 0, .int .i64 0] 59) (apart_of (by decide))).alloc (Obj.cells #[.string ⟨#[]⟩] 9) (apart_of (by decide))
      have s8 : (w8.setCell ⟨T + 2, 0, none⟩ (.int .i64 o)).heap.size = w8.heap.size := by simp [World.setCell]
      have s9 : ((w8.setCell ⟨T + 2, 0, none⟩ (.int .i64 o)).alloc (Obj.cells #[.int .i64 0, .int .i64 0] 59)).heap.size = w8.heap.size + 1 := by simp [s8]
      rw [s9, s8] at o10
      have O10 : Hid (One T w L st lv ((w8.heap.size + 1, (Obj.cells #[.string ⟨#[]⟩] 9)) :: [(w8.heap.size, (Obj.cells #[.int .i64 0, .int .i64 0] 59)), (T + 2, Obj.cells #[.int .i64 o] 3), (w6.heap.size, Obj.cells #[.int .i64 (n : Nat)] 3), (T + 1, Obj.cells #[.int .i64 f] 3), (T, Obj.cells #[.string c] 9), (w2.heap.size, Obj.cells #[.pointer (some ⟨M, 0, none⟩)] 53), (M, med L.P 4 1)]) (((w8.setCell ⟨T + 2, 0, none⟩ (.int .i64 o)).alloc (Obj.cells #[.int .i64 0, .int .i64 0] 59)).alloc (Obj.cells #[.string ⟨#[]⟩] 9))) := o10.forget (fun p hp => by simp at hp ⊢; rcases hp with h | h | h | h | h | h | h | h <;> simp [h])
      have HIW : Hid _ := iW
      have HL8 : Hid _ := hl8
      clear o8 o9 o10 hnT2 iW hl8 s9 s8
      go_wp2_with fail
      generalize hw9 : (((w8.setCell ⟨T + 2, 0, none⟩ (.int .i64 o)).alloc (Obj.cells #[.int .i64 0, .int .i64 0] 59)).alloc (Obj.cells #[.string ⟨#[]⟩] 9)) = w9 at *
      have s10 : w9.heap.size = w8.heap.size + 2 := by rw [← hw9]; simp [World.setCell]
      clear hw9 e1 e2
      have g9 := O10.out.guarded
      have g10 : One T w L st lv ((w8.heap.size + 1, (Obj.cells #[.string ⟨#[]⟩] 9)) :: (w9.heap.size + 1, iob) :: (w9.heap.size, bob) :: [(w8.heap.size, (Obj.cells #[.int .i64 0, .int .i64 0] 59)), (T + 2, Obj.cells #[.int .i64 o] 3), (w6.heap.size, Obj.cells #[.int .i64 (n : Nat)] 3), (T + 1, Obj.cells #[.int .i64 f] 3), (T, Obj.cells #[.string c] 9), (w2.heap.size, Obj.cells #[.pointer (some ⟨M, 0, none⟩)] 53), (M, med L.P 4 1)]) (G0 w9) := g9.forget (fun p hp => by simp [gob] at hp ⊢; rcases hp with h | h | h | h | h | h | h | h | h | h <;> simp [h])
      have hlo : ∀ p ∈ ((w9.heap.size + 1, iob) :: (w9.heap.size, bob) :: [(w8.heap.size, (Obj.cells #[.int .i64 0, .int .i64 0] 59)), (T + 2, Obj.cells #[.int .i64 o] 3), (w6.heap.size, Obj.cells #[.int .i64 (n : Nat)] 3), (T + 1, Obj.cells #[.int .i64 f] 3), (T, Obj.cells #[.string c] 9), (w2.heap.size, Obj.cells #[.pointer (some ⟨M, 0, none⟩)] 53), (M, med L.P 4 1)]), p.1 ≠ w8.heap.size + 1 := fun p hp => by
        simp only [List.mem_cons, List.not_mem_nil, or_false] at hp
        rcases hp with rfl | rfl | rfl | rfl | rfl | rfl | rfl | rfl | rfl
        · show w9.heap.size + 1 ≠ _; omega
        · show w9.heap.size ≠ _; omega
        · show w8.heap.size ≠ _; omega
        · show T + 2 ≠ _; omega
        · have : w6.heap.size < w8.heap.size := HL8.out (w6.heap.size, Obj.cells #[.int .i64 (n : Nat)] 3) (by simp)
          show w6.heap.size ≠ _; omega
        · show T + 1 ≠ _; omega
        · show T ≠ _; omega
        · have : w2.heap.size < w8.heap.size := HL8.out (w2.heap.size, Obj.cells #[.pointer (some ⟨M, 0, none⟩)] 53) (by simp)
          show w2.heap.size ≠ _; omega
        · have : M < w8.heap.size := HL8.out (M, med L.P 4 1) (by simp)
          show M ≠ _; omega
      have h5 : ∀ p ∈ ((w9.heap.size + 1, iob) :: (w9.heap.size, bob) :: [(w8.heap.size, (Obj.cells #[.int .i64 0, .int .i64 0] 59)), (T + 2, Obj.cells #[.int .i64 o] 3), (w6.heap.size, Obj.cells #[.int .i64 (n : Nat)] 3), (T + 1, Obj.cells #[.int .i64 f] 3), (T, Obj.cells #[.string c] 9), (w2.heap.size, Obj.cells #[.pointer (some ⟨M, 0, none⟩)] 53), (M, med L.P 4 1)]), ∀ c fz, p.2 ≠ .cells c 5 fz := fun p hp c fz e => by
        simp only [List.mem_cons, List.not_mem_nil, or_false] at hp
        rcases hp with rfl | rfl | rfl | rfl | rfl | rfl | rfl | rfl | rfl <;> (first | (unfold iob at e) | (unfold bob at e) | (unfold med at e) | skip) <;> (injection e with _ t _; exact absurd t (by decide))
      have hdo := fun bad hbad => bk_do32 (M := M) (C := w2.heap.size) (F := T + 1) (N := w6.heap.size) (G := w8.heap.size + 1) (O := T + 2) (c := c) (f := f) (o := o) ⟨by simp, by simp, by simp, by rw [hn]; simp, by simp⟩ hlo h5 st lv g10 HIW.out bad hbad
      have HDO : Hid _ := hdo
      clear hdo g9 g10 hlo h5 O10 HIW
      generalize hpc : (⟨(filledL c.data.toList).toArray⟩ : ByteArray) = pc at *
      by_cases ho9 : o ≤ 9
      · have hdo2 := HDO.out false ⟨(fun e => by cases e), fun _ => ho9⟩
        have hgd := guard_ok 32 _ (BkEnd T w L ((w9.heap.size + 1, iob) :: (w9.heap.size, bob) :: [(w8.heap.size, (Obj.cells #[.int .i64 0, .int .i64 0] 59)), (T + 2, Obj.cells #[.int .i64 o] 3), (w6.heap.size, Obj.cells #[.int .i64 (n : Nat)] 3), (T + 1, Obj.cells #[.int .i64 f] 3), (T, Obj.cells #[.string c] 9), (w2.heap.size, Obj.cells #[.pointer (some ⟨M, 0, none⟩)] 53), (M, med L.P 4 1)]) (w8.heap.size + 1) pc) w9 ent32 (hdo2.mono (by
          rintro e W ⟨rfl, hE⟩
          obtain ⟨st, lv, oW, q⟩ := hE
          exact ⟨rfl, (oW.oth (w9.heap.size, bob) (by simp)).1, (oW.oth (w9.heap.size + 1, iob) (by simp)).1, st, lv, oW, q⟩))
        clear hdo2 HDO
        go_call hgd as e w10 ⟨rfl, W', ⟨st', lv', oW, hln, hsr'⟩, hk⟩
        clear hgd
        have o11 := (oW.forget (oth' := gob w9.heap.size ((w8.heap.size + 1, Obj.cells #[.string pc] 9) :: [(w8.heap.size, (Obj.cells #[.int .i64 0, .int .i64 0] 59)), (T + 2, Obj.cells #[.int .i64 o] 3), (w6.heap.size, Obj.cells #[.int .i64 (n : Nat)] 3), (T + 1, Obj.cells #[.int .i64 f] 3), (T, Obj.cells #[.string c] 9), (w2.heap.size, Obj.cells #[.pointer (some ⟨M, 0, none⟩)] 53), (M, med L.P 4 1)])) (fun p hp => by simp [gob] at hp ⊢; rcases hp with h | h | h | h | h | h | h | h | h | h <;> simp [h])).kt (fun p hp => by
          simp only [List.mem_cons, List.not_mem_nil, or_false] at hp
          rcases hp with rfl | rfl | rfl | rfl | rfl | rfl | rfl | rfl
          · show w8.heap.size + 1 < _; omega
          · show w8.heap.size < _; omega
          · show T + 2 < _; omega
          · have : w6.heap.size < w8.heap.size := HL8.out (w6.heap.size, Obj.cells #[.int .i64 (n : Nat)] 3) (by simp)
            show w6.heap.size < _; omega
          · show T + 1 < _; omega
          · show T < _; omega
          · have : w2.heap.size < w8.heap.size := HL8.out (w2.heap.size, Obj.cells #[.pointer (some ⟨M, 0, none⟩)] 53) (by simp)
            show w2.heap.size < _; omega
          · have : M < w8.heap.size := HL8.out (M, med L.P 4 1) (by simp)
            show M < _; omega) hk
        clear oW hk
        have f1 : w10.cell? ⟨w8.heap.size, 0, none⟩ = some (.int .i64 0) := cell_of (o11.oth (w8.heap.size, (Obj.cells #[.int .i64 0, .int .i64 0] 59)) (by simp)).1 0
        have f2 : w10.cell? ⟨w8.heap.size, 1, none⟩ = some (.int .i64 0) := cell_of (o11.oth (w8.heap.size, (Obj.cells #[.int .i64 0, .int .i64 0] 59)) (by simp)).1 1
        have f3 : ∀ k, w10.frozen? ⟨w8.heap.size, k, none⟩ = false := fun k => frz_of (o11.oth (w8.heap.size, (Obj.cells #[.int .i64 0, .int .i64 0] 59)) (by simp)).1 k
        have f4 : w10.cell? ⟨T + 2, 0, none⟩ = some (.int .i64 o) := cell_of (o11.oth (T + 2, Obj.cells #[.int .i64 o] 3) (by simp)).1 0
        have o12 : One T w L st' lv' ((T, Obj.cells #[.string c] 9) :: (w8.heap.size + 1, Obj.cells #[.string pc] 9) :: [(w8.heap.size, (Obj.cells #[.int .i64 0, .int .i64 0] 59)), (T + 2, Obj.cells #[.int .i64 o] 3)]) ((w10.setCell ⟨w8.heap.size, 0, none⟩ (.int .i64 0)).setCell ⟨w8.heap.size, 1, none⟩ (.int .i64 0)) := ((o11.forget (oth' := (w8.heap.size, (Obj.cells #[.int .i64 0, .int .i64 0] 59)) :: [(w8.heap.size + 1, Obj.cells #[.string pc] 9), (T, Obj.cells #[.string c] 9), (T + 2, Obj.cells #[.int .i64 o] 3)]) (fun p hp => by simp at hp ⊢; rcases hp with h | h | h | h <;> simp [h])).setOther2 (v0 := .int .i64 0) (v1 := .int .i64 0) (fun p hp => by
          simp only [List.mem_cons, List.not_mem_nil, or_false] at hp
          rcases hp with rfl | rfl | rfl
          · show w8.heap.size + 1 ≠ w8.heap.size; omega
          · show T ≠ w8.heap.size; omega
          · show T + 2 ≠ w8.heap.size; omega)).forget (fun p hp => by simp at hp ⊢; rcases hp with h | h | h | h <;> simp [h])
        have f5 : ((w10.setCell ⟨w8.heap.size, 0, none⟩ (.int .i64 0)).setCell ⟨w8.heap.size, 1, none⟩ (.int .i64 0)).cell? ⟨T + 2, 0, none⟩ = some (.int .i64 o) := cell_of (o12.oth (T + 2, Obj.cells #[.int .i64 o] 3) (by simp)).1 0
        have f6 : ((w10.setCell ⟨w8.heap.size, 0, none⟩ (.int .i64 0)).setCell ⟨w8.heap.size, 1, none⟩ (.int .i64 0)).cell? ⟨w8.heap.size, 1, none⟩ = some (.int .i64 0) := cell_of (o12.oth (w8.heap.size, (Obj.cells #[.int .i64 0, .int .i64 0] 59)) (by simp)).1 1
        have O12 : Hid _ := o12
        clear o11 o12
        go_wp2_with fail
        have HO12 : Hid (BkL T w L c pc w8.heap.size 0 0 o 0 ((w10.setCell ⟨w8.heap.size, 0, none⟩ (.int .i64 0)).setCell ⟨w8.heap.size, 1, none⟩ (.int .i64 0))) := ⟨st', lv', by rw [zs_zero]; exact O12.out, hln, hsr'⟩
        have Hpc : Hid _ := hpc
        have HN : Hid _ := hn
        clear O12 hpc hn f1 f2 f3 f4 f5 f6 hln hsr'
        have hj0 : c.size ≤ 64 * n := Hn2.out.1
        go_loopw [] (fun wr => ∃ j : Nat, c.size + j ≤ 64 * n ∧ Hid (BkL T w L c pc w8.heap.size 0 0 o j wr)) (fun wr => 64 * n - strAt T wr)
        case atStart => exact ⟨0, by omega, HO12⟩
        case round =>
          obtain ⟨j, hj, hR⟩ := hrel
          clear HO12
          obtain ⟨t1, t2, t3⟩ := hR.out.text
          have hz := zs_size c j
          have HST : Hid (strAt T wr = (zs c j).size) := strAt_of t1
          have HZ : Hid (zs c j ++ ⟨#[0]⟩ = zs c (j + 1)) := zs_next c j
          by_cases hm : (c.size + j) % 64 = 0
          · have hall : zs c j = pc := by rw [← Hpc.out]; exact zs_all c j (by rw [HN.out]; have := Hn2.out; omega)
            rw [hall] at t1 hz
            have hlo := hR.out.loose
            have HB : Hid (Below T w wr) := hR.out.below
            have hm2 : ((pc.size : Int) % 64 == 0) = true := by rw [hz]; simp; omega
            clear hR HST HZ hz hall hm
            go_wp2_with fail
            go_call hlo as e w12 ⟨rfl, hw12⟩
            rw [← hw12] at HB
            clear hw12 hlo
            go_wp2
            go_returns
            exact ⟨rfl, by rw [hT]; exact HB.out⟩
          · have hm2 : (((zs c j).size : Int) % 64 == 0) = false := by rw [hz]; simp; omega
            have hsz : (zs c j).size ≤ 1000 := by rw [hz]; have := Hn2.out; omega
            have HF : Hid (BkL T w L c pc w8.heap.size 0 0 o (j + 1) (wr.setCell ⟨T, 0, none⟩ (.string (zs c (j + 1))))) := hR.out.next (by omega)
            have HS1 : Hid (strAt T (wr.setCell ⟨T, 0, none⟩ (.string (zs c (j + 1)))) = (zs c (j + 1)).size) := strAt_of HF.out.text.1
            have HS2 : Hid ((zs c (j + 1)).size = c.size + j + 1) := zs_size c (j + 1)
            have hj1 : c.size + (j + 1) ≤ 64 * n := by have := Hn2.out; omega
            have HZS : Hid _ := hz
            rw [← HZ.out] at HF HS1 HS2
            clear hR hz hm
            generalize zs c j = z at *
            go_wp2
            go_roundw
            case rel => exact ⟨j + 1, hj1, HF⟩
            case measure =>
              show 64 * n - strAt T _ < 64 * n - strAt T wr
              rw [HS1.out, HST.out, HS2.out, HZS.out]; omega

      · have ho10 : o = 10 := by omega
        have hdo2 := HDO.out true ⟨fun _ => ho10, (fun e => by cases e)⟩
        have hgd := guard_fail 32 _ 4 6 (BkEnd T w L ((w9.heap.size + 1, iob) :: (w9.heap.size, bob) :: [(w8.heap.size, (Obj.cells #[.int .i64 0, .int .i64 0] 59)), (T + 2, Obj.cells #[.int .i64 o] 3), (w6.heap.size, Obj.cells #[.int .i64 (n : Nat)] 3), (T + 1, Obj.cells #[.int .i64 f] 3), (T, Obj.cells #[.string c] 9), (w2.heap.size, Obj.cells #[.pointer (some ⟨M, 0, none⟩)] 53), (M, med L.P 4 1)]) (w8.heap.size + 1) pc) w9 ent32 (hdo2.mono (by
          rintro e W ⟨rfl, hE⟩
          obtain ⟨st, lv, oW, q⟩ := hE
          exact ⟨rfl, (oW.oth (w9.heap.size, bob) (by simp)).1, (oW.oth (w9.heap.size + 1, iob) (by simp)).1, st, lv, oW, q⟩))
        clear hdo2 HDO
        have ho11 : 9 < o := by omega
        clear ho10
        go_call hgd as e w10 ⟨rfl, W', ⟨st', lv', oW, hln, hsr'⟩, hk⟩
        clear hgd
        have o11 := (oW.forget (oth' := gob w9.heap.size ((w8.heap.size + 1, Obj.cells #[.string pc] 9) :: [(w8.heap.size, (Obj.cells #[.int .i64 0, .int .i64 0] 59)), (T + 2, Obj.cells #[.int .i64 o] 3), (w6.heap.size, Obj.cells #[.int .i64 (n : Nat)] 3), (T + 1, Obj.cells #[.int .i64 f] 3), (T, Obj.cells #[.string c] 9), (w2.heap.size, Obj.cells #[.pointer (some ⟨M, 0, none⟩)] 53), (M, med L.P 4 1)])) (fun p hp => by simp [gob] at hp ⊢; rcases hp with h | h | h | h | h | h | h | h | h | h <;> simp [h])).kt (fun p hp => by
          simp only [List.mem_cons, List.not_mem_nil, or_false] at hp
          rcases hp with rfl | rfl | rfl | rfl | rfl | rfl | rfl | rfl
          · show w8.heap.size + 1 < _; omega
          · show w8.heap.size < _; omega
          · show T + 2 < _; omega
          · have : w6.heap.size < w8.heap.size := HL8.out (w6.heap.size, Obj.cells #[.int .i64 (n : Nat)] 3) (by simp)
            show w6.heap.size < _; omega
          · show T + 1 < _; omega
          · show T < _; omega
          · have : w2.heap.size < w8.heap.size := HL8.out (w2.heap.size, Obj.cells #[.pointer (some ⟨M, 0, none⟩)] 53) (by simp)
            show w2.heap.size < _; omega
          · have : M < w8.heap.size := HL8.out (M, med L.P 4 1) (by simp)
            show M < _; omega) hk
        clear oW hk
        have f1 : w10.cell? ⟨w8.heap.size, 0, none⟩ = some (.int .i64 0) := cell_of (o11.oth (w8.heap.size, (Obj.cells #[.int .i64 0, .int .i64 0] 59)) (by simp)).1 0
        have f2 : w10.cell? ⟨w8.heap.size, 1, none⟩ = some (.int .i64 0) := cell_of (o11.oth (w8.heap.size, (Obj.cells #[.int .i64 0, .int .i64 0] 59)) (by simp)).1 1
        have f3 : ∀ k, w10.frozen? ⟨w8.heap.size, k, none⟩ = false := fun k => frz_of (o11.oth (w8.heap.size, (Obj.cells #[.int .i64 0, .int .i64 0] 59)) (by simp)).1 k
        have f4 : w10.cell? ⟨T + 2, 0, none⟩ = some (.int .i64 o) := cell_of (o11.oth (T + 2, Obj.cells #[.int .i64 o] 3) (by simp)).1 0
        have o12 : One T w L st' lv' ((T, Obj.cells #[.string c] 9) :: (w8.heap.size + 1, Obj.cells #[.string pc] 9) :: [(w8.heap.size, (Obj.cells #[.int .i64 4, .int .i64 6] 59)), (T + 2, Obj.cells #[.int .i64 o] 3)]) ((w10.setCell ⟨w8.heap.size, 0, none⟩ (.int .i64 4)).setCell ⟨w8.heap.size, 1, none⟩ (.int .i64 6)) := ((o11.forget (oth' := (w8.heap.size, (Obj.cells #[.int .i64 0, .int .i64 0] 59)) :: [(w8.heap.size + 1, Obj.cells #[.string pc] 9), (T, Obj.cells #[.string c] 9), (T + 2, Obj.cells #[.int .i64 o] 3)]) (fun p hp => by simp at hp ⊢; rcases hp with h | h | h | h <;> simp [h])).setOther2 (v0 := .int .i64 4) (v1 := .int .i64 6) (fun p hp => by
          simp only [List.mem_cons, List.not_mem_nil, or_false] at hp
          rcases hp with rfl | rfl | rfl
          · show w8.heap.size + 1 ≠ w8.heap.size; omega
          · show T ≠ w8.heap.size; omega
          · show T + 2 ≠ w8.heap.size; omega)).forget (fun p hp => by simp at hp ⊢; rcases hp with h | h | h | h <;> simp [h])
        have f5 : ((w10.setCell ⟨w8.heap.size, 0, none⟩ (.int .i64 4)).setCell ⟨w8.heap.size, 1, none⟩ (.int .i64 6)).cell? ⟨T + 2, 0, none⟩ = some (.int .i64 o) := cell_of (o12.oth (T + 2, Obj.cells #[.int .i64 o] 3) (by simp)).1 0
        have f6 : ((w10.setCell ⟨w8.heap.size, 0, none⟩ (.int .i64 4)).setCell ⟨w8.heap.size, 1, none⟩ (.int .i64 6)).cell? ⟨w8.heap.size, 1, none⟩ = some (.int .i64 6) := cell_of (o12.oth (w8.heap.size, (Obj.cells #[.int .i64 4, .int .i64 6] 59)) (by simp)).1 1
        have O12 : Hid _ := o12
        clear o11 o12
        go_wp2_with fail
        have HO12 : Hid (BkL T w L c pc w8.heap.size 4 6 o 0 ((w10.setCell ⟨w8.heap.size, 0, none⟩ (.int .i64 4)).setCell ⟨w8.heap.size, 1, none⟩ (.int .i64 6))) := ⟨st', lv', by rw [zs_zero]; exact O12.out, hln, hsr'⟩
        have Hpc : Hid _ := hpc
        have HN : Hid _ := hn
        clear O12 hpc hn f1 f2 f3 f4 f5 f6 hln hsr'
        have hj0 : c.size ≤ 64 * n := Hn2.out.1
        go_loopw [] (fun wr => ∃ j : Nat, c.size + j ≤ 64 * n ∧ Hid (BkL T w L c pc w8.heap.size 4 6 o j wr)) (fun wr => 64 * n - strAt T wr)
        case atStart => exact ⟨0, by omega, HO12⟩
        case round =>
          obtain ⟨j, hj, hR⟩ := hrel
          clear HO12
          obtain ⟨t1, t2, t3⟩ := hR.out.text
          have hz := zs_size c j
          have HST : Hid (strAt T wr = (zs c j).size) := strAt_of t1
          have HZ : Hid (zs c j ++ ⟨#[0]⟩ = zs c (j + 1)) := zs_next c j
          by_cases hm : (c.size + j) % 64 = 0
          · have hall : zs c j = pc := by rw [← Hpc.out]; exact zs_all c j (by rw [HN.out]; have := Hn2.out; omega)
            rw [hall] at t1 hz
            have hlo := hR.out.loose
            have HB : Hid (Below T w wr) := hR.out.below
            have hm2 : ((pc.size : Int) % 64 == 0) = true := by rw [hz]; simp; omega
            clear hR HST HZ hz hall hm
            go_wp2_with fail
            go_call hlo as e w12 ⟨rfl, hw12⟩
            rw [← hw12] at HB
            clear hw12 hlo
            go_wp2
            go_returns
            exact ⟨rfl, by rw [hT]; exact HB.out⟩
          · have hm2 : (((zs c j).size : Int) % 64 == 0) = false := by rw [hz]; simp; omega
            have hsz : (zs c j).size ≤ 1000 := by rw [hz]; have := Hn2.out; omega
            have HF : Hid (BkL T w L c pc w8.heap.size 4 6 o (j + 1) (wr.setCell ⟨T, 0, none⟩ (.string (zs c (j + 1))))) := hR.out.next (by omega)
            have HS1 : Hid (strAt T (wr.setCell ⟨T, 0, none⟩ (.string (zs c (j + 1)))) = (zs c (j + 1)).size) := strAt_of HF.out.text.1
            have HS2 : Hid ((zs c (j + 1)).size = c.size + j + 1) := zs_size c (j + 1)
            have hj1 : c.size + (j + 1) ≤ 64 * n := by have := Hn2.out; omega
            have HZS : Hid _ := hz
            rw [← HZ.out] at HF HS1 HS2
            clear hR hz hm
            generalize zs c j = z at *
            go_wp2
            go_roundw
            case rel => exact ⟨j + 1, hj1, HF⟩
            case measure =>
              show 64 * n - strAt T _ < 64 * n - strAt T wr
              rw [HS1.out, HST.out, HS2.out, HZS.out]; omega


    · have hg3 : decide (0 ≤ f) = false ∨ (decide (0 ≤ f) = true ∧ decide (f + (n : Int) ≤ 9) = false) := by
        by_cases h : 0 ≤ f
        · exact Or.inr ⟨by simpa using h, by simp; omega⟩
        · exact Or.inl (by simpa using h)
      rcases hg3 with hg3 | ⟨hg3, hg4⟩
      · have hg5 : ¬ 0 ≤ f := by simpa using hg3
        have hno : ¬ n = 0 ∧ ¬ (0 ≤ f ∧ f + (n : Int) ≤ 9) := ⟨hn0, hg⟩
        go_wp2_with fail
        generalize hw7 : (((w6.setCell ⟨T, 0, none⟩ (.string c)).setCell ⟨T + 1, 0, none⟩ (.int .i64 f)).alloc (.cells #[.int .i64 (n : Nat)] 3)) = w7 at *
        have g7 := O8.out.guarded
        have s7 : w7.heap.size = w6.heap.size + 1 := by rw [← hw7]; simp [World.setCell]
        have hdo : Calls Try.prog 30 #[.pointer (some ⟨w2.heap.size, 0, none⟩), .pointer (some ⟨T + 1, 0, none⟩), .pointer (some ⟨T, 0, none⟩)] (G0 w7) fun e W' => e = .panicked [fl 4 6] ∧ W'.heap[w7.heap.size]? = some bob ∧ W'.heap[w7.heap.size + 1]? = some iob ∧ (∃ st lv, One T w L st lv (gob w7.heap.size ((w6.heap.size, Obj.cells #[.int .i64 (n : Nat)] 3) :: (T + 1, Obj.cells #[.int .i64 f] 3) :: (T, Obj.cells #[.string c] 9) :: (w2.heap.size, Obj.cells #[.pointer (some ⟨M, 0, none⟩)] 53) :: (M, med L.P 4 1) :: [(T + 2, Obj.cells #[.int .i64 y] 3)])) W') := by
          refine (bk_do30_no T w L _ M w2.heap.size (T + 1) T c hcs f ⟨hf1, hf2⟩ (G0 w7) ⟨by simp [gob], by simp [gob], by simp [gob], by simp [gob]⟩ (by rw [hn]; exact hno) _ g7).mono ?_
          rintro e W' ⟨rfl, st, lv, oW⟩
          exact ⟨rfl, (oW.oth (w7.heap.size, bob) (by simp [gob])).1, (oW.oth (w7.heap.size + 1, iob) (by simp [gob])).1, st, lv, oW⟩
        have hgd := guard_fail 30 _ 4 6 _ w7 ent30 hdo
        clear hdo g7
        go_call hgd as e w8 ⟨rfl, W', ⟨st, lv, oW⟩, hk⟩
        clear hgd
        have o8 := oW.kt (fun p hp => by
          have q := HL5.out
          rcases List.mem_cons.1 hp with rfl | hp
          · show w6.heap.size < _; omega
          · have := q p hp; omega) hk
        have HB : Hid (∀ o, Below T w (w8.alloc o)) := fun o => (o8.laid o).below
        clear oW hk hw7 o8
        go_wp2
        go_returns
        exact ⟨rfl, by rw [hT]; exact HB.out _⟩
      · have hg5 : 0 ≤ f := by simpa using hg3
        have hg6 : ¬ f + (n : Int) ≤ 9 := by simpa using hg4
        have hno : ¬ n = 0 ∧ ¬ (0 ≤ f ∧ f + (n : Int) ≤ 9) := ⟨hn0, hg⟩
        go_wp2_with fail
        generalize hw7 : (((w6.setCell ⟨T, 0, none⟩ (.string c)).setCell ⟨T + 1, 0, none⟩ (.int .i64 f)).alloc (.cells #[.int .i64 (n : Nat)] 3)) = w7 at *
        have g7 := O8.out.guarded
        have s7 : w7.heap.size = w6.heap.size + 1 := by rw [← hw7]; simp [World.setCell]
        have hdo : Calls Try.prog 30 #[.pointer (some ⟨w2.heap.size, 0, none⟩), .pointer (some ⟨T + 1, 0, none⟩), .pointer (some ⟨T, 0, none⟩)] (G0 w7) fun e W' => e = .panicked [fl 4 6] ∧ W'.heap[w7.heap.size]? = some bob ∧ W'.heap[w7.heap.size + 1]? = some iob ∧ (∃ st lv, One T w L st lv (gob w7.heap.size ((w6.heap.size, Obj.cells #[.int .i64 (n : Nat)] 3) :: (T + 1, Obj.cells #[.int .i64 f] 3) :: (T, Obj.cells #[.string c] 9) :: (w2.heap.size, Obj.cells #[.pointer (some ⟨M, 0, none⟩)] 53) :: (M, med L.P 4 1) :: [(T + 2, Obj.cells #[.int .i64 y] 3)])) W') := by
          refine (bk_do30_no T w L _ M w2.heap.size (T + 1) T c hcs f ⟨hf1, hf2⟩ (G0 w7) ⟨by simp [gob], by simp [gob], by simp [gob], by simp [gob]⟩ (by rw [hn]; exact hno) _ g7).mono ?_
          rintro e W' ⟨rfl, st, lv, oW⟩
          exact ⟨rfl, (oW.oth (w7.heap.size, bob) (by simp [gob])).1, (oW.oth (w7.heap.size + 1, iob) (by simp [gob])).1, st, lv, oW⟩
        have hgd := guard_fail 30 _ 4 6 _ w7 ent30 hdo
        clear hdo g7
        go_call hgd as e w8 ⟨rfl, W', ⟨st, lv, oW⟩, hk⟩
        clear hgd
        have o8 := oW.kt (fun p hp => by
          have q := HL5.out
          rcases List.mem_cons.1 hp with rfl | hp
          · show w6.heap.size < _; omega
          · have := q p hp; omega) hk
        have HB : Hid (∀ o, Below T w (w8.alloc o)) := fun o => (o8.laid o).below
        clear oW hk hw7 o8
        go_wp2
        go_returns
        exact ⟨rfl, by rw [hT]; exact HB.out _⟩

end Go.Proofs.Ytiohkdpmgkobiaa
