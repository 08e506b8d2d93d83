/- The law MediumParts as a call. -/
import Derived.Test.YtiohkdpmgkobiaaZ2
import Derived.Test.YtiohkdpmgkobiaaV2
namespace Go.Proofs.Ytiohkdpmgkobiaa
open Go.RowKit
def LV (x y : Int) (fx gy : Nat) : Nat → Value → Prop
  | 0, v => v = .int .i64 x
  | 1, v => v = .int .i64 (min x 5)
  | 2, v => v = .int .i64 (fx : Nat)
  | 3, v => v = .int .i64 y
  | 4, v => v = .int .i64 (min y 6)
  | 5, v => v = .int .i64 (gy : Nat)
  | _, _ => True

structure LPh (b0 : Nat) (w0 : World) (L : Loc) (st : St) (lv : Value) (F N : Nat) (x y : Int) (fx gy : Nat) (rest : List (Nat × Obj)) (done : Nat → Bool) (f : Nat → Value) (W : World) : Prop where
  o0 : done 0 = false → done 6 = false
  o3 : done 3 = false → done 7 = false
  one : Hid (One b0 w0 L st lv ((F, .cells #[.int .i64 (if done 6 then (fx : Int) else x)] 3) :: (N, .cells #[.int .i64 (if done 7 then (gy : Int) else y)] 3) :: rest) W)
section
variable {b0 : Nat} {w0 : World} {L : Loc} {st : St} {lv : Value} {F N : Nat} {x y : Int} {fx gy : Nat} {rest : List (Nat × Obj)} {done : Nat → Bool} {f : Nat → Value} {W : World}
theorem LPh.pure (h : LPh b0 w0 L st lv F N x y fx gy rest done f W) (i : Nat) (hi : i ≠ 6 ∧ i ≠ 7) (v : Value) : LPh b0 w0 L st lv F N x y fx gy rest (updB done i) (upd f i v) W := by
  have e6 : updB done i 6 = done 6 := if_neg (Ne.symm hi.1)
  have e7 : updB done i 7 = done 7 := if_neg (Ne.symm hi.2)
  refine ⟨fun h0 => ?_, fun h0 => ?_, by rw [e6, e7]; exact h.one⟩
  · rw [e6]
    by_cases hi0 : (0 : Nat) = i
    · rw [show updB done i 0 = true from if_pos hi0] at h0; cases h0
    · rw [show updB done i 0 = done 0 from if_neg hi0] at h0; exact h.o0 h0
  · rw [e7]
    by_cases hi0 : (3 : Nat) = i
    · rw [show updB done i 3 = true from if_pos hi0] at h0; cases h0
    · rw [show updB done i 3 = done 3 from if_neg hi0] at h0; exact h.o3 h0
theorem LPh.cellF (h : LPh b0 w0 L st lv F N x y fx gy rest done f W) (h0 : done 0 = false) : W.cell? ⟨F, 0, none⟩ = some (.int .i64 x) := by
  have := cell_of (h.one.out.oth _ (List.mem_cons_self ..)).1 0
  rw [h.o0 h0] at this; exact this
theorem LPh.cellN (h : LPh b0 w0 L st lv F N x y fx gy rest done f W) (h0 : done 3 = false) : W.cell? ⟨N, 0, none⟩ = some (.int .i64 y) := by
  have := cell_of (h.one.out.oth _ (List.mem_cons_of_mem _ (List.mem_cons_self ..))).1 0
  rw [h.o3 h0] at this; exact this
theorem LPh.storeF (h : LPh b0 w0 L st lv F N x y fx gy rest done f W) (hne : F ≠ N ∧ ∀ p ∈ rest, p.1 ≠ F ∧ p.1 ≠ N) (h0 : done 0 = true) (v : Value) : LPh b0 w0 L st lv F N x y fx gy rest (updB done 6) (upd f 6 v) (W.setCell ⟨F, 0, none⟩ (.int .i64 (fx : Nat))) := by
  have e6 : updB done 6 6 = true := if_pos rfl
  have e7 : updB done 6 7 = done 7 := if_neg (by decide)
  have e0 : updB done 6 0 = done 0 := if_neg (by decide)
  have e3 : updB done 6 3 = done 3 := if_neg (by decide)
  refine ⟨by rw [e0, h0]; exact (fun e => by cases e), by rw [e3, e7]; exact h.o3, ?_⟩
  rw [e6, e7]
  exact h.one.out.setOther (fun p hp => by
    rcases List.mem_cons.1 hp with rfl | hp
    · exact Ne.symm hne.1
    · exact (hne.2 p hp).1) (by decide)
theorem LPh.storeN (h : LPh b0 w0 L st lv F N x y fx gy rest done f W) (hne : F ≠ N ∧ ∀ p ∈ rest, p.1 ≠ F ∧ p.1 ≠ N) (h0 : done 3 = true) (v : Value) : LPh b0 w0 L st lv F N x y fx gy rest (updB done 7) (upd f 7 v) (W.setCell ⟨N, 0, none⟩ (.int .i64 (gy : Nat))) := by
  have e6 : updB done 7 6 = done 6 := if_neg (by decide)
  have e7 : updB done 7 7 = true := if_pos rfl
  have e0 : updB done 7 0 = done 0 := if_neg (by decide)
  have e3 : updB done 7 3 = done 3 := if_neg (by decide)
  refine ⟨by rw [e0, e6]; exact h.o0, by rw [e3, h0]; exact (fun e => by cases e), ?_⟩
  rw [e6, e7]
  have o1 := h.one.out.forget (oth' := (N, .cells #[.int .i64 (if done 7 then (gy : Int) else y)] 3) :: (F, .cells #[.int .i64 (if done 6 then (fx : Int) else x)] 3) :: rest) (fun p hp => by simp at hp ⊢; rcases hp with h | h | h <;> simp [h])
  have o2 := o1.setOther (v := .int .i64 (gy : Nat)) (fun p hp => by
    rcases List.mem_cons.1 hp with rfl | hp
    · exact hne.1
    · exact (hne.2 p hp).2) (by decide)
  exact o2.forget (fun p hp => by simp at hp ⊢; rcases hp with h | h | h <;> simp [h])
end
set_option maxHeartbeats 2000000 in
theorem parts_walk (s : ByteArray) (x y : Int) (w : World) :
    Calls Try.prog 10 #[.string s, .int .i64 x, .int .i64 y] w fun e w' => e = .returned (.bool true) ∧ Below w.heap.size w w' := by
  have hmf : ∀ (fn : Fn) (first cap : Array Value) (w : World), (Instr.makeFunc fn first cap).run Try.prog w = .ok (.func fn first cap) w := fun _ _ _ _ => rfl
  obtain ⟨fx, hfx⟩ : ∃ fx : Nat, max 0 (min x 5) = (fx : Int) := ⟨(max 0 (min x 5)).toNat, by omega⟩
  obtain ⟨gy, hgy⟩ : ∃ gy : Nat, max 0 (min y 6) = (gy : Int) := ⟨(max 0 (min y 6)).toNat, by omega⟩
  have hfx5 : fx ≤ 5 := by omega
  have hgy6 : gy ≤ 6 := by omega
  obtain ⟨n, hn⟩ : ∃ n : Nat, min (gy : Int) (6 - (fx : Int)) = (n : Int) := ⟨(min (gy : Int) (6 - (fx : Int))).toNat, by omega⟩
  have hfn : fx + n ≤ 6 := by omega
  have Hfx : Hid _ := hfx
  have Hgy : Hid _ := hgy
  clear hfx hgy
  go_enter Try.func10, Try.ntmps10
  go_wp2_with fail
  go_call (awake6 _) as e w1 ⟨rfl, hb1⟩
  have h1 : w1.heap[w.heap.size]? = some (.cells #[.string s] 9) := by
    rw [hb1.block _ (by simp; omega), Below.heap_alloc _ _ _ (by simp; omega), Below.heap_alloc _ _ _ (by simp)]; exact heap_new _ _
  have h2 : w1.heap[w.heap.size + 1]? = some (.cells #[.int .i64 x] 3) := by
    rw [hb1.block _ (by simp), Below.heap_alloc _ _ _ (by simp)]
    have := heap_new (w.alloc (.cells #[.string s] 9)) (.cells #[.int .i64 x] 3)
    rw [show (w.alloc (.cells #[.string s] 9)).heap.size = w.heap.size + 1 by simp] at this
    exact this
  have h3 : w1.heap[w.heap.size + 2]? = some (.cells #[.int .i64 y] 3) := by
    rw [hb1.block _ (by simp)]
    have := heap_new ((w.alloc (.cells #[.string s] 9)).alloc (.cells #[.int .i64 x] 3)) (.cells #[.int .i64 y] 3)
    rw [show ((w.alloc (.cells #[.string s] 9)).alloc (.cells #[.int .i64 x] 3)).heap.size = w.heap.size + 2 by simp] at this
    exact this
  have b1 : Below w.heap.size w w1 := ((((Below.refl _ _).alloc (Nat.le_refl _) _).alloc (by simp) _).alloc (by simp; omega) _).trans (hb1.mono (by simp; omega))
  clear hb1
  have hmd := made_any w.heap.size w w1 [(w.heap.size, .cells #[.string s] 9), (w.heap.size + 1, .cells #[.int .i64 x] 3), (w.heap.size + 2, .cells #[.int .i64 y] 3)] b1 b1.size (fun p hp => by
    rcases List.mem_cons.1 hp with rfl | hp
    · exact ⟨h1, apart_of (by decide), Nat.le_refl _⟩
    rcases List.mem_cons.1 hp with rfl | hp
    · exact ⟨h2, apart_of (by decide), by simp⟩
    rcases List.mem_cons.1 hp with rfl | hp
    · exact ⟨h3, apart_of (by decide), by simp⟩
    · cases hp) 3 (by decide) (by decide) 6 (by decide) (by decide)
  clear h1 h2 h3 b1
  generalize hT : w.heap.size = T at *
  go_wp2_with fail
  go_call hmd as e w2 ⟨L, M, rfl, o2⟩
  clear hmd
  have o3 := o2.alloc (.cells #[.pointer (some ⟨M, 0, none⟩)] 53) (apart_of (by decide))
  have hlt2 := o2.lts
  have O3 : Hid (One T w L (st0 3 6) (.slice none 0 0) ((T + 1, .cells #[.int .i64 x] 3) :: (T + 2, .cells #[.int .i64 y] 3) :: [(w2.heap.size, Obj.cells #[.pointer (some ⟨M, 0, none⟩)] 53), (M, med L.P 3 1), (T, Obj.cells #[.string s] 9)]) (w2.alloc (.cells #[.pointer (some ⟨M, 0, none⟩)] 53))) := o3.forget (fun p hp => by simp at hp ⊢; rcases hp with h | h | h | h | h <;> simp [h])
  have hMt : ∀ j, M = T + j → ∀ o, (T + j, o) ∈ [(T, Obj.cells #[.string s] 9), (T + 1, .cells #[.int .i64 x] 3), (T + 2, .cells #[.int .i64 y] 3)] → False := fun j hj o ho => by
    have q1 := (o2.oth (M, med L.P 3 1) (by simp)).1
    have q2 := (o2.oth _ (List.mem_cons_of_mem _ ho)).1
    rw [hj] at q1
    rw [q1] at q2
    injection q2 with q2
    simp at ho
    rcases ho with h | h | h <;> (rw [h.2] at q2; unfold med at q2; injection q2 with _ t _; exact absurd t (by decide))
  have HNE : Hid (T + 1 ≠ T + 2 ∧ ∀ p ∈ [(w2.heap.size, Obj.cells #[.pointer (some ⟨M, 0, none⟩)] 53), (M, med L.P 3 1), (T, Obj.cells #[.string s] 9)], p.1 ≠ T + 1 ∧ p.1 ≠ T + 2) := by
    have l1 := hlt2 (T + 2, .cells #[.int .i64 y] 3) (by simp)
    have l1' : T + 2 < w2.heap.size := l1
    refine ⟨by omega, fun p hp => ?_⟩
    rcases List.mem_cons.1 hp with rfl | hp
    · exact ⟨by show w2.heap.size ≠ _; omega, by show w2.heap.size ≠ _; omega⟩
    rcases List.mem_cons.1 hp with rfl | hp
    · exact ⟨fun e => hMt 1 e (.cells #[.int .i64 x] 3) (by simp), fun e => hMt 2 e (.cells #[.int .i64 y] 3) (by simp)⟩
    rcases List.mem_cons.1 hp with rfl | hp
    · exact ⟨by show T ≠ _; omega, by show T ≠ _; omega⟩
    · cases hp
  clear o2 o3 hMt
  go_wp2_with fail
  refine wp_region_pb (fun f => ⟨#[.string s, .int .i64 x, .int .i64 y, .pointer (some ⟨T, 0, none⟩), .pointer (some ⟨T + 1, 0, none⟩), .pointer (some ⟨T + 2, 0, none⟩), .bool false, .pointer (some ⟨L.P, 0, none⟩), .pointer (some ⟨w2.heap.size, 0, none⟩), undef, undef, undef, undef, .bool true, .bool false, .tuple #[.pointer (some ⟨L.P, 0, none⟩), .pointer (some ⟨M, 0, none⟩)], .tuple #[.pointer (some ⟨L.P, 0, none⟩), .pointer (some ⟨M, 0, none⟩)], .pointer (some ⟨L.P, 0, none⟩), .pointer (some ⟨M, 0, none⟩), .pointer (some ⟨M, 0, none⟩), .bool false, f 0, f 1, f 2, f 3, f 4, f 5, undef, undef, undef, undef, undef, undef, undef, undef, undef, undef, undef, undef, undef, undef, undef, undef, undef, undef, undef, undef, undef, undef, undef], []⟩) (LV x y fx gy) (LPh T w L (st0 3 6) (.slice none 0 0) (T + 1) (T + 2) x y fx gy [(w2.heap.size, Obj.cells #[.pointer (some ⟨M, 0, none⟩)] 53), (M, med L.P 3 1), (T, Obj.cells #[.string s] 9)]) (fun i => [undef, undef, undef, undef, undef, undef, undef, undef].getD i undef) (by kernel_rfl) rfl rfl ?hI ?hput ?step ?fin
  case hI => exact ⟨fun _ => rfl, fun _ => rfl, O3.out.ofBelow ⟨rfl, rfl, rfl, Nat.le_refl _, fun _ _ => rfl⟩⟩
  case fin =>
    intro f W hP hV
    have O4 : Hid (One T w L (st0 3 6) (.slice none 0 0) ((T + 1, .cells #[.int .i64 (fx : Nat)] 3) :: (T + 2, .cells #[.int .i64 (gy : Nat)] 3) :: [(w2.heap.size, Obj.cells #[.pointer (some ⟨M, 0, none⟩)] 53), (M, med L.P 3 1), (T, Obj.cells #[.string s] 9)]) W) := hP.one.out
    have v0 : f 0 = .int .i64 x := hV 0 (by decide)
    have v1 : f 1 = .int .i64 (min x 5) := hV 1 (by decide)
    have v2 : f 2 = .int .i64 (fx : Nat) := hV 2 (by decide)
    have v3 : f 3 = .int .i64 y := hV 3 (by decide)
    have v4 : f 4 = .int .i64 (min y 6) := hV 4 (by decide)
    have v5 : f 5 = .int .i64 (gy : Nat) := hV 5 (by decide)
    clear hP hV
    generalize f 0 = x0 at *
    subst v0
    generalize f 1 = x1 at *
    subst v1
    generalize f 2 = x2 at *
    subst v2
    generalize f 3 = x3 at *
    subst v3
    generalize f 4 = x4 at *
    subst v4
    generalize f 5 = x5 at *
    subst v5
    have o4 := O4.out
    have cF : W.cell? ⟨T + 1, 0, none⟩ = some (.int .i64 (fx : Nat)) := cell_of (o4.oth (T + 1, .cells #[.int .i64 (fx : Nat)] 3) (by simp)).1 0
    have cN : W.cell? ⟨T + 2, 0, none⟩ = some (.int .i64 (gy : Nat)) := cell_of (o4.oth (T + 2, .cells #[.int .i64 (gy : Nat)] 3) (by simp)).1 0
    have fN : W.frozen? ⟨T + 2, 0, none⟩ = false := frz_of (o4.oth (T + 2, .cells #[.int .i64 (gy : Nat)] 3) (by simp)).1 0
    have o5 := (o4.forget (oth' := (T + 2, .cells #[.int .i64 (gy : Nat)] 3) :: (T + 1, .cells #[.int .i64 (fx : Nat)] 3) :: [(w2.heap.size, Obj.cells #[.pointer (some ⟨M, 0, none⟩)] 53), (M, med L.P 3 1), (T, Obj.cells #[.string s] 9)]) (fun p hp => by simp at hp ⊢; rcases hp with h | h | h | h | h <;> simp [h])).setOther (v := .int .i64 (n : Nat)) (fun p hp => by
      rcases List.mem_cons.1 hp with rfl | hp
      · exact HNE.out.1
      · exact (HNE.out.2 p hp).2) (by decide)
    have O5 : Hid _ := o5
    clear o4 o5 O4 O3
    have hsW : (W.setCell ⟨T + 2, 0, none⟩ (.int .i64 (n : Nat))).heap.size = W.heap.size := by simp [World.setCell]
    have o6 := (O5.out.alloc (.cells #[.string ⟨#[]⟩] 9) (apart_of (by decide))).alloc (.cells #[.string ⟨#[]⟩] 9) (apart_of (by decide))
    have hs7 : ((W.setCell ⟨T + 2, 0, none⟩ (.int .i64 (n : Nat))).alloc (.cells #[.string ⟨#[]⟩] 9)).heap.size = W.heap.size + 1 := by simp [hsW]
    rw [hs7, hsW] at o6
    have hlt5 := O5.out.lts
    rw [hsW] at hlt5
    have hs5 : (((W.setCell ⟨T + 2, 0, none⟩ (.int .i64 (n : Nat))).alloc (.cells #[.string ⟨#[]⟩] 9)).alloc (.cells #[.string ⟨#[]⟩] 9)).heap.size = W.heap.size + 2 := by simp [hsW]
    have O6 : Hid _ := o6
    have HS5 : Hid _ := hs5
    have HL5 : Hid _ := hlt5
    clear o6 hs5 hlt5 hsW hs7 O5
    go_wp2_with fail
    generalize hw5 : (((W.setCell ⟨T + 2, 0, none⟩ (.int .i64 (n : Nat))).alloc (.cells #[.string ⟨#[]⟩] 9)).alloc (.cells #[.string ⟨#[]⟩] 9)) = w5 at *
    have g7 := O6.out.guarded
    have hsz5 : w5.heap.size = W.heap.size + 2 := HS5.out
    have g8 : One T w L (st0 3 6) (.slice none 0 0) (oAB W.heap.size (W.heap.size + 1) ⟨#[]⟩ ⟨#[]⟩ ((w5.heap.size + 1, iob) :: (w5.heap.size, bob) :: (T + 2, .cells #[.int .i64 (n : Nat)] 3) :: (T + 1, .cells #[.int .i64 (fx : Nat)] 3) :: [(w2.heap.size, Obj.cells #[.pointer (some ⟨M, 0, none⟩)] 53), (M, med L.P 3 1), (T, Obj.cells #[.string s] 9)])) (G0 w5) := g7.forget (fun p hp => by simp [gob, oAB] at hp ⊢; rcases hp with h | h | h | h | h | h | h | h | h <;> simp [h])
    have hdo : Calls Try.prog 48 #[.pointer (some ⟨w2.heap.size, 0, none⟩), .pointer (some ⟨T, 0, none⟩), .pointer (some ⟨T + 1, 0, none⟩), .pointer (some ⟨T + 2, 0, none⟩), .pointer (some ⟨W.heap.size, 0, none⟩), .pointer (some ⟨W.heap.size + 1, 0, none⟩)] (G0 w5) fun e W' => e = .returned (.tuple #[]) ∧ W'.heap[w5.heap.size]? = some bob ∧ W'.heap[w5.heap.size + 1]? = some iob ∧ (∃ st lv r, r.size = 64 * n ∧ One T w L st lv (gob w5.heap.size [(W.heap.size, .cells #[.string r] 9), (W.heap.size + 1, .cells #[.string r] 9), (T + 2, .cells #[.int .i64 (n : Nat)] 3)]) W') := by
      refine (parts_do T w L _ M w2.heap.size T (T + 1) (T + 2) W.heap.size (W.heap.size + 1) s fx n (by simp) ⟨by omega, ?_⟩ ?_ hfn _ (G0 w5) g8).mono ?_
      · intro p hp
        rcases List.mem_cons.1 hp with rfl | hp
        · exact ⟨by show w5.heap.size + 1 ≠ _; omega, by show w5.heap.size + 1 ≠ _; omega⟩
        rcases List.mem_cons.1 hp with rfl | hp
        · exact ⟨by show w5.heap.size ≠ _; omega, by show w5.heap.size ≠ _; omega⟩
        · have := HL5.out p hp
          exact ⟨by omega, by omega⟩
      · intro p hp c fz e
        simp only [List.mem_cons, List.not_mem_nil, or_false] at hp
        rcases hp with rfl | rfl | rfl | rfl | rfl | rfl | rfl <;> (first | (unfold iob at e) | (unfold bob at e) | (unfold med at e) | skip) <;> (injection e with _ t _; exact absurd t (by decide))
      · rintro e W' ⟨rfl, st, lv, r, hr, oW⟩
        exact ⟨rfl, (oW.oth (w5.heap.size, bob) (by simp [oAB])).1, (oW.oth (w5.heap.size + 1, iob) (by simp [oAB])).1, st, lv, r, hr, oW.forget (fun p hp => by simp [gob, oAB] at hp ⊢; rcases hp with h | h | h | h | h <;> simp [h])⟩
    have hgd := guard_ok 48 _ _ w5 ent48 hdo
    clear hdo g7 g8
    go_call hgd as e w6 ⟨rfl, W', ⟨st, lv, r, hr, oW⟩, hk⟩
    clear hgd
    have o8 := oW.kt (fun p hp => by
      simp only [List.mem_cons, List.not_mem_nil, or_false] at hp
      have := HL5.out (T + 2, .cells #[.int .i64 (n : Nat)] 3) (by simp)
      replace this : T + 2 < W.heap.size := this
      rcases hp with rfl | rfl | rfl
      · show W.heap.size < w5.heap.size; omega
      · show W.heap.size + 1 < w5.heap.size; omega
      · show T + 2 < w5.heap.size; omega) hk
    have rA : ∀ o, (w6.alloc o).cell? ⟨W.heap.size, 0, none⟩ = some (.string r) := fun o => cell_of ((o8.laid o).oth (W.heap.size, .cells #[.string r] 9) (by simp)).1 0
    have rB : ∀ o, (w6.alloc o).cell? ⟨W.heap.size + 1, 0, none⟩ = some (.string r) := fun o => cell_of ((o8.laid o).oth (W.heap.size + 1, .cells #[.string r] 9) (by simp)).1 0
    have rN : ∀ o, (w6.alloc o).cell? ⟨T + 2, 0, none⟩ = some (.int .i64 (n : Nat)) := fun o => cell_of ((o8.laid o).oth (T + 2, .cells #[.int .i64 (n : Nat)] 3) (by simp)).1 0
    have HB : Hid (∀ o, Below T w (w6.alloc o)) := fun o => (o8.laid o).below
    have hr2 : ((r.size : Int) == 64 * (n : Int)) = true := by rw [hr]; simp
    have hr3 : (r.size : Int) = 64 * (n : Int) := by omega
    clear oW hk o8 hw5 cF cN fN hr O6 HS5 HL5 hsz5
    go_wp2
    go_returns
    exact ⟨rfl, by rw [hT]; exact HB.out _⟩
  case hput =>
    repeat (refine ⟨fun f v => rfl, ?_⟩)
    trivial
  case step =>
    refine ⟨?_, ?_⟩
    · intro done f W hP hdn hd K hK
      clear hd
      have q := hP.cellF hdn
      go_simp
      exact hK _ _ rfl (hP.pure _ (by decide) _)
    refine ⟨?_, ?_⟩
    · intro done f W hP hdn hd K hK
      have d0 := (hd.1 rfl).2
      have e0 : done 0 = true := (hd.1 rfl).1
      clear hd
      replace d0 : f 0 = .int .i64 x := d0
      generalize f 0 = x0 at *
      subst d0
      clear e0
      go_simp
      exact hK _ _ rfl (hP.pure _ (by decide) _)
    refine ⟨?_, ?_⟩
    · intro done f W hP hdn hd K hK
      have d1 := (hd.1 rfl).2
      have e1 : done 1 = true := (hd.1 rfl).1
      clear hd
      replace d1 : f 1 = .int .i64 (min x 5) := d1
      generalize f 1 = x1 at *
      subst d1
      clear e1
      have q := Hfx.out
      go_simp
      exact hK _ _ (by show Value.int _ _ = Value.int _ _; first | rfl | rw [q]) (hP.pure _ (by decide) _)
    refine ⟨?_, ?_⟩
    · intro done f W hP hdn hd K hK
      clear hd
      have q := hP.cellN hdn
      go_simp
      exact hK _ _ rfl (hP.pure _ (by decide) _)
    refine ⟨?_, ?_⟩
    · intro done f W hP hdn hd K hK
      have d3 := (hd.1 rfl).2
      have e3 : done 3 = true := (hd.1 rfl).1
      clear hd
      replace d3 : f 3 = .int .i64 y := d3
      generalize f 3 = x3 at *
      subst d3
      clear e3
      go_simp
      exact hK _ _ rfl (hP.pure _ (by decide) _)
    refine ⟨?_, ?_⟩
    · intro done f W hP hdn hd K hK
      have d4 := (hd.1 rfl).2
      have e4 : done 4 = true := (hd.1 rfl).1
      clear hd
      replace d4 : f 4 = .int .i64 (min y 6) := d4
      generalize f 4 = x4 at *
      subst d4
      clear e4
      have q := Hgy.out
      go_simp
      exact hK _ _ (by show Value.int _ _ = Value.int _ _; first | rfl | rw [q]) (hP.pure _ (by decide) _)
    refine ⟨?_, ?_⟩
    · intro done f W hP hdn hd K hK
      have d2 := (hd.1 rfl).2
      have e2 : done 2 = true := (hd.1 rfl).1
      have e0 : done 0 = true := (hd.2.1 rfl).1
      clear hd
      replace d2 : f 2 = .int .i64 (fx : Nat) := d2
      generalize f 2 = x2 at *
      subst d2
      clear e2
      have q2 := hP.one.out
      have q3 := cell_of (q2.oth _ (List.mem_cons_self ..)).1 0
      have q4 := frz_of (q2.oth _ (List.mem_cons_self ..)).1 0
      have HP : Hid _ := hP
      clear q2 hP
      go_simp
      exact hK undef _ trivial (HP.out.storeF HNE.out e0 _)
    refine ⟨?_, ?_⟩
    · intro done f W hP hdn hd K hK
      have d5 := (hd.1 rfl).2
      have e5 : done 5 = true := (hd.1 rfl).1
      have e3 : done 3 = true := (hd.2.2.2.2.2.1 rfl).1
      clear hd
      replace d5 : f 5 = .int .i64 (gy : Nat) := d5
      generalize f 5 = x5 at *
      subst d5
      clear e5
      have q2 := hP.one.out
      have q3 := cell_of (q2.oth _ (List.mem_cons_of_mem _ (List.mem_cons_self ..))).1 0
      have q4 := frz_of (q2.oth _ (List.mem_cons_of_mem _ (List.mem_cons_self ..))).1 0
      have HP : Hid _ := hP
      clear q2 hP
      go_simp
      exact hK undef _ trivial (HP.out.storeN HNE.out e3 _)
    trivial
end Go.Proofs.Ytiohkdpmgkobiaa
