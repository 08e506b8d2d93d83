/- awake of the statements on groups, as a call. -/
import Derived.Test.YtncfbocbigdhiaaGreatJF
namespace Go.Proofs.YtncfbocbigdhiaaGreat
open Go.RowKit
theorem dev0 {T : Nat} {w : World} {L : F.Loc} {n : Nat} {oth : List (Nat × Obj)} {lv : Value} {W : World} (h : F.One T w L (F.st0 1 n) lv oth W) : Dev T w L n oth (fun _ => F.pad ⟨#[]⟩) 0 W :=
  ⟨F.st0 1 n, lv, _, h, rfl, rfl, rfl, rfl, ⟨rfl, rfl, rfl⟩, F.dv0 1 n, Int.le_refl _, Int.le_refl _, rfl⟩
theorem pad0 : (F.pad ⟨#[]⟩)[0]? = some 0 := by decide
theorem ksec0 : Ksec (F.pad ⟨#[]⟩) := ⟨F.pad_size _ (by decide), Or.inl (by rw [pad0]; decide)⟩
theorem dev_of {T : Nat} {w : World} {L : F.Loc} {n : Nat} {oth : List (Nat × Obj)} {now : Nat → ByteArray} {c : Int} {W : World} (h : Dev T w L n oth now c W) (p : Nat) :
    Calls Tryz.prog 13 #[.pointer (some ⟨L.P, 0, none⟩), .int .i64 (p : Nat)] W fun e w' => ∃ S M, e = .returned (.pointer (some ⟨S, 0, none⟩)) ∧ Dev T w L n ((S, .cells (sg0 M p).cs 44) :: (M, F.med L.P 1 1) :: oth) now c w' ∧ S ≠ M ∧ (∀ q ∈ oth, q.1 ≠ S) := by
  obtain ⟨st, lv, ats, ho, h2, h3, h4, h5, h6⟩ := h.ex
  refine (of13 ho h5 h3 p).mono ?_
  rintro e w' ⟨S, M, rfl, o1, a, b⟩
  rw [h4] at o1
  exact ⟨S, M, rfl, ⟨st, lv, ats, o1, h2, h3, h4, h5, h6⟩, a, b⟩
theorem dev_room {T : Nat} {w : World} {L : F.Loc} {n : Nat} {oth : List (Nat × Obj)} {now : Nat → ByteArray} {c : Int} {W : World} {Sb : Nat} (s : Sg) (h : Dev T w L n oth now c W) (hS : (Sb, .cells s.cs 44) ∈ oth) (k : Int) (hs : s.p ≤ 1000 ∧ s.a ≤ 1000) (b : Bool) (hb : decide (0 < k ∧ k < (s.p : Nat) - (s.a : Nat)) = b) :
    Calls Tryz.prog 14 #[.pointer (some ⟨Sb, 0, none⟩), .int .i64 k] W fun e w' => e = .returned (.bool b) ∧ Dev T w L n oth now c w' := by
  refine (room_any s Sb k W (h.at' hS) hs).mono ?_
  rintro e w' ⟨rfl, hbl⟩
  rw [hb]
  exact ⟨rfl, h.below hbl⟩
theorem Dev.guarded {T : Nat} {w : World} {L : F.Loc} {n : Nat} {oth : List (Nat × Obj)} {now : Nat → ByteArray} {c : Int} {W : World} (h : Dev T w L n oth now c W) : Dev T w L n (F.gob W.heap.size oth) now c (F.G0 W) := by
  obtain ⟨st, lv, ats, h1, h2⟩ := h.ex
  exact ⟨st, lv, ats, h1.guarded, h2⟩
theorem Dev.kt {T : Nat} {w : World} {L : F.Loc} {n : Nat} {oth : List (Nat × Obj)} {now : Nat → ByteArray} {c : Int} {W W' : World} {B : Nat} (h : Dev T w L n (F.gob B oth) now c W) (hne : ∀ p ∈ oth, p.1 ≠ B ∧ p.1 ≠ B + 1) (k : F.KT B W W') : Dev T w L n oth now c W' := by
  obtain ⟨st, lv, ats, h1, h2⟩ := h.ex
  exact ⟨st, lv, ats, h1.kt2 hne k, h2⟩
/-- A function that only ends well, within Guard. -/
theorem dev_guard {T : Nat} {w : World} {L : F.Loc} {n : Nat} {oth oth2 oth3 : List (Nat × Obj)} {now now2 : Nat → ByteArray} {c c2 : Int} {W : World} (f : Nat) (cap : Array Value) (hent : ∀ args W, (callFunc f args).run Tryz.prog W = .ok (.enter f args) W) (h : Dev T w L n oth now c W)
    (hop : Dev T w L n (F.gob W.heap.size oth) now c (F.G0 W) → Calls Tryz.prog f cap (F.G0 W) fun e W' => e = .returned (.tuple #[]) ∧ Dev T w L n oth2 now2 c2 W') (hs : ∀ p ∈ F.gob W.heap.size oth3, p ∈ oth2) (hne : ∀ p ∈ oth3, p.1 ≠ W.heap.size ∧ p.1 ≠ W.heap.size + 1) :
    Calls Tryz.prog 15 #[.func (.func f) #[] cap] W fun e w' => e = .returned (.tuple #[.agg #[.int .i64 0, .int .i64 0], .bool false]) ∧ Dev T w L n oth3 now2 c2 w' := by
  refine (F.guard_ok f cap (fun W' => Dev T w L n oth2 now2 c2 W') W hent ((hop h.guarded).mono ?_)).mono ?_
  · rintro e W' ⟨rfl, hd⟩
    exact ⟨rfl, hd.at' (p := (W.heap.size, F.bob)) (hs _ (by simp [F.gob])), hd.at' (p := (W.heap.size + 1, F.iob)) (hs _ (by simp [F.gob])), hd⟩
  · rintro e w' ⟨rfl, W2, hd, hk⟩
    exact ⟨rfl, (hd.forget hs).kt hne hk⟩
set_option maxHeartbeats 2000000 in
set_option maxRecDepth 100000 in
theorem awake11 (w : World) : Calls Tryz.prog 11 #[] w fun e w' => e = .returned (.bool true) ∧ Below w.heap.size w w' := by
  have hmk := F.made_any w.heap.size w w [] (Below.refl _ _) (Nat.le_refl _) (by intro p hp; cases hp) 1 (by decide) (by decide) 70 (by decide) (by decide)
  go_enter Tryz.func11, Tryz.ntmps11
  go_wp2_with fail
  go_call hmk as e w1 ⟨L, M0, rfl, o1⟩
  have hd1 := dev0 o1
  have hof := dev_of hd1 8
  clear hmk o1 hd1
  go_wp2_with fail
  go_call hof as e w2 ⟨S, M, rfl, hd2, hSM, hne2⟩
  have hl2 := hd2.lts
  have hd3 := hd2.alloc (.cells #[.pointer (some ⟨S, 0, none⟩)] 28) (F.apart_of (by decide))
  have HL2 : Hid (S < w2.heap.size ∧ M < w2.heap.size ∧ M0 < w2.heap.size) := ⟨hl2 (S, .cells (sg0 M 8).cs 44) (by simp), hl2 (M, F.med L.P 1 1) (by simp), hl2 (M0, F.med L.P 1 1) (by simp)⟩
  have HSM : Hid _ := hSM
  have HN2 : Hid (M0 ≠ S) := hne2 (M0, F.med L.P 1 1) (by simp)
  have hr6 := dev_room (Sb := S) (sg0 M 8) hd3 (by simp) 6 (by show 8 ≤ 1000 ∧ 1 ≤ 1000; decide) true (by show decide ((0:Int) < 6 ∧ (6:Int) < ((8:Nat):Int) - ((1:Nat):Int)) = true; decide)
  clear hof hd2 hl2 hSM hne2 hd3
  go_wp2_with fail
  go_call hr6 as e w3 ⟨rfl, hd4⟩
  have hr7 := dev_room (Sb := S) (sg0 M 8) hd4 (by simp) 7 (by show 8 ≤ 1000 ∧ 1 ≤ 1000; decide) false (by show decide ((0:Int) < 7 ∧ (7:Int) < ((8:Nat):Int) - ((1:Nat):Int)) = false; decide)
  have c4 := F.cell_of (hd4.at' (p := (w2.heap.size, .cells #[.pointer (some ⟨S, 0, none⟩)] 28)) (by simp)) 0
  simp at c4
  clear hr6 hd4
  go_wp2_with fail
  go_call hr7 as e w4 ⟨rfl, hd5⟩
  have hd6 := hd5.alloc (.cells #[.int .i64 0] 3) (F.apart_of (by decide))
  have hl5 := hd5.lts
  have l5 : w2.heap.size < w4.heap.size := hl5 (w2.heap.size, .cells #[.pointer (some ⟨S, 0, none⟩)] 28) (by simp)
  have hs2 := HL2.out
  have hn2 := HN2.out
  have hsm := HSM.out
  have e6 : (w4.alloc (.cells #[.int .i64 0] 3)).heap.size = w4.heap.size + 1 := by simp
  have hgd := dev_guard (oth3 := (w4.heap.size, .cells #[.int .i64 1] 3) :: (S, .cells (Sg.cs { sg0 M 8 with a := 4 }) 44) :: (w2.heap.size, .cells #[.pointer (some ⟨S, 0, none⟩)] 28) :: []) 49 #[.pointer (some ⟨w2.heap.size, 0, none⟩), .pointer (some ⟨w4.heap.size, 0, none⟩)] ent49 hd6 (fun hg => op49 (Sb := S) (Ab := w4.heap.size) (Pb := w2.heap.size) (M := M) (rest := F.gob (w4.heap.size + 1) ((w2.heap.size, .cells #[.pointer (some ⟨S, 0, none⟩)] 28) :: (M, F.med L.P 1 1) :: (M0, F.med L.P 1 1) :: [])) (hg.forget (by
    rw [e6]
    intro p hp
    simp only [F.gob, List.mem_cons] at hp ⊢
    rcases hp with rfl | rfl | rfl | rfl | rfl | rfl | rfl | hp <;> simp [*])) (by simp [F.gob]) (by simp [F.gob]) (by omega) (by
      intro p hp
      simp only [F.gob, List.mem_cons, List.not_mem_nil, or_false] at hp
      rcases hp with rfl | rfl | rfl | rfl | rfl
      · show w4.heap.size + 1 + 1 ≠ S; omega
      · show w4.heap.size + 1 ≠ S; omega
      · show w2.heap.size ≠ S; omega
      · exact fun e => hsm e.symm
      · exact hn2) (by
      intro p hp
      simp only [F.gob, List.mem_cons, List.not_mem_nil, or_false] at hp
      rcases hp with rfl | rfl | rfl | rfl | rfl
      · show w4.heap.size + 1 + 1 ≠ _; omega
      · show w4.heap.size + 1 ≠ _; omega
      · show w2.heap.size ≠ _; omega
      · show M ≠ _; omega
      · show M0 ≠ _; omega) (by decide)) (by
    rw [e6]
    intro p hp
    simp only [F.gob, List.mem_cons, List.not_mem_nil, or_false] at hp ⊢
    rcases hp with rfl | rfl | rfl | rfl | rfl <;> simp [*]) (by
    rw [e6]
    intro p hp
    simp only [List.mem_cons, List.not_mem_nil, or_false] at hp
    rcases hp with rfl | rfl | rfl
    · show w4.heap.size ≠ _ ∧ w4.heap.size ≠ _; omega
    · show S ≠ _ ∧ S ≠ _; omega
    · show w2.heap.size ≠ _ ∧ w2.heap.size ≠ _; omega)
  have hmf : ∀ (fn : Fn) (first cap : Array Value) (w : World), (Instr.makeFunc fn first cap).run Tryz.prog w = .ok (.func fn first cap) w := fun _ _ _ _ => rfl
  clear hr7 hd5 hd6 hl5 l5 hs2 hn2 hsm e6 c4
  go_wp2_with fail
  go_call hgd as e w5 ⟨rfl, hd7⟩
  have hr3 := fun o => dev_room (Sb := S) { sg0 M 8 with a := 4 } (hd7.below ((Below.refl _ _).alloc (Nat.le_refl _) o)) (by simp) 3 (by show 8 ≤ 1000 ∧ 4 ≤ 1000; decide) true (by show decide ((0:Int) < 3 ∧ (3:Int) < ((8:Nat):Int) - ((4:Nat):Int)) = true; decide)
  have HR3 : Hid _ := hr3
  have HD7 : Hid _ := hd7
  have q1 : ∀ o, (w5.alloc o).cell? ⟨w4.heap.size, 0, none⟩ = some (.int .i64 1) := fun o => by
    have := F.cell_of ((hd7.below ((Below.refl _ _).alloc (Nat.le_refl _) o)).at' (p := (w4.heap.size, .cells #[.int .i64 1] 3)) (by simp)) 0
    exact this
  have q2 : ∀ o, (w5.alloc o).cell? ⟨w2.heap.size, 0, none⟩ = some (.pointer (some ⟨S, 0, none⟩)) := fun o => by
    have := F.cell_of ((hd7.below ((Below.refl _ _).alloc (Nat.le_refl _) o)).at' (p := (w2.heap.size, .cells #[.pointer (some ⟨S, 0, none⟩)] 28)) (by simp)) 0
    exact this
  have q3 : ∀ o, (w5.alloc o).cell? ⟨S, 6, none⟩ = some (.int .i64 4) := fun o => by
    have := F.cell_of ((hd7.below ((Below.refl _ _).alloc (Nat.le_refl _) o)).at' (p := (S, .cells (Sg.cs { sg0 M 8 with a := 4 }) 44)) (by simp)) 6
    exact this
  clear hgd hd7 hr3
  go_wp2_with fail
  go_call (HR3.out _) as e w6 ⟨rfl, hd8⟩
  have q4 : w6.cell? ⟨w2.heap.size, 0, none⟩ = some (.pointer (some ⟨S, 0, none⟩)) := F.cell_of (hd8.at' (p := (w2.heap.size, .cells #[.pointer (some ⟨S, 0, none⟩)] 28)) (by simp)) 0
  have hr4 := dev_room (Sb := S) { sg0 M 8 with a := 4 } hd8 (by simp) 4 (by show 8 ≤ 1000 ∧ 4 ≤ 1000; decide) false (by show decide ((0:Int) < 4 ∧ (4:Int) < ((8:Nat):Int) - ((4:Nat):Int)) = false; decide)
  clear hd8 q1 q2 q3
  go_wp2_with fail
  go_call hr4 as e w7 ⟨rfl, hd9⟩
  have HB9 : Hid _ := hd9.bel
  clear hr4 hd9 q4
  go_wp2
  go_returns
  exact ⟨rfl, HB9.out⟩
end Go.Proofs.YtncfbocbigdhiaaGreat
