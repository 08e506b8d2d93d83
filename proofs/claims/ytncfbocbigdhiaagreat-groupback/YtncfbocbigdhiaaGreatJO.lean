/- GroupBack's closure, under Guard. -/
import Derived.Test.YtncfbocbigdhiaaGreatJN
namespace Go.Proofs.YtncfbocbigdhiaaGreat
open Go.RowKit
theorem back_guard {T : Nat} {w : World} {L : F.Loc} {n : Nat} {rest : List (Nat × Obj)} {now : Nat → ByteArray} {c : Int} {W : World} {Pb Lb Ib Nb Ab Sb Kb O ln lc i k : Nat} {x : ByteArray} (s : Sg) (h : Dev T w L n ((Sb, .cells s.cs 44) :: (Ab, .cells #[.int .i64 0] 3) :: rest) now c W)
    (pbm : (Pb, Obj.cells #[.pointer (some ⟨Sb, 0, none⟩)] 28) ∈ rest) (plm : (Lb, Obj.cells #[.slice (some ⟨Kb, O, none⟩) ln lc] 22) ∈ rest) (pim : (Ib, Obj.cells #[.int .i64 (i : Nat)] 3) ∈ rest) (pnm : (Nb, Obj.cells #[.int .i64 (k : Nat)] 3) ∈ rest) (hM : (s.M, F.med L.P 1 1) ∈ rest)
    (h12 : Ab ≠ Sb) (hne : ∀ p ∈ rest, p.1 ≠ Sb) (hna : ∀ p ∈ rest, p.1 ≠ Ab) (hil : i < ln) (hi30 : i ≤ 30) (hrow : ∀ W, Below T w W → W.cell? ⟨Kb, O + i * 6, none⟩ = some (.string x)) (hs : s.Ok) (hk1 : 1 ≤ k) (hk2 : k ≤ 100) (hroom : s.a + k < s.p) (hfit : s.b + s.p ≤ n) (hn1 : n ≤ 1000) (hc : c ≤ 600000) :
    Calls Tryz.prog 15 #[.func (.func 16) #[] #[.pointer (some ⟨Pb, 0, none⟩), .pointer (some ⟨Lb, 0, none⟩), .pointer (some ⟨Ib, 0, none⟩), .pointer (some ⟨Nb, 0, none⟩), .pointer (some ⟨Ab, 0, none⟩)]] W fun e w' => e = .returned (.tuple #[.agg #[.int .i64 0, .int .i64 0], .bool false]) ∧ Dev T w L n ((Ab, .cells #[.int .i64 (s.a : Nat)] 3) :: (Sb, .cells (Sg.cs { s with a := s.a + 1 + k }) 44) :: rest) (layC now s (payN x k) k) (c + 100) w' := by
  have hlt := h.lts
  have l1 : Sb < W.heap.size := hlt (Sb, .cells s.cs 44) (by simp)
  have l2 : Ab < W.heap.size := hlt (Ab, .cells #[.int .i64 0] 3) (by simp)
  refine dev_guard (oth2 := (Ab, .cells #[.int .i64 (s.a : Nat)] 3) :: (Sb, .cells (Sg.cs { s with a := s.a + 1 + k }) 44) :: F.gob W.heap.size rest) 16 _ ent16 h (fun hg => op16 (lc := lc) (Pb := Pb) (Lb := Lb) (Ib := Ib) (Nb := Nb) (Ab := Ab) (Sb := Sb) (rest := F.gob W.heap.size rest) s (hg.forget ?_) (by simp [F.gob, pbm]) (by simp [F.gob, plm]) (by simp [F.gob, pim]) (by simp [F.gob, pnm]) (by simp [F.gob, hM]) h12 ?_ ?_ hil hi30 hrow hs hk1 hk2 hroom hfit hn1 hc) ?_ ?_
  · intro p hp
    simp only [F.gob, List.mem_cons] at hp ⊢
    rcases hp with hp | hp | hp | hp | hp
    · exact Or.inr (Or.inr (Or.inl hp))
    · exact Or.inr (Or.inr (Or.inr (Or.inl hp)))
    · exact Or.inl hp
    · exact Or.inr (Or.inl hp)
    · exact Or.inr (Or.inr (Or.inr (Or.inr hp)))
  · intro p hp
    simp only [F.gob, List.mem_cons] at hp
    rcases hp with rfl | rfl | hp
    · show W.heap.size + 1 ≠ Sb; omega
    · show W.heap.size ≠ Sb; omega
    · exact hne p hp
  · intro p hp
    simp only [F.gob, List.mem_cons] at hp
    rcases hp with rfl | rfl | hp
    · show W.heap.size + 1 ≠ Ab; omega
    · show W.heap.size ≠ Ab; omega
    · exact hna p hp
  · intro p hp
    simp only [F.gob, List.mem_cons] at hp ⊢
    rcases hp with hp | hp | hp | hp | hp
    · exact Or.inr (Or.inr (Or.inl hp))
    · exact Or.inr (Or.inr (Or.inr (Or.inl hp)))
    · exact Or.inl hp
    · exact Or.inr (Or.inl hp)
    · exact Or.inr (Or.inr (Or.inr (Or.inr hp)))
  · intro p hp
    simp only [List.mem_cons] at hp
    rcases hp with rfl | rfl | hp
    · exact ⟨by show Ab ≠ _; omega, by show Ab ≠ _; omega⟩
    · exact ⟨by show Sb ≠ _; omega, by show Sb ≠ _; omega⟩
    · have := hlt p (by simp [hp]); exact ⟨by omega, by omega⟩
end Go.Proofs.YtncfbocbigdhiaaGreat
