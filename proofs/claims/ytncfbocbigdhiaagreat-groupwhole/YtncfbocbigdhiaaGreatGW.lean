/- count on a device that does all, by what lies there. -/
import Derived.Test.YtncfbocbigdhiaaGreatGV
namespace Go.Proofs.YtncfbocbigdhiaaGreat
open Go.RowKit
theorem rdp_size (y : ByteArray) (k : Nat) (hy : y.size = 64 * k) : (rdp y k).size ≤ 63 * k := by
  unfold rdp
  split
  · rw [tx_size, payL_length y k (by omega)]; exact Nat.le_refl _
  · exact Nat.zero_le _
open Classical in
/-- What Read answers there. -/
noncomputable def zO (st : F.St) (s : Sg) (t k : Nat) : ByteArray := if k = 0 ∨ s.p ≤ t + k then ⟨#[]⟩ else rdp ⟨(F.rdsL st (s.b + t + 1) k).toArray⟩ k
theorem count_si {T1 b0 : Nat} {w0 : World} {L : F.Loc} {st : F.St} {oth : List (Nat × Obj)} {w : World} {Sb : Nat} {s : Sg} {i : Nat} {ps : List Nat} {v0 : Value} (h : SI T1 b0 w0 L st Sb s oth i ps v0 w) (hi : i ≤ 5000)
    (hm : (s.M, F.med L.P st.serial st.session) ∈ oth) (h5 : ∀ p ∈ oth, ∀ c fz, p.2 ≠ .cells c 5 fz)
    (hs : s.b ≤ 10000 ∧ s.p ≤ 64) (t : Nat) (ht : 1 ≤ t) (htp : t < s.p) (hfit : s.b + s.p ≤ st.n) (hn : st.n ≤ 1000) (hdn : st.down = false) (hth : st.there = true) (haw : st.aw = false) (hhw : st.hw = false) (hok : F.SecOk st) (hc : 0 ≤ st.count ∧ st.count ≤ 50000)
    (q : Cm) (hqk : q.k ≤ 255) (er : Int) (htc : ∀ W, Calls Tryz.prog 131 #[.string ⟨(F.rdsL st (s.b + t) 1).toArray⟩] W fun e w' => e = .returned (.tuple #[.agg q.cs, .int .i64 er]) ∧ Below W.heap.size W w') :
    Calls Tryz.prog 99 #[.pointer (some ⟨Sb, 0, none⟩), .int .i64 (t : Nat)] w fun e w' => ∃ v : Nat, e = .returned (.int .i64 (v : Nat)) ∧ (q = s.cm t (zO st s t q.k) → v = q.k) ∧ (q ≠ s.cm t (zO st s t q.k) → v = 0) ∧ SI T1 b0 w0 L st Sb s oth (i + 66) ps v0 w' := by
  obtain ⟨c, lv, ol, hp, ho, hc1, hc2, hr⟩ := h
  have hty := hp.ty
  have h1 : F.One b0 w0 L { st with count := c } lv ((Sb, .cells s.cs 44) :: (ol ++ oth)) w := ho.forget (fun p hp => by
    simp only [List.mem_cons, List.mem_append] at hp ⊢
    rcases hp with hp | hp | hp
    · exact Or.inr (Or.inl hp)
    · exact Or.inl hp
    · exact Or.inr (Or.inr hp))
  have h5' : ∀ p ∈ ol ++ oth, ∀ c fz, p.2 ≠ .cells c 5 fz := by
    intro p hp c fz e
    rcases List.mem_append.1 hp with hp | hp
    · obtain ⟨c', e'⟩ := hty p hp
      rw [e'] at e; injection e with _ e _; exact absurd e (by decide)
    · exact h5 p hp c fz e
  have hzs : (zO st s t q.k).size ≤ 100000 := by
    unfold zO
    split
    · exact Nat.zero_le _
    · refine Nat.le_trans (rdp_size _ _ ?_) (by omega)
      show (F.rdsL st (s.b + t + 1) q.k).toArray.size = _
      rw [List.size_toArray, F.rdsL_length st _ hok _ (by omega)]
  have hcd : ∃ c2 : Int, c + 1 ≤ c2 ∧ c2 ≤ c + 66 ∧ ∀ C W lv', (∀ p ∈ (Sb, .cells s.cs 44) :: (ol ++ oth), p.1 ≠ C) → F.One b0 w0 L { st with count := c + 1 } lv' ((C, .cells q.cs 55) :: (Sb, .cells s.cs 44) :: (ol ++ oth)) W → Calls Tryz.prog 60 #[.pointer (some ⟨Sb, 0, none⟩), .int .i64 (t : Nat), .int .i64 (q.k : Nat)] W fun e W' => e = .returned (.string (zO st s t q.k)) ∧ ∃ lv'', F.One b0 w0 L { st with count := c2 } lv'' ((C, .cells q.cs 55) :: (Sb, .cells s.cs 44) :: (ol ++ oth)) W' := by
    by_cases hk : q.k = 0 ∨ s.p ≤ t + q.k
    · refine ⟨c + 1, Int.le_refl _, by omega, fun C W lv' _ hO => ?_⟩
      have hb := (hO.oth (Sb, _) (List.mem_cons_of_mem _ (List.mem_cons_self ..))).1
      refine (sread_no s hs.2 Sb t q.k ⟨ht, by omega⟩ hk hqk W hb).mono ?_
      rintro e W' ⟨rfl, hbl⟩
      refine ⟨by unfold zO; rw [if_pos hk], lv', hO.ofBelow hbl⟩
    · have hk1 : 1 ≤ q.k := by omega
      have hk2 : t + q.k < s.p := by omega
      refine ⟨c + 1 + (q.k : Int), by omega, by omega, fun C W lv' _ hO => ?_⟩
      have hz : zO st s t q.k = rdp ⟨(F.rdsL st (s.b + t + 1) q.k).toArray⟩ q.k := by unfold zO; rw [if_neg hk]
      rw [hz]
      refine sread_any s hs Sb t q.k ht hk1 hk2 _ ?_ (fun W => ∃ lv, F.One b0 w0 L { st with count := c + 1 } lv ((C, .cells q.cs 55) :: (Sb, .cells s.cs 44) :: (ol ++ oth)) W) (fun W => ∃ lv, F.One b0 w0 L { st with count := c + 1 + (q.k : Int) } lv ((C, .cells q.cs 55) :: (Sb, .cells s.cs 44) :: (ol ++ oth)) W) W ⟨lv', hO⟩ (fun W W' ⟨l, o⟩ hb => ⟨l, o.ofBelow hb⟩) (fun W W' ⟨l, o⟩ hb => ⟨l, o.ofBelow hb⟩) (fun W ⟨l, o⟩ => (o.oth (Sb, _) (List.mem_cons_of_mem _ (List.mem_cons_self ..))).1) (fun W ⟨l, o⟩ => (o.oth (Sb, _) (List.mem_cons_of_mem _ (List.mem_cons_self ..))).1) ?_
      · show (F.rdsL st (s.b + t + 1) q.k).toArray.size = _
        rw [List.size_toArray, F.rdsL_length st _ hok _ (by omega)]
      · rintro W ⟨l, o⟩
        have q1 := o.mread s.M (List.mem_cons_of_mem _ (List.mem_cons_of_mem _ (List.mem_append_right _ hm))) (by
          intro p hp c fz e
          rcases List.mem_cons.1 hp with rfl | hp
          · injection e with _ e _; exact absurd e (by decide)
          · rcases List.mem_cons.1 hp with rfl | hp
            · injection e with _ e _; exact absurd e (by decide)
            · exact h5' p hp c fz e) (s.b + t + 1) q.k (show s.b + t + 1 + q.k ≤ st.n by omega) hn hdn hth haw hhw ⟨hok.1, hok.2⟩ ⟨show 0 ≤ c + 1 by omega, show c + 1 ≤ 100000 by omega⟩
        rw [F.rdsL_count] at q1
        exact q1
  obtain ⟨c2, k1, k2, hrd⟩ := hcd
  have hcount := count_in (st := { st with count := c }) s h1 (List.mem_append_right _ hm) h5' hs t htp (show s.b + t + 1 ≤ st.n by omega) hn hdn hth haw hhw ⟨hok.1, hok.2⟩ ⟨show 0 ≤ c by omega, show c ≤ 100000 by omega⟩ q er (by rw [F.rdsL_count]; exact htc) (zO st s t q.k) hzs c2 hrd
  refine hcount.mono ?_
  rintro e w' ⟨v, rfl, e1, e2, lv', o⟩
  refine ⟨v, rfl, e1, e2, c2, lv', ol, hp, o.forget (fun p hp => ?_), by omega, by omega, hr⟩
  simp only [List.mem_cons, List.mem_append] at hp ⊢
  rcases hp with hp | hp | hp
  · exact Or.inr (Or.inl hp)
  · exact Or.inl hp
  · exact Or.inr (Or.inr hp)
end Go.Proofs.YtncfbocbigdhiaaGreat
