/- Scan: the places of a segment's groups, as count finds them. -/
import Derived.Test.YtncfbocbigdhiaaGreatGQ
namespace Go.Proofs.YtncfbocbigdhiaaGreat
open Go.RowKit
/-- The places that are found from the first one on, and where the next would be. -/
inductive Way (cnt : Nat → Nat) : List Nat → Nat → Prop
  | nil : Way cnt [] 1
  | next {ps : List Nat} {t : Nat} : Way cnt ps t → 0 < cnt t → Way cnt (ps ++ [t]) (t + 1 + cnt t)
theorem Way.len {cnt : Nat → Nat} {ps : List Nat} {t : Nat} (h : Way cnt ps t) : 2 * ps.length < t := by
  induction h with
  | nil => decide
  | next _ h2 ih => simp; omega
theorem Way.le {cnt : Nat → Nat} {ps : List Nat} {t p : Nat} (hc : ∀ t, 0 < cnt t → t + cnt t < p) (hp : 1 ≤ p) (h : Way cnt ps t) : 1 ≤ t ∧ t ≤ p := by
  induction h with
  | nil => omega
  | next h1 h2 ih => have := hc _ h2; omega
/-- Behind all that is held. -/
structure Mx (T1 Sb : Nat) (oth : List (Nat × Obj)) : Prop where
  lt : ∀ q ∈ oth, q.1 < T1
  sb : Sb < T1
  wit : T1 = Sb + 1 ∨ ∃ q ∈ oth, T1 = q.1 + 1
theorem Mx.of (Sb : Nat) : ∀ oth : List (Nat × Obj), ∃ T1, Mx T1 Sb oth
  | [] => ⟨Sb + 1, ⟨fun q hq => (by cases hq), Nat.lt_succ_self _, Or.inl rfl⟩⟩
  | q :: l => by
    obtain ⟨T1, h⟩ := Mx.of Sb l
    rcases Nat.lt_or_ge q.1 T1 with hq | hq
    · refine ⟨T1, ⟨fun p hp => ?_, h.sb, ?_⟩⟩
      · rcases List.mem_cons.1 hp with rfl | hp
        · exact hq
        · exact h.lt p hp
      · rcases h.wit with h1 | ⟨p, hp, h1⟩
        · exact Or.inl h1
        · exact Or.inr ⟨p, List.mem_cons_of_mem _ hp, h1⟩
    · refine ⟨q.1 + 1, ⟨fun p hp => ?_, by have := h.sb; omega, Or.inr ⟨q, List.mem_cons_self .., rfl⟩⟩⟩
      rcases List.mem_cons.1 hp with rfl | hp
      · omega
      · have := h.lt p hp; omega
theorem Mx.le {T1 Sb : Nat} {oth : List (Nat × Obj)} (h : Mx T1 Sb oth) {b0 : Nat} {w0 : World} {L : F.Loc} {st : F.St} {lv : Value} {ol : List (Nat × Obj)} {o : Obj} {w : World} (ho : F.One b0 w0 L st lv (ol ++ (Sb, o) :: oth) w) : b0 ≤ T1 ∧ T1 ≤ w.heap.size := by
  rcases h.wit with h1 | ⟨q, hq, h1⟩
  · have e := ho.oth (Sb, o) (List.mem_append_right _ (List.mem_cons_self ..))
    have := F.getElem?_lt e.1
    have := e.2.2.2
    have : b0 ≤ Sb := this
    have : Sb < w.heap.size := F.getElem?_lt e.1
    omega
  · have e := ho.oth q (List.mem_append_right _ (List.mem_cons_of_mem _ hq))
    have := F.getElem?_lt e.1
    have := e.2.2.2
    omega
/-- A segment's box, the places that were found, and at most so many reads more. -/
def SI (T1 b0 : Nat) (w0 : World) (L : F.Loc) (st : F.St) (Sb : Nat) (s : Sg) (oth : List (Nat × Obj)) (i : Nat) (ps : List Nat) (v : Value) (W : World) : Prop :=
  ∃ c lv ol, Plc v ps ol ∧ F.One b0 w0 L { st with count := c } lv (ol ++ (Sb, .cells s.cs 44) :: oth) W ∧ st.count ≤ c ∧ c ≤ st.count + i ∧ ∀ p ∈ ol, T1 ≤ p.1
section
variable {T1 b0 : Nat} {w0 : World} {L : F.Loc} {st : F.St} {Sb : Nat} {s : Sg} {oth : List (Nat × Obj)} {i : Nat} {ps : List Nat} {v : Value} {W W' : World}
theorem SI.below (h : SI T1 b0 w0 L st Sb s oth i ps v W) (hb : Below W.heap.size W W') : SI T1 b0 w0 L st Sb s oth i ps v W' := by
  obtain ⟨c, lv, ol, h1, h2, h3⟩ := h
  exact ⟨c, lv, ol, h1, h2.ofBelow hb, h3⟩
theorem Plc.ty {ol : List (Nat × Obj)} (h : Plc v ps ol) : ∀ p ∈ ol, ∃ c, p.2 = .cells c 3 := by
  rcases h with ⟨rfl, rfl, rfl⟩ | ⟨g, cap, cur, rfl, rfl, _⟩
  · intro p hp; cases hp
  · intro p hp; rw [List.mem_singleton.1 hp]; exact ⟨_, rfl⟩
theorem SI.apart (hx : Mx T1 Sb oth) {ol : List (Nat × Obj)} {o : Obj} (hm : ∀ p ∈ ol, T1 ≤ p.1) : ∀ p ∈ ol, ∀ q ∈ (Sb, o) :: oth, p.1 ≠ q.1 := by
  intro p hp q hq e
  have h1 := hm p hp
  rcases List.mem_cons.1 hq with rfl | hq
  · have := hx.sb
    have : p.1 = Sb := e
    omega
  · have := hx.lt q hq; omega
theorem Plc.ownT {b0 : Nat} {w0 : World} {L : F.Loc} {st : F.St} {lv : Value} {oth : List (Nat × Obj)} {w : World} {v : Value} {mays : List Nat} {ol : List (Nat × Obj)} (h : Plc v mays ol) (ho : F.One b0 w0 L st lv oth w) (hs : ∀ p ∈ ol, p ∈ oth) {T1 : Nat} (hT : ∀ p ∈ ol, T1 ≤ p.1) : w.ownsRow T1 3 1 v mays.length (mays.map nv) := by
  rcases h with ⟨rfl, rfl, rfl⟩ | ⟨g, cap, cur, rfl, rfl, h1, h2, h3, h4⟩
  · exact ⟨rfl, Or.inl ⟨rfl, rfl⟩⟩
  · obtain ⟨o1, _, _, o4⟩ := ho.oth (g, .cells cur 3) (hs _ (List.mem_singleton.2 rfl))
    exact ⟨by simp, Or.inr ⟨g, cap, cur, rfl, hT _ (List.mem_singleton.2 rfl), o1, h1, h2, by rw [Nat.mul_one]; exact h3, by rw [Nat.mul_one]; exact h4⟩⟩
theorem Plc.grownT {T1 b0 : Nat} {w0 : World} {L : F.Loc} {st : F.St} {lv : Value} {oth : List (Nat × Obj)} {w w' : World} {v v' : Value} {mays mays' : List Nat} {ol : List (Nat × Obj)} (h : Plc v mays ol) (ho : F.One b0 w0 L st lv (ol ++ oth) w) (hd : ∀ p ∈ ol, ∀ q ∈ oth, p.1 ≠ q.1) (hg : w.grownBy w' v.ownBlock) (hb0 : b0 ≤ T1) (hn : w'.ownsRow T1 3 1 v' mays'.length (mays'.map nv)) (hne : mays' ≠ []) :
    ∃ ol', Plc v' mays' ol' ∧ F.One b0 w0 L st lv (ol' ++ oth) w' ∧ ∀ p ∈ ol', T1 ≤ p.1 := by
  have hr : ∀ g, v.ownBlock = some g → b0 ≤ g ∧ ∃ c, w.heap[g]? = some (.cells c 3) := by
    intro g e
    rcases h with ⟨rfl, rfl, rfl⟩ | ⟨g', cap, cur, rfl, rfl, _⟩
    · cases e
    · injection e with e
      subst e
      obtain ⟨o1, _, _, o4⟩ := ho.oth (g', .cells cur 3) (by simp)
      exact ⟨o4, cur, o1⟩
  have h1 : F.One b0 w0 L st lv oth w := ho.forget (fun p hp => List.mem_append_right _ hp)
  have h2 := h1.grownI hg hr (by
    intro p hp e
    rcases h with ⟨rfl, rfl, rfl⟩ | ⟨g', cap, cur, rfl, rfl, _⟩
    · cases e
    · injection e with e
      exact hd (g', .cells cur 3) (List.mem_singleton.2 rfl) p hp e)
  rcases hn.2 with ⟨_, e0⟩ | ⟨g, cap, cur, rfl, k1, k2, k3, k4, k5, k6⟩
  · exact absurd (List.eq_nil_of_length_eq_zero e0) hne
  · rw [Nat.mul_one] at k5 k6
    exact ⟨[(g, .cells cur 3)], Or.inr ⟨g, cap, cur, rfl, rfl, k3, k4, k5, k6⟩, h2.addI k2 (Nat.le_trans hb0 k1), fun p hp => by rw [List.mem_singleton.1 hp]; exact k1⟩
theorem SI.step (hx : Mx T1 Sb oth) (h : SI T1 b0 w0 L st Sb s oth i ps v W) (t : Nat) : W.ownsRow T1 3 1 v ps.length (ps.map nv) ∧ T1 ≤ W.heap.size ∧ ∀ v' w', w'.ownsRow T1 3 1 v' (ps ++ [t]).length ((ps ++ [t]).map nv) → W.grownBy w' v.ownBlock → SI T1 b0 w0 L st Sb s oth i (ps ++ [t]) v' w' := by
  obtain ⟨c, lv, ol, hm, ho, hc1, hc2, hr⟩ := h
  refine ⟨hm.ownT ho (fun p hp => List.mem_append_left _ hp) hr, (hx.le ho).2, fun v' w' q1 q2 => ?_⟩
  obtain ⟨ol2, m2, o2, o3⟩ := hm.grownT ho (SI.apart hx hr) q2 (hx.le ho).1 q1 (by simp)
  exact ⟨c, lv, ol2, m2, o2, hc1, hc2, o3⟩
theorem SI.box (h : SI T1 b0 w0 L st Sb s oth i ps v W) : W.heap[Sb]? = some (.cells s.cs 44) := by
  obtain ⟨c, lv, ol, hm, ho, hc⟩ := h
  exact (ho.oth (Sb, _) (List.mem_append_right _ (List.mem_cons_self ..))).1
theorem SI.put (hx : Mx T1 Sb oth) (hne : ∀ p ∈ oth, p.1 ≠ Sb) (h : SI T1 b0 w0 L st Sb s oth i ps v W) (s' : Sg) (k : KS6 Sb W W') (hb : W'.heap[Sb]? = some (.cells s'.cs 44)) : SI T1 b0 w0 L st Sb s' oth i ps v W' := by
  obtain ⟨c, lv, ol, hm, ho, hc⟩ := h
  have ha := SI.apart (o := .cells s.cs 44) hx hc.2.2
  have h1 : F.One b0 w0 L { st with count := c } lv ((Sb, .cells s.cs 44) :: (ol ++ oth)) W := ho.forget (fun p hp => by
    simp only [List.mem_cons, List.mem_append] at hp ⊢
    rcases hp with hp | hp | hp
    · exact Or.inr (Or.inl hp)
    · exact Or.inl hp
    · exact Or.inr (Or.inr hp))
  have h2 := h1.other6 (c := s'.cs) (fun p hp => by
    rcases List.mem_append.1 hp with hp | hp
    · exact ha p hp _ (List.mem_cons_self ..)
    · exact hne p hp) k hb
  exact ⟨c, lv, ol, hm, h2.forget (fun p hp => by
    simp only [List.mem_cons, List.mem_append] at hp ⊢
    rcases hp with hp | hp | hp
    · exact Or.inr (Or.inl hp)
    · exact Or.inl hp
    · exact Or.inr (Or.inr hp)), hc⟩
end
set_option maxHeartbeats 2000000 in
set_option maxRecDepth 100000 in
theorem scan_any {b0 : Nat} {w0 : World} {L : F.Loc} {st : F.St} {lv : Value} {oth : List (Nat × Obj)} {w : World} {Sb : Nat} (s : Sg) (h : F.One b0 w0 L st lv ((Sb, .cells s.cs 44) :: oth) w) {T1 : Nat} (hx : Mx T1 Sb oth) (hne : ∀ p ∈ oth, p.1 ≠ Sb)
    (hp : 1 ≤ s.p ∧ s.p ≤ 64) (cnt : Nat → Nat) (hcb : ∀ t, 0 < cnt t → t + cnt t < s.p)
    (hcnt : ∀ ps v i t W, 1 ≤ t → t ≤ s.p → i ≤ 5000 → SI T1 b0 w0 L st Sb s oth i ps v W → Calls Tryz.prog 99 #[.pointer (some ⟨Sb, 0, none⟩), .int .i64 (t : Nat)] W fun e w' => e = .returned (.int .i64 (cnt t : Nat)) ∧ SI T1 b0 w0 L st Sb s oth (i + 66) ps v w') :
    Calls Tryz.prog 59 #[.pointer (some ⟨Sb, 0, none⟩)] w fun e w' => ∃ ps t v, Way cnt ps t ∧ cnt t = 0 ∧ e = .returned v ∧ SI T1 b0 w0 L st Sb { s with a := t } oth (66 * ps.length + 66) ps v w' := by
  have H0 : Hid (SI T1 b0 w0 L st Sb s oth 0 [] (.slice none 0 0) w) := ⟨st.count, lv, [], Or.inl ⟨rfl, rfl, rfl⟩, by simpa using h, Int.le_refl _, by simp, fun p hp => by cases hp⟩
  have HLE : Hid (∀ ps t, Way cnt ps t → 1 ≤ t ∧ t ≤ s.p ∧ 2 * ps.length < t) := fun ps t hw => ⟨(hw.le hcb hp.1).1, (hw.le hcb hp.1).2, hw.len⟩
  have HC : Hid _ := hcnt
  have HCB : Hid _ := hcb
  have h1 := hcnt [] (.slice none 0 0) 0 1 w (Nat.le_refl _) hp.1 (by omega) H0.out
  replace h1 : Calls Tryz.prog 99 #[.pointer (some ⟨Sb, 0, none⟩), .int .i64 1] w fun e w' => e = .returned (.int .i64 (cnt 1 : Nat)) ∧ SI T1 b0 w0 L st Sb s oth 66 [] (.slice none 0 0) w' := h1
  obtain ⟨hp1, hp2⟩ := hp
  clear h hcnt hcb
  go_enter Tryz.func59, Tryz.ntmps59
  go_wp2_with fail
  go_call h1 as e w1 ⟨rfl, k1⟩
  have K1 : Hid _ := k1
  clear k1 h1 H0
  go_wp2
  go_loopw [3, 4, 5] (fun pv av nv' wr => ∃ (ps : List Nat) (t : Nat), av = .int .i64 (t : Nat) ∧ nv' = .int .i64 (cnt t : Nat) ∧ Hid (Way cnt ps t ∧ SI T1 b0 w0 L st Sb s oth (66 * ps.length + 66) ps pv wr)) (fun _ av _ _ => 65 - (intOf av).toNat)
  case atStart => exact ⟨[], 1, rfl, rfl, Way.nil, K1.out⟩
  case round =>
    obtain ⟨ps, t, rfl, rfl, HI⟩ := hrel
    obtain ⟨ht1, ht2, hl2⟩ := HLE.out ps t HI.out.1
    obtain ⟨n, hn⟩ : ∃ n, n = cnt t := ⟨_, rfl⟩
    rw [← hn]
    have HN : Hid _ := hn
    clear hn K1
    rcases Nat.eq_zero_or_pos n with rfl | hpos
    · have hb4 := HI.out.2.box
      have g6 := F.cell_of hb4 6
      have k6 := F.frz_of hb4 6
      replace g6 : wr.cell? ⟨Sb, 6, none⟩ = some (.int .i64 (s.a : Nat)) := g6
      have HE : Hid (KS6 Sb wr (wr.setCell ⟨Sb, 6, none⟩ (.int .i64 (t : Nat))) ∧ (wr.setCell ⟨Sb, 6, none⟩ (.int .i64 (t : Nat))).heap[Sb]? = some (.cells (Sg.cs { s with a := t }) 44)) := ⟨KS6.set Sb wr 6 _, by rw [F.block_set hb4]; rfl⟩
      clear hb4
      go_wp2
      go_returns
      exact ⟨ps, t, _, HI.out.1, HN.out.symm, rfl, HI.out.2.put hx hne { s with a := t } HE.out.1 HE.out.2⟩
    · have hpi : (0 : Int) < (n : Int) := by omega
      have hnb : t + n < s.p := by rw [HN.out]; exact HCB.out t (by rw [← HN.out]; exact hpos)
      have hni : (n : Int) ≤ 64 := by omega
      have hti : (t : Int) ≤ 64 := by omega
      have I7 : Hid (SI T1 b0 w0 L st Sb s oth (66 * ps.length + 66) ps u3 (wr.alloc (.cells #[.int .i64 (t : Nat)] 3))) := HI.out.2.below (Below.alloc (Below.refl _ _) (Nat.le_refl _) _)
      obtain ⟨hown, hbw, hgr⟩ := I7.out.step hx t
      have hG : (wr.alloc (.cells #[.int .i64 (t : Nat)] 3)).heap[wr.heap.size]? = some (.cells #[nv t] 3) := F.heap_new _ _
      have HOWN : Hid _ := hown
      have HGR : Hid _ := hgr
      clear hown hgr
      go_wp2_with (first | refine pappend rfl _ _ rfl T1 u3 ps rfl HOWN.out wr.heap.size rfl t hG (by omega) hbw (fun v' w' q1 q2 => ?_) | fail)
      have I8 : SI T1 b0 w0 L st Sb s oth (66 * ps.length + 66) (ps ++ [t]) v' w' := HGR.out v' w' q1 q2
      have hcast : (t : Int) + (1 + (n : Int)) = ((t + 1 + n : Nat) : Int) := by omega
      have hW2 : Hid (Way cnt (ps ++ [t]) (t + 1 + n)) := by
        have q := Way.next HI.out.1 (by rw [← HN.out]; exact hpos)
        rw [← HN.out] at q
        exact q
      have h2 := HC.out (ps ++ [t]) v' (66 * ps.length + 66) (t + 1 + n) w' (by omega) (by omega) (by omega) I8
      rw [← hcast] at h2
      clear q1 q2 I8 HGR HOWN hG hbw I7 HI
      go_call h2 as e w3 ⟨rfl, k3⟩
      have K3 : Hid _ := k3
      clear k3 h2
      go_wp2
      go_roundw
      case rel => exact ⟨ps ++ [t], t + 1 + n, by congr 1, rfl, hW2.out, by
        have q := K3.out
        have e : 66 * (ps ++ [t]).length + 66 = 66 * ps.length + 66 + 66 := by simp; omega
        rw [e]; exact q⟩
      case measure =>
        show 65 - (((t : Int) + 1 + (n : Int))).toNat < 65 - ((t : Nat) : Int).toNat
        omega
end Go.Proofs.YtncfbocbigdhiaaGreat
