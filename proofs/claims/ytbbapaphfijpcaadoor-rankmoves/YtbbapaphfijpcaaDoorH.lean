/- What moves, as a call; the document's order; the fixed fact. -/
import Derived.Test.YtbbapaphfijpcaaDoorG
namespace Go.Proofs.YtbbapaphfijpcaaDoor
open Go.RowKit Go.Sort Go.Lib
theorem Own.len {T : Nat} {v : Value} {l : List Int} {w : World} (h : Own T v l w) : ∃ ao cp, v = .slice ao l.length cp := by
  rcases h.cases with ⟨rfl, rfl⟩ | ⟨g, cap, cur, rfl, _⟩
  · exact ⟨_, _, rfl⟩
  · exact ⟨_, _, rfl⟩
/-- The first ones. -/
def topL (k : ByteArray) (l : List Int) (r : Int) : List Int := (ord (wt k) l).take r.toNat
theorem ord_len (W : Int → Nat) (l : List Int) : (ord W l).length ≤ l.length := by
  have key : ∀ (x : Int) (o : List Int), (ins W x o).length ≤ o.length + 1 := by
    intro x o
    induction o with
    | nil => simp [ins]
    | cons y t ih =>
      unfold ins
      split
      · simp
      · split
        · simp
        · simp only [List.length_cons]; omega
  have fold : ∀ (l o : List Int), (l.foldl (fun o x => ins W x o) o).length ≤ o.length + l.length := by
    intro l
    induction l with
    | nil => intro o; simp
    | cons x t ih =>
      intro o
      rw [List.foldl_cons, List.length_cons]
      have := ih (ins W x o)
      have := key x o
      omega
  have := fold l []
  simp only [List.length_nil, Nat.zero_add] at this
  exact this
theorem topL_len (k : ByteArray) (l : List Int) (r : Int) : (topL k l r).length ≤ l.length := by
  unfold topL
  rw [List.length_take]
  have := ord_len (wt k) l
  omega
set_option maxHeartbeats 1000000 in
theorem moved16 {k : ByteArray} {u v : Value} {a b : List Int} {w : World} (r : Int) (hk : k.size ≤ 9223372036854775807) (h : Rd u a w) (h' : Rd v b w) (ha : a.length ≤ 19) (hb : b.length ≤ 19) (ht : Tab w) (hma : ∀ x ∈ a, 0 ≤ x ∧ x ≤ 1000) (hmb : ∀ x ∈ b, 0 ≤ x ∧ x ≤ 1000) :
    Calls Tryd.prog 16 #[.string k, u, v, .int .i64 r] w fun e w' => ∃ x y, e = .returned (.tuple #[x, y]) ∧ Rd x (wo (asc (topL k b r)) (asc (topL k a r))) w' ∧ Rd y (wo (asc (topL k a r)) (asc (topL k b r))) w' ∧ Below w.heap.size w w' := by
  obtain ⟨ao, cp, rfl, -⟩ := id h
  obtain ⟨bo, cq, rfl, -⟩ := id h'
  have h1 := top12 r hk h (by omega) ht hma (comp_le ha)
  have HT : Hid (Tab w) := ht
  have HR : Hid (Rd (.slice bo b.length cq) b w) := h'
  have HM : Hid (∀ x ∈ b, 0 ≤ x ∧ x ≤ 1000) := hmb
  have HA : Hid ((topL k a r).length ≤ 64) := by show _ ≤ _; have := topL_len k a r; omega
  have HB : Hid ((topL k b r).length ≤ 64) := by show _ ≤ _; have := topL_len k b r; omega
  obtain ⟨la, hla⟩ : ∃ x, topL k a r = x := ⟨_, rfl⟩
  obtain ⟨lb, hlb⟩ : ∃ x, topL k b r = x := ⟨_, rfl⟩
  have hla' : (ord (wt k) a).take r.toNat = la := hla
  have hlb' : (ord (wt k) b).take r.toNat = lb := hlb
  rw [hla'] at h1
  rw [hla] at HA
  rw [hlb] at HB
  have HLA : Hid (topL k a r = la) := hla
  have HLB : Hid (topL k b r = lb) := hlb
  have HLB' : Hid ((ord (wt k) b).take r.toNat = lb) := hlb'
  clear h h' ht hma hmb hla hlb hla' hlb'
  go_enter Tryd.func16, Tryd.ntmps16
  go_wp2_with fail
  go_call h1 as e w1 ⟨v1, rfl, o1, b1⟩
  have h2 := top12 r hk (HR.out.below b1) (by omega) (HT.out.below HT.out.size b1) HM.out (comp_le hb)
  rw [HLB'.out] at h2
  have B1 : Hid (Below w.heap.size w w1) := b1
  have O1 : Hid (Own w.heap.size v1 la w1) := o1
  clear b1 o1 h1
  go_wp2_with fail
  go_call h2 as e w2 ⟨v2, rfl, o2, b2⟩
  have o1 : Own w.heap.size v1 la w2 := O1.out.below b2
  have h3 := sort22 o1 HA.out
  have HN : Hid (∀ k1 k2, v1.ownBlock = some k1 → v2.ownBlock = some k2 → k1 ≠ k2) := by
    intro k1 k2 e1 e2
    have a1 := (World.ownsRow.lt O1.out k1 e1).2
    have a2 := (World.ownsRow.lt o2 k2 e2).1
    omega
  have B2 : Hid (Below w.heap.size w w2) := B1.out.trans (b2.mono B1.out.size)
  have O2 : Hid (Own w.heap.size v2 lb w2) := o2.mono B1.out.size
  have O1' : Hid (Own w.heap.size v1 la w2) := o1
  clear o1 o2 b2 h2 O1 B1
  go_wp2_with fail
  go_call h3 as e w3 ⟨rfl, o1, g3⟩
  have hne : ∀ {x y : Value}, (∀ k1 k2, x.ownBlock = some k1 → y.ownBlock = some k2 → k1 ≠ k2) → x.ownBlock = none ∨ x.ownBlock ≠ y.ownBlock := by
    intro x y hn
    cases hx : x.ownBlock with
    | none => exact Or.inl rfl
    | some k1 => exact Or.inr fun e => hn k1 k1 hx e.symm rfl
  have o2 : Own w.heap.size v2 lb w3 := O2.out.kept g3 (hne fun k1 k2 e1 e2 e => HN.out k2 k1 e2 e1 e.symm)
  have B3 : Hid (Below w.heap.size w w3) := below_grown B2.out g3 B2.out.size O1'.out.blk
  have h4 := sort22 o2 HB.out
  have O1 : Hid (Own w.heap.size v1 (asc la) w3) := o1
  have O2' : Hid (Own w.heap.size v2 lb w3) := o2
  clear o1 o2 g3 h3 O2 O1' B2
  go_wp2_with fail
  go_call h4 as e w4 ⟨rfl, o2, g4⟩
  have o1 : Own w.heap.size v1 (asc la) w4 := O1.out.kept g4 (hne fun k1 k2 e1 e2 => HN.out k1 k2 e1 e2)
  have B4 : Hid (Below w.heap.size w w4) := below_grown B3.out g4 B3.out.size O2'.out.blk
  have hza : (asc la).length ≤ 64 := by rw [(asc_perm la).length_eq]; exact HA.out
  have hzb : (asc lb).length ≤ 64 := by rw [(asc_perm lb).length_eq]; exact HB.out
  have R1 : Hid (Rd v1 (asc la) w4) := o1.rd
  have R2 : Hid (Rd v2 (asc lb) w4) := o2.rd
  have h5 := without23 o2.rd o1.rd (asc_pw la) hzb hza
  obtain ⟨c1, d1, e1⟩ := o1.len
  obtain ⟨c2, d2, e2⟩ := o2.len
  have HE : Hid (v1 = .slice c1 (asc la).length d1 ∧ v2 = .slice c2 (asc lb).length d2) := ⟨e1, e2⟩
  clear o1 o2 g4 h4 O1 O2' B3 HN hne e1 e2
  go_wp2_with fail
  go_call h5 as e w5 ⟨x, rfl, ox, b5⟩
  have h6 := without23 (R1.out.below b5) (R2.out.below b5) (asc_pw lb) hza hzb
  have B5 : Hid (Below w.heap.size w w5) := B4.out.trans (b5.mono B4.out.size)
  have OX : Hid (Rd x (wo (asc lb) (asc la)) w5) := ox.rd
  clear ox b5 h5 B4
  go_wp2_with fail
  go_call h6 as e w6 ⟨y, rfl, oy, b6⟩
  go_wp2
  go_ret2
  rw [HLA.out, HLB.out]
  exact ⟨_, _, rfl, OX.out.below b6, oy.rd, B5.out.trans (b6.mono B5.out.size)⟩
/-- The best one yet: none, or one that is in, not out, and ahead of all others. -/
def Best (W : Int → Nat) (out seen : List Int) (b : Int) : Prop := (b = -1 ∧ ∀ s ∈ seen, s ∈ out) ∨ (0 ≤ b ∧ b ∈ seen ∧ b ∉ out ∧ ∀ s ∈ seen, s ∉ out → s = b ∨ bt W b s)
theorem Best.skip {W : Int → Nat} {out seen : List Int} {b s : Int} (h : Best W out seen b) (hs : s ∈ out) : Best W out (seen ++ [s]) b := by
  rcases h with ⟨h1, h2⟩ | ⟨h1, h2, h3, h4⟩
  · refine Or.inl ⟨h1, fun x hx => ?_⟩
    rcases List.mem_append.1 hx with hx | hx
    · exact h2 x hx
    · rw [List.mem_singleton.1 hx]; exact hs
  · refine Or.inr ⟨h1, List.mem_append_left _ h2, h3, fun x hx hn => ?_⟩
    rcases List.mem_append.1 hx with hx | hx
    · exact h4 x hx hn
    · rw [List.mem_singleton.1 hx] at hn; exact absurd hs hn
theorem Best.first {W : Int → Nat} {out seen : List Int} {s : Int} (h : ∀ x ∈ seen, x ∈ out) (h0 : 0 ≤ s) (hs : s ∉ out) : Best W out (seen ++ [s]) s := by
  refine Or.inr ⟨h0, List.mem_append_right _ (List.mem_singleton.2 rfl), hs, fun x hx hn => ?_⟩
  rcases List.mem_append.1 hx with hx | hx
  · exact absurd (h x hx) hn
  · exact Or.inl (List.mem_singleton.1 hx)
theorem Best.better {W : Int → Nat} {out seen : List Int} {b s : Int} (h4 : ∀ x ∈ seen, x ∉ out → x = b ∨ bt W b x) (h0 : 0 ≤ s) (hs : s ∉ out) (hb : bt W s b) : Best W out (seen ++ [s]) s := by
  refine Or.inr ⟨h0, List.mem_append_right _ (List.mem_singleton.2 rfl), hs, fun x hx hn => ?_⟩
  rcases List.mem_append.1 hx with hx | hx
  · rcases h4 x hx hn with rfl | h5
    · exact Or.inr hb
    · exact Or.inr (bt_trans hb h5)
  · exact Or.inl (List.mem_singleton.1 hx)
theorem Best.worse {W : Int → Nat} {out seen : List Int} {b s : Int} (h1 : 0 ≤ b) (h2 : b ∈ seen) (h3 : b ∉ out) (h4 : ∀ x ∈ seen, x ∉ out → x = b ∨ bt W b x) (hb : s = b ∨ bt W b s) : Best W out (seen ++ [s]) b := by
  refine Or.inr ⟨h1, List.mem_append_left _ h2, h3, fun x hx hn => ?_⟩
  rcases List.mem_append.1 hx with hx | hx
  · exact h4 x hx hn
  · rw [List.mem_singleton.1 hx]; exact hb
theorem best_next {W : Int → Nat} {l : List Int} {i : Nat} {b : Int} (h2 : b ∈ l) (h3 : b ∉ (ord W l).take i) (h4 : ∀ x ∈ l, x ∉ (ord W l).take i → x = b ∨ bt W b x) : (ord W l).take (i + 1) = (ord W l).take i ++ [b] := by
  have hm : b ∈ ord W l := mem_ord.2 h2
  have hp := ord_pw W l
  have hml : ∀ x, x ∈ ord W l → x ∈ l := fun x hx => mem_ord.1 hx
  generalize ord W l = o at *
  obtain ⟨j, hj, e⟩ := List.getElem_of_mem hm
  have hji : i ≤ j := by
    rcases Nat.lt_or_ge j i with h | h
    · exact absurd (List.mem_take_iff_getElem.2 ⟨j, by omega, e⟩) h3
    · exact h
  have hi : i < o.length := by omega
  rw [List.take_succ_eq_append_getElem hi]
  have hnd := pw_nodup hp
  have hni : o[i] ∉ o.take i := by
    intro hm
    obtain ⟨q, hq, e2⟩ := List.mem_take_iff_getElem.1 hm
    have := (List.getElem_inj hnd).1 e2
    omega
  rcases h4 o[i] (hml _ (List.getElem_mem hi)) hni with e3 | e3
  · rw [e3]
  · rcases Nat.eq_or_lt_of_le hji with h | h
    · subst h; rw [e]
    · have := List.pairwise_iff_getElem.1 hp i j hi hj h
      rw [e] at this
      exact absurd e3 fun h => bt_asym h this
theorem best_none {W : Int → Nat} {l : List Int} {i : Nat} (h : ∀ x ∈ l, x ∈ (ord W l).take i) : (ord W l).take (i + 1) = (ord W l).take i := by
  have hml : ∀ x, x ∈ ord W l → x ∈ l := fun x hx => mem_ord.1 hx
  have hnd := pw_nodup (ord_pw W l)
  generalize ord W l = o at *
  rcases Nat.lt_or_ge i o.length with hi | hi
  · obtain ⟨q, hq, e2⟩ := List.mem_take_iff_getElem.1 (h _ (hml _ (List.getElem_mem hi)))
    have := (List.getElem_inj hnd).1 e2
    omega
  · rw [List.take_of_length_le (by omega), List.take_of_length_le (by omega)]
set_option maxHeartbeats 2000000 in
theorem refOrder10 {k : ByteArray} {v : Value} {l : List Int} {w : World} (hk : k.size ≤ 9223372036854775807) (h : Rd v l w) (hl : l.length ≤ 64) (hm : ∀ x ∈ l, 0 ≤ x ∧ x ≤ 1000) :
    Calls Tryd.prog 10 #[.string k, v] w fun e w' => ∃ v', e = .returned v' ∧ Own w.heap.size v' (ord (wt k) l) w' ∧ Below w.heap.size w w' := by
  obtain ⟨ao, cp, rfl, h2, h3⟩ := id h
  have H3 : Hid _ := h3
  have HM : Hid (∀ x ∈ l, 0 ≤ x ∧ x ≤ 1000) := hm
  have hOL : Hid ((ord (wt k) l).length ≤ l.length) := ord_len _ _
  obtain ⟨o, ho⟩ : ∃ o, ord (wt k) l = o := ⟨_, rfl⟩
  rw [ho] at hOL
  have HO : Hid (ord (wt k) l = o) := ho
  clear h h3 h2 hm ho
  have hb0 : Below w.heap.size w (w.alloc (.cells #[] 3)) := (Below.refl _ _).alloc (Nat.le_refl _) _
  have HB0 : Hid (Below w.heap.size w (w.alloc (.cells #[] 3))) := hb0
  have HO0 : Hid (Own w.heap.size (.slice (some ⟨w.heap.size, 0, none⟩) 0 0) [] (w.alloc (.cells #[] 3))) := Own.mk (l := []) (Nat.le_refl _) (heap_new _ _) (Nat.le_refl _) (by decide) rfl rfl
  clear hb0
  go_enter Tryd.func10, Tryd.ntmps10
  go_wp2_with fail
  go_loopw [5, 6] (fun x y wr => ∃ (i : Nat), y = .int .i64 (i : Nat) ∧ i ≤ l.length ∧ Hid (Own w.heap.size x (o.take i) wr) ∧ Hid (Below w.heap.size w wr)) (fun _ y _ => l.length - (intOf y).toNat)
  case atStart => exact ⟨0, rfl, Nat.zero_le _, HO0.out, HB0.out⟩
  case round =>
    obtain ⟨i, rfl, hi, hO, hB⟩ := hrel
    clear HO0 HB0
    obtain ⟨oi, hoi⟩ : ∃ x, o.take i = x := ⟨_, rfl⟩
    rw [hoi] at hO
    have HOI : Hid (o.take i = oi) := hoi
    clear hoi
    by_cases hlt : i < l.length
    · have HL64 : Hid (oi.length ≤ 1000) := by
        show _ ≤ _
        rw [← HOI.out, List.length_take]; have := hOL.out; omega
      go_wp2_with fail
      go_loop [7, 19] (fun x y => ∃ (j : Nat) (b : Int), x = .int .i64 b ∧ y = .int .i64 (j : Nat) ∧ j ≤ l.length ∧ Hid (Best (wt k) (oi) (l.take j) b)) (fun _ y => l.length - (intOf y).toNat)
      case atStart => exact ⟨0, -1, rfl, rfl, Nat.zero_le _, Or.inl ⟨rfl, by simp⟩⟩
      case round =>
        obtain ⟨j, b, rfl, rfl, hj, hBest⟩ := hrel
        by_cases hjl : j < l.length
        · obtain ⟨ba, oa, rfl, h4, h5⟩ := H3.out (by omega)
          have c1 : wr.cell? ⟨ba, oa + j, none⟩ = some (.int .i64 (l.getD j 0)) := (hB.out.cell h4).trans (h5 j hjl)
          have hel : l[j] ∈ l := List.getElem_mem hjl
          have HT : Hid (l.take (j + 1) = l.take j ++ [l.getD j 0]) := by
            show _ = _
            rw [List.take_succ_eq_append_getElem hjl]
            simp [List.getD, hjl]
          have eg : l.getD j 0 = l[j] := by simp [List.getD, hjl]
          rw [← eg] at hel
          have HS : Hid (0 ≤ l.getD j 0 ∧ l.getD j 0 ≤ 1000) := HM.out _ hel
          have HI : Hid (l.getD j 0 ∈ l) := hel
          clear h5 hel eg
          generalize l.getD j 0 = s at *
          have hhas := has17 (x := s) hO.out.rd HL64.out
          obtain ⟨c0, d0, e0⟩ := hO.out.len
          obtain rfl : u5 = _ := e0
          by_cases hin : s ∈ oi
          · have hd : decide (s ∈ oi) = true := decide_eq_true hin
            rw [hd] at hhas
            have HBn : Hid (Best (wt k) (oi) (l.take (j + 1)) b) := by
              show Best _ _ _ _
              rw [HT.out]
              exact hBest.out.skip hin
            clear hin hd
            go_wp2_with fail
            go_call hhas as e w1 ⟨rfl, rfl⟩
            go_wp2
            go_round
            case rel => exact ⟨j + 1, b, rfl, by go_num, by omega, HBn.out⟩
            case measure => simp only [intOf]; omega
          · have hd : decide (s ∈ oi) = false := decide_eq_false hin
            rw [hd] at hhas
            clear hd
            rcases hBest.out with ⟨hb1, hb2⟩ | ⟨hb1, hb2, hb3, hb4⟩
            · have HBn : Hid (Best (wt k) (oi) (l.take (j + 1)) s) := by
                show Best _ _ _ _
                rw [HT.out]
                exact Best.first hb2 HS.out.1 hin
              subst hb1
              clear hin hb2
              go_wp2_with fail
              go_call hhas as e w1 ⟨rfl, rfl⟩
              go_wp2
              go_round
              case rel => exact ⟨j + 1, s, rfl, by go_num, by omega, HBn.out⟩
              case measure => simp only [intOf]; omega
            · have hbm : b ∈ l := List.mem_of_mem_take hb2
              have HBR : Hid (0 ≤ b ∧ b ≤ 1000) := HM.out b hbm
              have hnb : ¬ b < 0 := by omega
              have hw1 := refWeight_any k hk s HS.out wr
              have hw2 := refWeight_any k hk b HBR.out wr
              have HB4 : Hid (∀ x ∈ l.take j, x ∉ oi → x = b ∨ bt (wt k) b x) := hb4
              obtain ⟨p, hp⟩ : ∃ p, wt k s = p := ⟨_, rfl⟩
              obtain ⟨q, hq⟩ : ∃ q, wt k b = q := ⟨_, rfl⟩
              have HP : Hid (wt k s = p ∧ wt k b = q) := ⟨hp, hq⟩
              rw [hp] at hw1
              rw [hq] at hw2
              have HIN : Hid (s ∉ oi ∧ b ∈ l.take j ∧ b ∉ oi ∧ 0 ≤ b) := ⟨hin, hb2, hb3, hb1⟩
              clear hb4 hp hq hin hb2 hb3 hbm hb1
              rcases Nat.lt_trichotomy q p with hpq | hpq | hpq
              · have HBn : Hid (Best (wt k) (oi) (l.take (j + 1)) s) := by
                  show Best _ _ _ _
                  rw [HT.out]
                  exact Best.better HB4.out HS.out.1 HIN.out.1 (Or.inl (by have := HP.out; omega))
                have hgt : (q : Int) < (p : Int) := by omega
                go_wp2_with fail
                go_call hhas as e w1 ⟨rfl, rfl⟩
                go_wp2_with fail
                go_call hw1 as e w1 ⟨rfl, rfl⟩
                go_wp2_with fail
                go_call hw2 as e w1 ⟨rfl, rfl⟩
                go_wp2
                go_round
                case rel => exact ⟨j + 1, s, rfl, by go_num, by omega, HBn.out⟩
                case measure => simp only [intOf]; omega
              · have hsb : s = b := wt_inj (k := k) HS.out HBR.out (by rw [HP.out.1, HP.out.2]; exact hpq.symm)
                have HBn : Hid (Best (wt k) (oi) (l.take (j + 1)) b) := by
                  show Best _ _ _ _
                  rw [HT.out]
                  exact Best.worse HIN.out.2.2.2 HIN.out.2.1 HIN.out.2.2.1 HB4.out (Or.inl hsb)
                subst hpq
                have hnlt : ¬ s < b := by omega
                clear hsb
                go_wp2_with fail
                go_call hhas as e w1 ⟨rfl, rfl⟩
                go_wp2_with fail
                go_call hw1 as e w1 ⟨rfl, rfl⟩
                go_wp2_with fail
                go_call hw2 as e w1 ⟨rfl, rfl⟩
                go_wp2_with fail
                go_call hw1 as e w1 ⟨rfl, rfl⟩
                go_wp2_with fail
                go_call hw2 as e w1 ⟨rfl, rfl⟩
                go_wp2
                go_round
                case rel => exact ⟨j + 1, b, rfl, by go_num, by omega, HBn.out⟩
                case measure => simp only [intOf]; omega
              · have HBn : Hid (Best (wt k) (oi) (l.take (j + 1)) b) := by
                  show Best _ _ _ _
                  rw [HT.out]
                  exact Best.worse HIN.out.2.2.2 HIN.out.2.1 HIN.out.2.2.1 HB4.out (Or.inr (Or.inl (by have := HP.out; omega)))
                have hgt : ¬ (q : Int) < (p : Int) := by omega
                have hne : ((p : Int) == (q : Int)) = false := by simp; omega
                go_wp2_with fail
                go_call hhas as e w1 ⟨rfl, rfl⟩
                go_wp2_with fail
                go_call hw1 as e w1 ⟨rfl, rfl⟩
                go_wp2_with fail
                go_call hw2 as e w1 ⟨rfl, rfl⟩
                go_wp2_with fail
                go_call hw1 as e w1 ⟨rfl, rfl⟩
                go_wp2_with fail
                go_call hw2 as e w1 ⟨rfl, rfl⟩
                go_wp2
                go_round
                case rel => exact ⟨j + 1, b, rfl, by go_num, by omega, HBn.out⟩
                case measure => simp only [intOf]; omega
        · have hal : l.take j = l := List.take_of_length_le (by omega)
          rw [hal] at hBest
          clear hal
          rcases hBest.out with ⟨hb1, hb2⟩ | ⟨hb1, hb2, hb3, hb4⟩
          · have HN : Hid (o.take (i + 1) = oi) := by
              show _ = _
              rw [← HOI.out, ← HO.out] at hb2 ⊢
              exact best_none hb2
            subst hb1
            clear hb2
            go_wp2
            go_roundw
            case rel => exact ⟨i + 1, by go_num, by omega, by rw [HN.out]; exact hO.out, hB.out⟩
            case measure => simp only [intOf]; omega
          · have HN : Hid (o.take (i + 1) = oi ++ [b]) := by
              show _ = _
              rw [← HOI.out, ← HO.out] at hb3 hb4 ⊢
              exact best_next hb2 hb3 hb4
            have hb0 : ¬ b < 0 := by omega
            have hb00 : 0 ≤ b := hb1
            have hbx : Below wr.heap.size wr (wr.alloc (.cells #[.int .i64 b] 3)) := (Below.refl _ _).alloc (Nat.le_refl _) _
            have HO2 : Hid (Own w.heap.size u5 (oi) (wr.alloc (.cells #[.int .i64 b] 3))) := hO.out.below hbx
            have HB2 : Hid (Below w.heap.size w (wr.alloc (.cells #[.int .i64 b] 3))) := hB.out.trans (hbx.mono hB.out.size)
            have HG : Hid ((wr.alloc (.cells #[.int .i64 b] 3)).heap[wr.heap.size]? = some (.cells #[.int .i64 b] 3)) := heap_new _ _
            clear hb1 hb2 hb3 hb4 hbx
            go_wp2_with (refine iappend rfl _ _ rfl w.heap.size _ (oi) rfl HO2.out ⟨wr.heap.size, 0, none⟩ 1 [b] rfl ?g1 HL64.out (by simp) HB2.out.size ?k1)
            case k1 =>
              intro v' w' h1 h2 h3
              have H1 : Hid (Own w.heap.size v' (oi ++ [b]) w') := h1
              have H2 : Hid (Below w.heap.size w w') := HB2.out.trans h2
              clear h1 h2 h3
              go_wp2
              go_roundw
              case rel => exact ⟨i + 1, by go_num, by omega, by rw [HN.out]; exact H1.out, H2.out⟩
              case measure => simp only [intOf]; omega
    · have he : Hid (oi = o) := by
        show _ = _
        rw [← HOI.out]
        exact List.take_of_length_le (by have := hOL.out; omega)
      go_wp2
      go_ret
      have := hO.out
      rw [he.out, ← HO.out] at this
      exact ⟨_, rfl, this, hB.out⟩
end Go.Proofs.YtbbapaphfijpcaaDoor
