/- Scan and Read of a segment whose groups lie there; and what an Append adds to them. -/
import Derived.Test.YtncfbocbigdhiaaGreatJD
namespace Go.Proofs.YtncfbocbigdhiaaGreat
open Go.RowKit
theorem rd_now {st : F.St} {ats : Nat → Nat} {now : Nat → ByteArray} {n : Nat} (hd : F.Dv st ats now now) (hn : st.n = n) (i : Nat) (hi : i < n) : F.rd st i = now i := hd.nw i (by omega)
theorem grp_read {st : F.St} {ats : Nat → Nat} {now : Nat → ByteArray} {n : Nat} {s : Sg} {t k : Nat} {x : ByteArray} (hd : F.Dv st ats now now) (hn : st.n = n) (hfit : s.b + s.p ≤ n) (hg : Grp now s t k x) : (⟨(F.rdsL st (s.b + t + 1) k).toArray⟩ : ByteArray) = O.tx (secP x k) := by
  have hy := ysize x k hg.sz
  have hf := hg.fit
  have h1 := rdsL_lay st (s.b + t + 1) (O.tx (secP x k)) k hy k (Nat.le_refl _) (fun i hi => by rw [rd_now hd hn _ (by omega)]; exact hg.pay i hi)
  rw [h1, List.take_of_length_le (by rw [← O.size_list]; omega)]
theorem sec_mark (q : Cm) : q.sec[0]? = some 67 := by
  unfold Cm.sec secL
  rfl
theorem dev_scan {T : Nat} {w : World} {L : F.Loc} {n : Nat} {oth : List (Nat × Obj)} {now : Nat → ByteArray} {c : Int} {W : World} {Sb : Nat} (s : Sg) (h : Dev T w L n ((Sb, .cells s.cs 44) :: oth) now c W) (hM : (s.M, F.med L.P 1 1) ∈ oth) (h5 : ∀ p ∈ oth, ∀ c fz, p.2 ≠ .cells c 5 fz) (hne : ∀ p ∈ oth, p.1 ≠ Sb)
    (hsb : s.c < 18446744073709551616 ∧ s.j < 18446744073709551616 ∧ s.n < 18446744073709551616) (hs : s.b ≤ 10000 ∧ 1 ≤ s.p ∧ s.p ≤ 64) (hfit : s.b + s.p ≤ n) (hn1 : n ≤ 1000) (hc : c ≤ 40000) (hk : ∀ i, i < n → Ksec (now i)) {l : List (Nat × ByteArray)} {e : Nat} (hch : Chn now s l e) (he : e < s.p → (now (s.b + e))[0]? ≠ some 67) :
    Calls Tryz.prog 59 #[.pointer (some ⟨Sb, 0, none⟩)] W fun r W' => ∃ v ol, r = .returned v ∧ Plc v (l.map Prod.fst) ol ∧ Dev T w L n (ol ++ (Sb, .cells (Sg.cs { s with a := e }) 44) :: oth) now (c + 66 * l.length + 66) W' ∧ (∀ p ∈ ol, ∀ q ∈ (Sb, .cells s.cs 44) :: oth, p.1 ≠ q.1) := by
  obtain ⟨T1, hx⟩ := Mx.of Sb oth
  obtain ⟨st, lv, ats, ho, hn, hsr, hss, hth, ⟨hi1, hi2, hi3⟩, hd, hc0, hc1, hl0⟩ := h.ex
  have hlt := hch.lt
  have key : ∀ t, ∃ (q : Cm) (er : Int), 1 ≤ t → t < s.p → (q.k ≤ 255 ∧ (∀ W, Calls Tryz.prog 131 #[.string ⟨(F.rdsL st (s.b + t) 1).toArray⟩] W fun e w' => e = .returned (.tuple #[.agg q.cs, .int .i64 er]) ∧ Below W.heap.size W w') ∧ (∀ x, (t, x) ∈ l → q = s.cm t x) ∧ (t = e → ∀ z, q ≠ s.cm t z)) := by
    intro t
    by_cases ht : 1 ≤ t ∧ t < s.p
    · have hr : (⟨(F.rdsL st (s.b + t) 1).toArray⟩ : ByteArray) = now (s.b + t) := by rw [rds_one, rd_now hd hn _ (by omega)]
      by_cases hx : ∃ x, (t, x) ∈ l
      · obtain ⟨x, hx⟩ := hx
        obtain ⟨k, hg⟩ := hch.grp _ hx
        have hg' : Grp now s t k x := hg
        have hcom := hg'.com
        have hxk : x.size / 63 = k := by have := hg'.sz; omega
        have hfit2 := hg'.fit
        have hk1 := hg'.k1
        have hok : (s.cm t x).Ok := ⟨hsb.1, hsb.2.1, hsb.2.2, ht.1, by show 1 ≤ x.size / 63; omega, by show t + x.size / 63 ≤ 63; omega, sm_lt x⟩
        refine ⟨s.cm t x, 0, fun _ _ => ⟨by show x.size / 63 ≤ 255; omega, fun W => by rw [hr, hcom]; exact tocommit_back _ hok W, fun x' hx' => ?_, fun hte => ?_⟩⟩
        · have := hch.one (t, x) hx (t, x') hx' rfl
          injection this with _ e2
          rw [e2]
        · have := hlt.2 _ hx
          simp only at this
          omega
      · obtain ⟨q, er, hq1, hq2, hq3⟩ := ksec_tells (hk (s.b + t) (by omega))
        refine ⟨q, er, fun _ _ => ⟨hq1, fun W => by rw [hr]; exact hq3 W, fun x' hx' => absurd ⟨x', hx'⟩ hx, fun hte z => ?_⟩⟩
        rw [hq2 (by rw [hte]; exact he (by omega))]
        intro e2
        have := congrArg Cm.a e2
        have e3 : (0 : Nat) = t := this
        omega
    · exact ⟨cm0, 0, fun h1 h2 => absurd ⟨h1, h2⟩ ht⟩
  let Q : Nat → Cm := fun t => (key t).choose
  let E : Nat → Int := fun t => (key t).choose_spec.choose
  have hQE : ∀ t, 1 ≤ t → t < s.p → _ := fun t => (key t).choose_spec.choose_spec
  have hsc := scan_dev ho (by rw [hsr, hss]; exact hM) h5 hx hne hs (by omega) (by omega) hi1 hth hi2 hi3 ⟨hd.ok.1, hd.ok.2⟩ ⟨hc0, by omega⟩ Q E (fun t h1 h2 => ⟨(hQE t h1 h2).1, (hQE t h1 h2).2.1⟩)
  have hcnt : ∀ p ∈ l, ∀ k, Grp now s p.1 k p.2 → cntO st s Q p.1 = k := by
    intro p hp k hg
    have hq := (hQE p.1 (hlt.2 p hp).1 (by have := hg.fit; omega)).2.2.1 p.2 hp
    have hxk : p.2.size / 63 = k := by have := hg.sz; omega
    have hqk : (Q p.1).k = k := by show (key p.1).choose.k = k; rw [hq]; exact hxk
    have hz : zO st s p.1 (Q p.1).k = p.2 := by
      rw [hqk]
      unfold zO
      rw [if_neg (by have := hg.k1; have := hg.fit; omega), grp_read hd hn hfit hg, rdp_secP p.2 k hg.sz]
    unfold cntO
    rw [if_pos ⟨by have := hg.fit; omega, by rw [hz]; exact hq⟩, hqk]
  have hway : ∀ {l2 : List (Nat × ByteArray)} {e2 : Nat}, Chn now s l2 e2 → (∀ p ∈ l2, p ∈ l) → Way (cntO st s Q) (l2.map Prod.fst) e2 := by
    intro l2 e2 hc2
    induction hc2 with
    | nil => intro _; exact Way.nil
    | next h1 h2 ih =>
      rename_i l3 t k x
      intro hsub
      have hck := hcnt (t, x) (hsub _ (List.mem_append_right _ (List.mem_singleton.2 rfl))) k h2
      have := Way.next (ih (fun p hp => hsub p (List.mem_append_left _ hp))) (t := t) (by rw [hck]; exact h2.k1)
      rw [hck] at this
      rw [List.map_append]
      exact this
  have hend : cntO st s Q e = 0 := by
    unfold cntO
    rw [if_neg]
    rintro ⟨h1, h2⟩
    exact (hQE e hlt.1 h1).2.2.2 rfl _ h2
  refine hsc.mono ?_
  rintro r W' ⟨ps, t, v, hw1, hz1, rfl, c2, lv2, ol, hpl, ho2, hca, hcb, hra⟩
  obtain ⟨rfl, rfl⟩ := hw1.det (hway hch (fun p hp => hp)) hz1 hend
  rw [List.length_map] at hcb
  exact ⟨v, ol, rfl, hpl, ⟨{ st with count := c2 }, lv2, ats, ho2, hn, hsr, hss, hth, ⟨hi1, hi2, hi3⟩, hd.same rfl rfl rfl rfl, by show 0 ≤ c2; omega, by show c2 ≤ _; omega, hl0⟩, SI.apart hx hra⟩
theorem dev_read {T : Nat} {w : World} {L : F.Loc} {n : Nat} {oth : List (Nat × Obj)} {now : Nat → ByteArray} {c : Int} {W : World} {Sb : Nat} (s : Sg) (h : Dev T w L n oth now c W) (hSb : (Sb, .cells s.cs 44) ∈ oth) (hM : (s.M, F.med L.P 1 1) ∈ oth) (h5 : ∀ p ∈ oth, ∀ c fz, p.2 ≠ .cells c 5 fz)
    (hs : s.b ≤ 10000 ∧ s.p ≤ 64) (hfit : s.b + s.p ≤ n) (hn1 : n ≤ 1000) (hc : c ≤ 90000) {t k : Nat} {x : ByteArray} (ht : 1 ≤ t) (hg : Grp now s t k x) :
    Calls Tryz.prog 60 #[.pointer (some ⟨Sb, 0, none⟩), .int .i64 (t : Nat), .int .i64 (k : Nat)] W fun r W' => r = .returned (.string x) ∧ Dev T w L n oth now (c + k) W' := by
  have hy := ysize x k hg.sz
  have hf := hg.fit
  have hx := rdp_secP x k hg.sz
  have hr := sread_any s hs Sb t k ht hg.k1 hg.fit (O.tx (secP x k)) hy (Dev T w L n oth now c) (Dev T w L n oth now (c + k)) W h (fun W W' a b => a.below b) (fun W W' a b => a.below b) (fun W a => a.at' hSb) (fun W a => a.at' hSb) (fun W hW => by
    obtain ⟨st, lv, ats, ho, hn, hsr, hss, hth, ⟨hi1, hi2, hi3⟩, hd, hc0, hc1, hl0⟩ := hW.ex
    have hm := ho.mread s.M (by rw [hsr, hss]; exact hM) h5 (s.b + t + 1) k (by omega) (by omega) hi1 hth hi2 hi3 ⟨hd.ok.1, hd.ok.2⟩ ⟨hc0, by omega⟩
    refine hm.mono ?_
    rintro e W' ⟨rfl, lv', ho'⟩
    refine ⟨by rw [grp_read hd hn hfit hg], { st with count := st.count + k }, lv', ats, ho', hn, hsr, hss, hth, ⟨hi1, hi2, hi3⟩, hd.same rfl rfl rfl rfl, by show 0 ≤ st.count + (k : Int); omega, by show st.count + (k : Int) ≤ _; omega, hl0⟩)
  rw [hx] at hr
  exact hr
theorem ba_get (b : ByteArray) (i : Nat) : b[i]? = b.data[i]? := rfl
theorem pad_whole (y : ByteArray) (h : y.size = 64) : F.pad (F.chunk y 0) = y := by
  apply ByteArray.ext
  apply Array.toList_inj.1
  rw [padc_list y 0 1 (by omega) (by decide), Nat.mul_zero, List.drop_zero, List.take_of_length_le (by rw [← O.size_list]; omega)]
section
variable {now now' : Nat → ByteArray} {s : Sg} {x : ByteArray} {k t n : Nat}
theorem layC_ge (i : Nat) (h : s.b + s.a + 1 + k ≤ i) : layC now s x k i = now i := by
  unfold layC layP F.lay
  rw [if_neg (by omega), if_neg (by omega)]
theorem layC_lt (i : Nat) (h : i < s.b + s.a) : layC now s x k i = now i := by
  unfold layC layP F.lay
  rw [if_neg (by omega), if_neg (by omega)]
theorem layC_com : layC now s x k (s.b + s.a) = (s.cm s.a x).sec := by
  unfold layC F.lay
  rw [if_pos (by omega), Nat.sub_self]
  exact pad_whole _ (Cm.sec_size _)
theorem layC_pay (i : Nat) (h : i < k) : layC now s x k (s.b + s.a + 1 + i) = F.pad (F.chunk (O.tx (secP x k)) i) := by
  unfold layC layP F.lay
  rw [if_neg (by omega), if_pos (by omega), show s.b + s.a + 1 + i - (s.b + s.a + 1) = i by omega]
theorem Grp.of (h : ∀ i, i < s.b + (t + 1 + k) → now' i = now i) (hg : Grp now s t k x) : Grp now' s t k x :=
  ⟨hg.sz, hg.k1, hg.fit, by rw [h _ (by have := hg.k1; omega)]; exact hg.com, fun i hi => by rw [h _ (by omega)]; exact hg.pay i hi⟩
theorem Chn.of {l : List (Nat × ByteArray)} {e : Nat} (hc : Chn now s l e) (h : ∀ i, i < s.b + e → now' i = now i) : Chn now' s l e := by
  induction hc with
  | nil => exact Chn.nil
  | next h1 h2 ih => exact Chn.next (ih (fun i hi => h i (by omega))) (h2.of (fun i hi => h i (by omega)))
theorem Chn.seg {l : List (Nat × ByteArray)} {e : Nat} (hc : Chn now s l e) (a : Nat) : Chn now { s with a := a } l e := by
  induction hc with
  | nil => exact Chn.nil
  | next h1 h2 ih => exact Chn.next ih ⟨h2.sz, h2.k1, h2.fit, h2.com, h2.pay⟩
theorem Chn.more {l : List (Nat × ByteArray)} (hc : Chn now s l s.a) (hx : x.size = 63 * k) (hk : 1 ≤ k) (hr : s.a + k < s.p) : Chn (layC now s x k) { s with a := s.a + 1 + k } (l ++ [(s.a, x)]) (s.a + 1 + k) :=
  ((hc.of (fun i hi => layC_lt i hi)).next ⟨hx, hk, hr, layC_com, fun i hi => layC_pay i hi⟩).seg _
theorem layC_ksec (hs : s.Ok) (hx : x.size = 63 * k) (hk : 1 ≤ k) (hr : s.a + k < s.p) (h : ∀ i, i < n → Ksec (now i)) : ∀ i, i < n → Ksec (layC now s x k i) := by
  intro i hi
  have hp := hs.p1
  have ha := hs.a0
  rcases Nat.lt_trichotomy i (s.b + s.a) with h1 | h1 | h1
  · rw [layC_lt i h1]; exact h i hi
  · rw [h1, layC_com]
    exact ⟨Cm.sec_size _, Or.inr ⟨_, ⟨hs.c, hs.j, hs.n, ha, by show 1 ≤ x.size / 63; omega, by show s.a + x.size / 63 ≤ 63; omega, sm_lt x⟩, rfl⟩⟩
  · rcases Nat.lt_or_ge i (s.b + s.a + 1 + k) with h2 | h2
    · obtain ⟨j, rfl⟩ : ∃ j, i = s.b + s.a + 1 + j := ⟨i - (s.b + s.a + 1), by omega⟩
      rw [layC_pay j (by omega)]
      have hy := ysize x k hx
      have hl := padc_list (O.tx (secP x k)) j k hy (by omega)
      have hmk := secP_mk x k j (by omega) (by omega)
      refine ⟨F.pad_size _ (F.chunk_size _ _), Or.inl ?_⟩
      have e1 : (F.pad (F.chunk (O.tx (secP x k)) j))[0]? = some 68 := by
        rw [ba_get, ← Array.getElem?_toList, hl, List.getElem?_take_of_lt (by decide), List.getElem?_drop, Array.getElem?_toList, Nat.add_zero, ← ba_get]
        exact hmk
      rw [e1]
      intro e
      have e2 := Option.some.inj e
      exact absurd e2 (by decide)
    · rw [layC_ge i h2]; exact h i hi
end
end Go.Proofs.YtncfbocbigdhiaaGreat
