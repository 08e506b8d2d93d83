/- Texts of this seat, one behind the other: VV. -/
import Derived.Test.YtncfbocbigdhiaaGreatJZ
import Derived.Test.YtncfbocbigdhiaaGreatJY
/- Texts of this seat, one behind the other: VA, VB, VC, VE, VD. -/
/- A device that does all, in any of its sessions: JC, JE, JG, JI, JJ once more (made by gva.py). -/
namespace Go.Proofs.YtncfbocbigdhiaaGreat.V
open Go.RowKit
/-- A device that does all, with nothing that is not sure, and what lies on it. -/
structure Dev (T : Nat) (w : World) (L : F.Loc) (q : Int) (n : Nat) (oth : List (Nat × Obj)) (now : Nat → ByteArray) (c : Int) (W : World) : Prop where
  ex : ∃ st lv ats, F.One T w L st lv oth W ∧ st.n = n ∧ st.serial = 1 ∧ st.session = q ∧ st.there = true ∧ F.Mode.idle.is st ∧ F.Dv st ats now now ∧ 0 ≤ st.count ∧ st.count ≤ c ∧ st.ln = 0
section
variable {T : Nat} {w : World} {L : F.Loc} {q : Int} {n : Nat} {oth oth' : List (Nat × Obj)} {now : Nat → ByteArray} {c : Int} {W W' : World}
theorem Dev.below (h : Dev T w L q n oth now c W) (hb : Below W.heap.size W W') : Dev T w L q n oth now c W' := by
  obtain ⟨st, lv, ats, h1, h2⟩ := h.ex
  exact ⟨st, lv, ats, h1.ofBelow hb, h2⟩
theorem Dev.forget (h : Dev T w L q n oth now c W) (hs : ∀ p ∈ oth', p ∈ oth) : Dev T w L q n oth' now c W := by
  obtain ⟨st, lv, ats, h1, h2⟩ := h.ex
  exact ⟨st, lv, ats, h1.forget hs, h2⟩
theorem Dev.alloc (h : Dev T w L q n oth now c W) (o : Obj) (ho : F.Obj.apart o) : Dev T w L q n ((W.heap.size, o) :: oth) now c (W.alloc o) := by
  obtain ⟨st, lv, ats, h1, h2⟩ := h.ex
  exact ⟨st, lv, ats, h1.alloc o ho, h2⟩
theorem Dev.setOther {B : Nat} {v0 v : Value} {t : TypeId} (h : Dev T w L q n ((B, .cells #[v0] t) :: oth) now c W) (hne : ∀ p ∈ oth, p.1 ≠ B) (ht : t ≠ 152) : Dev T w L q n ((B, .cells #[v] t) :: oth) now c (W.setCell ⟨B, 0, none⟩ v) := by
  obtain ⟨st, lv, ats, h1, h2⟩ := h.ex
  exact ⟨st, lv, ats, h1.setOther hne ht, h2⟩
theorem Dev.at' (h : Dev T w L q n oth now c W) {p : Nat × Obj} (hp : p ∈ oth) : W.heap[p.1]? = some p.2 := by
  obtain ⟨st, lv, ats, h1, h2⟩ := h.ex
  exact (h1.oth p hp).1
theorem Dev.bel (h : Dev T w L q n oth now c W) : Below T w W := by
  obtain ⟨st, lv, ats, h1, h2⟩ := h.ex
  exact h1.below
theorem Dev.more (h : Dev T w L q n oth now c W) {d : Int} (hd : c ≤ d) : Dev T w L q n oth now d W := by
  obtain ⟨st, lv, ats, h1, h2, h3, h4, h5, h6, h7, h8, h9, h10⟩ := h.ex
  exact ⟨st, lv, ats, h1, h2, h3, h4, h5, h6, h7, h8, by omega, h10⟩
theorem Dev.lts (h : Dev T w L q n oth now c W) : ∀ p ∈ oth, p.1 < W.heap.size := by
  obtain ⟨st, lv, ats, h1, h2⟩ := h.ex
  exact h1.lts
end
theorem dev_write {T : Nat} {w : World} {L : F.Loc} {q : Int} {n : Nat} {oth : List (Nat × Obj)} {st : F.St} {lv : Value} {ats : Nat → Nat} {now sure : Nat → ByteArray} {W : World} (h : F.One T w L st lv oth W) (hn : st.n = n) (hs : st.serial = 1) (hq : st.session = q) (ht : st.there = true) (hi : F.Mode.idle.is st) (hd : F.Dv st ats now sure) (hc : 0 ≤ st.count ∧ st.count ≤ 700000) (hn1 : n ≤ 1000) (M : Nat) (hM : (M, F.med L.P 1 q) ∈ oth) (frm : Nat) (y : ByteArray) (k : Nat) (hy : y.size = 64 * k) (hk : k ≤ 100) (hf : frm + k ≤ n) :
    Calls Tryz.prog 28 #[.pointer (some ⟨M, 0, none⟩), .int .i64 (frm : Nat), .string y] W fun e W' => e = .returned (.tuple #[]) ∧ ∃ st' lv' ats', F.One T w L st' lv' oth W' ∧ st'.n = n ∧ st'.serial = 1 ∧ st'.session = q ∧ st'.there = true ∧ F.Mode.idle.is st' ∧ F.Dv st' ats' (F.lay now frm y k) sure ∧ st.count ≤ st'.count ∧ st'.count ≤ st.count + k := by
  have hp := ypart hy
  refine (h.mwrite_md M (by rw [hs, hq]; exact hM) ht .idle hi (fun e => by cases e) ⟨hc.1, by omega⟩ hd (by omega) frm y (by omega) (by rw [hp]; omega)).mono ?_
  rintro e W' (⟨rfl, -, st', lv', ho, kp, c0, c1, hm, ats', hd'⟩ | ⟨E, -, ⟨j, hj⟩, -⟩)
  · rw [hp] at c1 hm hd'
    rw [idle_iter] at hm
    exact ⟨rfl, st', lv', ats', ho, kp.n.trans hn, kp.serial.trans hs, kp.session.trans hq, kp.there.trans ht, hm, hd', c0, c1⟩
  · rw [idle_iter] at hj
    exact absurd rfl hj
theorem dev_flush {T : Nat} {w : World} {L : F.Loc} {q : Int} {n : Nat} {oth : List (Nat × Obj)} {st : F.St} {lv : Value} {ats : Nat → Nat} {now sure : Nat → ByteArray} {W : World} (h : F.One T w L st lv oth W) (hn : st.n = n) (hs : st.serial = 1) (hq : st.session = q) (ht : st.there = true) (hi : F.Mode.idle.is st) (hd : F.Dv st ats now sure) (hc : 0 ≤ st.count ∧ st.count ≤ 700000) (M : Nat) (hM : (M, F.med L.P 1 q) ∈ oth) :
    Calls Tryz.prog 55 #[.pointer (some ⟨M, 0, none⟩)] W fun e W' => e = .returned (.tuple #[]) ∧ ∃ st' lv' ats', F.One T w L st' lv' oth W' ∧ st'.n = n ∧ st'.serial = 1 ∧ st'.session = q ∧ st'.there = true ∧ F.Mode.idle.is st' ∧ F.Dv st' ats' now now ∧ st.count ≤ st'.count ∧ st'.count ≤ st.count + 1 ∧ st'.ln = 0 := by
  refine (h.mflush M (by rw [hs, hq]; exact hM) hi.1 ht hi.2.1 hi.2.2 ⟨hc.1, by omega⟩).mono ?_
  rintro e W' ⟨rfl, lv', ho⟩
  exact ⟨rfl, _, lv', ats, ho, hn, hs, hq, ht, hi, hd.flushed rfl rfl rfl rfl, by show st.count ≤ st.count + 1; omega, Int.le_refl _, rfl⟩
set_option maxHeartbeats 1000000 in
theorem dev_append {T : Nat} {w : World} {L : F.Loc} {q : Int} {n : Nat} {oth : List (Nat × Obj)} {now : Nat → ByteArray} {c : Int} {W : World} {Sb : Nat} (s : Sg) (h : Dev T w L q n ((Sb, .cells s.cs 44) :: oth) now c W) (hM : (s.M, F.med L.P 1 q) ∈ oth) (hne : ∀ p ∈ oth, p.1 ≠ Sb) (hs : s.Ok) (x : ByteArray) (k : Nat) (hk : 1 ≤ k) (hroom : s.a + k < s.p) (hx : x.size = 63 * k) (hn : s.b + s.p ≤ n) (hn1 : n ≤ 1000) (hc : c ≤ 600000) :
    Calls Tryz.prog 17 #[.pointer (some ⟨Sb, 0, none⟩), .string x] W fun e W' => e = .returned (.int .i64 (s.a : Nat)) ∧ Dev T w L q n ((Sb, .cells (Sg.cs { s with a := s.a + 1 + k }) 44) :: oth) (layC now s x k) (c + 100) W' := by
  have hy := ysize x k hx
  have hp1 := hs.p1
  have hcs : (s.cm s.a x).sec.size = 64 * 1 := Cm.sec_size _
  have hM' : (s.M, F.med L.P 1 q) ∈ ((Sb, .cells s.cs 44) :: oth : List (Nat × Obj)) := List.mem_cons_of_mem _ hM
  let St : (Nat → ByteArray) → (Nat → ByteArray) → Int → World → Prop := fun a b d W => ∃ st lv ats, F.One T w L st lv ((Sb, .cells s.cs 44) :: oth) W ∧ st.n = n ∧ st.serial = 1 ∧ st.session = q ∧ st.there = true ∧ F.Mode.idle.is st ∧ F.Dv st ats a b ∧ 0 ≤ st.count ∧ st.count ≤ d
  let St0 : (Nat → ByteArray) → Int → World → Prop := fun a d W => ∃ st lv ats, F.One T w L st lv ((Sb, .cells s.cs 44) :: oth) W ∧ st.n = n ∧ st.serial = 1 ∧ st.session = q ∧ st.there = true ∧ F.Mode.idle.is st ∧ F.Dv st ats a a ∧ 0 ≤ st.count ∧ st.count ≤ d ∧ st.ln = 0
  let R : Nat → World → Prop := fun i W => if i = 0 then St now now c W else if i = 1 then St (layP now s x k) now (c + k) W else if i = 2 then St (layP now s x k) (layP now s x k) (c + k + 1) W else if i = 3 then St (layC now s x k) (layP now s x k) (c + k + 2) W else St0 (layC now s x k) (c + k + 3) W
  have hStB : ∀ {a b d W W'}, St a b d W → Below W.heap.size W W' → St a b d W' := fun ⟨st, lv, ats, h1, h2⟩ hb => ⟨st, lv, ats, h1.ofBelow hb, h2⟩
  have hStB0 : ∀ {a d W W'}, St0 a d W → Below W.heap.size W W' → St0 a d W' := fun ⟨st, lv, ats, h1, h2⟩ hb => ⟨st, lv, ats, h1.ofBelow hb, h2⟩
  have hStS0 : ∀ {a d W}, St0 a d W → W.heap[Sb]? = some (.cells s.cs 44) := fun ⟨st, lv, ats, h1, h2⟩ => (h1.oth _ (List.mem_cons_self ..)).1
  have hStS : ∀ {a b d W}, St a b d W → W.heap[Sb]? = some (.cells s.cs 44) := fun ⟨st, lv, ats, h1, h2⟩ => (h1.oth _ (List.mem_cons_self ..)).1
  refine (append_brk 1 (fun _ => False) s hs Sb x k hk hroom hx R W ?_ ?_ (by
    obtain ⟨st, lv, ats, h1, h2, h3, h4, h5, h6, h7, h8, h9, _⟩ := h.ex
    exact ⟨st, lv, ats, h1, h2, h3, h4, h5, h6, h7, h8, h9⟩) ?_ ?_ ?_ ?_).mono ?_
  · intro i W W' hR hb
    show if i = 0 then _ else _
    have hR' : (if i = 0 then St now now c W else if i = 1 then St (layP now s x k) now (c + k) W else if i = 2 then St (layP now s x k) (layP now s x k) (c + k + 1) W else if i = 3 then St (layC now s x k) (layP now s x k) (c + k + 2) W else St0 (layC now s x k) (c + k + 3) W) := hR
    repeat' (split at hR' <;> split <;> try contradiction)
    all_goals first | exact hStB hR' hb | exact hStB0 hR' hb
  · intro i W hR
    have hR' : (if i = 0 then St now now c W else if i = 1 then St (layP now s x k) now (c + k) W else if i = 2 then St (layP now s x k) (layP now s x k) (c + k + 1) W else if i = 3 then St (layC now s x k) (layP now s x k) (c + k + 2) W else St0 (layC now s x k) (c + k + 3) W) := hR
    repeat' split at hR'
    all_goals first | exact hStS hR' | exact hStS0 hR'
  · rintro W ⟨st, lv, ats, h1, h2, h3, h4, h5, h6, h7, h8, h9⟩
    refine (dev_write h1 h2 h3 h4 h5 h6 h7 ⟨h8, by omega⟩ hn1 s.M hM' (s.b + s.a + 1) (O.tx (secP x k)) k hy (by omega) (by omega)).mono ?_
    rintro e W' ⟨rfl, st', lv', ats', a1, a2, a3, a4, a5, a6, a7, a8, a9⟩
    exact Or.inl ⟨rfl, st', lv', ats', a1, a2, a3, a4, a5, a6, a7, by omega, by omega⟩
  · rintro W ⟨st, lv, ats, h1, h2, h3, h4, h5, h6, h7, h8, h9⟩
    refine (dev_flush h1 h2 h3 h4 h5 h6 h7 ⟨h8, by omega⟩ s.M hM').mono ?_
    rintro e W' ⟨rfl, st', lv', ats', a1, a2, a3, a4, a5, a6, a7, a8, a9, _⟩
    exact Or.inl ⟨rfl, st', lv', ats', a1, a2, a3, a4, a5, a6, a7, by omega, by omega⟩
  · rintro W ⟨st, lv, ats, h1, h2, h3, h4, h5, h6, h7, h8, h9⟩
    refine (dev_write h1 h2 h3 h4 h5 h6 h7 ⟨h8, by omega⟩ hn1 s.M hM' (s.b + s.a) (s.cm s.a x).sec 1 hcs (by decide) (by omega)).mono ?_
    rintro e W' ⟨rfl, st', lv', ats', a1, a2, a3, a4, a5, a6, a7, a8, a9⟩
    exact Or.inl ⟨rfl, st', lv', ats', a1, a2, a3, a4, a5, a6, a7, by omega, by omega⟩
  · rintro W ⟨st, lv, ats, h1, h2, h3, h4, h5, h6, h7, h8, h9⟩
    refine (dev_flush h1 h2 h3 h4 h5 h6 h7 ⟨h8, by omega⟩ s.M hM').mono ?_
    rintro e W' ⟨rfl, st', lv', ats', a1, a2, a3, a4, a5, a6, a7, a8, a9, a10⟩
    exact Or.inl ⟨rfl, st', lv', ats', a1, a2, a3, a4, a5, a6, a7, by omega, by omega, a10⟩
  · rintro e w' (⟨rfl, w2, ⟨st, lv, ats, h1, h2, h3, h4, h5, h6, h7, h8, h9, h10⟩, hks, hcs2⟩ | ⟨E, -, hB⟩)
    · exact ⟨rfl, st, lv, ats, h1.other6 hne hks hcs2, h2, h3, h4, h5, h6, h7, h8, by omega, h10⟩
    · exact hB.elim
theorem dev_scan {T : Nat} {w : World} {L : F.Loc} {q : Int} {n : Nat} {oth : List (Nat × Obj)} {now : Nat → ByteArray} {c : Int} {W : World} {Sb : Nat} (s : Sg) (h : Dev T w L q n ((Sb, .cells s.cs 44) :: oth) now c W) (hM : (s.M, F.med L.P 1 q) ∈ oth) (h5 : ∀ p ∈ oth, ∀ c fz, p.2 ≠ .cells c 5 fz) (hne : ∀ p ∈ oth, p.1 ≠ Sb)
    (hsb : s.c < 18446744073709551616 ∧ s.j < 18446744073709551616 ∧ s.n < 18446744073709551616) (hs : s.b ≤ 10000 ∧ 1 ≤ s.p ∧ s.p ≤ 64) (hfit : s.b + s.p ≤ n) (hn1 : n ≤ 1000) (hc : c ≤ 40000) (hk : ∀ i, i < n → Ksec (now i)) {l : List (Nat × ByteArray)} {e : Nat} (hch : Chn now s l e) (he : e < s.p → (now (s.b + e))[0]? ≠ some 67) :
    Calls Tryz.prog 59 #[.pointer (some ⟨Sb, 0, none⟩)] W fun r W' => ∃ v ol, r = .returned v ∧ Plc v (l.map Prod.fst) ol ∧ Dev T w L q n (ol ++ (Sb, .cells (Sg.cs { s with a := e }) 44) :: oth) now (c + 66 * l.length + 66) W' ∧ (∀ p ∈ ol, ∀ q ∈ (Sb, .cells s.cs 44) :: oth, p.1 ≠ q.1) := by
  obtain ⟨T1, hx⟩ := Mx.of Sb oth
  obtain ⟨st, lv, ats, ho, hn, hsr, hss, hth, ⟨hi1, hi2, hi3⟩, hd, hc0, hc1, hl0⟩ := h.ex
  have hlt := hch.lt
  have key : ∀ t, ∃ (q : Cm) (er : Int), 1 ≤ t → t < s.p → (q.k ≤ 255 ∧ (∀ W, Calls Tryz.prog 131 #[.string ⟨(F.rdsL st (s.b + t) 1).toArray⟩] W fun e w' => e = .returned (.tuple #[.agg q.cs, .int .i64 er]) ∧ Below W.heap.size W w') ∧ (∀ x, (t, x) ∈ l → q = s.cm t x) ∧ (t = e → ∀ z, q ≠ s.cm t z)) := by
    intro t
    by_cases ht : 1 ≤ t ∧ t < s.p
    · have hr : (⟨(F.rdsL st (s.b + t) 1).toArray⟩ : ByteArray) = now (s.b + t) := by rw [rds_one, rd_now hd hn _ (by omega)]
      by_cases hx : ∃ x, (t, x) ∈ l
      · obtain ⟨x, hx⟩ := hx
        obtain ⟨k, hg⟩ := hch.grp _ hx
        have hg' : Grp now s t k x := hg
        have hcom := hg'.com
        have hxk : x.size / 63 = k := by have := hg'.sz; omega
        have hfit2 := hg'.fit
        have hk1 := hg'.k1
        have hok : (s.cm t x).Ok := ⟨hsb.1, hsb.2.1, hsb.2.2, ht.1, by show 1 ≤ x.size / 63; omega, by show t + x.size / 63 ≤ 63; omega, sm_lt x⟩
        refine ⟨s.cm t x, 0, fun _ _ => ⟨by show x.size / 63 ≤ 255; omega, fun W => by rw [hr, hcom]; exact tocommit_back _ hok W, fun x' hx' => ?_, fun hte => ?_⟩⟩
        · have := hch.one (t, x) hx (t, x') hx' rfl
          injection this with _ e2
          rw [e2]
        · have := hlt.2 _ hx
          simp only at this
          omega
      · obtain ⟨q, er, hq1, hq2, hq3⟩ := ksec_tells (hk (s.b + t) (by omega))
        refine ⟨q, er, fun _ _ => ⟨hq1, fun W => by rw [hr]; exact hq3 W, fun x' hx' => absurd ⟨x', hx'⟩ hx, fun hte z => ?_⟩⟩
        rw [hq2 (by rw [hte]; exact he (by omega))]
        intro e2
        have := congrArg Cm.a e2
        have e3 : (0 : Nat) = t := this
        omega
    · exact ⟨cm0, 0, fun h1 h2 => absurd ⟨h1, h2⟩ ht⟩
  let Q : Nat → Cm := fun t => (key t).choose
  let E : Nat → Int := fun t => (key t).choose_spec.choose
  have hQE : ∀ t, 1 ≤ t → t < s.p → _ := fun t => (key t).choose_spec.choose_spec
  have hsc := scan_dev ho (by rw [hsr, hss]; exact hM) h5 hx hne hs (by omega) (by omega) hi1 hth hi2 hi3 ⟨hd.ok.1, hd.ok.2⟩ ⟨hc0, by omega⟩ Q E (fun t h1 h2 => ⟨(hQE t h1 h2).1, (hQE t h1 h2).2.1⟩)
  have hcnt : ∀ p ∈ l, ∀ k, Grp now s p.1 k p.2 → cntO st s Q p.1 = k := by
    intro p hp k hg
    have hq := (hQE p.1 (hlt.2 p hp).1 (by have := hg.fit; omega)).2.2.1 p.2 hp
    have hxk : p.2.size / 63 = k := by have := hg.sz; omega
    have hqk : (Q p.1).k = k := by show (key p.1).choose.k = k; rw [hq]; exact hxk
    have hz : zO st s p.1 (Q p.1).k = p.2 := by
      rw [hqk]
      unfold zO
      rw [if_neg (by have := hg.k1; have := hg.fit; omega), grp_read hd hn hfit hg, rdp_secP p.2 k hg.sz]
    unfold cntO
    rw [if_pos ⟨by have := hg.fit; omega, by rw [hz]; exact hq⟩, hqk]
  have hway : ∀ {l2 : List (Nat × ByteArray)} {e2 : Nat}, Chn now s l2 e2 → (∀ p ∈ l2, p ∈ l) → Way (cntO st s Q) (l2.map Prod.fst) e2 := by
    intro l2 e2 hc2
    induction hc2 with
    | nil => intro _; exact Way.nil
    | next h1 h2 ih =>
      rename_i l3 t k x
      intro hsub
      have hck := hcnt (t, x) (hsub _ (List.mem_append_right _ (List.mem_singleton.2 rfl))) k h2
      have := Way.next (ih (fun p hp => hsub p (List.mem_append_left _ hp))) (t := t) (by rw [hck]; exact h2.k1)
      rw [hck] at this
      rw [List.map_append]
      exact this
  have hend : cntO st s Q e = 0 := by
    unfold cntO
    rw [if_neg]
    rintro ⟨h1, h2⟩
    exact (hQE e hlt.1 h1).2.2.2 rfl _ h2
  refine hsc.mono ?_
  rintro r W' ⟨ps, t, v, hw1, hz1, rfl, c2, lv2, ol, hpl, ho2, hca, hcb, hra⟩
  obtain ⟨rfl, rfl⟩ := hw1.det (hway hch (fun p hp => hp)) hz1 hend
  rw [List.length_map] at hcb
  exact ⟨v, ol, rfl, hpl, ⟨{ st with count := c2 }, lv2, ats, ho2, hn, hsr, hss, hth, ⟨hi1, hi2, hi3⟩, hd.same rfl rfl rfl rfl, by show 0 ≤ c2; omega, by show c2 ≤ _; omega, hl0⟩, SI.apart hx hra⟩
theorem dev_read {T : Nat} {w : World} {L : F.Loc} {q : Int} {n : Nat} {oth : List (Nat × Obj)} {now : Nat → ByteArray} {c : Int} {W : World} {Sb : Nat} (s : Sg) (h : Dev T w L q n oth now c W) (hSb : (Sb, .cells s.cs 44) ∈ oth) (hM : (s.M, F.med L.P 1 q) ∈ oth) (h5 : ∀ p ∈ oth, ∀ c fz, p.2 ≠ .cells c 5 fz)
    (hs : s.b ≤ 10000 ∧ s.p ≤ 64) (hfit : s.b + s.p ≤ n) (hn1 : n ≤ 1000) (hc : c ≤ 90000) {t k : Nat} {x : ByteArray} (ht : 1 ≤ t) (hg : Grp now s t k x) :
    Calls Tryz.prog 60 #[.pointer (some ⟨Sb, 0, none⟩), .int .i64 (t : Nat), .int .i64 (k : Nat)] W fun r W' => r = .returned (.string x) ∧ Dev T w L q n oth now (c + k) W' := by
  have hy := ysize x k hg.sz
  have hf := hg.fit
  have hx := rdp_secP x k hg.sz
  have hr := sread_any s hs Sb t k ht hg.k1 hg.fit (O.tx (secP x k)) hy (Dev T w L q n oth now c) (Dev T w L q n oth now (c + k)) W h (fun W W' a b => a.below b) (fun W W' a b => a.below b) (fun W a => a.at' hSb) (fun W a => a.at' hSb) (fun W hW => by
    obtain ⟨st, lv, ats, ho, hn, hsr, hss, hth, ⟨hi1, hi2, hi3⟩, hd, hc0, hc1, hl0⟩ := hW.ex
    have hm := ho.mread s.M (by rw [hsr, hss]; exact hM) h5 (s.b + t + 1) k (by omega) (by omega) hi1 hth hi2 hi3 ⟨hd.ok.1, hd.ok.2⟩ ⟨hc0, by omega⟩
    refine hm.mono ?_
    rintro e W' ⟨rfl, lv', ho'⟩
    refine ⟨by rw [grp_read hd hn hfit hg], { st with count := st.count + k }, lv', ats, ho', hn, hsr, hss, hth, ⟨hi1, hi2, hi3⟩, hd.same rfl rfl rfl rfl, by show 0 ≤ st.count + (k : Int); omega, by show st.count + (k : Int) ≤ _; omega, hl0⟩)
  rw [hx] at hr
  exact hr
theorem dev_of {T : Nat} {w : World} {L : F.Loc} {q : Int} {n : Nat} {oth : List (Nat × Obj)} {now : Nat → ByteArray} {c : Int} {W : World} (h : Dev T w L q n oth now c W) (p : Nat) :
    Calls Tryz.prog 13 #[.pointer (some ⟨L.P, 0, none⟩), .int .i64 (p : Nat)] W fun e w' => ∃ S M, e = .returned (.pointer (some ⟨S, 0, none⟩)) ∧ Dev T w L q n ((S, .cells (sg0 M p).cs 44) :: (M, F.med L.P 1 q) :: oth) now c w' ∧ S ≠ M ∧ (∀ q ∈ oth, q.1 ≠ S) := by
  obtain ⟨st, lv, ats, ho, h2, h3, h4, h5, h6⟩ := h.ex
  refine (of13 ho h5 h3 p).mono ?_
  rintro e w' ⟨S, M, rfl, o1, a, b⟩
  rw [h4] at o1
  exact ⟨S, M, rfl, ⟨st, lv, ats, o1, h2, h3, h4, h5, h6⟩, a, b⟩
theorem dev_room {T : Nat} {w : World} {L : F.Loc} {q : Int} {n : Nat} {oth : List (Nat × Obj)} {now : Nat → ByteArray} {c : Int} {W : World} {Sb : Nat} (s : Sg) (h : Dev T w L q n oth now c W) (hS : (Sb, .cells s.cs 44) ∈ oth) (k : Int) (hs : s.p ≤ 1000 ∧ s.a ≤ 1000) (b : Bool) (hb : decide (0 < k ∧ k < (s.p : Nat) - (s.a : Nat)) = b) :
    Calls Tryz.prog 14 #[.pointer (some ⟨Sb, 0, none⟩), .int .i64 k] W fun e w' => e = .returned (.bool b) ∧ Dev T w L q n oth now c w' := by
  refine (room_any s Sb k W (h.at' hS) hs).mono ?_
  rintro e w' ⟨rfl, hbl⟩
  rw [hb]
  exact ⟨rfl, h.below hbl⟩
theorem Dev.guarded {T : Nat} {w : World} {L : F.Loc} {q : Int} {n : Nat} {oth : List (Nat × Obj)} {now : Nat → ByteArray} {c : Int} {W : World} (h : Dev T w L q n oth now c W) : Dev T w L q n (F.gob W.heap.size oth) now c (F.G0 W) := by
  obtain ⟨st, lv, ats, h1, h2⟩ := h.ex
  exact ⟨st, lv, ats, h1.guarded, h2⟩
theorem Dev.kt {T : Nat} {w : World} {L : F.Loc} {q : Int} {n : Nat} {oth : List (Nat × Obj)} {now : Nat → ByteArray} {c : Int} {W W' : World} {B : Nat} (h : Dev T w L q n (F.gob B oth) now c W) (hne : ∀ p ∈ oth, p.1 ≠ B ∧ p.1 ≠ B + 1) (k : F.KT B W W') : Dev T w L q n oth now c W' := by
  obtain ⟨st, lv, ats, h1, h2⟩ := h.ex
  exact ⟨st, lv, ats, h1.kt2 hne k, h2⟩
/-- A function that only ends well, within Guard. -/
theorem dev_guard {T : Nat} {w : World} {L : F.Loc} {q : Int} {n : Nat} {oth oth2 oth3 : List (Nat × Obj)} {now now2 : Nat → ByteArray} {c c2 : Int} {W : World} (f : Nat) (cap : Array Value) (hent : ∀ args W, (callFunc f args).run Tryz.prog W = .ok (.enter f args) W) (h : Dev T w L q n oth now c W)
    (hop : Dev T w L q n (F.gob W.heap.size oth) now c (F.G0 W) → Calls Tryz.prog f cap (F.G0 W) fun e W' => e = .returned (.tuple #[]) ∧ Dev T w L q n oth2 now2 c2 W') (hs : ∀ p ∈ F.gob W.heap.size oth3, p ∈ oth2) (hne : ∀ p ∈ oth3, p.1 ≠ W.heap.size ∧ p.1 ≠ W.heap.size + 1) :
    Calls Tryz.prog 15 #[.func (.func f) #[] cap] W fun e w' => e = .returned (.tuple #[.agg #[.int .i64 0, .int .i64 0], .bool false]) ∧ Dev T w L q n oth3 now2 c2 w' := by
  refine (F.guard_ok f cap (fun W' => Dev T w L q n oth2 now2 c2 W') W hent ((hop h.guarded).mono ?_)).mono ?_
  · rintro e W' ⟨rfl, hd⟩
    exact ⟨rfl, hd.at' (p := (W.heap.size, F.bob)) (hs _ (by simp [F.gob])), hd.at' (p := (W.heap.size + 1, F.iob)) (hs _ (by simp [F.gob])), hd⟩
  · rintro e w' ⟨rfl, W2, hd, hk⟩
    exact ⟨rfl, (hd.forget hs).kt hne hk⟩
/-- A row of texts in a device's world. -/
theorem dev_tx {T : Nat} {w : World} {L : F.Loc} {q : Int} {n : Nat} {rest : List (Nat × Obj)} {now : Nat → ByteArray} {c : Int} {W : World} {T1 Ob : Nat} {u : Obj} (hx : Mx T1 Ob rest) {v : Value} {xs : List ByteArray} {ol : List (Nat × Obj)} (h : Txs v xs ol) (hr : ∀ p ∈ ol, T1 ≤ p.1) (hd : Dev T w L q n (ol ++ (Ob, u) :: rest) now c W) :
    W.ownsRow T1 9 1 v xs.length (xs.map .string) ∧ T1 ≤ W.heap.size ∧ ∀ x v' W', W'.ownsRow T1 9 1 v' (xs.length + 1) (xs.map .string ++ [.string x]) → W.grownBy W' v.ownBlock → ∃ ol', Txs v' (xs ++ [x]) ol' ∧ (∀ p ∈ ol', T1 ≤ p.1) ∧ Dev T w L q n (ol' ++ (Ob, u) :: rest) now c W' := by
  obtain ⟨st, lv, ats, ho, h2⟩ := hd.ex
  have hle := hx.le ho
  refine ⟨?_, hle.2, ?_⟩
  · rcases h with ⟨rfl, rfl, rfl⟩ | ⟨g, cap, cur, rfl, rfl, h1, h2, h3, h4⟩
    · exact ⟨rfl, Or.inl ⟨rfl, rfl⟩⟩
    · obtain ⟨o1, _, _, o4⟩ := ho.oth (g, .cells cur 9) (List.mem_append_left _ (List.mem_singleton.2 rfl))
      exact ⟨by simp, Or.inr ⟨g, cap, cur, rfl, hr _ (List.mem_singleton.2 rfl), o1, h1, h2, by rw [Nat.mul_one]; exact h3, by rw [Nat.mul_one]; exact h4⟩⟩
  · intro x v' W' hn hg
    have hdj := SI.apart (o := u) hx hr
    have hrow : ∀ g, v.ownBlock = some g → T ≤ g ∧ ∃ c, W.heap[g]? = some (.cells c 9) := by
      intro g e
      rcases h with ⟨rfl, rfl, rfl⟩ | ⟨g', cap, cur, rfl, rfl, _⟩
      · cases e
      · injection e with e
        subst e
        obtain ⟨o1, _, _, o4⟩ := ho.oth (g', .cells cur 9) (by simp)
        exact ⟨o4, cur, o1⟩
    have h1 : F.One T w L st lv ((Ob, u) :: rest) W := ho.forget (fun p hp => List.mem_append_right _ hp)
    have h3 := h1.grownS hg hrow (by
      intro p hp e
      rcases h with ⟨rfl, rfl, rfl⟩ | ⟨g', cap, cur, rfl, rfl, _⟩
      · cases e
      · injection e with e
        exact hdj (g', .cells cur 9) (List.mem_singleton.2 rfl) p hp e)
    rcases hn.2 with ⟨_, e0⟩ | ⟨g, cap, cur, rfl, k1, k2, k3, k4, k5, k6⟩
    · exact absurd e0 (Nat.succ_ne_zero _)
    · rw [Nat.mul_one] at k5 k6
      refine ⟨[(g, .cells cur 9)], Or.inr ⟨g, cap, cur, ?_, rfl, ?_, k4, k5, ?_⟩, fun p hp => by rw [List.mem_singleton.1 hp]; exact k1, st, lv, ats, h3.addS k2 (Nat.le_trans hle.1 k1), h2⟩
      · rw [List.length_append]; rfl
      · rw [List.length_append]; exact k3
      · rw [List.length_append, List.map_append]; exact k6
/-- The texts that were read so far lie in a row, behind all the rest. -/
def RS (T : Nat) (w : World) (L : F.Loc) (q : Int) (n : Nat) (rest : List (Nat × Obj)) (now : Nat → ByteArray) (T1 Ob : Nat) (xs : List ByteArray) (c : Int) (v : Value) (W : World) : Prop :=
  ∃ ol, Txs v xs ol ∧ (∀ p ∈ ol, T1 ≤ p.1) ∧ Dev T w L q n (ol ++ (Ob, .cells #[v] 30) :: rest) now c W
section
variable {T : Nat} {w : World} {L : F.Loc} {q : Int} {n : Nat} {rest : List (Nat × Obj)} {now : Nat → ByteArray} {T1 Ob : Nat} {xs : List ByteArray} {c : Int} {v : Value} {W W' : World}
theorem RS.below (h : RS T w L q n rest now T1 Ob xs c v W) (hb : Below W.heap.size W W') : RS T w L q n rest now T1 Ob xs c v W' := by
  obtain ⟨ol, h1, h2, h3⟩ := h
  exact ⟨ol, h1, h2, h3.below hb⟩
theorem RS.moreC {d : Int} (h : RS T w L q n rest now T1 Ob xs c v W) (hd : c ≤ d) : RS T w L q n rest now T1 Ob xs d v W := by
  obtain ⟨ol, h1, h2, h3⟩ := h
  exact ⟨ol, h1, h2, h3.more hd⟩
theorem RS.at' (h : RS T w L q n rest now T1 Ob xs c v W) {p : Nat × Obj} (hp : p ∈ rest) : W.heap[p.1]? = some p.2 := by
  obtain ⟨ol, h1, h2, h3⟩ := h
  exact h3.at' (List.mem_append_right _ (List.mem_cons_of_mem _ hp))
theorem RS.out (h : RS T w L q n rest now T1 Ob xs c v W) : W.heap[Ob]? = some (.cells #[v] 30) := by
  obtain ⟨ol, h1, h2, h3⟩ := h
  exact h3.at' (p := (Ob, .cells #[v] 30)) (List.mem_append_right _ (List.mem_cons_self ..))
/-- What was read is one text more. -/
def RS2 (T : Nat) (w : World) (L : F.Loc) (q : Int) (n : Nat) (rest : List (Nat × Obj)) (now : Nat → ByteArray) (T1 Ob : Nat) (xs : List ByteArray) (c : Int) (v0 v : Value) (W : World) : Prop :=
  ∃ ol, Txs v xs ol ∧ (∀ p ∈ ol, T1 ≤ p.1) ∧ Dev T w L q n (ol ++ (Ob, .cells #[v0] 30) :: rest) now c W
theorem RS2.out {v0 : Value} (h : RS2 T w L q n rest now T1 Ob xs c v0 v W) : W.heap[Ob]? = some (.cells #[v0] 30) := by
  obtain ⟨ol, h1, h2, h3⟩ := h
  exact h3.at' (p := (Ob, .cells #[v0] 30)) (List.mem_append_right _ (List.mem_cons_self ..))
theorem RS2.at' {v0 : Value} (h : RS2 T w L q n rest now T1 Ob xs c v0 v W) {p : Nat × Obj} (hp : p ∈ rest) : W.heap[p.1]? = some p.2 := by
  obtain ⟨ol, h1, h2, h3⟩ := h
  exact h3.at' (List.mem_append_right _ (List.mem_cons_of_mem _ hp))
theorem RS2.sl {v0 : Value} (h : RS2 T w L q n rest now T1 Ob xs c v0 v W) : ∃ ao m cp, v = .slice ao m cp := by
  obtain ⟨ol, h1, h2, h3⟩ := h
  rcases h1 with ⟨rfl, _, _⟩ | ⟨g, cap, cur, rfl, _⟩
  · exact ⟨_, _, _, rfl⟩
  · exact ⟨_, _, _, rfl⟩
theorem RS2.store (hx : Mx T1 Ob rest) (hno : ∀ p ∈ rest, p.1 ≠ Ob) {v0 : Value} (h : RS2 T w L q n rest now T1 Ob xs c v0 v W) : W.heap[Ob]? = some (.cells #[v0] 30) ∧ RS T w L q n rest now T1 Ob xs c v (W.setCell ⟨Ob, 0, none⟩ v) := by
  obtain ⟨ol, h1, h2, h3⟩ := h
  refine ⟨h3.at' (p := (Ob, .cells #[v0] 30)) (List.mem_append_right _ (List.mem_cons_self ..)), ol, h1, h2, ?_⟩
  have h4 : Dev T w L q n ((Ob, .cells #[v0] 30) :: (ol ++ rest)) now c W := h3.forget (by
    intro p hp
    simp only [List.mem_cons, List.mem_append] at hp ⊢
    rcases hp with hp | hp | hp
    · exact Or.inr (Or.inl hp)
    · exact Or.inl hp
    · exact Or.inr (Or.inr hp))
  have h5 := h4.setOther (v := v) (by
    intro p hp
    rcases List.mem_append.1 hp with hp | hp
    · have := h2 p hp; have := hx.sb; omega
    · exact hno p hp) (by decide)
  exact h5.forget (by
    intro p hp
    simp only [List.mem_cons, List.mem_append] at hp ⊢
    rcases hp with hp | hp | hp
    · exact Or.inr (Or.inl hp)
    · exact Or.inl hp
    · exact Or.inr (Or.inr hp))
theorem RS.more (hx : Mx T1 Ob rest) (h : RS T w L q n rest now T1 Ob xs c v W) : W.ownsRow T1 9 1 v xs.length (xs.map .string) ∧ T1 ≤ W.heap.size ∧ ∀ x v' W', W'.ownsRow T1 9 1 v' (xs.length + 1) (xs.map .string ++ [.string x]) → W.grownBy W' v.ownBlock → RS2 T w L q n rest now T1 Ob (xs ++ [x]) c v v' W' := by
  obtain ⟨ol, h1, h2, h3⟩ := h
  exact dev_tx hx h1 h2 h3
theorem RS.read {Sb : Nat} (s : Sg) (h : RS T w L q n rest now T1 Ob xs c v W) (hSb : (Sb, .cells s.cs 44) ∈ rest) (hM : (s.M, F.med L.P 1 q) ∈ rest) (h5 : ∀ p ∈ rest, ∀ c fz, p.2 ≠ .cells c 5 fz)
    (hs : s.b ≤ 10000 ∧ s.p ≤ 64) (hfit : s.b + s.p ≤ n) (hn1 : n ≤ 1000) (hc : c ≤ 90000) {t k : Nat} {x : ByteArray} (ht : 1 ≤ t) (hg : Grp now s t k x) :
    Calls Tryz.prog 60 #[.pointer (some ⟨Sb, 0, none⟩), .int .i64 (t : Nat), .int .i64 (k : Nat)] W fun r W' => r = .returned (.string x) ∧ RS T w L q n rest now T1 Ob xs (c + k) v W' := by
  obtain ⟨ol, h1, h2, h3⟩ := h
  refine (dev_read s h3 (List.mem_append_right _ (List.mem_cons_of_mem _ hSb)) (List.mem_append_right _ (List.mem_cons_of_mem _ hM)) ?_ hs hfit hn1 hc ht hg).mono ?_
  · intro p hp cc fz e
    rcases List.mem_append.1 hp with hp | hp
    · rcases h1 with ⟨_, _, rfl⟩ | ⟨g, cap, cur, _, rfl, _⟩
      · cases hp
      · rw [List.mem_singleton.1 hp] at e; injection e with _ e _; exact absurd e (by decide)
    · rcases List.mem_cons.1 hp with rfl | hp
      · injection e with _ e _; exact absurd e (by decide)
      · exact h5 p hp cc fz e
  · rintro e W' ⟨rfl, h4⟩
    exact ⟨rfl, ol, h1, h2, h4⟩
end
set_option maxHeartbeats 4000000 in
set_option maxRecDepth 100000 in
theorem op58 {T : Nat} {w : World} {L : F.Loc} {q : Int} {n : Nat} {oth : List (Nat × Obj)} {now : Nat → ByteArray} {c : Int} {W0 : World} {Pb Ob Sb : Nat} (s : Sg) (h : Dev T w L q n ((Ob, .cells #[.slice none 0 0] 30) :: (Sb, .cells s.cs 44) :: oth) now c W0)
    (hP : (Pb, .cells #[.pointer (some ⟨Sb, 0, none⟩)] 28) ∈ oth) (hM : (s.M, F.med L.P 1 q) ∈ oth) (h5 : ∀ p ∈ oth, ∀ c fz, p.2 ≠ .cells c 5 fz) (hOS : Ob ≠ Sb) (hne : ∀ p ∈ oth, p.1 ≠ Sb) (hno : ∀ p ∈ oth, p.1 ≠ Ob)
    (hsb : s.c < 18446744073709551616 ∧ s.j < 18446744073709551616 ∧ s.n < 18446744073709551616) (hs : s.b ≤ 10000 ∧ 1 ≤ s.p ∧ s.p ≤ 64) (hfit : s.b + s.p ≤ n) (hn1 : n ≤ 1000) (hc : c ≤ 40000) (hk : ∀ i, i < n → Ksec (now i)) {l : List (Nat × ByteArray)} {e : Nat} (hch : Chn now s l e) (he : e < s.p → (now (s.b + e))[0]? ≠ some 67) :
    Calls Tryz.prog 58 #[.pointer (some ⟨Pb, 0, none⟩), .pointer (some ⟨Ob, 0, none⟩)] W0 fun r w' => r = .returned (.tuple #[]) ∧ ∃ T1 v rest, Mx T1 Ob rest ∧ (∀ p ∈ (Sb, Obj.cells (Sg.cs { s with a := e }) 44) :: oth, p ∈ rest) ∧ RS T w L q n rest now T1 Ob (l.map Prod.snd) (c + 10000) v w' := by
  have hlen := hch.len
  have hl32 : l.length ≤ 32 := by omega
  have hsc := dev_scan (oth := (Ob, .cells #[.slice none 0 0] 30) :: oth) (Sb := Sb) s (h.forget (by
    intro p hp
    simp only [List.mem_cons] at hp ⊢
    rcases hp with rfl | rfl | hp <;> simp [*])) (List.mem_cons_of_mem _ hM) (by
      intro p hp c fz e
      rcases List.mem_cons.1 hp with rfl | hp
      · injection e with _ e _; exact absurd e (by decide)
      · exact h5 p hp c fz e) (by
      intro p hp
      rcases List.mem_cons.1 hp with rfl | hp
      · exact hOS
      · exact hne p hp) hsb hs hfit hn1 hc hk hch he
  have q0 := F.cell_of (h.at' (p := (Pb, .cells #[.pointer (some ⟨Sb, 0, none⟩)] 28)) (by simp [hP])) 0
  simp at q0
  have HAT : Hid _ := hch.at'
  go_enter Tryz.func58, Tryz.ntmps58
  go_wp2_with fail
  go_call hsc as e1 w1 ⟨v1, ol1, rfl, hpl, hd1, hap⟩
  obtain ⟨rest, hrest⟩ : ∃ rest, rest = (Sb, Obj.cells (Sg.cs { s with a := e }) 44) :: (ol1 ++ oth) := ⟨_, rfl⟩
  obtain ⟨T1, hx⟩ := Mx.of Ob rest
  have hR0 : RS T w L q n rest now T1 Ob [] (c + 66 * l.length + 66) (.slice none 0 0) w1 := ⟨[], Txs.nil, (fun p hp => by cases hp), hd1.forget (by
    intro p hp
    rw [hrest] at hp
    simp only [List.nil_append, List.mem_cons, List.mem_append] at hp ⊢
    rcases hp with hp | hp | hp | hp
    · exact Or.inr (Or.inr (Or.inl hp))
    · exact Or.inr (Or.inl hp)
    · exact Or.inl hp
    · exact Or.inr (Or.inr (Or.inr hp)))⟩
  obtain ⟨ao, cp, g, rfl, hao, hcl⟩ := hpl.cellD (fun p hp => hd1.at' (p := p) (by simp [hp]))
  rw [List.length_map] at hao
  have hS : (Sb, Obj.cells (Sg.cs { s with a := e }) 44) ∈ rest := by rw [hrest]; exact List.mem_cons_self ..
  have hsub : ∀ p ∈ (Sb, Obj.cells (Sg.cs { s with a := e }) 44) :: oth, p ∈ rest := by
    intro p hp
    rw [hrest]
    rcases List.mem_cons.1 hp with rfl | hp
    · exact List.mem_cons_self ..
    · exact List.mem_cons_of_mem _ (List.mem_append_right _ hp)
  have hol : ∀ p ∈ ol1, p ∈ rest := fun p hp => by rw [hrest]; exact List.mem_cons_of_mem _ (List.mem_append_left _ hp)
  have hnr : ∀ p ∈ rest, p.1 ≠ Ob := by
    intro p hp
    rw [hrest] at hp
    rcases List.mem_cons.1 hp with rfl | hp
    · exact Ne.symm hOS
    · rcases List.mem_append.1 hp with hp | hp
      · exact hap p hp (Ob, .cells #[.slice none 0 0] 30) (by simp)
      · exact hno p hp
  have h5r : ∀ p ∈ rest, ∀ c fz, p.2 ≠ .cells c 5 fz := by
    intro p hp c fz e
    rw [hrest] at hp
    rcases List.mem_cons.1 hp with rfl | hp
    · injection e with _ e _; exact absurd e (by decide)
    · rcases List.mem_append.1 hp with hp | hp
      · obtain ⟨c', e'⟩ := hpl.ty p hp
        rw [e'] at e; injection e with _ e _; exact absurd e (by decide)
      · exact h5 p hp c fz e
  have HF : Hid (Mx T1 Ob rest ∧ (∀ p ∈ rest, p.1 ≠ Ob) ∧ (∀ p ∈ rest, ∀ c fz, p.2 ≠ .cells c 5 fz) ∧ (Sb, Obj.cells (Sg.cs { s with a := e }) 44) ∈ rest ∧ (Pb, Obj.cells #[.pointer (some ⟨Sb, 0, none⟩)] 28) ∈ rest ∧ (s.M, F.med L.P 1 q) ∈ rest) := ⟨hx, hnr, h5r, hS, hsub _ (List.mem_cons_of_mem _ hP), hsub _ (List.mem_cons_of_mem _ hM)⟩
  have HS : Hid _ := hsub
  have HR0 : Hid _ := hR0
  have HAO : Hid _ := hao
  have HCL : Hid (∀ W : World, (∀ p ∈ rest, W.heap[p.1]? = some p.2) → ∀ j (hj : j < l.length), W.cell? ⟨g, j, none⟩ = some (nv l[j].1)) := by
    intro W hW j hj
    have q := hcl W (fun p hp => hW p (hol p hp)) j (by rw [List.length_map]; exact hj)
    rw [q, List.getElem_map]
  have HK : Hid (s.b ≤ 10000 ∧ 1 ≤ s.p ∧ s.p ≤ 64 ∧ s.b + s.p ≤ n ∧ n ≤ 1000 ∧ c ≤ 40000) := ⟨hs.1, hs.2.1, hs.2.2, hfit, hn1, hc⟩
  have hee : e ≤ 64 := by omega
  obtain ⟨N, hN⟩ : ∃ N, N = l.length := ⟨_, rfl⟩
  have HNN : Hid _ := hN
  have hlm : (l.map Prod.fst).length = N := by rw [List.length_map, hN]
  rw [hlm]
  rw [← hN] at hl32
  clear hsc h hP hM h5 hOS hne hno hsb hs hfit hn1 hc hk hch he hlen hap hd1 hrest hx hR0 hao hcl hS hsub hol hnr h5r hpl hN hlm q0
  go_wp2
  go_loopw [10] (fun iv wr => ∃ i : Nat, iv = .int .i64 (i : Nat) ∧ i ≤ N ∧ Hid (∃ v, RS T w L q n rest now T1 Ob ((l.map Prod.snd).take i) (c + 66 * l.length + 66 + 64 * i) v wr)) (fun iv _ => N - (intOf iv).toNat)
  case atStart => exact ⟨0, rfl, Nat.zero_le _, _, by
    have q := HR0.out
    have e : c + 66 * (l.length : Int) + 66 + 64 * ((0 : Nat) : Int) = c + 66 * l.length + 66 := by omega
    rw [e, List.take_zero]; exact q⟩
  case round =>
    obtain ⟨i, rfl, hiN, HI⟩ := hrel
    clear HR0
    rcases Nat.eq_or_lt_of_le hiN with rfl | hlt
    · have HE : Hid (∃ v, RS T w L q n rest now T1 Ob (l.map Prod.snd) (c + 10000) v wr) := by
        obtain ⟨v, q⟩ := HI.out
        have e : (l.map Prod.snd).take i = l.map Prod.snd := List.take_of_length_le (by rw [List.length_map, HNN.out]; exact Nat.le_refl _)
        rw [e] at q
        have hN := HNN.out
        exact ⟨v, q.moreC (by omega)⟩
      clear HI
      go_wp2
      go_returns
      obtain ⟨v, q⟩ := HE.out
      exact ⟨rfl, T1, v, rest, HF.out.1, HS.out, q⟩
    · have hil : i < l.length := by rw [← HNN.out]; exact hlt
      obtain ⟨k, ht1, hg, hnx, hla⟩ := HAT.out i hil
      have hcell : ∀ j (hj : j < l.length), wr.cell? ⟨g, j, none⟩ = some (nv l[j].1) := by
        obtain ⟨v, q⟩ := HI.out
        exact HCL.out wr (fun p hp => q.at' hp)
      have c1 := hcell i hil
      have c2 : wr.cell? ⟨Sb, 6, none⟩ = some (.int .i64 (e : Nat)) := by
        obtain ⟨v, q⟩ := HI.out
        exact F.cell_of (q.at' (p := (Sb, Obj.cells (Sg.cs { s with a := e }) 44)) HF.out.2.2.2.1) 6
      have c3 : wr.cell? ⟨Pb, 0, none⟩ = some (.pointer (some ⟨Sb, 0, none⟩)) := by
        obtain ⟨v, q⟩ := HI.out
        exact F.cell_of (q.at' (p := (Pb, Obj.cells #[.pointer (some ⟨Sb, 0, none⟩)] 28)) HF.out.2.2.2.2.1) 0
      have c4 : ∀ hj : i + 1 < N, wr.cell? ⟨g, i + 1, none⟩ = some (nv (l[i].1 + 1 + k)) := fun hj => by
        have h2 : i + 1 < l.length := by rw [← HNN.out]; exact hj
        rw [← hnx h2]; exact hcell (i + 1) h2
      have c5 : ¬ i + 1 < N → e = l[i].1 + 1 + k := fun hj => hla (by rw [← HNN.out]; omega)
      have hxs : (l.map Prod.snd).take (i + 1) = (l.map Prod.snd).take i ++ [l[i].2] := by
        rw [← List.take_append_getElem (by rw [List.length_map]; exact hil), List.getElem_map]
      have hlx : ((l.map Prod.snd).take i).length = i := by rw [List.length_take, List.length_map]; omega
      obtain ⟨t, ht⟩ : ∃ t, t = l[i].1 := ⟨_, rfl⟩
      obtain ⟨x, hxx⟩ : ∃ x, x = l[i].2 := ⟨_, rfl⟩
      rw [← ht] at c1 c4 c5 hg ht1
      rw [← hxx] at hg hxs
      clear ht hxx hcell hnx hla
      have hkb : 1 ≤ k ∧ t + k < 64 := ⟨hg.k1, by have := hg.fit; have := HK.out; omega⟩
      obtain ⟨hk1, hkt⟩ := hkb
      have HG : Hid _ := hg
      have HXS : Hid _ := hxs
      have HLX : Hid _ := hlx
      clear hg hxs hlx
      obtain ⟨xs, hxs0⟩ : ∃ xs, xs = (l.map Prod.snd).take i := ⟨_, rfl⟩
      rw [← hxs0] at HI HXS HLX
      obtain rfl := HAO.out (by omega)
      simp only [nv] at c1 c4
      by_cases hj : i + 1 < N
      · have c4' := c4 hj
        clear c4 c5
        go_wp2_with fail
        obtain ⟨v0, hR0⟩ := HI.out
        obtain ⟨cc, hcc⟩ : ∃ cc : Int, cc = c + 66 * l.length + 66 + 64 * (i : Nat) := ⟨_, rfl⟩
        rw [← hcc] at hR0
        have hcb : cc ≤ 90000 := by have := HK.out; have := HNN.out; omega
        have HR1 : Hid (RS T w L q n rest now T1 Ob xs cc v0 wr) := hR0
        clear hR0
        refine F.wp_region_pb (fun f => ⟨#[.pointer (some ⟨Pb, 0, none⟩), .pointer (some ⟨Ob, 0, none⟩), .slice (some ⟨g, 0, none⟩) N cp, .int .i64 (i : Nat), .int .i64 (t : Nat), .int .i64 ((t : Int) + 1 + (k : Int)), .pointer (some ⟨Sb, 0, none⟩), .slice (some ⟨g, 0, none⟩) N cp, .slice (some ⟨g, 0, none⟩) N cp, .int .i64 (N : Nat), .int .i64 (i : Nat), .bool true, .int .i64 (i : Nat), .pointer (some ⟨g, i, none⟩), .int .i64 (t : Nat), .pointer (some ⟨Sb, 0, none⟩), .pointer (some ⟨Sb, 0, none⟩), .pointer (some ⟨Sb, 6, none⟩), .int .i64 (e : Nat), .int .i64 (i : Nat), .int .i64 ((i : Int) + 1), .slice (some ⟨g, 0, none⟩) N cp, .int .i64 (N : Nat), .bool true, .slice (some ⟨g, 0, none⟩) N cp, .int .i64 (i : Nat), .int .i64 ((i : Int) + 1), .pointer (some ⟨g, i + 1, none⟩), .int .i64 ((t : Int) + 1 + (k : Int)), f 0, f 1, f 2, f 3, f 4, f 5, f 6, f 7, f 8, f 9, u39], []⟩) (V58 Sb t k x v0) (PhS (fun W => RS T w L q n rest now T1 Ob xs cc v0 W) (fun W => RS T w L q n rest now T1 Ob xs (cc + k) v0 W) (fun vv W => RS T w L q n rest now T1 Ob xs (cc + k) v0 W ∧ ∃ G, vv = .slice (some ⟨G, 0, none⟩) 1 1 ∧ W.heap[G]? = some (.cells #[.string x] 9)) (fun vv W => RS2 T w L q n rest now T1 Ob (xs ++ [x]) (cc + k) v0 vv W) (fun W => ∃ vv, RS T w L q n rest now T1 Ob (xs ++ [x]) (cc + k) vv W)) (fun i => [u29, u30, u31, u32, u33, u34, u35, u36, u37, u38, undef].getD i undef) (by kernel_rfl) rfl rfl ?hIa ?hputa ?stepa ?fina
        case hIa => exact PhS.start (HR1.out.below (Below.refl _ _).drew)
        case fina =>
          intro f W hP hV
          have w0 : f 0 = v0 := hV 0 (by decide)
          have w1 : f 1 = .pointer (some ⟨Sb, 0, none⟩) := hV 1 (by decide)
          have w2 : f 2 = .int .i64 (t : Nat) := hV 2 (by decide)
          have w3 : f 3 = .int .i64 ((t : Int) + 1 + (k : Int)) := hV 3 (by decide)
          have w4 : f 4 = .int .i64 (t : Nat) := hV 4 (by decide)
          have w5 : f 5 = .int .i64 ((k : Int) + 1) := hV 5 (by decide)
          have w6 : f 6 = .int .i64 (k : Nat) := hV 6 (by decide)
          have w7 : f 7 = .string x := hV 7 (by decide)
          clear hV
          have HD : Hid _ := hP.d rfl
          clear hP
          generalize f 0 = z0 at *
          subst w0
          generalize f 1 = z1 at *
          subst w1
          generalize f 2 = z2 at *
          subst w2
          generalize f 3 = z3 at *
          subst w3
          generalize f 4 = z4 at *
          subst w4
          generalize f 5 = z5 at *
          subst w5
          generalize f 6 = z6 at *
          subst w6
          generalize f 7 = z7 at *
          subst w7
          generalize f 8 = z8 at *
          generalize f 9 = z9 at *
          have HE : Hid (∃ v, RS T w L q n rest now T1 Ob ((l.map Prod.snd).take (i + 1)) (c + 66 * l.length + 66 + 64 * (i + 1 : Nat)) v W) := by
            obtain ⟨vv, q⟩ := HD.out
            rw [← HXS.out] at q
            exact ⟨vv, q.moreC (by rw [hcc]; omega)⟩
          clear HD HXS HG HK HF HAO HCL HNN HAT HI
          go_wp2
          go_roundw
          case rel => exact ⟨i + 1, by congr 1, by omega, HE.out⟩
          case measure =>
            show N - ((i : Int) + 1).toNat < N - ((i : Nat) : Int).toNat
            omega
        case hputa =>
          repeat (refine ⟨fun f v => rfl, ?_⟩)
          trivial
        case stepa =>
          refine ⟨?_, ?_⟩
          · intro done f W hP hdn hd K hK
            clear hd
            have q := F.cell_of (hP.any (hP.not10 (by decide) hdn) (E := fun W => W.heap[Ob]? = some (.cells #[v0] 30)) (fun h => h.out) (fun h => h.out) (fun v h => h.1.out) (fun v h => h.out)) 0
            replace q : W.cell? ⟨Ob, 0, none⟩ = some v0 := q
            go_simp
            exact hK _ _ rfl (hP.pure _ (by decide) hdn)
          refine ⟨?_, ?_⟩
          · intro done f W hP hdn hd K hK
            clear hd
            have q := F.cell_of (hP.any (hP.not10 (by decide) hdn) (E := fun W => W.heap[Pb]? = some (.cells #[.pointer (some ⟨Sb, 0, none⟩)] 28)) (fun h => h.at' HF.out.2.2.2.2.1) (fun h => h.at' HF.out.2.2.2.2.1) (fun v h => h.1.at' HF.out.2.2.2.2.1) (fun v h => h.at' HF.out.2.2.2.2.1)) 0
            replace q : W.cell? ⟨Pb, 0, none⟩ = some (.pointer (some ⟨Sb, 0, none⟩)) := q
            go_simp
            exact hK _ _ rfl (hP.pure _ (by decide) hdn)
          refine ⟨?_, ?_⟩
          · intro done f W hP hdn hd K hK
            clear hd
            go_simp
            exact hK _ _ rfl (hP.pure _ (by decide) hdn)
          refine ⟨?_, ?_⟩
          · intro done f W hP hdn hd K hK
            clear hd
            go_simp
            exact hK _ _ rfl (hP.pure _ (by decide) hdn)
          refine ⟨?_, ?_⟩
          · intro done f W hP hdn hd K hK
            clear hd
            go_simp
            exact hK _ _ rfl (hP.pure _ (by decide) hdn)
          refine ⟨?_, ?_⟩
          · intro done f W hP hdn hd K hK
            have d3 := (hd.1 rfl).2
            have e3 : done 3 = true := (hd.1 rfl).1
            have d4 := (hd.2.1 rfl).2
            have e4 : done 4 = true := (hd.2.1 rfl).1
            clear hd
            replace d3 : f 3 = .int .i64 ((t : Int) + 1 + (k : Int)) := d3
            replace d4 : f 4 = .int .i64 (t : Nat) := d4
            generalize f 3 = x3 at *
            subst d3
            clear e3
            generalize f 4 = x4 at *
            subst d4
            clear e4
            go_simp
            refine hK _ _ ?_ (hP.pure _ (by decide) hdn)
            show _ = Value.int _ _
            congr 1
            rw [IntKind.wrap_i64]
            omega
          refine ⟨?_, ?_⟩
          · intro done f W hP hdn hd K hK
            have d5 := (hd.1 rfl).2
            have e5 : done 5 = true := (hd.1 rfl).1
            clear hd
            replace d5 : f 5 = .int .i64 ((k : Int) + 1) := d5
            generalize f 5 = x5 at *
            subst d5
            clear e5
            go_simp
            refine hK _ _ ?_ (hP.pure _ (by decide) hdn)
            show _ = Value.int _ _
            congr 1
            rw [IntKind.wrap_i64]
            omega
          refine ⟨?_, ?_⟩
          · intro done f W hP hdn hd K hK
            have d1 := (hd.1 rfl).2
            have e1 : done 1 = true := (hd.1 rfl).1
            have d2 := (hd.2.1 rfl).2
            have e2 : done 2 = true := (hd.2.1 rfl).1
            have d6 := (hd.2.2.1 rfl).2
            have e6 : done 6 = true := (hd.2.2.1 rfl).1
            clear hd
            replace d1 : f 1 = .pointer (some ⟨Sb, 0, none⟩) := d1
            replace d2 : f 2 = .int .i64 (t : Nat) := d2
            replace d6 : f 6 = .int .i64 (k : Nat) := d6
            generalize f 1 = x1 at *
            subst d1
            clear e1
            generalize f 2 = x2 at *
            subst d2
            clear e2
            generalize f 6 = x6 at *
            subst d6
            clear e6
            have hA := hP.a0 hdn
            have hg := HG.out
            have hkk := HK.out
            have hrd := RS.read (Sb := Sb) { s with a := e } hA HF.out.2.2.2.1 HF.out.2.2.2.2.2 HF.out.2.2.1 ⟨hkk.1, hkk.2.2.1⟩ hkk.2.2.2.1 hkk.2.2.2.2.1 (by omega) ht1 ⟨hg.sz, hg.k1, hg.fit, hg.com, hg.pay⟩
            clear hkk hg
            go_simp
            refine Calls.mono hrd ?_
            rintro er W' ⟨rfl, hB⟩
            exact hK _ _ rfl (hP.s7 _ hdn hB)
          refine ⟨?_, ?_⟩
          · intro done f W hP hdn hd K hK
            have d7 := (hd.1 rfl).2
            have e7 : done 7 = true := (hd.1 rfl).1
            clear hd
            replace d7 : f 7 = .string x := d7
            generalize f 7 = x7 at *
            subst d7
            have hA := hP.a e7 hdn
            go_simp
            exact hK _ _ trivial (hP.s8 _ e7 hdn ⟨hA.below (Below.alloc (Below.refl _ _) (Nat.le_refl _) _), W.heap.size, rfl, F.heap_new _ _⟩)
          refine ⟨?_, ?_⟩
          · intro done f W hP hdn hd K hK
            have d0 := (hd.1 rfl).2
            have e0 : done 0 = true := (hd.1 rfl).1
            have d8 := (hd.2.1 rfl).2
            have e8 : done 8 = true := (hd.2.1 rfl).1
            clear hd
            replace d0 : f 0 = v0 := d0
            obtain ⟨hR, G, hG8, hG⟩ := hP.b e8 hdn
            obtain ⟨m1, m2, m3⟩ := hR.more HF.out.1
            rw [if_pos (by rfl)]
            refine tapp (.tmp 29) (.tmp 37) rfl (v := v0) (xs := xs) (G := G) (y := x) d0 hG8 hG m1 m2 (by rw [HLX.out]; omega) ?_
            intro v' W' r1 r2
            exact hK _ _ trivial (hP.s9 _ e8 hdn (m3 x v' W' r1 r2))
          refine ⟨?_, ?_⟩
          · intro done f W hP hdn hd K hK
            have d9 := (hd.1 rfl).2
            have e9 : done 9 = true := (hd.1 rfl).1
            have e0 : done 0 = true := (hd.2.2.1 rfl).1
            have e1 : done 1 = true := (hd.2.2.2.1 rfl).1
            have e2 : done 2 = true := (hd.2.2.2.2.1 rfl).1
            have e3 : done 3 = true := (hd.2.2.2.2.2.1 rfl).1
            have e4 : done 4 = true := (hd.2.2.2.2.2.2.1 rfl).1
            have e5 : done 5 = true := (hd.2.2.2.2.2.2.2.1 rfl).1
            have e6 : done 6 = true := (hd.2.2.2.2.2.2.2.2.1 rfl).1
            have e7 : done 7 = true := (hd.2.2.2.2.2.2.2.2.2.1 rfl).1
            have e8 : done 8 = true := (hd.2.2.2.2.2.2.2.2.2.2.1 rfl).1
            clear hd
            have hC := hP.c e9 hdn
            obtain ⟨q, hD⟩ := hC.store HF.out.1 HF.out.2.1
            have hall : ∀ j, j < 10 → done j = true := fun j hj => match j, hj with
              | 0, _ => e0 | 1, _ => e1 | 2, _ => e2 | 3, _ => e3 | 4, _ => e4 | 5, _ => e5 | 6, _ => e6 | 7, _ => e7 | 8, _ => e8 | 9, _ => e9
            obtain ⟨ao9, m9, cp9, hv9⟩ := hC.sl
            have q1 := F.cell_of q 0
            replace q1 : W.cell? ⟨Ob, 0, none⟩ = some v0 := q1
            have q2 := F.frz_of q 0
            have HD : Hid _ := hP.s10 (.bool false) hall ⟨_, hD⟩
            clear hall q hD hC hP e0 e1 e2 e3 e4 e5 e6 e7 e8 e9 
            generalize f 9 = y9 at *
            subst hv9
            go_simp
            exact hK (.bool false) _ trivial HD.out
          trivial
      · have c5' := c5 hj
        clear c4 c5
        go_wp2_with fail
        obtain ⟨v0, hR0⟩ := HI.out
        obtain ⟨cc, hcc⟩ : ∃ cc : Int, cc = c + 66 * l.length + 66 + 64 * (i : Nat) := ⟨_, rfl⟩
        rw [← hcc] at hR0
        have hcb : cc ≤ 90000 := by have := HK.out; have := HNN.out; omega
        have HR1 : Hid (RS T w L q n rest now T1 Ob xs cc v0 wr) := hR0
        clear hR0
        refine F.wp_region_pb (fun f => ⟨#[.pointer (some ⟨Pb, 0, none⟩), .pointer (some ⟨Ob, 0, none⟩), .slice (some ⟨g, 0, none⟩) N cp, .int .i64 (i : Nat), .int .i64 (t : Nat), .int .i64 ((t : Int) + 1 + (k : Int)), .pointer (some ⟨Sb, 0, none⟩), .slice (some ⟨g, 0, none⟩) N cp, .slice (some ⟨g, 0, none⟩) N cp, .int .i64 (N : Nat), .int .i64 (i : Nat), .bool true, .int .i64 (i : Nat), .pointer (some ⟨g, i, none⟩), .int .i64 (t : Nat), .pointer (some ⟨Sb, 0, none⟩), .pointer (some ⟨Sb, 0, none⟩), .pointer (some ⟨Sb, 6, none⟩), .int .i64 ((t : Int) + 1 + (k : Int)), .int .i64 (i : Nat), .int .i64 ((i : Int) + 1), .slice (some ⟨g, 0, none⟩) N cp, .int .i64 (N : Nat), .bool (decide ((i : Int) + 1 < (N : Int))), u24, u25, u26, u27, u28, f 0, f 1, f 2, f 3, f 4, f 5, f 6, f 7, f 8, f 9, u39], []⟩) (V58 Sb t k x v0) (PhS (fun W => RS T w L q n rest now T1 Ob xs cc v0 W) (fun W => RS T w L q n rest now T1 Ob xs (cc + k) v0 W) (fun vv W => RS T w L q n rest now T1 Ob xs (cc + k) v0 W ∧ ∃ G, vv = .slice (some ⟨G, 0, none⟩) 1 1 ∧ W.heap[G]? = some (.cells #[.string x] 9)) (fun vv W => RS2 T w L q n rest now T1 Ob (xs ++ [x]) (cc + k) v0 vv W) (fun W => ∃ vv, RS T w L q n rest now T1 Ob (xs ++ [x]) (cc + k) vv W)) (fun i => [u29, u30, u31, u32, u33, u34, u35, u36, u37, u38, undef].getD i undef) (by kernel_rfl) rfl rfl ?hIb ?hputb ?stepb ?finb
        case hIb => exact PhS.start (HR1.out.below (Below.refl _ _).drew)
        case finb =>
          intro f W hP hV
          have w0 : f 0 = v0 := hV 0 (by decide)
          have w1 : f 1 = .pointer (some ⟨Sb, 0, none⟩) := hV 1 (by decide)
          have w2 : f 2 = .int .i64 (t : Nat) := hV 2 (by decide)
          have w3 : f 3 = .int .i64 ((t : Int) + 1 + (k : Int)) := hV 3 (by decide)
          have w4 : f 4 = .int .i64 (t : Nat) := hV 4 (by decide)
          have w5 : f 5 = .int .i64 ((k : Int) + 1) := hV 5 (by decide)
          have w6 : f 6 = .int .i64 (k : Nat) := hV 6 (by decide)
          have w7 : f 7 = .string x := hV 7 (by decide)
          clear hV
          have HD : Hid _ := hP.d rfl
          clear hP
          generalize f 0 = z0 at *
          subst w0
          generalize f 1 = z1 at *
          subst w1
          generalize f 2 = z2 at *
          subst w2
          generalize f 3 = z3 at *
          subst w3
          generalize f 4 = z4 at *
          subst w4
          generalize f 5 = z5 at *
          subst w5
          generalize f 6 = z6 at *
          subst w6
          generalize f 7 = z7 at *
          subst w7
          generalize f 8 = z8 at *
          generalize f 9 = z9 at *
          have HE : Hid (∃ v, RS T w L q n rest now T1 Ob ((l.map Prod.snd).take (i + 1)) (c + 66 * l.length + 66 + 64 * (i + 1 : Nat)) v W) := by
            obtain ⟨vv, q⟩ := HD.out
            rw [← HXS.out] at q
            exact ⟨vv, q.moreC (by rw [hcc]; omega)⟩
          clear HD HXS HG HK HF HAO HCL HNN HAT HI
          go_wp2
          go_roundw
          case rel => exact ⟨i + 1, by congr 1, by omega, HE.out⟩
          case measure =>
            show N - ((i : Int) + 1).toNat < N - ((i : Nat) : Int).toNat
            omega
        case hputb =>
          repeat (refine ⟨fun f v => rfl, ?_⟩)
          trivial
        case stepb =>
          refine ⟨?_, ?_⟩
          · intro done f W hP hdn hd K hK
            clear hd
            have q := F.cell_of (hP.any (hP.not10 (by decide) hdn) (E := fun W => W.heap[Ob]? = some (.cells #[v0] 30)) (fun h => h.out) (fun h => h.out) (fun v h => h.1.out) (fun v h => h.out)) 0
            replace q : W.cell? ⟨Ob, 0, none⟩ = some v0 := q
            go_simp
            exact hK _ _ rfl (hP.pure _ (by decide) hdn)
          refine ⟨?_, ?_⟩
          · intro done f W hP hdn hd K hK
            clear hd
            have q := F.cell_of (hP.any (hP.not10 (by decide) hdn) (E := fun W => W.heap[Pb]? = some (.cells #[.pointer (some ⟨Sb, 0, none⟩)] 28)) (fun h => h.at' HF.out.2.2.2.2.1) (fun h => h.at' HF.out.2.2.2.2.1) (fun v h => h.1.at' HF.out.2.2.2.2.1) (fun v h => h.at' HF.out.2.2.2.2.1)) 0
            replace q : W.cell? ⟨Pb, 0, none⟩ = some (.pointer (some ⟨Sb, 0, none⟩)) := q
            go_simp
            exact hK _ _ rfl (hP.pure _ (by decide) hdn)
          refine ⟨?_, ?_⟩
          · intro done f W hP hdn hd K hK
            clear hd
            go_simp
            exact hK _ _ rfl (hP.pure _ (by decide) hdn)
          refine ⟨?_, ?_⟩
          · intro done f W hP hdn hd K hK
            clear hd
            go_simp
            exact hK _ _ rfl (hP.pure _ (by decide) hdn)
          refine ⟨?_, ?_⟩
          · intro done f W hP hdn hd K hK
            clear hd
            go_simp
            exact hK _ _ rfl (hP.pure _ (by decide) hdn)
          refine ⟨?_, ?_⟩
          · intro done f W hP hdn hd K hK
            have d3 := (hd.1 rfl).2
            have e3 : done 3 = true := (hd.1 rfl).1
            have d4 := (hd.2.1 rfl).2
            have e4 : done 4 = true := (hd.2.1 rfl).1
            clear hd
            replace d3 : f 3 = .int .i64 ((t : Int) + 1 + (k : Int)) := d3
            replace d4 : f 4 = .int .i64 (t : Nat) := d4
            generalize f 3 = x3 at *
            subst d3
            clear e3
            generalize f 4 = x4 at *
            subst d4
            clear e4
            go_simp
            refine hK _ _ ?_ (hP.pure _ (by decide) hdn)
            show _ = Value.int _ _
            congr 1
            rw [IntKind.wrap_i64]
            omega
          refine ⟨?_, ?_⟩
          · intro done f W hP hdn hd K hK
            have d5 := (hd.1 rfl).2
            have e5 : done 5 = true := (hd.1 rfl).1
            clear hd
            replace d5 : f 5 = .int .i64 ((k : Int) + 1) := d5
            generalize f 5 = x5 at *
            subst d5
            clear e5
            go_simp
            refine hK _ _ ?_ (hP.pure _ (by decide) hdn)
            show _ = Value.int _ _
            congr 1
            rw [IntKind.wrap_i64]
            omega
          refine ⟨?_, ?_⟩
          · intro done f W hP hdn hd K hK
            have d1 := (hd.1 rfl).2
            have e1 : done 1 = true := (hd.1 rfl).1
            have d2 := (hd.2.1 rfl).2
            have e2 : done 2 = true := (hd.2.1 rfl).1
            have d6 := (hd.2.2.1 rfl).2
            have e6 : done 6 = true := (hd.2.2.1 rfl).1
            clear hd
            replace d1 : f 1 = .pointer (some ⟨Sb, 0, none⟩) := d1
            replace d2 : f 2 = .int .i64 (t : Nat) := d2
            replace d6 : f 6 = .int .i64 (k : Nat) := d6
            generalize f 1 = x1 at *
            subst d1
            clear e1
            generalize f 2 = x2 at *
            subst d2
            clear e2
            generalize f 6 = x6 at *
            subst d6
            clear e6
            have hA := hP.a0 hdn
            have hg := HG.out
            have hkk := HK.out
            have hrd := RS.read (Sb := Sb) { s with a := e } hA HF.out.2.2.2.1 HF.out.2.2.2.2.2 HF.out.2.2.1 ⟨hkk.1, hkk.2.2.1⟩ hkk.2.2.2.1 hkk.2.2.2.2.1 (by omega) ht1 ⟨hg.sz, hg.k1, hg.fit, hg.com, hg.pay⟩
            clear hkk hg
            go_simp
            refine Calls.mono hrd ?_
            rintro er W' ⟨rfl, hB⟩
            exact hK _ _ rfl (hP.s7 _ hdn hB)
          refine ⟨?_, ?_⟩
          · intro done f W hP hdn hd K hK
            have d7 := (hd.1 rfl).2
            have e7 : done 7 = true := (hd.1 rfl).1
            clear hd
            replace d7 : f 7 = .string x := d7
            generalize f 7 = x7 at *
            subst d7
            have hA := hP.a e7 hdn
            go_simp
            exact hK _ _ trivial (hP.s8 _ e7 hdn ⟨hA.below (Below.alloc (Below.refl _ _) (Nat.le_refl _) _), W.heap.size, rfl, F.heap_new _ _⟩)
          refine ⟨?_, ?_⟩
          · intro done f W hP hdn hd K hK
            have d0 := (hd.1 rfl).2
            have e0 : done 0 = true := (hd.1 rfl).1
            have d8 := (hd.2.1 rfl).2
            have e8 : done 8 = true := (hd.2.1 rfl).1
            clear hd
            replace d0 : f 0 = v0 := d0
            obtain ⟨hR, G, hG8, hG⟩ := hP.b e8 hdn
            obtain ⟨m1, m2, m3⟩ := hR.more HF.out.1
            rw [if_pos (by rfl)]
            refine tapp (.tmp 29) (.tmp 37) rfl (v := v0) (xs := xs) (G := G) (y := x) d0 hG8 hG m1 m2 (by rw [HLX.out]; omega) ?_
            intro v' W' r1 r2
            exact hK _ _ trivial (hP.s9 _ e8 hdn (m3 x v' W' r1 r2))
          refine ⟨?_, ?_⟩
          · intro done f W hP hdn hd K hK
            have d9 := (hd.1 rfl).2
            have e9 : done 9 = true := (hd.1 rfl).1
            have e0 : done 0 = true := (hd.2.2.1 rfl).1
            have e1 : done 1 = true := (hd.2.2.2.1 rfl).1
            have e2 : done 2 = true := (hd.2.2.2.2.1 rfl).1
            have e3 : done 3 = true := (hd.2.2.2.2.2.1 rfl).1
            have e4 : done 4 = true := (hd.2.2.2.2.2.2.1 rfl).1
            have e5 : done 5 = true := (hd.2.2.2.2.2.2.2.1 rfl).1
            have e6 : done 6 = true := (hd.2.2.2.2.2.2.2.2.1 rfl).1
            have e7 : done 7 = true := (hd.2.2.2.2.2.2.2.2.2.1 rfl).1
            have e8 : done 8 = true := (hd.2.2.2.2.2.2.2.2.2.2.1 rfl).1
            clear hd
            have hC := hP.c e9 hdn
            obtain ⟨q, hD⟩ := hC.store HF.out.1 HF.out.2.1
            have hall : ∀ j, j < 10 → done j = true := fun j hj => match j, hj with
              | 0, _ => e0 | 1, _ => e1 | 2, _ => e2 | 3, _ => e3 | 4, _ => e4 | 5, _ => e5 | 6, _ => e6 | 7, _ => e7 | 8, _ => e8 | 9, _ => e9
            obtain ⟨ao9, m9, cp9, hv9⟩ := hC.sl
            have q1 := F.cell_of q 0
            replace q1 : W.cell? ⟨Ob, 0, none⟩ = some v0 := q1
            have q2 := F.frz_of q 0
            have HD : Hid _ := hP.s10 (.bool false) hall ⟨_, hD⟩
            clear hall q hD hC hP e0 e1 e2 e3 e4 e5 e6 e7 e8 e9 
            generalize f 9 = y9 at *
            subst hv9
            go_simp
            exact hK (.bool false) _ trivial HD.out
          trivial
/-- As dev_guard, where it is not known ahead what is left. -/
theorem dev_guardE {X : Type} (O O3 : X → List (Nat × Obj)) (P : X → Prop) {T : Nat} {w : World} {L : F.Loc} {q : Int} {n : Nat} {oth : List (Nat × Obj)} {now now2 : Nat → ByteArray} {c c2 : Int} {W : World} (f : Nat) (cap : Array Value) (hent : ∀ args W, (callFunc f args).run Tryz.prog W = .ok (.enter f args) W) (h : Dev T w L q n oth now c W)
    (hop : Dev T w L q n (F.gob W.heap.size oth) now c (F.G0 W) → Calls Tryz.prog f cap (F.G0 W) fun e W' => e = .returned (.tuple #[]) ∧ ∃ x, P x ∧ Dev T w L q n (O x) now2 c2 W') (hs : ∀ x, P x → ∀ p ∈ F.gob W.heap.size (O3 x), p ∈ O x) (hne : ∀ x, P x → ∀ p ∈ O3 x, p.1 ≠ W.heap.size ∧ p.1 ≠ W.heap.size + 1) :
    Calls Tryz.prog 15 #[.func (.func f) #[] cap] W fun e w' => e = .returned (.tuple #[.agg #[.int .i64 0, .int .i64 0], .bool false]) ∧ ∃ x, P x ∧ Dev T w L q n (O3 x) now2 c2 w' := by
  refine (F.guard_ok f cap (fun W' => ∃ x, P x ∧ Dev T w L q n (O x) now2 c2 W') W hent ((hop h.guarded).mono ?_)).mono ?_
  · rintro e W' ⟨rfl, x, hP, hd⟩
    exact ⟨rfl, hd.at' (p := (W.heap.size, F.bob)) (hs x hP _ (by simp [F.gob])), hd.at' (p := (W.heap.size + 1, F.iob)) (hs x hP _ (by simp [F.gob])), x, hP, hd⟩
  · rintro e w' ⟨rfl, W2, ⟨x, hP, hd⟩, hk⟩
    exact ⟨rfl, x, hP, (hd.forget (hs x hP)).kt (hne x hP) hk⟩
set_option maxHeartbeats 2000000 in
set_option maxRecDepth 100000 in
theorem scanned_all {T : Nat} {w : World} {L : F.Loc} {q : Int} {n : Nat} {oth : List (Nat × Obj)} {now : Nat → ByteArray} {c : Int} {W : World} {Sb : Nat} (s : Sg) (h : Dev T w L q n ((Sb, .cells s.cs 44) :: oth) now c W)
    (hM : (s.M, F.med L.P 1 q) ∈ oth) (h5 : ∀ p ∈ oth, ∀ c fz, p.2 ≠ .cells c 5 fz) (hne : ∀ p ∈ oth, p.1 ≠ Sb)
    (hsb : s.c < 18446744073709551616 ∧ s.j < 18446744073709551616 ∧ s.n < 18446744073709551616) (hs : s.b ≤ 10000 ∧ 1 ≤ s.p ∧ s.p ≤ 64) (hfit : s.b + s.p ≤ n) (hn1 : n ≤ 1000) (hc : c ≤ 40000) (hk : ∀ i, i < n → Ksec (now i)) {l : List (Nat × ByteArray)} {e : Nat} (hch : Chn now s l e) (he : e < s.p → (now (s.b + e))[0]? ≠ some 67) :
    Calls Tryz.prog 20 #[.pointer (some ⟨Sb, 0, none⟩)] W fun r w' => ∃ v ol, r = .returned (.tuple #[v, .bool true]) ∧ Txs v (l.map Prod.snd) ol ∧ (∀ p ∈ ol, ∀ q ∈ (Sb, Obj.cells (Sg.cs { s with a := e }) 44) :: oth, p.1 ≠ q.1) ∧ Dev T w L q n (ol ++ (Sb, .cells (Sg.cs { s with a := e }) 44) :: oth) now (c + 10000) w' := by
  obtain ⟨B, hB⟩ : ∃ B, B = W.heap.size := ⟨_, rfl⟩
  have d1 := h.alloc (.cells #[.pointer (some ⟨Sb, 0, none⟩)] 28) (F.apart_of (by decide))
  have d2 := d1.alloc (.cells #[.slice none 0 0] 30) (F.apart_of (by decide))
  have e1 : (W.alloc (.cells #[.pointer (some ⟨Sb, 0, none⟩)] 28)).heap.size = W.heap.size + 1 := by simp
  have e2 : ((W.alloc (.cells #[.pointer (some ⟨Sb, 0, none⟩)] 28)).alloc (.cells #[.slice none 0 0] 30)).heap.size = W.heap.size + 2 := by simp
  have hlt := h.lts
  have hSlt := hlt (Sb, .cells s.cs 44) (by simp)
  replace hSlt : Sb < W.heap.size := hSlt
  have hgd := dev_guardE (X := Value × List (Nat × Obj)) (now2 := now) (c2 := c + 10000)
    (fun x => x.2 ++ (W.heap.size + 1, .cells #[x.1] 30) :: (Sb, .cells (Sg.cs { s with a := e }) 44) :: F.gob (W.heap.size + 2) ((W.heap.size, .cells #[.pointer (some ⟨Sb, 0, none⟩)] 28) :: oth))
    (fun x => x.2 ++ (W.heap.size + 1, .cells #[x.1] 30) :: (Sb, .cells (Sg.cs { s with a := e }) 44) :: (W.heap.size, .cells #[.pointer (some ⟨Sb, 0, none⟩)] 28) :: oth)
    (fun x => Txs x.1 (l.map Prod.snd) x.2 ∧ ∀ p ∈ x.2, ∀ q ∈ (Sb, Obj.cells (Sg.cs { s with a := e }) 44) :: F.gob (W.heap.size + 2) ((W.heap.size, .cells #[.pointer (some ⟨Sb, 0, none⟩)] 28) :: oth), p.1 ≠ q.1)
    58 #[.pointer (some ⟨W.heap.size, 0, none⟩), .pointer (some ⟨W.heap.size + 1, 0, none⟩)] ent58 d2 (fun hg => by
      rw [e1, e2] at hg
      refine (op58 (Pb := W.heap.size) (Ob := W.heap.size + 1) (Sb := Sb) (oth := F.gob (W.heap.size + 2) ((W.heap.size, .cells #[.pointer (some ⟨Sb, 0, none⟩)] 28) :: oth)) s (hg.forget ?_) (by simp [F.gob]) (by simp [F.gob, hM]) ?_ (by omega) ?_ ?_ hsb hs hfit hn1 hc hk hch he).mono ?_
      · intro p hp
        simp only [F.gob, List.mem_cons] at hp ⊢
        rcases hp with rfl | rfl | rfl | rfl | rfl | hp <;> simp [*]
      · intro p hp cc fz e
        simp only [F.gob, List.mem_cons] at hp
        rcases hp with rfl | rfl | rfl | hp
        · injection e with _ e _; exact absurd e (by decide)
        · injection e with _ e _; exact absurd e (by decide)
        · injection e with _ e _; exact absurd e (by decide)
        · exact h5 p hp cc fz e
      · intro p hp
        simp only [F.gob, List.mem_cons] at hp
        rcases hp with rfl | rfl | rfl | hp
        · show W.heap.size + 2 + 1 ≠ Sb; omega
        · show W.heap.size + 2 ≠ Sb; omega
        · show W.heap.size ≠ Sb; omega
        · exact hne p hp
      · intro p hp
        simp only [F.gob, List.mem_cons] at hp
        rcases hp with rfl | rfl | rfl | hp
        · show W.heap.size + 2 + 1 ≠ W.heap.size + 1; omega
        · show W.heap.size + 2 ≠ W.heap.size + 1; omega
        · show W.heap.size ≠ W.heap.size + 1; omega
        · have := hlt p (List.mem_cons_of_mem _ hp); omega
      · rintro r W' ⟨rfl, T1, v, rest, hx, hsub, ol, t1, t2, t3⟩
        refine ⟨rfl, (v, ol), ⟨t1, fun p hp q hq => ?_⟩, t3.forget ?_⟩
        · have := hx.lt q (hsub q hq); have := t2 p hp; omega
        · intro p hp
          simp only [List.mem_append, List.mem_cons] at hp ⊢
          rcases hp with hp | hp | hp | hp
          · exact Or.inl hp
          · exact Or.inr (Or.inl hp)
          · exact Or.inr (Or.inr (hsub p (by rw [hp]; exact List.mem_cons_self ..)))
          · exact Or.inr (Or.inr (hsub p (List.mem_cons_of_mem _ hp)))) (by
    rintro ⟨v, ol⟩ hP p hp
    rw [e2] at hp
    simp only [F.gob, List.mem_append, List.mem_cons] at hp ⊢
    rcases hp with hp | hp | hp | hp | hp | hp | hp <;> simp [hp]) (by
    rintro ⟨v, ol⟩ ⟨hP1, hP2⟩ p hp
    rw [e2]
    rcases List.mem_append.1 hp with hp | hp
    · exact ⟨hP2 p hp (W.heap.size + 2, F.bob) (by simp [F.gob]), hP2 p hp (W.heap.size + 2 + 1, F.iob) (by simp [F.gob])⟩
    · simp only [List.mem_cons] at hp
      rcases hp with rfl | rfl | rfl | hp
      · exact ⟨by show W.heap.size + 1 ≠ _; omega, by show W.heap.size + 1 ≠ _; omega⟩
      · exact ⟨by show Sb ≠ _; omega, by show Sb ≠ _; omega⟩
      · exact ⟨by show W.heap.size ≠ _; omega, by show W.heap.size ≠ _; omega⟩
      · have := hlt p (List.mem_cons_of_mem _ hp); exact ⟨by omega, by omega⟩)
  have hmf : ∀ (fn : Fn) (first cap : Array Value) (w : World), (Instr.makeFunc fn first cap).run Tryz.prog w = .ok (.func fn first cap) w := fun _ _ _ _ => rfl
  clear d1 d2 hlt hB h hM h5 hne hk hch he
  go_enter Tryz.func20, Tryz.ntmps20
  go_wp2_with fail
  go_call hgd as er w3 ⟨rfl, ⟨v, ol⟩, ⟨t1, t2⟩, d3⟩
  have d4 := d3.alloc (.cells #[.int .i64 0, .int .i64 0] 37) (F.apart_of (by decide))
  have q1 := F.cell_of (d4.at' (p := (W.heap.size + 1, .cells #[v] 30)) (by simp)) 0
  replace q1 : (w3.alloc (.cells #[.int .i64 0, .int .i64 0] 37)).cell? ⟨W.heap.size + 1, 0, none⟩ = some v := q1
  obtain ⟨ao, m, cp, hv⟩ : ∃ ao m cp, v = .slice ao m cp := by
    rcases t1 with ⟨rfl, _, _⟩ | ⟨g, cap, cur, rfl, _⟩
    · exact ⟨_, _, _, rfl⟩
    · exact ⟨_, _, _, rfl⟩
  have HD4 : Hid _ := d4
  have HT1 : Hid (Txs v (l.map Prod.snd) ol) := t1
  have HT2 : Hid (∀ p ∈ ol, ∀ q ∈ (Sb, Obj.cells (Sg.cs { s with a := e }) 44) :: oth, p.1 ≠ q.1) := fun p hp q hq => t2 p hp q (by
    simp only [F.gob, List.mem_cons] at hq ⊢
    rcases hq with hq | hq
    · exact Or.inl hq
    · exact Or.inr (Or.inr (Or.inr (Or.inr hq))))
  clear hgd d4 d3 t1 t2
  subst hv
  go_wp2
  go_returns
  refine ⟨_, ol, rfl, HT1.out, HT2.out, HD4.out.forget ?_⟩
  intro p hp
  simp only [List.mem_append, List.mem_cons] at hp ⊢
  rcases hp with hp | hp | hp
  · exact Or.inr (Or.inl hp)
  · exact Or.inr (Or.inr (Or.inr (Or.inl hp)))
  · exact Or.inr (Or.inr (Or.inr (Or.inr (Or.inr hp))))
end Go.Proofs.YtncfbocbigdhiaaGreat.V

/- Halt, and an Append that is halted right behind its first flush. -/
namespace Go.Proofs.YtncfbocbigdhiaaGreat.F
set_option maxRecDepth 100000
open Go.RowKit
section
variable {b0 : Nat} {w0 : World} {L : Loc} {st : St} {lv : Value} {oth : List (Nat × Obj)} {w : World}
theorem One.halt22 (h : One b0 w0 L st lv oth w) (a : Int) (ha : 0 ≤ a) : Calls Tryz.prog 22 #[.pointer (some ⟨L.P, 0, none⟩), .int .i64 a] w fun e w' => e = .returned (.tuple #[]) ∧ One b0 w0 L { st with hw := true, hl := a } lv oth w' := by
  obtain ⟨c0, c1, c2, c3, c4⟩ := h.pc
  have f1 := h.pf 1
  have f2 := h.pf 2
  have h1 := h.updP 1 (.bool true) { st with hw := true } ⟨rfl, rfl, rfl, rfl, rfl, rfl, rfl, rfl, rfl, rfl⟩ rfl
  have h2 := h1.updP 2 (.int .i64 a) { st with hw := true, hl := a } ⟨rfl, rfl, rfl, rfl, rfl, rfl, rfl, rfl, rfl, rfl⟩ rfl
  have HF : Hid _ := h2
  have hd : decide (a ≥ 0) = true := decide_eq_true ha
  clear h h1 h2
  go_enter Tryz.func22, Tryz.ntmps22
  go_wp2
  go_returns
  exact ⟨rfl, HF.out⟩
/-- Write at the operation at which all goes down: it isn't done. -/
theorem One.pwrite_h0 (h : One b0 w0 L st lv oth w) (ht : st.there = true) (hm : (Mode.halt 0).is st) (i : Nat) (s : ByteArray) (hs : s.size = 64) (hi : i < st.n) (_hn : st.n ≤ 4096) :
    Calls Tryz.prog 64 #[.pointer (some ⟨L.P, 0, none⟩), hnd st.serial st.session, .int .i64 (i : Nat), .string s] w fun e w' => e = .returned (.int .i64 9) ∧ One b0 w0 L { st with hw := false, down := true } lv oth w' := by
  have hmf : ∀ (fn : Fn) (first cap : Array Value) (w : World), (Instr.makeFunc fn first cap).run Tryz.prog w = .ok (.func fn first cap) w := fun _ _ _ _ => rfl
  have hb := h.wboxed st.serial st.session i s
  obtain ⟨m1, m2, m3, m4, m5⟩ := hm
  have ho := hb.op_halt m1 ht m2 m3 (by rw [m4]; rfl) 104 #[.pointer (some ⟨w.heap.size + 1, 0, none⟩), .pointer (some ⟨w.heap.size + 2, 0, none⟩)] (.func (.func 106) #[] #[.pointer (some ⟨w.heap.size + 1, 0, none⟩), .pointer (some ⟨w.heap.size + 2, 0, none⟩)]) ent67
    (fun W hW => by have := hW.wrong67 (w.heap.size + 1) (w.heap.size + 2) i s hs (by simp [wbox]) (by simp [wbox]); rw [if_pos (by omega)] at this; exact this)
  clear h hb m1 m2 m3 m4 m5
  unfold hnd at *
  go_enter Tryz.func64, Tryz.ntmps64
  go_wp2_with fail
  go_call ho as e w1 ⟨rfl, h1⟩
  have H1 : Hid _ := h1
  clear ho h1
  go_wp2
  go_returns
  exact ⟨rfl, H1.out.forget (fun p hp => mem_wbox hp)⟩
/-- medium.Write of one sector then. -/
theorem One.mwrite_h0 (h : One b0 w0 L st lv oth w) (M : Nat) (hM : (M, med L.P st.serial st.session) ∈ oth) (ht : st.there = true) (hm : (Mode.halt 0).is st) (hn : st.n ≤ 1000) (frm : Nat) (y : ByteArray) (hy : y.size = 64) (hfit : frm + 1 ≤ st.n) :
    Calls Tryz.prog 28 #[.pointer (some ⟨M, 0, none⟩), .int .i64 (frm : Nat), .string y] w fun e w' => e = .panicked [fl st.serial 9] ∧ One b0 w0 L { st with hw := false, down := true } lv oth w' := by
  have hp1 : parts y = 1 := by unfold parts; omega
  refine (mwrite_any M L.P st.serial st.session (frm : Nat) y (by omega) (by omega) (fun k W => if k = 0 then One b0 w0 L st lv oth W else One b0 w0 L { st with hw := false, down := true } lv oth W) (fun _ => 9) ?_ ?_ ?_ w (by rw [if_pos rfl]; exact h)).mono ?_
  · intro k W W' hX hb
    by_cases hk : k = 0
    · rw [if_pos hk] at hX ⊢; exact hX.ofBelow hb
    · rw [if_neg hk] at hX ⊢; exact hX.ofBelow hb
  · intro k W hX
    by_cases hk : k = 0
    · rw [if_pos hk] at hX; exact (hX.oth _ hM).1
    · rw [if_neg hk] at hX; exact (hX.oth _ hM).1
  · intro k W hk hz hX
    have hk0 : k = 0 := by omega
    subst hk0
    rw [if_pos rfl] at hX
    have := hX.pwrite_h0 ht hm (frm + 0) (pad (chunk y 0)) (pad_size _ (chunk_size y 0)) (by omega) (by omega)
    rw [show (((frm + 0 : Nat) : Int)) = (frm : Int) + ((0 : Nat) : Int) by omega] at this
    refine this.mono ?_
    rintro e W' ⟨rfl, q⟩
    exact ⟨rfl, by rw [if_neg (by omega)]; exact q⟩
  · rintro e w' (⟨k, hk, hz, hne, rfl, hX⟩ | ⟨hz, rfl, hX⟩)
    · rw [if_neg (by omega)] at hX
      exact ⟨rfl, hX⟩
    · exact absurd (hz 0 (by omega)) (by decide)
/-- medium.Write ahead of it: all of it is done. -/
theorem One.mwrite_h (h : One b0 w0 L st lv oth w) (M : Nat) (hM : (M, med L.P st.serial st.session) ∈ oth) (ht : st.there = true) (m : Mode) (hm : m.is st) (hmo : m ≠ .over) (hc : 0 ≤ st.count ∧ st.count ≤ 800000) {ats : Nat → Nat} {now sure : Nat → ByteArray} (hd : Dv st ats now sure) (hn : st.n ≤ 1000)
    (frm : Nat) (y : ByteArray) (hy : y.size ≤ 10000) (hfit : frm + parts y ≤ st.n) (hz : ∀ j, j < parts y → (m.iter j).er = 0) :
    Calls Tryz.prog 28 #[.pointer (some ⟨M, 0, none⟩), .int .i64 (frm : Nat), .string y] w fun e w' =>
      e = .returned (.tuple #[]) ∧ ∃ st' lv', One b0 w0 L st' lv' oth w' ∧ Kp st st' ∧ st.count ≤ st'.count ∧ st'.count ≤ st.count + (parts y : Nat) ∧ (m.iter (parts y)).is st' ∧ ∃ ats', Dv st' ats' (lay now frm y (parts y)) sure := by
  have hp2 : parts y ≤ 200 := by unfold parts; omega
  refine (mwrite_any M L.P st.serial st.session (frm : Nat) y hy (by omega) (fun k W => ∃ st' lv', One b0 w0 L st' lv' oth W ∧ Kp st st' ∧ st.count ≤ st'.count ∧ st'.count ≤ st.count + (k : Nat) ∧ (k ≤ parts y → (m.iter k).is st' ∧ ∃ ats', Dv st' ats' (lay now frm y k) sure)) (fun k => (m.iter k).er)
    (fun k W W' ⟨st', lv', h, hi⟩ hb => ⟨st', lv', h.ofBelow hb, hi⟩) (fun k W ⟨st', lv', h, _⟩ => (h.oth _ hM).1) ?_ w ⟨st, lv, h, Kp.refl st, Int.le_refl _, by omega, fun _ => ⟨hm, ats, by rw [lay_zero]; exact hd⟩⟩).mono ?_
  · rintro k W hk hzk ⟨st', lv', h1, kp, c0, c1, hgo⟩
    obtain ⟨hm1, ats1, hd1⟩ := hgo (by omega)
    have hps := pad_size (chunk y k) (chunk_size y k)
    have hw := h1.pwrite_md (by rw [kp.there]; exact ht) (m.iter k) hm1 (Mode.iter_ne m hmo k hzk) ⟨by omega, by omega⟩ hd1 (frm + k) (pad (chunk y k)) hps (by rw [kp.n]; omega) (by rw [kp.n]; omega)
    rw [kp.serial, kp.session, show (((frm + k : Nat) : Int)) = (frm : Int) + (k : Nat) by omega] at hw
    refine hw.mono ?_
    rintro e W' ⟨rfl, st2, lv2, h2, did⟩
    obtain ⟨ats2, now2, sure2, hd2, hor⟩ := did.dv
    refine ⟨rfl, st2, lv2, h2, kp.trans did.kp, by have := did.c0; omega, by have := did.c1; omega, fun _ => ?_⟩
    rcases hor with ⟨rfl, rfl⟩ | ⟨hne, _⟩
    · rw [lay_succ] at hd2
      exact ⟨did.md, ats2, hd2⟩
    · exact absurd (hz k hk) hne
  · rintro e w' (⟨k, hk, hzk, hne, rfl, _⟩ | ⟨_, rfl, st', lv', h1, kp, c0, c1, hgo⟩)
    · exact absurd (hz k hk) hne
    · obtain ⟨hm1, hd1⟩ := hgo (Nat.le_refl _)
      exact ⟨rfl, st', lv', h1, kp, c0, c1, hm1, hd1⟩
end
end Go.Proofs.YtncfbocbigdhiaaGreat.F
namespace Go.Proofs.YtncfbocbigdhiaaGreat
open Go.RowKit
/-- Behind an Append that was halted right behind its first flush. -/
def Hlt (b0 : Nat) (w0 : World) (L : F.Loc) (st : F.St) (oth : List (Nat × Obj)) (now : Nat → ByteArray) (W : World) : Prop :=
  ∃ st' lv', F.One b0 w0 L st' lv' oth W ∧ F.Kp st st' ∧ 0 ≤ st'.count ∧ st'.count ≤ st.count + 100 ∧ ∃ ats', F.Dv st' ats' now now
set_option maxHeartbeats 1000000 in
theorem append_halted {b0 : Nat} {w0 : World} {L : F.Loc} {st : F.St} {lv : Value} {oth : List (Nat × Obj)} {w : World} {Sb : Nat} (s : Sg) (h : F.One b0 w0 L st lv ((Sb, .cells s.cs 44) :: oth) w) (hm : (s.M, F.med L.P st.serial st.session) ∈ oth)
    (hs : s.Ok) (x : ByteArray) (k : Nat) (hk : 1 ≤ k) (hroom : s.a + k < s.p) (hx : x.size = 63 * k) {ats : Nat → Nat} {now : Nat → ByteArray} (hd : F.Dv st ats now now) (hn : s.b + s.p ≤ st.n) (hn1 : st.n ≤ 1000) (ht : st.there = true) (hmd : (F.Mode.halt (k + 1)).is st) (hc : 0 ≤ st.count ∧ st.count ≤ 700000) :
    Calls Tryz.prog 17 #[.pointer (some ⟨Sb, 0, none⟩), .string x] w fun e w' => ∃ E, e = .panicked [F.fl st.serial E] ∧ Hlt b0 w0 L st ((Sb, .cells s.cs 44) :: oth) (layP now s x k) w' := by
  have hp1 := hs.p1
  have hy := ysize x k hx
  have hpy := ypart hy
  have hcs : (s.cm s.a x).sec.size = 64 := Cm.sec_size _
  have hM' : (s.M, F.med L.P st.serial st.session) ∈ ((Sb, .cells s.cs 44) :: oth : List (Nat × Obj)) := List.mem_cons_of_mem _ hm
  have hiter : ∀ j, j ≤ k + 1 → (F.Mode.halt (k + 1)).iter j = F.Mode.halt (k + 1 - j) := by
    intro j
    induction j with
    | zero => intro _; rfl
    | succ j ih =>
      intro hj
      have e := ih (by omega)
      obtain ⟨r, hr⟩ : ∃ r, k + 1 - j = r + 1 := ⟨k - j, by omega⟩
      first
        | (show ((F.Mode.halt (k + 1)).iter j).next = _; rw [e, hr]; show F.Mode.halt r = _; congr 1; omega)
  let R : Nat → World → Prop := fun i W => ∃ (st1 : F.St) (lv1 : Value), F.One b0 w0 L st1 lv1 ((Sb, .cells s.cs 44) :: oth) W ∧ F.Kp st st1 ∧ 0 ≤ st1.count ∧
    (if i = 0 then st1.count ≤ st.count ∧ (F.Mode.halt (k + 1)).is st1 ∧ ∃ ats1, F.Dv st1 ats1 now now
     else if i = 1 then st1.count ≤ st.count + (k : Nat) ∧ (F.Mode.halt 1).is st1 ∧ ∃ ats1, F.Dv st1 ats1 (layP now s x k) now
     else if i = 2 then st1.count ≤ st.count + (k : Nat) + 1 ∧ (F.Mode.halt 0).is st1 ∧ ∃ ats1, F.Dv st1 ats1 (layP now s x k) (layP now s x k)
     else False)
  have hkS : ∀ {st1 : F.St}, F.Kp st st1 → (s.M, F.med L.P st1.serial st1.session) ∈ ((Sb, .cells s.cs 44) :: oth : List (Nat × Obj)) := fun q => by rw [q.serial, q.session]; exact hM'
  have hk64 : k ≤ 63 := by omega
  refine (append_brk st.serial (Hlt b0 w0 L st ((Sb, .cells s.cs 44) :: oth) (layP now s x k)) s hs Sb x k hk hroom hx R w ?_ ?_ ?_ ?_ ?_ ?_ ?_).mono ?_
  · rintro i W W' ⟨st1, lv1, ho, q⟩ hb
    exact ⟨st1, lv1, ho.ofBelow hb, q⟩
  · rintro i W ⟨st1, lv1, ho, _⟩
    exact (ho.oth _ (List.mem_cons_self ..)).1
  · exact ⟨st, lv, h, F.Kp.refl st, hc.1, by rw [if_pos rfl]; exact ⟨Int.le_refl _, hmd, ats, hd⟩⟩
  · rintro W ⟨st1, lv1, ho, kp, c0, q⟩
    rw [if_pos rfl] at q
    obtain ⟨c1, hm1, ats1, hd1⟩ := q
    have hw := ho.mwrite_h s.M (hkS kp) (by rw [kp.there]; exact ht) _ hm1 (fun e => by cases e) ⟨c0, by omega⟩ hd1 (by rw [kp.n]; exact hn1) (s.b + s.a + 1) (O.tx (secP x k)) (by rw [hy]; omega) (by rw [hpy, kp.n]; omega) (fun j hj => by
      rw [hpy] at hj
      rw [hiter j (by omega)]
      obtain ⟨r, hr⟩ : ∃ r, k + 1 - j = r + 1 := ⟨k - j, by omega⟩
      rw [hr]
      rfl)
    rw [hpy, hiter k (by omega), show k + 1 - k = 1 by omega] at hw
    refine hw.mono ?_
    rintro e W' ⟨rfl, st2, lv2, ho2, kp2, d0, d1, hm2, ats2, hd2⟩
    refine Or.inl ⟨rfl, st2, lv2, ho2, kp.trans kp2, by omega, ?_⟩
    rw [if_neg (by decide), if_pos rfl]
    exact ⟨by omega, hm2, ats2, hd2⟩
  · rintro W ⟨st1, lv1, ho, kp, c0, q⟩
    rw [if_neg (by decide), if_pos rfl] at q
    obtain ⟨c1, hm1, ats1, hd1⟩ := q
    refine (ho.mflush_md s.M (hkS kp) (by rw [kp.there]; exact ht) _ hm1 (fun e => by cases e) ⟨c0, by omega⟩ hd1).mono ?_
    rintro e W' (⟨rfl, he, st2, lv2, ho2, kp2, d0, d1, hm2, ats2, hd2⟩ | ⟨E, rfl, he, _⟩)
    · refine Or.inl ⟨rfl, st2, lv2, ho2, kp.trans kp2, by omega, ?_⟩
      rw [if_neg (by decide), if_neg (by decide), if_pos rfl]
      exact ⟨by omega, hm2, ats2, hd2⟩
    · exact absurd rfl he
  · rintro W ⟨st1, lv1, ho, kp, c0, q⟩
    rw [if_neg (by decide), if_neg (by decide), if_pos rfl] at q
    obtain ⟨c1, hm1, ats1, hd1⟩ := q
    refine (ho.mwrite_h0 s.M (hkS kp) (by rw [kp.there]; exact ht) hm1 (by rw [kp.n]; exact hn1) (s.b + s.a) (s.cm s.a x).sec hcs (by rw [kp.n]; omega)).mono ?_
    rintro e W' ⟨rfl, ho2⟩
    exact Or.inr ⟨9, by rw [kp.serial], _, lv1, ho2, ⟨kp.serial, kp.session, kp.there, kp.n⟩, c0, by show st1.count ≤ _; omega, ats1, hd1.same rfl rfl rfl rfl⟩
  · rintro W ⟨st1, lv1, ho, kp, c0, q⟩
    rw [if_neg (by decide), if_neg (by decide), if_neg (by decide)] at q
    exact q.elim
  · rintro e w' (⟨rfl, w2, ⟨st1, lv1, ho, kp, c0, q⟩, _⟩ | hB)
    · rw [if_neg (by decide), if_neg (by decide), if_neg (by decide)] at q
      exact q.elim
    · exact hB
end Go.Proofs.YtncfbocbigdhiaaGreat

/- What GroupForged hands to Guard, as calls. -/
namespace Go.Proofs.YtncfbocbigdhiaaGreat.V
open Go.RowKit
theorem ent30 (args : Array Value) (W : World) : (callFunc 30 args).run Tryz.prog W = .ok (.enter 30 args) W := O.enter_of Tryz.func30 (by kernel_rfl) (by kernel_rfl) args W
theorem ent31 (args : Array Value) (W : World) : (callFunc 31 args).run Tryz.prog W = .ok (.enter 31 args) W := O.enter_of Tryz.func31 (by kernel_rfl) (by kernel_rfl) args W
theorem op30 {b0 : Nat} {w0 : World} {L : F.Loc} {st : F.St} {lv : Value} {oth : List (Nat × Obj)} {w : World} {Sb Pb Fb : Nat} (s : Sg) (h : F.One b0 w0 L st lv ((Sb, .cells s.cs 44) :: oth) w) (hm : (s.M, F.med L.P st.serial st.session) ∈ oth) (x : ByteArray) (k : Nat)
    (hP : (Pb, Obj.cells #[.pointer (some ⟨Sb, 0, none⟩)] 28) ∈ oth) (hF : (Fb, Obj.cells #[.string x] 9) ∈ oth)
    (hs : s.Ok) (hk : 1 ≤ k) (hroom : s.a + k < s.p) (hx : x.size = 63 * k) {ats : Nat → Nat} {now : Nat → ByteArray} (hd : F.Dv st ats now now) (hn : s.b + s.p ≤ st.n) (hn1 : st.n ≤ 1000) (ht : st.there = true) (hmd : (F.Mode.halt (k + 1)).is st) (hc : 0 ≤ st.count ∧ st.count ≤ 700000) :
    Calls Tryz.prog 30 #[.pointer (some ⟨Pb, 0, none⟩), .pointer (some ⟨Fb, 0, none⟩)] w fun e w' => ∃ E, e = .panicked [F.fl st.serial E] ∧ Hlt b0 w0 L st ((Sb, .cells s.cs 44) :: oth) (layP now s x k) w' := by
  have c1 : w.cell? ⟨Pb, 0, none⟩ = some (.pointer (some ⟨Sb, 0, none⟩)) := F.cell_of (h.oth _ (List.mem_cons_of_mem _ hP)).1 0
  have c2 : w.cell? ⟨Fb, 0, none⟩ = some (.string x) := F.cell_of (h.oth _ (List.mem_cons_of_mem _ hF)).1 0
  have ha := append_halted s h hm hs x k hk hroom hx hd hn hn1 ht hmd hc
  clear h hm hP hF hs hk hroom hx hd hn hn1 ht hmd hc
  go_enter Tryz.func30, Tryz.ntmps30
  go_wp2_with fail
  go_call ha as e w1 ⟨E, rfl, h1⟩
  have H1 : Hid (Hlt b0 w0 L st ((Sb, .cells s.cs 44) :: oth) (layP now s x k) w1) := h1
  clear ha h1
  go_wp2
  exact ⟨rfl, E, rfl, H1.out⟩
def V31 (Sb k : Nat) (x : ByteArray) : Nat → Value → Prop
  | 0, v => v = .pointer (some ⟨Sb, 0, none⟩)
  | 1, v => v = .string x
  | 2, v => v = .int .i64 (k : Nat)
  | 3, v => v = .string (payN x k)
  | _, _ => True
set_option maxHeartbeats 2000000 in
set_option maxRecDepth 100000 in
theorem op31 {T : Nat} {w : World} {L : F.Loc} {q : Int} {n : Nat} {rest : List (Nat × Obj)} {now : Nat → ByteArray} {c : Int} {W0 : World} {Pb Tb Nb Sb k : Nat} {x : ByteArray} (s : Sg) (h : Dev T w L q n ((Sb, .cells s.cs 44) :: rest) now c W0)
    (pbm : (Pb, Obj.cells #[.pointer (some ⟨Sb, 0, none⟩)] 28) ∈ rest) (ptm : (Tb, Obj.cells #[.string x] 9) ∈ rest) (pnm : (Nb, Obj.cells #[.int .i64 (k : Nat)] 3) ∈ rest) (hM : (s.M, F.med L.P 1 q) ∈ rest)
    (hne : ∀ p ∈ rest, p.1 ≠ Sb) (hs : s.Ok) (hk1 : 1 ≤ k) (hk2 : k ≤ 100) (hroom : s.a + k < s.p) (hfit : s.b + s.p ≤ n) (hn1 : n ≤ 1000) (hc : c ≤ 600000) :
    Calls Tryz.prog 31 #[.pointer (some ⟨Pb, 0, none⟩), .pointer (some ⟨Tb, 0, none⟩), .pointer (some ⟨Nb, 0, none⟩)] W0 fun e w' => e = .returned (.tuple #[]) ∧ Dev T w L q n ((Sb, .cells (Sg.cs { s with a := s.a + 1 + k }) 44) :: rest) (layC now s (payN x k) k) (c + 100) w' := by
  have HF : Hid ((Pb, Obj.cells #[.pointer (some ⟨Sb, 0, none⟩)] 28) ∈ rest ∧ (Tb, Obj.cells #[.string x] 9) ∈ rest ∧ (Nb, Obj.cells #[.int .i64 (k : Nat)] 3) ∈ rest ∧ 1 ≤ k ∧ k ≤ 100) := ⟨pbm, ptm, pnm, hk1, hk2⟩
  have HA : Hid (∀ W, Dev T w L q n ((Sb, .cells s.cs 44) :: rest) now c W → Calls Tryz.prog 17 #[.pointer (some ⟨Sb, 0, none⟩), .string (payN x k)] W fun e W' => e = .returned (.int .i64 (s.a : Nat)) ∧ Dev T w L q n ((Sb, .cells (Sg.cs { s with a := s.a + 1 + k }) 44) :: rest) (layC now s (payN x k) k) (c + 100) W') := fun W hW => dev_append s hW hM hne hs (payN x k) k hk1 hroom (payN_size _ _) hfit hn1 hc
  have H0 : Hid (Dev T w L q n ((Sb, .cells s.cs 44) :: rest) now c W0) := h
  clear h pbm ptm pnm hM hne hs hk1 hk2 hroom hfit hn1 hc
  go_enter Tryz.func31, Tryz.ntmps31
  refine F.wp_region_pb (fun f => ⟨#[.pointer (some ⟨Pb, 0, none⟩), .pointer (some ⟨Tb, 0, none⟩), .pointer (some ⟨Nb, 0, none⟩), f 0, f 1, f 2, f 3, f 4], []⟩) (V31 Sb k x) (F.Two 4 (fun W => Dev T w L q n ((Sb, .cells s.cs 44) :: rest) now c W) (fun W => Dev T w L q n ((Sb, .cells (Sg.cs { s with a := s.a + 1 + k }) 44) :: rest) (layC now s (payN x k) k) (c + 100) W)) (fun i => [undef, undef, undef, undef, undef].getD i undef) (by kernel_rfl) rfl rfl ?hI ?hput ?step ?fin
  case hI => exact F_two_start (H0.out.below (Below.refl _ _).drew)
  case fin =>
    intro f W hP hV
    have h2 := hP.b rfl
    have H2 : Hid (Dev T w L q n ((Sb, .cells (Sg.cs { s with a := s.a + 1 + k }) 44) :: rest) (layC now s (payN x k) k) (c + 100) W) := h2
    clear hP hV h2 H0 HA
    go_wp2
    go_returns
    exact ⟨rfl, H2.out⟩
  case hput =>
    repeat (refine ⟨fun f v => rfl, ?_⟩)
    trivial
  case step =>
    refine ⟨?_, ?_⟩
    · intro done f W hP hdn hd K hK
      clear hd
      have qq : W.cell? ⟨Pb, 0, none⟩ = some (.pointer (some ⟨Sb, 0, none⟩)) := F.cell_of (F.Two.any (R := fun W => W.heap[Pb]? = some (Obj.cells #[.pointer (some ⟨Sb, 0, none⟩)] 28)) (fun W h => h.at' (p := (Pb, Obj.cells #[.pointer (some ⟨Sb, 0, none⟩)] 28)) (List.mem_cons_of_mem _ HF.out.1)) (fun W h => h.at' (p := (Pb, Obj.cells #[.pointer (some ⟨Sb, 0, none⟩)] 28)) (List.mem_cons_of_mem _ HF.out.1)) hP) 0
      go_simp
      exact hK _ _ rfl (hP.pure _ (by decide) _)
    refine ⟨?_, ?_⟩
    · intro done f W hP hdn hd K hK
      clear hd
      have qq : W.cell? ⟨Tb, 0, none⟩ = some (.string x) := F.cell_of (F.Two.any (R := fun W => W.heap[Tb]? = some (Obj.cells #[.string x] 9)) (fun W h => h.at' (p := (Tb, Obj.cells #[.string x] 9)) (List.mem_cons_of_mem _ HF.out.2.1)) (fun W h => h.at' (p := (Tb, Obj.cells #[.string x] 9)) (List.mem_cons_of_mem _ HF.out.2.1)) hP) 0
      go_simp
      exact hK _ _ rfl (hP.pure _ (by decide) _)
    refine ⟨?_, ?_⟩
    · intro done f W hP hdn hd K hK
      clear hd
      have qq : W.cell? ⟨Nb, 0, none⟩ = some (.int .i64 (k : Nat)) := F.cell_of (F.Two.any (R := fun W => W.heap[Nb]? = some (Obj.cells #[.int .i64 (k : Nat)] 3)) (fun W h => h.at' (p := (Nb, Obj.cells #[.int .i64 (k : Nat)] 3)) (List.mem_cons_of_mem _ HF.out.2.2.1)) (fun W h => h.at' (p := (Nb, Obj.cells #[.int .i64 (k : Nat)] 3)) (List.mem_cons_of_mem _ HF.out.2.2.1)) hP) 0
      go_simp
      exact hK _ _ rfl (hP.pure _ (by decide) _)
    refine ⟨?_, ?_⟩
    · intro done f W hP hdn hd K hK
      have d1 := (hd.1 rfl).2
      have e1 : done 1 = true := (hd.1 rfl).1
      have d2 := (hd.2.1 rfl).2
      have e2 : done 2 = true := (hd.2.1 rfl).1
      clear hd
      replace d1 : f 1 = .string x := d1
      replace d2 : f 2 = .int .i64 (k : Nat) := d2
      generalize f 1 = x1 at *
      subst d1
      clear e1
      generalize f 2 = x2 at *
      subst d2
      clear e2
      have hpy := pay_any x k HF.out.2.2.2.1 HF.out.2.2.2.2 W
      go_simp
      refine Calls.mono hpy ?_
      rintro er W' ⟨rfl, hb⟩
      exact hK _ _ rfl (hP.below (by decide) (fun h => h.below hb) (fun h => h.below hb) _)
    refine ⟨?_, ?_⟩
    · intro done f W hP hdn hd K hK
      have d0 := (hd.1 rfl).2
      have e0 : done 0 = true := (hd.1 rfl).1
      have d3 := (hd.2.1 rfl).2
      have e3 : done 3 = true := (hd.2.1 rfl).1
      clear hd
      replace d0 : f 0 = .pointer (some ⟨Sb, 0, none⟩) := d0
      replace d3 : f 3 = .string (payN x k) := d3
      generalize f 0 = x0 at *
      subst d0
      clear e0
      generalize f 3 = x3 at *
      subst d3
      clear e3
      have hap := HA.out W (hP.a hdn)
      go_simp
      refine Calls.mono hap ?_
      rintro er W' ⟨rfl, hB⟩
      exact hK _ _ trivial (hP.turn hB _)
    trivial
end Go.Proofs.YtncfbocbigdhiaaGreat.V

/- Guard round the Append that is halted, and the Crash behind it. -/
namespace Go.Proofs.YtncfbocbigdhiaaGreat.V
open Go.RowKit
theorem forged_guard {T : Nat} {w : World} {L : F.Loc} {st : F.St} {lv : Value} {O : List (Nat × Obj)} {W : World} {S Pb Fb : Nat} (s : Sg) (h : F.One T w L st lv ((S, .cells s.cs 44) :: O) W) (hm : (s.M, F.med L.P st.serial st.session) ∈ O) (x : ByteArray) (k : Nat)
    (hP : (Pb, Obj.cells #[.pointer (some ⟨S, 0, none⟩)] 28) ∈ O) (hF : (Fb, Obj.cells #[.string x] 9) ∈ O)
    (hs : s.Ok) (hk : 1 ≤ k) (hroom : s.a + k < s.p) (hx : x.size = 63 * k) {ats : Nat → Nat} {now : Nat → ByteArray} (hd : F.Dv st ats now now) (hn : s.b + s.p ≤ st.n) (hn1 : st.n ≤ 1000) (ht : st.there = true) (hmd : (F.Mode.halt (k + 1)).is st) (hc : 0 ≤ st.count ∧ st.count ≤ 700000) :
    Calls Tryz.prog 15 #[.func (.func 30) #[] #[.pointer (some ⟨Pb, 0, none⟩), .pointer (some ⟨Fb, 0, none⟩)]] W fun e w' => ∃ a b, e = .returned (.tuple #[.agg #[.int .i64 a, .int .i64 b], .bool true]) ∧ Hlt T w L st ((S, .cells s.cs 44) :: O) (layP now s x k) w' := by
  have hlt := h.lts
  have hg : F.One T w L st lv ((S, .cells s.cs 44) :: F.gob W.heap.size O) (F.G0 W) := h.guarded.forget (by
    intro p hp
    simp only [F.gob, List.mem_cons] at hp ⊢
    rcases hp with hp | hp | hp | hp <;> simp [hp])
  have ho := op30 (Pb := Pb) (Fb := Fb) s hg (by simp [F.gob, hm]) x k (by simp [F.gob, hP]) (by simp [F.gob, hF]) hs hk hroom hx hd hn hn1 ht hmd hc
  refine (F.guard_any 30 _ (fun _ => False) (Hlt T w L st ((S, .cells s.cs 44) :: F.gob W.heap.size O) (layP now s x k)) W ent30 (ho.mono ?_)).mono ?_
  · rintro e W' ⟨E, rfl, hh⟩
    refine ⟨Or.inr ⟨_, E, rfl, hh⟩, ?_, ?_⟩
    · obtain ⟨st', lv', o, _⟩ := hh
      exact (o.oth (W.heap.size, F.bob) (by simp [F.gob])).1
    · obtain ⟨st', lv', o, _⟩ := hh
      exact (o.oth (W.heap.size + 1, F.iob) (by simp [F.gob])).1
  · rintro e w' (⟨rfl, W2, hF, _⟩ | ⟨a, b, rfl, W2, ⟨st', lv', o, r⟩, hk2⟩)
    · exact hF.elim
    · refine ⟨a, b, rfl, st', lv', ?_, r⟩
      refine F.One.kt2 (B := W.heap.size) (o.forget (oth' := F.gob W.heap.size ((S, .cells s.cs 44) :: O)) ?_) ?_ hk2
      · intro p hp
        simp only [F.gob, List.mem_cons] at hp ⊢
        rcases hp with hp | hp | hp | hp <;> simp [hp]
      · intro p hp
        have := hlt p hp
        exact ⟨by omega, by omega⟩
theorem forged_crash {T : Nat} {w : World} {L : F.Loc} {st : F.St} {O : List (Nat × Obj)} {W : World} {now : Nat → ByteArray} {n : Nat} (h : Hlt T w L st O now W) (hn : st.n = n) (hn1 : n ≤ 1000) (ht : st.there = true) (hsr : st.serial = 1) (hse : st.session = 1) (hc : st.count ≤ 1000) :
    Calls Tryz.prog 25 #[.pointer (some ⟨L.P, 0, none⟩), .slice none 0 0] W fun e w' => e = .returned (.tuple #[]) ∧ ∃ now', (∀ i, i < n → now' i = now i) ∧ Dev T w L 2 n O now' 2000 w' := by
  obtain ⟨st', lv', o, kp, c0, c1, ats, hd⟩ := h
  refine (o.crash_dv hd (by rw [kp.there]; exact ht) (by rw [kp.n, hn]; omega) (by rw [kp.session, hse]; decide) 0 0 0 (.slice none 0 0) (fun _ => 0) ⟨none, 0, rfl, Nat.le_refl _, by decide, fun h => absurd h (by decide)⟩ (fun _ _ j hj => absurd hj (Nat.not_lt_zero _))).mono ?_
  rintro e w' ⟨rfl, st2, now', o2, hd2, he, p1, p2, p3, p4, p5, p6, p7, p8, p9⟩
  refine ⟨rfl, now', fun i hi => ?_, st2, _, ats, o2, by rw [p4, kp.n, hn], by rw [p1, kp.serial, hsr], by rw [p2, kp.session, hse]; rfl, p3, ⟨p7, p5, p6⟩, hd2, by rw [p8]; exact c0, by rw [p8]; omega, p9⟩
  rcases he i (by rw [kp.n, hn]; exact hi) with q | q <;> exact q
end Go.Proofs.YtncfbocbigdhiaaGreat.V

/- GroupForged's walk. -/
namespace Go.Proofs.YtncfbocbigdhiaaGreat.V
open Go Go.RowKit
theorem dev0 {T : Nat} {w : World} {L : F.Loc} {n : Nat} {oth : List (Nat × Obj)} {lv : Value} {W : World} (h : F.One T w L (F.st0 1 n) lv oth W) : Dev T w L 1 n oth (fun _ => F.pad ⟨#[]⟩) 0 W :=
  ⟨F.st0 1 n, lv, _, h, rfl, rfl, rfl, rfl, ⟨rfl, rfl, rfl⟩, F.dv0 1 n, Int.le_refl _, Int.le_refl _, rfl⟩
section
variable {now : Nat → ByteArray} {s : Sg} {x : ByteArray} {k n : Nat}
theorem layP_d (hs : s.Ok) (hx : x.size = 63 * k) (hr : s.a + k < s.p) (j : Nat) (hj : j < k) : (layP now s x k (s.b + s.a + 1 + j)).size = 64 ∧ (layP now s x k (s.b + s.a + 1 + j))[0]? = some 68 := by
  have hp := hs.p1
  unfold layP F.lay
  rw [if_pos (by omega), show s.b + s.a + 1 + j - (s.b + s.a + 1) = j by omega]
  have hy := ysize x k hx
  have hl := padc_list (O.tx (secP x k)) j k hy (by omega)
  have hmk := secP_mk x k j (by omega) (by omega)
  refine ⟨F.pad_size _ (F.chunk_size _ _), ?_⟩
  rw [ba_get, ← Array.getElem?_toList, hl, List.getElem?_take_of_lt (by decide), List.getElem?_drop, Array.getElem?_toList, Nat.add_zero, ← ba_get]
  exact hmk
theorem layP_ksec (hs : s.Ok) (hx : x.size = 63 * k) (hr : s.a + k < s.p) (h : ∀ i, i < n → Ksec (now i)) : ∀ i, i < n → Ksec (layP now s x k i) := by
  intro i hi
  by_cases h1 : s.b + s.a + 1 ≤ i ∧ i < s.b + s.a + 1 + k
  · obtain ⟨j, rfl⟩ : ∃ j, i = s.b + s.a + 1 + j := ⟨i - (s.b + s.a + 1), by omega⟩
    obtain ⟨e0, e1⟩ := layP_d (now := now) hs hx hr j (by omega)
    refine ⟨e0, Or.inl ?_⟩
    rw [e1]
    intro e
    exact absurd (Option.some.inj e) (by decide)
  · unfold layP F.lay
    rw [if_neg h1]
    exact h i hi
end
theorem KS6.tr {B : Nat} {a b c : World} (h : KS6 B a b) (k : KS6 B b c) : KS6 B a c :=
  ⟨k.os.trans h.os, k.tape.trans h.tape, k.output.trans h.output, Nat.le_trans h.size k.size, fun j hj hn => (k.block j (Nat.lt_of_lt_of_le hj h.size) hn).trans (h.block j hj hn)⟩
theorem Dev.one6 {T : Nat} {w : World} {L : F.Loc} {q : Int} {n : Nat} {oth : List (Nat × Obj)} {now : Nat → ByteArray} {c : Int} {W : World} {B : Nat} {o : Obj} {cs : Array Value} {W' : World} (h : Dev T w L q n ((B, o) :: oth) now c W) (hne : ∀ p ∈ oth, p.1 ≠ B) (k : KS6 B W W') (hb : W'.heap[B]? = some (.cells cs 55)) : Dev T w L q n ((B, .cells cs 55) :: oth) now c W' := by
  obtain ⟨st, lv, ats, h1, h2⟩ := h.ex
  exact ⟨st, lv, ats, h1.other hne k.os k.tape k.output k.size k.block hb (F.apart_of (by decide)), h2⟩
/-- Where the round of the forging stands. -/
def Fg (T : Nat) (w : World) (L : F.Loc) (rest : List (Nat × Obj)) (Fb X : Nat) (s : Int) (i : Nat) (W : World) : Prop :=
  ∃ (f : ByteArray) (a b c d e : Value), f.size = 63 * i ∧ Dev T w L 1 70 ((Fb, .cells #[.string f] 9) :: (X, .cells #[a, b, c, d, e, .int .u32 s] 55) :: rest) (fun _ => F.pad ⟨#[]⟩) 0 W
/-- The phases of a drawn statement whose sixth operation is the one store. -/
structure P15 (A B : World → Prop) (done : Nat → Bool) (f : Nat → Value) (W : World) : Prop where
  a : done 5 = false → A W
  b : done 5 = true → B W
  all : done 5 = true → ∀ j, j < 5 → done j = true
section
variable {A B : World → Prop} {done : Nat → Bool} {f : Nat → Value} {W W' : World}
theorem P15.not5 (h : P15 A B done f W) {j : Nat} (hj : j < 5) (hd : done j = false) : done 5 = false := by
  cases e : done 5 with
  | false => rfl
  | true => rw [h.all e j hj] at hd; cases hd
theorem P15.pure (h : P15 A B done f W) {j : Nat} (hj : j < 5) (hd : done j = false) (v : Value) (hA : A W') : P15 A B (F.updB done j) (F.upd f j v) W' := by
  have e : F.updB done j 5 = done 5 := if_neg (by omega)
  have n := h.not5 hj hd
  exact ⟨fun _ => hA, (fun q => by rw [e, n] at q; cases q), (fun q => by rw [e, n] at q; cases q)⟩
theorem P15.turn (_ : P15 A B done f W) (hall : ∀ j, j < 5 → done j = true) (v : Value) (hB : B W') : P15 A B (F.updB done 5) (F.upd f 5 v) W' := by
  have e : F.updB done 5 5 = true := if_pos rfl
  exact ⟨(fun q => by rw [e] at q; cases q), fun _ => hB, fun _ j hj => by rw [show F.updB done 5 j = done j from if_neg (by omega)]; exact hall j hj⟩
end
def FA (T : Nat) (w : World) (L : F.Loc) (rest : List (Nat × Obj)) (Fb X x5 i : Nat) (f : ByteArray) (W : World) : Prop :=
  Dev T w L 1 70 ((Fb, .cells #[.string f] 9) :: (X, .cells #[.int .u64 3, .int .u64 2, .int .u64 5, .int .i64 ((i : Int) + 2), .int .i64 1, .int .u32 (x5 : Nat)] 55) :: rest) (fun _ => F.pad ⟨#[]⟩) 0 W
def FB (T : Nat) (w : World) (L : F.Loc) (rest : List (Nat × Obj)) (Fb X x5 i : Nat) (W : World) : Prop :=
  ∃ f : ByteArray, f.size = 63 * (i + 1) ∧ FA T w L rest Fb X x5 i f W
section
variable {T : Nat} {w : World} {L : F.Loc} {rest : List (Nat × Obj)} {Fb X x5 i : Nat} {f : ByteArray} {W W' : World}
theorem FA.fb (h : FA T w L rest Fb X x5 i f W) : W.cell? ⟨Fb, 0, none⟩ = some (.string f) := F.cell_of (Dev.at' h (p := (Fb, .cells #[.string f] 9)) (by simp)) 0
theorem FA.fz (h : FA T w L rest Fb X x5 i f W) : W.frozen? ⟨Fb, 0, none⟩ = false := F.frz_of (Dev.at' h (p := (Fb, .cells #[.string f] 9)) (by simp)) 0
theorem FA.xs (h : FA T w L rest Fb X x5 i f W) : W.cell? ⟨X, 0, none⟩ = some (.int .u64 3) ∧ W.cell? ⟨X, 1, none⟩ = some (.int .u64 2) ∧ W.cell? ⟨X, 2, none⟩ = some (.int .u64 5) ∧ W.cell? ⟨X, 3, none⟩ = some (.int .i64 ((i : Int) + 2)) ∧ W.cell? ⟨X, 4, none⟩ = some (.int .i64 1) ∧ W.cell? ⟨X, 5, none⟩ = some (.int .u32 (x5 : Nat)) := by
  have q := Dev.at' h (p := (X, .cells #[.int .u64 3, .int .u64 2, .int .u64 5, .int .i64 ((i : Int) + 2), .int .i64 1, .int .u32 (x5 : Nat)] 55)) (by simp)
  exact ⟨F.cell_of q 0, F.cell_of q 1, F.cell_of q 2, F.cell_of q 3, F.cell_of q 4, F.cell_of q 5⟩
theorem FA.below (h : FA T w L rest Fb X x5 i f W) (hb : Below W.heap.size W W') : FA T w L rest Fb X x5 i f W' := Dev.below h hb
theorem FA.store (h : FA T w L rest Fb X x5 i f W) (hN : Fb ≠ X ∧ (∀ p ∈ rest, p.1 ≠ X ∧ p.1 ≠ Fb)) (z : ByteArray) (hz : z.size = 63 * (i + 1)) : FB T w L rest Fb X x5 i (W.setCell ⟨Fb, 0, none⟩ (.string z)) :=
  ⟨z, hz, Dev.setOther h (by
    intro p hp
    rcases List.mem_cons.1 hp with rfl | hp
    · exact fun e => hN.1 e.symm
    · exact (hN.2 p hp).2) (by decide)⟩
end
theorem and3 (m : Int) : ∃ k : Nat, 1 ≤ k ∧ k ≤ 4 ∧ wrap64 (1 + bits BinOp.and IntKind.i64 m 3) = (k : Int) := by
  obtain ⟨j, hj, e⟩ : ∃ j : Nat, j ≤ 3 ∧ (BitVec.ofInt 64 m &&& BitVec.ofInt 64 3).toNat = j := ⟨_, by rw [BitVec.toNat_and]; exact Nat.le_trans Nat.and_le_right (by decide), rfl⟩
  refine ⟨j + 1, by omega, by omega, ?_⟩
  have hb : bits BinOp.and IntKind.i64 m 3 = (j : Int) := by
    show IntKind.i64.wrap (((BitVec.ofInt 64 m &&& BitVec.ofInt 64 3).toNat : Nat) : Int) = _
    rw [e]
    have : j = 0 ∨ j = 1 ∨ j = 2 ∨ j = 3 := by omega
    rcases this with rfl | rfl | rfl | rfl <;> decide
  rw [hb]
  unfold wrap64
  omega
theorem packed (i x5 : Nat) (hi : i < 8) (h5 : x5 < 4294967296) (W : World) : Calls Tryz.prog 29 #[.agg #[.int .u64 3, .int .u64 2, .int .u64 5, .int .i64 ((i : Int) + 2), .int .i64 1, .int .u32 (x5 : Nat)]] W fun e w' => ∃ y, e = .returned (.string y) ∧ y.size = 64 ∧ Below W.heap.size W w' := by
  have h := cpack_any ⟨3, 2, 5, i + 2, 1, x5⟩ ⟨(by decide : (3 : Nat) < _), (by decide : (2 : Nat) < _), (by decide : (5 : Nat) < _), (by show 1 ≤ i + 2; omega), Nat.le_refl _, (by show i + 2 + 1 ≤ 63; omega), h5⟩ W
  have e : (Cm.mk 3 2 5 (i + 2) 1 x5).cs = #[.int .u64 3, .int .u64 2, .int .u64 5, .int .i64 ((i : Int) + 2), .int .i64 1, .int .u32 (x5 : Nat)] := by
    unfold Cm.cs
    simp
  rw [e] at h
  refine h.mono ?_
  rintro er w' ⟨rfl, hb⟩
  exact ⟨_, rfl, Cm.sec_size _, hb⟩
def V15 (x5 i : Nat) (f : ByteArray) : Nat → Value → Prop
  | 0, v => v = .string f
  | 1, v => v = .agg #[.int .u64 3, .int .u64 2, .int .u64 5, .int .i64 ((i : Int) + 2), .int .i64 1, .int .u32 (x5 : Nat)]
  | 2, v => ∃ y : ByteArray, v = .string y ∧ y.size = 64
  | 3, v => ∃ y : ByteArray, v = .string y ∧ y.size = 63
  | 4, v => ∃ y : ByteArray, v = .string y ∧ y.size = 63 * (i + 1)
  | _, _ => True
def V30 (g cp k : Nat) (text : ByteArray) : Nat → Value → Prop
  | 0, v => v = .bool true
  | 1, v => v = .bool true
  | 2, v => v = .slice (some ⟨g, 0, none⟩) 1 cp
  | 3, v => v = .int .i64 1
  | 4, v => v = .bool true
  | 5, v => v = .bool true
  | 6, v => v = .bool true
  | 7, v => v = .slice (some ⟨g, 0, none⟩) 1 cp
  | 8, v => v = .pointer (some ⟨g, 0, none⟩)
  | 9, v => v = .string (payN text k)
  | 10, v => v = .string text
  | 11, v => v = .int .i64 (k : Nat)
  | 12, v => v = .string (payN text k)
  | 13, v => v = .bool true
  | 14, v => v = .bool true
  | 15, v => v = .bool true
  | _, _ => True
theorem below_cell {w W : World} (hb : Below w.heap.size w W) {b i : Nat} {x : Value} (h : w.cell? ⟨b, i, none⟩ = some x) : W.cell? ⟨b, i, none⟩ = some x := by
  unfold World.cell? at h ⊢
  cases ho : w.heap[b]? with
  | none => simp [ho] at h
  | some o =>
    have e := hb.block _ (F.getElem?_lt ho)
    simp only [e]
    exact h
set_option maxHeartbeats 4000000 in
set_option maxRecDepth 100000 in
theorem forged_walk (x0 x1 x2 x3 x4 : Int) (x5 : Nat) (h5 : x5 < 4294967296) (text : ByteArray) (more : Int) (w : World) :
    Calls Tryz.prog 6 #[.agg #[.int .u64 x0, .int .u64 x1, .int .u64 x2, .int .i64 x3, .int .i64 x4, .int .u32 (x5 : Nat)], .string text, .int .i64 more] w fun e w' => e = .returned (.bool true) ∧ Below w.heap.size w w' := by
  obtain ⟨W0, hW0⟩ : ∃ W0, W0 = (w.alloc (.cells #[.int .u64 x0, .int .u64 x1, .int .u64 x2, .int .i64 x3, .int .i64 x4, .int .u32 (x5 : Nat)] 55)).alloc (.cells #[.string text] 9) := ⟨_, rfl⟩
  have haw := awake11 W0
  have c0 : W0.heap[w.heap.size]? = some (.cells #[.int .u64 x0, .int .u64 x1, .int .u64 x2, .int .i64 x3, .int .i64 x4, .int .u32 (x5 : Nat)] 55) := by
    rw [hW0]
    have q := F.heap_new w (.cells #[.int .u64 x0, .int .u64 x1, .int .u64 x2, .int .i64 x3, .int .i64 x4, .int .u32 (x5 : Nat)] 55)
    exact ((((Below.refl _ _).alloc (Nat.le_refl _) _).block _ (F.getElem?_lt q))).trans q
  have c1 : W0.heap[w.heap.size + 1]? = some (.cells #[.string text] 9) := by
    rw [hW0]
    have := F.heap_new (w.alloc (.cells #[.int .u64 x0, .int .u64 x1, .int .u64 x2, .int .i64 x3, .int .i64 x4, .int .u32 (x5 : Nat)] 55)) (.cells #[.string text] 9)
    simpa using this
  have b0 : Below w.heap.size w W0 := by
    rw [hW0]
    exact ((Below.refl _ _).alloc (Nat.le_refl _) _).alloc (by simp) _
  go_enter Tryz.func6, Tryz.ntmps6
  go_wp2_with fail
  rw [← hW0]
  clear hW0
  go_call haw as e w1 ⟨rfl, hb1⟩
  have k0 := (hb1.block _ (F.getElem?_lt c0)).trans c0
  have k1 := (hb1.block _ (F.getElem?_lt c1)).trans c1
  have HB1 : Hid (Below w.heap.size w w1) := b0.trans (hb1.mono b0.size)
  have hmk := F.made_any w.heap.size w w1 [(w.heap.size + 1, .cells #[.string text] 9), (w.heap.size, .cells #[.int .u64 x0, .int .u64 x1, .int .u64 x2, .int .i64 x3, .int .i64 x4, .int .u32 (x5 : Nat)] 55)] HB1.out HB1.out.size (by
    intro p hp
    simp only [List.mem_cons, List.not_mem_nil, or_false] at hp
    rcases hp with rfl | rfl
    · exact ⟨k1, F.apart_of (by decide), Nat.le_succ _⟩
    · exact ⟨k0, F.apart_of (by decide), Nat.le_refl _⟩) 1 (by decide) (by decide) 70 (by decide) (by decide)
  clear haw hb1 c0 c1 k0 k1 HB1 b0
  go_wp2_with fail
  go_call hmk as e w2 ⟨L, M0, rfl, o1⟩
  have hd1 := dev0 o1
  have hof := dev_of hd1 16
  clear hmk o1 hd1
  go_wp2_with fail
  go_call hof as e w3 ⟨S, M, rfl, hd2, hSM, hne2⟩
  have hl2 := hd2.lts
  have lS : S < w3.heap.size := hl2 (S, .cells (sg0 M 16).cs 44) (by simp)
  have lM : M < w3.heap.size := hl2 (M, F.med L.P 1 1) (by simp)
  have lM0 : M0 < w3.heap.size := hl2 (M0, F.med L.P 1 1) (by simp)
  have lX : w.heap.size < w3.heap.size := hl2 (w.heap.size, .cells #[.int .u64 x0, .int .u64 x1, .int .u64 x2, .int .i64 x3, .int .i64 x4, .int .u32 (x5 : Nat)] 55) (by simp)
  have lT : w.heap.size + 1 < w3.heap.size := hl2 (w.heap.size + 1, .cells #[.string text] 9) (by simp)
  have nM0 : M0 ≠ S := hne2 (M0, F.med L.P 1 1) (by simp)
  have nX : w.heap.size ≠ S := hne2 (w.heap.size, .cells #[.int .u64 x0, .int .u64 x1, .int .u64 x2, .int .i64 x3, .int .i64 x4, .int .u32 (x5 : Nat)] 55) (by simp)
  have nT : w.heap.size + 1 ≠ S := hne2 (w.heap.size + 1, .cells #[.string text] 9) (by simp)
  have nMX : M ≠ w.heap.size := fun e => by
    have a := hd2.at' (p := (M, F.med L.P 1 1)) (by simp)
    have b := hd2.at' (p := (w.heap.size, .cells #[.int .u64 x0, .int .u64 x1, .int .u64 x2, .int .i64 x3, .int .i64 x4, .int .u32 (x5 : Nat)] 55)) (by simp)
    replace a : w3.heap[M]? = some (F.med L.P 1 1) := a
    replace b : w3.heap[w.heap.size]? = some (.cells #[.int .u64 x0, .int .u64 x1, .int .u64 x2, .int .i64 x3, .int .i64 x4, .int .u32 (x5 : Nat)] 55) := b
    rw [e, b] at a
    injection a with a
    unfold F.med at a
    injection a with _ a _
    exact absurd a (by decide)
  have nM0X : M0 ≠ w.heap.size := fun e => by
    have a := hd2.at' (p := (M0, F.med L.P 1 1)) (by simp)
    have b := hd2.at' (p := (w.heap.size, .cells #[.int .u64 x0, .int .u64 x1, .int .u64 x2, .int .i64 x3, .int .i64 x4, .int .u32 (x5 : Nat)] 55)) (by simp)
    replace a : w3.heap[M0]? = some (F.med L.P 1 1) := a
    replace b : w3.heap[w.heap.size]? = some (.cells #[.int .u64 x0, .int .u64 x1, .int .u64 x2, .int .i64 x3, .int .i64 x4, .int .u32 (x5 : Nat)] 55) := b
    rw [e, b] at a
    injection a with a
    unfold F.med at a
    injection a with _ a _
    exact absurd a (by decide)
  have hd3 := (hd2.alloc (.cells #[.pointer (some ⟨S, 0, none⟩)] 28) (F.apart_of (by decide))).alloc (.cells #[.string ⟨#[]⟩] 9) (F.apart_of (by decide))
  have e5 : (w3.alloc (.cells #[.pointer (some ⟨S, 0, none⟩)] 28)).heap.size = w3.heap.size + 1 := by simp
  rw [e5] at hd3
  obtain ⟨rest, hrest⟩ : ∃ rest, rest = [(w3.heap.size, Obj.cells #[.pointer (some ⟨S, 0, none⟩)] 28), (S, .cells (sg0 M 16).cs 44), (M, F.med L.P 1 1), (M0, F.med L.P 1 1), (w.heap.size + 1, .cells #[.string text] 9)] := ⟨_, rfl⟩
  have HFg : Hid (Fg w.heap.size w L rest (w3.heap.size + 1) w.heap.size (x5 : Nat) 0 ((w3.alloc (.cells #[.pointer (some ⟨S, 0, none⟩)] 28)).alloc (.cells #[.string ⟨#[]⟩] 9))) := by
    refine ⟨⟨#[]⟩, .int .u64 x0, .int .u64 x1, .int .u64 x2, .int .i64 x3, .int .i64 x4, rfl, hd3.forget ?_⟩
    rw [hrest]
    intro p hp
    simp only [List.mem_cons, List.not_mem_nil, or_false] at hp ⊢
    rcases hp with hp | hp | hp | hp | hp | hp | hp <;> simp [hp]
  have HN : Hid (w3.heap.size + 1 ≠ w.heap.size ∧ (∀ p ∈ rest, p.1 ≠ w.heap.size ∧ p.1 ≠ w3.heap.size + 1)) := by
    refine ⟨by omega, ?_⟩
    rw [hrest]
    intro p hp
    simp only [List.mem_cons, List.not_mem_nil, or_false] at hp
    rcases hp with rfl | rfl | rfl | rfl | rfl
    · exact ⟨by show w3.heap.size ≠ _; omega, by show w3.heap.size ≠ _; omega⟩
    · exact ⟨fun e => nX e.symm, by show S ≠ _; omega⟩
    · exact ⟨nMX, by show M ≠ _; omega⟩
    · exact ⟨nM0X, by show M0 ≠ _; omega⟩
    · exact ⟨by show w.heap.size + 1 ≠ _; omega, by show w.heap.size + 1 ≠ _; omega⟩
  have HR : Hid _ := hrest
  have HL : Hid (S < w3.heap.size ∧ M < w3.heap.size ∧ M0 < w3.heap.size ∧ w.heap.size + 1 < w3.heap.size ∧ M0 ≠ S ∧ w.heap.size + 1 ≠ S ∧ S ≠ M) := ⟨lS, lM, lM0, lT, nM0, nT, hSM⟩
  clear nMX nM0X hof hd2 hl2 hne2 hd3 hSM lM lM0 nM0 nX nT lX lT lS hrest e5
  go_wp2
  go_loopw [31] (fun iv wr => ∃ i : Nat, iv = .int .i64 (i : Nat) ∧ i ≤ 8 ∧ Hid (Fg w.heap.size w L rest (w3.heap.size + 1) w.heap.size (x5 : Nat) i wr)) (fun iv _ => 9 - (intOf iv).toNat)
  case atStart => exact ⟨0, rfl, by decide, HFg.out⟩
  case round =>
    obtain ⟨i, rfl, hi8, HI⟩ := hrel
    clear HFg
    by_cases hi : i < 8
    · obtain ⟨f, a, b, c, d, e, hf, hd⟩ := HI.out
      have hX : wr.heap[w.heap.size]? = some (.cells #[a, b, c, d, e, .int .u32 (x5 : Nat)] 55) := hd.at' (p := (w.heap.size, .cells #[a, b, c, d, e, .int .u32 (x5 : Nat)] 55)) (by simp)
      have q0 : wr.cell? ⟨w.heap.size, 0, none⟩ = some a := F.cell_of hX 0
      have q1 : wr.cell? ⟨w.heap.size, 1, none⟩ = some b := F.cell_of hX 1
      have q2 : wr.cell? ⟨w.heap.size, 2, none⟩ = some c := F.cell_of hX 2
      have q3 : wr.cell? ⟨w.heap.size, 3, none⟩ = some d := F.cell_of hX 3
      have q4 : wr.cell? ⟨w.heap.size, 4, none⟩ = some e := F.cell_of hX 4
      have z0 := F.frz_of hX 0
      have z1 := F.frz_of hX 1
      have z2 := F.frz_of hX 2
      have z3 := F.frz_of hX 3
      have z4 := F.frz_of hX 4
      have HX : Hid (wr.heap[w.heap.size]? = some (.cells #[a, b, c, d, e, .int .u32 (x5 : Nat)] 55)) := hX
      have HD : Hid (Dev w.heap.size w L 1 70 ((w3.heap.size + 1, .cells #[.string f] 9) :: (w.heap.size, .cells #[a, b, c, d, e, .int .u32 (x5 : Nat)] 55) :: rest) (fun _ => F.pad ⟨#[]⟩) 0 wr) := hd
      have Hf : Hid (f.size = 63 * i) := hf
      have HA0 : Hid (FA w.heap.size w L rest (w3.heap.size + 1) w.heap.size x5 i f (((((wr.setCell ⟨w.heap.size, 0, none⟩ (.int .u64 3)).setCell ⟨w.heap.size, 1, none⟩ (.int .u64 2)).setCell ⟨w.heap.size, 2, none⟩ (.int .u64 5)).setCell ⟨w.heap.size, 3, none⟩ (.int .i64 ((i : Int) + 2))).setCell ⟨w.heap.size, 4, none⟩ (.int .i64 1))) := by
        have s0 := F.block_set (i := 0) hX (.int .u64 3)
        have s1 := F.block_set (i := 1) s0 (.int .u64 2)
        have s2 := F.block_set (i := 2) s1 (.int .u64 5)
        have s3 := F.block_set (i := 3) s2 (.int .i64 ((i : Int) + 2))
        have s4 := F.block_set (i := 4) s3 (.int .i64 1)
        have k6 : KS6 w.heap.size wr (((((wr.setCell ⟨w.heap.size, 0, none⟩ (.int .u64 3)).setCell ⟨w.heap.size, 1, none⟩ (.int .u64 2)).setCell ⟨w.heap.size, 2, none⟩ (.int .u64 5)).setCell ⟨w.heap.size, 3, none⟩ (.int .i64 ((i : Int) + 2))).setCell ⟨w.heap.size, 4, none⟩ (.int .i64 1)) :=
          KS6.tr (KS6.tr (KS6.tr (KS6.tr (KS6.set _ wr 0 _) (KS6.set _ _ 1 _)) (KS6.set _ _ 2 _)) (KS6.set _ _ 3 _)) (KS6.set _ _ 4 _)
        have d1 : Dev w.heap.size w L 1 70 ((w.heap.size, .cells #[a, b, c, d, e, .int .u32 (x5 : Nat)] 55) :: (w3.heap.size + 1, .cells #[.string f] 9) :: rest) (fun _ => F.pad ⟨#[]⟩) 0 wr := hd.forget (by
          intro p hp
          simp only [List.mem_cons] at hp ⊢
          rcases hp with hp | hp | hp <;> simp [hp])
        have d2 := d1.one6 (by
          intro p hp
          rcases List.mem_cons.1 hp with rfl | hp
          · exact HN.out.1
          · exact (HN.out.2 p hp).1) k6 s4
        refine Dev.forget d2 ?_
        intro p hp
        simp only [List.mem_cons] at hp
        rcases hp with rfl | rfl | hp
        · simp
        · exact List.mem_cons_self ..
        · simp [hp]
      have HI8 : Hid (i < 8) := hi
      clear hd hX hf HI
      go_wp2_with fail
      generalize Value.bool (decide ((i : Int) < 8)) = bb
      refine F.wp_region_pb (fun f' => ⟨#[.agg #[.int .u64 x0, .int .u64 x1, .int .u64 x2, .int .i64 x3, .int .i64 x4, .int .u32 (x5 : Nat)], .string text, .int .i64 more, .pointer (some ⟨w.heap.size, 0, none⟩), .pointer (some ⟨w.heap.size + 1, 0, none⟩), undef, .bool false, .pointer (some ⟨L.P, 0, none⟩), .pointer (some ⟨M0, 0, none⟩), .pointer (some ⟨w3.heap.size, 0, none⟩), .pointer (some ⟨w3.heap.size + 1, 0, none⟩), .int .i64 (i : Nat), undef, undef, undef, undef, undef, undef, undef, .bool true, .bool false, .tuple #[.pointer (some ⟨L.P, 0, none⟩), .pointer (some ⟨M0, 0, none⟩)], .tuple #[.pointer (some ⟨L.P, 0, none⟩), .pointer (some ⟨M0, 0, none⟩)], .pointer (some ⟨L.P, 0, none⟩), .pointer (some ⟨M0, 0, none⟩), .pointer (some ⟨L.P, 0, none⟩), .bool false, .pointer (some ⟨L.P, 0, none⟩), .pointer (some ⟨S, 0, none⟩), .pointer (some ⟨S, 0, none⟩), .bool false, .int .i64 (i : Nat), bb, .int .i64 (i : Nat), .pointer (some ⟨w.heap.size, 0, none⟩), .pointer (some ⟨w.heap.size, 1, none⟩), .pointer (some ⟨w.heap.size, 2, none⟩), .int .i64 (i : Nat), .int .i64 ((i : Int) + 2), .pointer (some ⟨w.heap.size, 3, none⟩), .pointer (some ⟨w.heap.size, 4, none⟩), f' 0, f' 1, f' 2, f' 3, f' 4, u46, undef, undef, undef, undef, undef, undef, undef, undef, undef, undef, undef, undef, undef, undef, undef, undef, undef, undef, undef, undef, undef, undef, undef, undef, undef, undef, undef, undef, undef, undef, undef, undef, undef, undef, undef, undef, undef, undef, undef, undef, undef, undef, undef, undef, undef], []⟩) (V15 x5 i f) (P15 (FA w.heap.size w L rest (w3.heap.size + 1) w.heap.size x5 i f) (FB w.heap.size w L rest (w3.heap.size + 1) w.heap.size x5 i)) (fun i => [u41, u42, u43, u44, u45, undef].getD i undef) (by kernel_rfl) rfl rfl ?hI ?hput ?step ?fin
      case hI => exact ⟨fun _ => HA0.out.below (Below.refl _ _).drew, (fun e => by cases e), (fun e => by cases e)⟩
      case fin =>
        intro f' W hP hV
        have hB := hP.b rfl
        clear hP hV
        obtain ⟨z, hz, hD2⟩ := hB
        have HG : Hid (Fg w.heap.size w L rest (w3.heap.size + 1) w.heap.size (x5 : Nat) (i + 1) W) := ⟨z, .int .u64 3, .int .u64 2, .int .u64 5, .int .i64 ((i : Int) + 2), .int .i64 1, hz, hD2⟩
        clear hz hD2
        go_wp2
        go_roundw
        case rel => exact ⟨i + 1, by rfl, by omega, HG.out⟩
        case measure =>
          show 9 - ((i : Int) + 1).toNat < 9 - ((i : Int)).toNat
          have := HI8.out
          omega
      case hput =>
        repeat (refine ⟨fun f v => rfl, ?_⟩)
        trivial
      case step =>
        refine ⟨?_, ?_⟩
        · intro done f' W hP hdn hd K hK
          clear hd
          have n5 := hP.not5 (by decide) hdn
          have hA := hP.a n5
          have qq := hA.fb
          go_simp
          exact hK _ _ rfl (hP.pure (by decide) hdn _ hA)
        refine ⟨?_, ?_⟩
        · intro done f' W hP hdn hd K hK
          clear hd
          have n5 := hP.not5 (by decide) hdn
          have hA := hP.a n5
          obtain ⟨q0, q1, q2, q3, q4, q5⟩ := hA.xs
          go_simp
          exact hK _ _ rfl (hP.pure (by decide) hdn _ hA)
        refine ⟨?_, ?_⟩
        · intro done f' W hP hdn hd K hK
          have d1 := (hd.1 rfl).2
          have e1 : done 1 = true := (hd.1 rfl).1
          clear hd
          replace d1 : f' 1 = .agg #[.int .u64 3, .int .u64 2, .int .u64 5, .int .i64 ((i : Int) + 2), .int .i64 1, .int .u32 (x5 : Nat)] := d1
          generalize f' 1 = x1 at *
          subst d1
          clear e1
          have n5 := hP.not5 (by decide) hdn
          have hA := hP.a n5
          have hpk := packed i x5 HI8.out h5 W
          go_simp
          refine Calls.mono hpk ?_
          rintro er W' ⟨y, rfl, hy, hb⟩
          exact hK _ _ ⟨y, rfl, hy⟩ (hP.pure (by decide) hdn _ (hA.below hb))
        refine ⟨?_, ?_⟩
        · intro done f' W hP hdn hd K hK
          have d2 := (hd.1 rfl).2
          have e2 : done 2 = true := (hd.1 rfl).1
          clear hd
          have n5 := hP.not5 (by decide) hdn
          have hA := hP.a n5
          obtain ⟨y, d2', hy⟩ : ∃ y : ByteArray, f' 2 = .string y ∧ y.size = 64 := d2
          generalize f' 2 = x2 at *
          subst d2'
          clear e2
          go_simp
          exact hK _ _ ⟨_, rfl, by rw [ByteArray.size_extract]; omega⟩ (hP.pure (by decide) hdn _ hA)
        refine ⟨?_, ?_⟩
        · intro done f' W hP hdn hd K hK
          have d0 := (hd.1 rfl).2
          have e0 : done 0 = true := (hd.1 rfl).1
          have d3 := (hd.2.1 rfl).2
          have e3 : done 3 = true := (hd.2.1 rfl).1
          clear hd
          replace d0 : f' 0 = .string f := d0
          have n5 := hP.not5 (by decide) hdn
          have hA := hP.a n5
          obtain ⟨z, d3', hz⟩ : ∃ y : ByteArray, f' 3 = .string y ∧ y.size = 63 := d3
          generalize f' 3 = x3 at *
          subst d3'
          clear e3
          replace d0 : f' 0 = .string f := d0
          generalize f' 0 = x0' at *
          subst d0
          clear e0
          have hle : ¬ 9223372036854775807 < f.size + 63 := by
            have := Hf.out
            have := HI8.out
            omega
          go_simp
          exact hK _ _ ⟨f ++ z, rfl, by rw [ByteArray.size_append, Hf.out, hz]; omega⟩ (hP.pure (by decide) hdn _ hA)
        refine ⟨?_, ?_⟩
        · intro done f' W hP hdn hd K hK
          have d4 := (hd.1 rfl).2
          have e4 : done 4 = true := (hd.1 rfl).1
          have e2 : done 2 = true := (hd.2.1 rfl).1
          have e0 : done 0 = true := (hd.2.2.1 rfl).1
          have e1 : done 1 = true := (hd.2.2.2.1 rfl).1
          have e3 : done 3 = true := (hd.2.2.2.2.2.1 rfl).1
          clear hd
          have hA := hP.a hdn
          obtain ⟨z, d4', hz⟩ : ∃ y : ByteArray, f' 4 = .string y ∧ y.size = 63 * (i + 1) := d4
          generalize f' 4 = x4' at *
          subst d4'
          have qq := hA.fb
          have zz := hA.fz
          have hB := hA.store HN.out z hz
          go_simp
          exact hK undef _ trivial (hP.turn (fun j hj => by
            rcases (show j = 0 ∨ j = 1 ∨ j = 2 ∨ j = 3 ∨ j = 4 by omega) with rfl | rfl | rfl | rfl | rfl <;> assumption) undef hB)
        trivial
    · skip
      obtain rfl : i = 8 := by omega
      clear hi hi8
      obtain ⟨f, a, b, c, d, e, hf, hd⟩ := HI.out
      obtain ⟨st, lv, ats, o1, n70, sr1, se1, th, idl, dv, c0, c1, ln0⟩ := hd.ex
      have hh := o1.halt22 9 (by decide)
      have HST : Hid (st.n = 70 ∧ st.serial = 1 ∧ st.session = 1 ∧ st.there = true ∧ F.Mode.idle.is st ∧ F.Dv st ats (fun _ => F.pad ⟨#[]⟩) (fun _ => F.pad ⟨#[]⟩) ∧ 0 ≤ st.count ∧ st.count ≤ 0) := ⟨n70, sr1, se1, th, idl, dv, c0, c1⟩
      have Hf : Hid (f.size = 63 * 8) := hf
      clear HI hf hd o1 n70 sr1 se1 th idl dv c0 c1 ln0
      go_wp2_with fail
      go_call hh as er w4 ⟨rfl, o2⟩
      obtain ⟨O4, hO4⟩ : ∃ O4 : List (Nat × Obj), O4 = [(w3.heap.size, Obj.cells #[.pointer (some ⟨S, 0, none⟩)] 28), (w3.heap.size + 1, .cells #[.string f] 9), (M, F.med L.P 1 1), (M0, F.med L.P 1 1), (w.heap.size + 1, .cells #[.string text] 9), (w.heap.size, .cells #[a, b, c, d, e, .int .u32 (x5 : Nat)] 55)] := ⟨_, rfl⟩
      have o3 : F.One w.heap.size w L { st with hw := true, hl := 9 } lv ((S, .cells (sg0 M 16).cs 44) :: O4) w4 := o2.forget (by
        rw [HR.out, hO4]
        intro p hp
        simp only [List.mem_cons, List.not_mem_nil, or_false] at hp ⊢
        rcases hp with hp | hp | hp | hp | hp | hp | hp <;> simp [hp])
      have hgd := by
        obtain ⟨n70, sr1, se1, th, idl, dv, c0, c1⟩ := HST.out
        exact forged_guard (Pb := w3.heap.size) (Fb := w3.heap.size + 1) (sg0 M 16) o3 (by rw [hO4]; show (M, F.med L.P st.serial st.session) ∈ _; rw [sr1, se1]; simp) f 8 (by rw [hO4]; simp) (by rw [hO4]; simp) (sg0_ok M 16 (by decide) (by decide)) (by decide) (by show 1 + 8 < 16; decide) Hf.out (dv.same rfl rfl rfl rfl) (by show 4 + 16 ≤ st.n; omega) (by show st.n ≤ 1000; omega) th ⟨idl.1, idl.2.1, rfl, rfl, by decide⟩ ⟨c0, by show st.count ≤ _; omega⟩
      have hmf : ∀ (fn : Fn) (first cap : Array Value) (w : World), (Instr.makeFunc fn first cap).run Tryz.prog w = .ok (.func fn first cap) w := fun _ _ _ _ => rfl
      clear hh o2 o3
      go_wp2_with fail
      go_call hgd as er w5 ⟨s1, y1, rfl, h5l⟩
      have hcr := fun (W : World) (hb : Below w5.heap.size w5 W) => by
        obtain ⟨n70, sr1, se1, th, idl, dv, c0, c1⟩ := HST.out
        have h5m : Hlt w.heap.size w L { st with hw := true, hl := 9 } ((S, .cells (sg0 M 16).cs 44) :: O4) (layP (fun _ => F.pad ⟨#[]⟩) (sg0 M 16) f 8) W := by
          obtain ⟨st', lv', o, r⟩ := h5l
          exact ⟨st', lv', o.ofBelow hb, r⟩
        exact forged_crash h5m n70 (by decide) th sr1 se1 (by show st.count ≤ _; omega)
      have HCR : Hid (∀ W, Below w5.heap.size w5 W → Calls Tryz.prog 25 #[.pointer (some ⟨L.P, 0, none⟩), .slice none 0 0] W fun e w' => e = .returned (.tuple #[]) ∧ ∃ now', (∀ i, i < 70 → now' i = layP (fun _ => F.pad ⟨#[]⟩) (sg0 M 16) f 8 i) ∧ Dev w.heap.size w L 2 70 ((S, .cells (sg0 M 16).cs 44) :: O4) now' 2000 w') := hcr
      clear hgd h5l hcr HST
      go_wp2_with fail
      go_call (HCR.out _ ((Below.refl _ _).alloc (Nat.le_refl _) _)) as er w6 ⟨rfl, now, hnow, hd6⟩
      have hof6 := dev_of hd6 16
      have HNW : Hid (∀ i, i < 70 → now i = layP (fun _ => F.pad ⟨#[]⟩) (sg0 M 16) f 8 i) := hnow
      clear HCR hnow hd6
      go_wp2_with fail
      go_call hof6 as er w7 ⟨S2, M2, rfl, hd7, hSM7, hne7⟩
      have p7 := hd7.at' (p := (w3.heap.size, Obj.cells #[.pointer (some ⟨S, 0, none⟩)] 28)) (by rw [hO4]; simp)
      have q7 : w7.cell? ⟨w3.heap.size, 0, none⟩ = some (.pointer (some ⟨S, 0, none⟩)) := F.cell_of p7 0
      have z7 := F.frz_of p7 0
      have HD7 : Hid _ := hd7
      clear hof6 hd7 p7
      go_wp2_with fail
      obtain ⟨k, hk1, hk4, hkk⟩ := and3 more
      rw [hkk]
      have hd8 : Dev w.heap.size w L 2 70 ((S2, .cells (sg0 M2 16).cs 44) :: [(w7.heap.size, Obj.cells #[.int .i64 (k : Nat)] 3), (w3.heap.size, .cells #[.pointer (some ⟨S2, 0, none⟩)] 28), (M2, F.med L.P 1 2), (w.heap.size + 1, .cells #[.string text] 9)]) now 2000 ((w7.setCell ⟨w3.heap.size, 0, none⟩ (.pointer (some ⟨S2, 0, none⟩))).alloc (.cells #[.int .i64 (k : Nat)] 3)) := by
        have hd7 := HD7.out
        have e1 := hne7 (w3.heap.size, Obj.cells #[.pointer (some ⟨S, 0, none⟩)] 28) (by rw [hO4]; simp)
        have e2 : M2 ≠ w3.heap.size := fun e => by
          have a := hd7.at' (p := (M2, F.med L.P 1 2)) (by simp)
          have b := hd7.at' (p := (w3.heap.size, Obj.cells #[.pointer (some ⟨S, 0, none⟩)] 28)) (by rw [hO4]; simp)
          replace a : w7.heap[M2]? = some (F.med L.P 1 2) := a
          replace b : w7.heap[w3.heap.size]? = some (Obj.cells #[.pointer (some ⟨S, 0, none⟩)] 28) := b
          rw [e, b] at a
          injection a with a
          unfold F.med at a
          injection a with _ a _
          exact absurd a (by decide)
        have d1 : Dev w.heap.size w L 2 70 ((w3.heap.size, .cells #[.pointer (some ⟨S, 0, none⟩)] 28) :: [(S2, .cells (sg0 M2 16).cs 44), (M2, F.med L.P 1 2), (w.heap.size + 1, .cells #[.string text] 9)]) now 2000 w7 := hd7.forget (by
          rw [hO4]
          intro p hp
          simp only [List.mem_cons, List.not_mem_nil, or_false] at hp ⊢
          rcases hp with hp | hp | hp | hp <;> simp [hp])
        have d2 := d1.setOther (v := .pointer (some ⟨S2, 0, none⟩)) (by
          intro p hp
          simp only [List.mem_cons, List.not_mem_nil, or_false] at hp
          rcases hp with rfl | rfl | rfl
          · exact fun e => e1 e.symm
          · exact e2
          · have := HL.out.2.2.2.1
            show w.heap.size + 1 ≠ w3.heap.size
            omega) (by decide)
        have d3 := d2.alloc (.cells #[.int .i64 (k : Nat)] 3) (F.apart_of (by decide))
        have es : (w7.setCell ⟨w3.heap.size, 0, none⟩ (.pointer (some ⟨S2, 0, none⟩))).heap.size = w7.heap.size := by simp
        rw [es] at d3
        refine d3.forget ?_
        intro p hp
        simp only [List.mem_cons, List.not_mem_nil, or_false] at hp ⊢
        rcases hp with hp | hp | hp | hp | hp <;> simp [hp]
      have hne8 : ∀ p ∈ [(w7.heap.size, Obj.cells #[.int .i64 (k : Nat)] 3), (w3.heap.size, Obj.cells #[.pointer (some ⟨S2, 0, none⟩)] 28), (M2, F.med L.P 1 2), (w.heap.size + 1, Obj.cells #[.string text] 9)], p.1 ≠ S2 := by
        have l7 := HD7.out.lts (S2, .cells (sg0 M2 16).cs 44) (by simp)
        replace l7 : S2 < w7.heap.size := l7
        intro p hp
        simp only [List.mem_cons, List.not_mem_nil, or_false] at hp
        rcases hp with rfl | rfl | rfl | rfl
        · show w7.heap.size ≠ S2; omega
        · exact hne7 (w3.heap.size, Obj.cells #[.pointer (some ⟨S, 0, none⟩)] 28) (by rw [hO4]; simp)
        · exact fun e => hSM7 e.symm
        · exact hne7 (w.heap.size + 1, .cells #[.string text] 9) (by rw [hO4]; simp)
      generalize (w7.setCell ⟨w3.heap.size, 0, none⟩ (.pointer (some ⟨S2, 0, none⟩))).alloc (.cells #[.int .i64 (k : Nat)] 3) = w8 at *
      have l8 := hd8.lts
      have hgd := dev_guard (oth3 := (S2, .cells (Sg.cs { sg0 M2 16 with a := 1 + 1 + k }) 44) :: [(w7.heap.size, Obj.cells #[.int .i64 (k : Nat)] 3), (w3.heap.size, .cells #[.pointer (some ⟨S2, 0, none⟩)] 28), (M2, F.med L.P 1 2), (w.heap.size + 1, .cells #[.string text] 9)]) 31 #[.pointer (some ⟨w3.heap.size, 0, none⟩), .pointer (some ⟨w.heap.size + 1, 0, none⟩), .pointer (some ⟨w7.heap.size, 0, none⟩)] ent31 hd8 (fun hg => op31 (Sb := S2) (Pb := w3.heap.size) (Tb := w.heap.size + 1) (Nb := w7.heap.size) (x := text) (k := k) (rest := F.gob w8.heap.size [(w7.heap.size, Obj.cells #[.int .i64 (k : Nat)] 3), (w3.heap.size, .cells #[.pointer (some ⟨S2, 0, none⟩)] 28), (M2, F.med L.P 1 2), (w.heap.size + 1, .cells #[.string text] 9)]) (sg0 M2 16) (hg.forget (by
        intro p hp
        simp only [F.gob, List.mem_cons, List.not_mem_nil, or_false] at hp ⊢
        rcases hp with hp | hp | hp | hp | hp | hp | hp <;> simp [hp])) (by simp [F.gob]) (by simp [F.gob]) (by simp [F.gob]) (by simp [F.gob, sg0]) (by
        intro p hp
        have l8S := l8 (S2, .cells (sg0 M2 16).cs 44) (by simp)
        replace l8S : S2 < w8.heap.size := l8S
        unfold F.gob at hp
        rcases List.mem_cons.1 hp with rfl | hp
        · show w8.heap.size + 1 ≠ S2; omega
        · rcases List.mem_cons.1 hp with rfl | hp
          · show w8.heap.size ≠ S2; omega
          · exact hne8 p hp) (sg0_ok M2 16 (by decide) (by decide)) hk1 (by omega) (by show 1 + k < 16; omega) (by show 4 + 16 ≤ 70; decide) (by decide) (by decide)) (by
        intro p hp
        simp only [F.gob, List.mem_cons, List.not_mem_nil, or_false] at hp ⊢
        rcases hp with hp | hp | hp | hp | hp | hp | hp <;> simp [hp, sg0]) (by
        intro p hp
        have q : p.1 < w8.heap.size := by
          rcases List.mem_cons.1 hp with rfl | hp
          · exact l8 (S2, .cells (sg0 M2 16).cs 44) (by simp)
          · exact l8 p (List.mem_cons_of_mem _ hp)
        exact ⟨by omega, by omega⟩)
      clear HD7 hne7 hSM7 l8 hd8 hne8
      go_wp2_with fail
      go_call hgd as er w9 ⟨rfl, hd9⟩
      have hof9 := dev_of (hd9.below ((Below.refl _ _).alloc (Nat.le_refl _) (.cells #[.int .i64 0, .int .i64 0] 37))) 16
      clear hgd hd9
      go_wp2_with fail
      go_call hof9 as er w10 ⟨S3, M3, rfl, hd10, hSM10, hne10⟩
      have hp0 : ∀ i, i < 70 → Ksec ((fun _ => F.pad ⟨#[]⟩ : Nat → ByteArray) i) := fun _ _ => ksec0
      have hkn : ∀ i, i < 70 → Ksec (now i) := fun i hi => by
        rw [HNW.out i hi]
        exact layP_ksec (sg0_ok M 16 (by decide) (by decide)) Hf.out (by show 1 + 8 < 16; decide) hp0 i hi
      have hsc := scanned_all (Sb := S3) (sg0 M3 16) hd10 (by simp [sg0]) (by
        intro p hp cc fz e
        simp only [List.mem_cons, List.not_mem_nil, or_false] at hp
        rcases hp with rfl | rfl | rfl | rfl | rfl | rfl <;> (try unfold F.med at e) <;> (injection e with _ e _; exact absurd e (by decide))) (by
        intro p hp
        rcases List.mem_cons.1 hp with rfl | hp
        · exact Ne.symm hSM10
        · exact hne10 p hp) ⟨(by decide : (3 : Nat) < _), (by decide : (2 : Nat) < _), (by decide : (5 : Nat) < _)⟩ ⟨(by decide : (4 : Nat) ≤ _), (by decide : (1 : Nat) ≤ 16), (by decide : (16 : Nat) ≤ 64)⟩ (by show 4 + 16 ≤ 70; decide) (by decide) (by decide) (layC_ksec (sg0_ok M2 16 (by decide) (by decide)) (payN_size _ _) hk1 (by show 1 + k < 16; omega) hkn) (l := [(1, payN text k)]) (e := 1 + 1 + k) (Chn.med (Chn.more (l := []) (s := sg0 M2 16) Chn.nil (payN_size _ _) hk1 (by show 1 + k < 16; omega))) (fun _ => by
        show (layC now (sg0 M2 16) (payN text k) k (4 + (1 + 1 + k)))[0]? ≠ some 67
        rw [layC_ge _ (by show 4 + 1 + 1 + k ≤ _; omega), HNW.out _ (by omega)]
        have h := (layP_d (now := fun _ => F.pad ⟨#[]⟩) (sg0_ok M 16 (by decide) (by decide)) Hf.out (by show 1 + 8 < 16; decide) k (by omega)).2
        replace h : (layP (fun _ => F.pad ⟨#[]⟩) (sg0 M 16) f 8 (4 + 1 + 1 + k))[0]? = some 68 := h
        rw [show 4 + (1 + 1 + k) = 4 + 1 + 1 + k by omega, h]
        intro e
        exact absurd (Option.some.inj e) (by decide))
      clear hof9 hd10 hSM10 hne10 hkn hp0
      go_wp2_with fail
      go_call hsc as er w11 ⟨v, ol, rfl, htx, -, hd11⟩
      obtain ⟨ao, cp, g, rfl, hao, hce⟩ := htx.cell (W := w11) (fun p hp => hd11.at' (List.mem_append_left _ hp))
      obtain rfl := hao (by simp)
      have hc11 : w11.cell? ⟨g, 0, none⟩ = some (.string (payN text k)) := hce 0 (by simp)
      have ht11 := hd11.at' (p := (w.heap.size + 1, .cells #[.string text] 9)) (by simp)
      have hn11 := hd11.at' (p := (w7.heap.size, Obj.cells #[.int .i64 (k : Nat)] 3)) (by simp)
      have HB11 : Hid (Below w.heap.size w w11) := hd11.bel
      have HC : Hid (w11.cell? ⟨g, 0, none⟩ = some (.string (payN text k)) ∧ w11.cell? ⟨w.heap.size + 1, 0, none⟩ = some (.string text) ∧ w11.cell? ⟨w7.heap.size, 0, none⟩ = some (.int .i64 (k : Nat))) := ⟨hc11, F.cell_of ht11 0, F.cell_of hn11 0⟩
      clear hsc htx hd11 hao hce hc11 ht11 hn11
      go_wp2_with fail
      refine F.wp_region_pb (fun f' => ⟨#[.agg #[.int .u64 x0, .int .u64 x1, .int .u64 x2, .int .i64 x3, .int .i64 x4, .int .u32 (x5 : Nat)], .string text, .int .i64 more, .pointer (some ⟨w.heap.size, 0, none⟩), .pointer (some ⟨w.heap.size + 1, 0, none⟩), undef, f' 15, .pointer (some ⟨L.P, 0, none⟩), .pointer (some ⟨M0, 0, none⟩), .pointer (some ⟨w3.heap.size, 0, none⟩), .pointer (some ⟨w3.heap.size + 1, 0, none⟩), u11, .pointer (some ⟨w5.heap.size, 0, none⟩), .bool true, .pointer (some ⟨w7.heap.size, 0, none⟩), .pointer (some ⟨w9.heap.size, 0, none⟩), .bool false, .slice (some ⟨g, 0, none⟩) 1 cp, .bool true, .bool true, .bool false, .tuple #[.pointer (some ⟨L.P, 0, none⟩), .pointer (some ⟨M0, 0, none⟩)], .tuple #[.pointer (some ⟨L.P, 0, none⟩), .pointer (some ⟨M0, 0, none⟩)], .pointer (some ⟨L.P, 0, none⟩), .pointer (some ⟨M0, 0, none⟩), .pointer (some ⟨L.P, 0, none⟩), .bool false, .pointer (some ⟨L.P, 0, none⟩), .pointer (some ⟨S, 0, none⟩), .pointer (some ⟨S, 0, none⟩), .bool false, .int .i64 8, .bool false, u33, u34, u35, u36, u37, u38, u39, u40, u41, u42, u43, u44, u45, u46, .pointer (some ⟨L.P, 0, none⟩), .tuple #[], .tuple #[.agg #[.int .i64 s1, .int .i64 y1], .bool true], .func (.func 30) #[] #[.pointer (some ⟨w3.heap.size, 0, none⟩), .pointer (some ⟨w3.heap.size + 1, 0, none⟩)], .tuple #[.agg #[.int .i64 s1, .int .i64 y1], .bool true], .agg #[.int .i64 s1, .int .i64 y1], .bool true, .bool true, .bool false, .pointer (some ⟨L.P, 0, none⟩), .tuple #[], .pointer (some ⟨L.P, 0, none⟩), .pointer (some ⟨S2, 0, none⟩), .pointer (some ⟨S2, 0, none⟩), .bool false, .int .i64 more, .int .i64 (bits BinOp.and IntKind.i64 more 3), .int .i64 (k : Nat), .tuple #[.agg #[.int .i64 0, .int .i64 0], .bool false], .func (.func 31) #[] #[.pointer (some ⟨w3.heap.size, 0, none⟩), .pointer (some ⟨w.heap.size + 1, 0, none⟩), .pointer (some ⟨w7.heap.size, 0, none⟩)], .tuple #[.agg #[.int .i64 0, .int .i64 0], .bool false], .agg #[.int .i64 0, .int .i64 0], .bool false, .bool false, .tuple #[.slice (some ⟨g, 0, none⟩) 1 cp, .bool true], .pointer (some ⟨L.P, 0, none⟩), .pointer (some ⟨S3, 0, none⟩), .tuple #[.slice (some ⟨g, 0, none⟩) 1 cp, .bool true], .slice (some ⟨g, 0, none⟩) 1 cp, .bool true, f' 0, f' 1, f' 2, f' 3, f' 4, f' 5, f' 6, f' 7, f' 8, f' 9, f' 10, f' 11, f' 12, f' 13, f' 14], []⟩) (V30 g cp k text) (fun _ _ W => Below w11.heap.size w11 W) (fun i => [undef, undef, undef, undef, undef, undef, undef, undef, undef, undef, undef, undef, undef, undef, undef, .bool false].getD i undef) (by kernel_rfl) rfl rfl ?hIq ?hputq ?stepq ?finq
      case hIq => exact (Below.refl _ _).drew
      case finq =>
        intro f' W hP hV
        have v15 : f' 15 = .bool true := hV 15 (by decide)
        clear hV
        generalize f' 15 = z15 at *
        subst v15
        have HP : Hid (Below w11.heap.size w11 W) := hP
        clear hP
        go_wp2
        go_returns
        exact ⟨rfl, HB11.out.trans (HP.out.mono HB11.out.size)⟩
      case hputq =>
        repeat (refine ⟨fun f v => rfl, ?_⟩)
        trivial
      case stepq =>
        refine ⟨?_, ?_⟩
        · intro done f' W hP hdn hd K hK
          clear hd
          go_simp
          exact hK _ _ rfl hP
        refine ⟨?_, ?_⟩
        · intro done f' W hP hdn hd K hK
          have d0 := (hd.1 rfl).2
          have e0 : done 0 = true := (hd.1 rfl).1
          clear hd
          replace d0 : f' 0 = .bool true := d0
          generalize f' 0 = x0 at *
          subst d0
          clear e0
          go_simp
          exact hK _ _ rfl hP
        refine ⟨?_, ?_⟩
        · intro done f' W hP hdn hd K hK
          have d1 := (hd.1 rfl).2
          have e1 : done 1 = true := (hd.1 rfl).1
          clear hd
          replace d1 : f' 1 = .bool true := d1
          generalize f' 1 = x1 at *
          subst d1
          clear e1
          go_simp
          exact hK _ _ rfl hP
        refine ⟨?_, ?_⟩
        · intro done f' W hP hdn hd K hK
          have d2 := (hd.1 rfl).2
          have e2 : done 2 = true := (hd.1 rfl).1
          have d1 := (hd.2.1 rfl).2
          have e1 : done 1 = true := (hd.2.1 rfl).1
          clear hd
          replace d2 : f' 2 = .slice (some ⟨g, 0, none⟩) 1 cp := d2
          replace d1 : f' 1 = .bool true := d1
          generalize f' 2 = x2 at *
          subst d2
          clear e2
          generalize f' 1 = x1 at *
          subst d1
          clear e1
          go_simp
          exact hK _ _ rfl hP
        refine ⟨?_, ?_⟩
        · intro done f' W hP hdn hd K hK
          have d3 := (hd.1 rfl).2
          have e3 : done 3 = true := (hd.1 rfl).1
          have d1 := (hd.2.1 rfl).2
          have e1 : done 1 = true := (hd.2.1 rfl).1
          clear hd
          replace d3 : f' 3 = .int .i64 1 := d3
          replace d1 : f' 1 = .bool true := d1
          generalize f' 3 = x3 at *
          subst d3
          clear e3
          generalize f' 1 = x1 at *
          subst d1
          clear e1
          go_simp
          exact hK _ _ rfl hP
        refine ⟨?_, ?_⟩
        · intro done f' W hP hdn hd K hK
          have d1 := (hd.1 rfl).2
          have e1 : done 1 = true := (hd.1 rfl).1
          have d4 := (hd.2.1 rfl).2
          have e4 : done 4 = true := (hd.2.1 rfl).1
          clear hd
          replace d1 : f' 1 = .bool true := d1
          replace d4 : f' 4 = .bool true := d4
          generalize f' 1 = x1 at *
          subst d1
          clear e1
          generalize f' 4 = x4 at *
          subst d4
          clear e4
          go_simp
          exact hK _ _ rfl hP
        refine ⟨?_, ?_⟩
        · intro done f' W hP hdn hd K hK
          have d5 := (hd.1 rfl).2
          have e5 : done 5 = true := (hd.1 rfl).1
          clear hd
          replace d5 : f' 5 = .bool true := d5
          generalize f' 5 = x5 at *
          subst d5
          clear e5
          go_simp
          exact hK _ _ rfl hP
        refine ⟨?_, ?_⟩
        · intro done f' W hP hdn hd K hK
          have d6 := (hd.1 rfl).2
          have e6 : done 6 = true := (hd.1 rfl).1
          clear hd
          replace d6 : f' 6 = .bool true := d6
          generalize f' 6 = x6 at *
          subst d6
          clear e6
          go_simp
          exact hK _ _ rfl hP
        refine ⟨?_, ?_⟩
        · intro done f' W hP hdn hd K hK
          have d7 := (hd.1 rfl).2
          have e7 : done 7 = true := (hd.1 rfl).1
          have d6 := (hd.2.1 rfl).2
          have e6 : done 6 = true := (hd.2.1 rfl).1
          clear hd
          replace d7 : f' 7 = .slice (some ⟨g, 0, none⟩) 1 cp := d7
          replace d6 : f' 6 = .bool true := d6
          generalize f' 7 = x7 at *
          subst d7
          clear e7
          generalize f' 6 = x6 at *
          subst d6
          clear e6
          go_simp
          exact hK _ _ rfl hP
        refine ⟨?_, ?_⟩
        · intro done f' W hP hdn hd K hK
          have d8 := (hd.1 rfl).2
          have e8 : done 8 = true := (hd.1 rfl).1
          have d6 := (hd.2.1 rfl).2
          have e6 : done 6 = true := (hd.2.1 rfl).1
          clear hd
          replace d8 : f' 8 = .pointer (some ⟨g, 0, none⟩) := d8
          replace d6 : f' 6 = .bool true := d6
          generalize f' 8 = x8 at *
          subst d8
          clear e8
          generalize f' 6 = x6 at *
          subst d6
          clear e6
          obtain ⟨r1, r2, r3⟩ := HC.out
          have r1' := below_cell hP r1
          have r2' := below_cell hP r2
          have r3' := below_cell hP r3
          go_simp
          exact hK _ _ rfl hP
        refine ⟨?_, ?_⟩
        · intro done f' W hP hdn hd K hK
          have d6 := (hd.1 rfl).2
          have e6 : done 6 = true := (hd.1 rfl).1
          clear hd
          replace d6 : f' 6 = .bool true := d6
          generalize f' 6 = x6 at *
          subst d6
          clear e6
          obtain ⟨r1, r2, r3⟩ := HC.out
          have r1' := below_cell hP r1
          have r2' := below_cell hP r2
          have r3' := below_cell hP r3
          go_simp
          exact hK _ _ rfl hP
        refine ⟨?_, ?_⟩
        · intro done f' W hP hdn hd K hK
          have d6 := (hd.1 rfl).2
          have e6 : done 6 = true := (hd.1 rfl).1
          clear hd
          replace d6 : f' 6 = .bool true := d6
          generalize f' 6 = x6 at *
          subst d6
          clear e6
          obtain ⟨r1, r2, r3⟩ := HC.out
          have r1' := below_cell hP r1
          have r2' := below_cell hP r2
          have r3' := below_cell hP r3
          go_simp
          exact hK _ _ rfl hP
        refine ⟨?_, ?_⟩
        · intro done f' W hP hdn hd K hK
          have d10 := (hd.1 rfl).2
          have e10 : done 10 = true := (hd.1 rfl).1
          have d11 := (hd.2.1 rfl).2
          have e11 : done 11 = true := (hd.2.1 rfl).1
          have d6 := (hd.2.2.2.1 rfl).2
          have e6 : done 6 = true := (hd.2.2.2.1 rfl).1
          clear hd
          replace d10 : f' 10 = .string text := d10
          replace d11 : f' 11 = .int .i64 (k : Nat) := d11
          replace d6 : f' 6 = .bool true := d6
          generalize f' 10 = x10 at *
          subst d10
          clear e10
          generalize f' 11 = x11 at *
          subst d11
          clear e11
          generalize f' 6 = x6 at *
          subst d6
          clear e6
          have hpy := pay_any text k hk1 (by omega) W
          go_simp
          refine Calls.mono hpy ?_
          rintro er W' ⟨rfl, hb⟩
          exact hK _ _ rfl (hP.trans (hb.mono hP.size))
        refine ⟨?_, ?_⟩
        · intro done f' W hP hdn hd K hK
          have d9 := (hd.1 rfl).2
          have e9 : done 9 = true := (hd.1 rfl).1
          have d12 := (hd.2.1 rfl).2
          have e12 : done 12 = true := (hd.2.1 rfl).1
          have d6 := (hd.2.2.1 rfl).2
          have e6 : done 6 = true := (hd.2.2.1 rfl).1
          clear hd
          replace d9 : f' 9 = .string (payN text k) := d9
          replace d12 : f' 12 = .string (payN text k) := d12
          replace d6 : f' 6 = .bool true := d6
          generalize f' 9 = x9 at *
          subst d9
          clear e9
          generalize f' 12 = x12 at *
          subst d12
          clear e12
          generalize f' 6 = x6 at *
          subst d6
          clear e6
          go_simp
          exact hK _ _ rfl hP
        refine ⟨?_, ?_⟩
        · intro done f' W hP hdn hd K hK
          have d6 := (hd.1 rfl).2
          have e6 : done 6 = true := (hd.1 rfl).1
          have d13 := (hd.2.1 rfl).2
          have e13 : done 13 = true := (hd.2.1 rfl).1
          clear hd
          replace d6 : f' 6 = .bool true := d6
          replace d13 : f' 13 = .bool true := d13
          generalize f' 6 = x6 at *
          subst d6
          clear e6
          generalize f' 13 = x13 at *
          subst d13
          clear e13
          go_simp
          exact hK _ _ rfl hP
        refine ⟨?_, ?_⟩
        · intro done f' W hP hdn hd K hK
          have d14 := (hd.1 rfl).2
          have e14 : done 14 = true := (hd.1 rfl).1
          clear hd
          replace d14 : f' 14 = .bool true := d14
          generalize f' 14 = x14 at *
          subst d14
          clear e14
          go_simp
          exact hK _ _ rfl hP
        trivial
end Go.Proofs.YtncfbocbigdhiaaGreat.V
