/- Texts of this seat, one behind the other: UA, WA. -/
import Derived.Test.YtncfbocbigdhiaaGreatJZ
import Derived.Test.YtncfbocbigdhiaaGreatJY
import Derived.Test.YtncfbocbigdhiaaGreatVY
/- A device that does all, in any of its sessions, once more: what is sure is told beside what lies there (made by gua.py). -/
namespace Go.Proofs.YtncfbocbigdhiaaGreat.U
open Go.RowKit
/-- A device that does all, with nothing that is not sure, and what lies on it. -/
structure Dev (T : Nat) (w : World) (L : F.Loc) (q : Int) (n : Nat) (oth : List (Nat × Obj)) (now su : Nat → ByteArray) (c : Int) (W : World) : Prop where
  ex : ∃ st lv ats, F.One T w L st lv oth W ∧ st.n = n ∧ st.serial = 1 ∧ st.session = q ∧ st.there = true ∧ F.Mode.idle.is st ∧ F.Dv st ats now su ∧ 0 ≤ st.count ∧ st.count ≤ c ∧ True
section
variable {T : Nat} {w : World} {L : F.Loc} {q : Int} {n : Nat} {oth oth' : List (Nat × Obj)} {now su : Nat → ByteArray} {c : Int} {W W' : World}
theorem Dev.below (h : Dev T w L q n oth now su c W) (hb : Below W.heap.size W W') : Dev T w L q n oth now su c W' := by
  obtain ⟨st, lv, ats, h1, h2⟩ := h.ex
  exact ⟨st, lv, ats, h1.ofBelow hb, h2⟩
theorem Dev.forget (h : Dev T w L q n oth now su c W) (hs : ∀ p ∈ oth', p ∈ oth) : Dev T w L q n oth' now su c W := by
  obtain ⟨st, lv, ats, h1, h2⟩ := h.ex
  exact ⟨st, lv, ats, h1.forget hs, h2⟩
theorem Dev.alloc (h : Dev T w L q n oth now su c W) (o : Obj) (ho : F.Obj.apart o) : Dev T w L q n ((W.heap.size, o) :: oth) now su c (W.alloc o) := by
  obtain ⟨st, lv, ats, h1, h2⟩ := h.ex
  exact ⟨st, lv, ats, h1.alloc o ho, h2⟩
theorem Dev.setOther {B : Nat} {v0 v : Value} {t : TypeId} (h : Dev T w L q n ((B, .cells #[v0] t) :: oth) now su c W) (hne : ∀ p ∈ oth, p.1 ≠ B) (ht : t ≠ 152) : Dev T w L q n ((B, .cells #[v] t) :: oth) now su c (W.setCell ⟨B, 0, none⟩ v) := by
  obtain ⟨st, lv, ats, h1, h2⟩ := h.ex
  exact ⟨st, lv, ats, h1.setOther hne ht, h2⟩
theorem Dev.at' (h : Dev T w L q n oth now su c W) {p : Nat × Obj} (hp : p ∈ oth) : W.heap[p.1]? = some p.2 := by
  obtain ⟨st, lv, ats, h1, h2⟩ := h.ex
  exact (h1.oth p hp).1
theorem Dev.bel (h : Dev T w L q n oth now su c W) : Below T w W := by
  obtain ⟨st, lv, ats, h1, h2⟩ := h.ex
  exact h1.below
theorem Dev.more (h : Dev T w L q n oth now su c W) {d : Int} (hd : c ≤ d) : Dev T w L q n oth now su d W := by
  obtain ⟨st, lv, ats, h1, h2, h3, h4, h5, h6, h7, h8, h9, h10⟩ := h.ex
  exact ⟨st, lv, ats, h1, h2, h3, h4, h5, h6, h7, h8, by omega, h10⟩
theorem Dev.lts (h : Dev T w L q n oth now su c W) : ∀ p ∈ oth, p.1 < W.heap.size := by
  obtain ⟨st, lv, ats, h1, h2⟩ := h.ex
  exact h1.lts
end
theorem rd_now {st : F.St} {ats : Nat → Nat} {now su : Nat → ByteArray} {n : Nat} (hd : F.Dv st ats now su) (hn : st.n = n) (i : Nat) (hi : i < n) : F.rd st i = now i := hd.nw i (by omega)
theorem grp_read {st : F.St} {ats : Nat → Nat} {now su : Nat → ByteArray} {n : Nat} {s : Sg} {t k : Nat} {x : ByteArray} (hd : F.Dv st ats now su) (hn : st.n = n) (hfit : s.b + s.p ≤ n) (hg : Grp now s t k x) : (⟨(F.rdsL st (s.b + t + 1) k).toArray⟩ : ByteArray) = O.tx (secP x k) := by
  have hy := ysize x k hg.sz
  have hf := hg.fit
  have h1 := rdsL_lay st (s.b + t + 1) (O.tx (secP x k)) k hy k (Nat.le_refl _) (fun i hi => by rw [rd_now hd hn _ (by omega)]; exact hg.pay i hi)
  rw [h1, List.take_of_length_le (by rw [← O.size_list]; omega)]
/-- No group is found at the place e. -/
def Ends (now : Nat → ByteArray) (n : Nat) (s : Sg) (e : Nat) : Prop := e < s.p → ∃ (q : Cm) (er : Int), q.k ≤ 255 ∧ (∀ W, Calls Tryz.prog 131 #[.string (now (s.b + e))] W fun e w' => e = .returned (.tuple #[.agg q.cs, .int .i64 er]) ∧ Below W.heap.size W w') ∧ ∀ st ats sure, F.Dv st ats now sure → st.n = n → q ≠ s.cm e (zO st s e q.k)
/-- Where a sector's first byte is no Commit's, none is found. -/
theorem ends_other {now : Nat → ByteArray} {n : Nat} {s : Sg} {e : Nat} (he : 1 ≤ e) (hk : Ksec (now (s.b + e))) (h : (now (s.b + e))[0]? ≠ some 67) : Ends now n s e := by
  intro _
  obtain ⟨q, er, hq1, hq2, hq3⟩ := ksec_tells hk
  refine ⟨q, er, hq1, hq3, fun st ats sure _ _ e2 => ?_⟩
  rw [hq2 h] at e2
  have := congrArg Cm.a e2
  have e3 : (0 : Nat) = e := this
  omega
theorem ends_out {now : Nat → ByteArray} {n : Nat} {s : Sg} {e : Nat} (he : s.p ≤ e) : Ends now n s e := fun h => by omega
theorem dev_scan {T : Nat} {w : World} {L : F.Loc} {q : Int} {n : Nat} {oth : List (Nat × Obj)} {now su : Nat → ByteArray} {c : Int} {W : World} {Sb : Nat} (s : Sg) (h : Dev T w L q n ((Sb, .cells s.cs 44) :: oth) now su c W) (hM : (s.M, F.med L.P 1 q) ∈ oth) (h5 : ∀ p ∈ oth, ∀ c fz, p.2 ≠ .cells c 5 fz) (hne : ∀ p ∈ oth, p.1 ≠ Sb)
    (hsb : s.c < 18446744073709551616 ∧ s.j < 18446744073709551616 ∧ s.n < 18446744073709551616) (hs : s.b ≤ 10000 ∧ 1 ≤ s.p ∧ s.p ≤ 64) (hfit : s.b + s.p ≤ n) (hn1 : n ≤ 1000) (hc : c ≤ 40000) (hk : ∀ i, i < n → Ksec (now i)) {l : List (Nat × ByteArray)} {e : Nat} (hch : Chn now s l e) (he : Ends now n s e) :
    Calls Tryz.prog 59 #[.pointer (some ⟨Sb, 0, none⟩)] W fun r W' => ∃ v ol, r = .returned v ∧ Plc v (l.map Prod.fst) ol ∧ Dev T w L q n (ol ++ (Sb, .cells (Sg.cs { s with a := e }) 44) :: oth) now su (c + 66 * l.length + 66) W' ∧ (∀ p ∈ ol, ∀ q ∈ (Sb, .cells s.cs 44) :: oth, p.1 ≠ q.1) := by
  obtain ⟨T1, hx⟩ := Mx.of Sb oth
  obtain ⟨st, lv, ats, ho, hn, hsr, hss, hth, ⟨hi1, hi2, hi3⟩, hd, hc0, hc1, hl0⟩ := h.ex
  have hlt := hch.lt
  have key : ∀ t, ∃ (q : Cm) (er : Int), 1 ≤ t → t < s.p → (q.k ≤ 255 ∧ (∀ W, Calls Tryz.prog 131 #[.string ⟨(F.rdsL st (s.b + t) 1).toArray⟩] W fun e w' => e = .returned (.tuple #[.agg q.cs, .int .i64 er]) ∧ Below W.heap.size W w') ∧ (∀ x, (t, x) ∈ l → q = s.cm t x) ∧ (t = e → q ≠ s.cm t (zO st s t q.k))) := by
    intro t
    by_cases ht : 1 ≤ t ∧ t < s.p
    · have hr : (⟨(F.rdsL st (s.b + t) 1).toArray⟩ : ByteArray) = now (s.b + t) := by rw [rds_one, rd_now hd hn _ (by omega)]
      by_cases hx : ∃ x, (t, x) ∈ l
      · obtain ⟨x, hx⟩ := hx
        obtain ⟨k, hg⟩ := hch.grp _ hx
        have hg' : Grp now s t k x := hg
        have hcom := hg'.com
        have hxk : x.size / 63 = k := by have := hg'.sz; omega
        have hfit2 := hg'.fit
        have hk1 := hg'.k1
        have hok : (s.cm t x).Ok := ⟨hsb.1, hsb.2.1, hsb.2.2, ht.1, by show 1 ≤ x.size / 63; omega, by show t + x.size / 63 ≤ 63; omega, sm_lt x⟩
        refine ⟨s.cm t x, 0, fun _ _ => ⟨by show x.size / 63 ≤ 255; omega, fun W => by rw [hr, hcom]; exact tocommit_back _ hok W, fun x' hx' => ?_, fun hte => ?_⟩⟩
        · have := hch.one (t, x) hx (t, x') hx' rfl
          injection this with _ e2
          rw [e2]
        · have := hlt.2 _ hx
          simp only at this
          omega
      · by_cases hte : t = e
        · obtain ⟨q, er, hq1, hq2, hq3⟩ := he (by omega)
          exact ⟨q, er, fun _ _ => ⟨hq1, fun W => by rw [hr, hte]; exact hq2 W, fun x' hx' => absurd ⟨x', hx'⟩ hx, fun hte => by rw [hte]; exact hq3 st ats su hd hn⟩⟩
        · obtain ⟨q, er, hq1, hq2, hq3⟩ := ksec_tells (hk (s.b + t) (by omega))
          exact ⟨q, er, fun _ _ => ⟨hq1, fun W => by rw [hr]; exact hq3 W, fun x' hx' => absurd ⟨x', hx'⟩ hx, fun h => absurd h hte⟩⟩
    · exact ⟨cm0, 0, fun h1 h2 => absurd ⟨h1, h2⟩ ht⟩
  let Q : Nat → Cm := fun t => (key t).choose
  let E : Nat → Int := fun t => (key t).choose_spec.choose
  have hQE : ∀ t, 1 ≤ t → t < s.p → _ := fun t => (key t).choose_spec.choose_spec
  have hsc := scan_dev ho (by rw [hsr, hss]; exact hM) h5 hx hne hs (by omega) (by omega) hi1 hth hi2 hi3 ⟨hd.ok.1, hd.ok.2⟩ ⟨hc0, by omega⟩ Q E (fun t h1 h2 => ⟨(hQE t h1 h2).1, (hQE t h1 h2).2.1⟩)
  have hcnt : ∀ p ∈ l, ∀ k, Grp now s p.1 k p.2 → cntO st s Q p.1 = k := by
    intro p hp k hg
    have hq := (hQE p.1 (hlt.2 p hp).1 (by have := hg.fit; omega)).2.2.1 p.2 hp
    have hxk : p.2.size / 63 = k := by have := hg.sz; omega
    have hqk : (Q p.1).k = k := by show (key p.1).choose.k = k; rw [hq]; exact hxk
    have hz : zO st s p.1 (Q p.1).k = p.2 := by
      rw [hqk]
      unfold zO
      rw [if_neg (by have := hg.k1; have := hg.fit; omega), grp_read hd hn hfit hg, rdp_secP p.2 k hg.sz]
    unfold cntO
    rw [if_pos ⟨by have := hg.fit; omega, by rw [hz]; exact hq⟩, hqk]
  have hway : ∀ {l2 : List (Nat × ByteArray)} {e2 : Nat}, Chn now s l2 e2 → (∀ p ∈ l2, p ∈ l) → Way (cntO st s Q) (l2.map Prod.fst) e2 := by
    intro l2 e2 hc2
    induction hc2 with
    | nil => intro _; exact Way.nil
    | next h1 h2 ih =>
      rename_i l3 t k x
      intro hsub
      have hck := hcnt (t, x) (hsub _ (List.mem_append_right _ (List.mem_singleton.2 rfl))) k h2
      have := Way.next (ih (fun p hp => hsub p (List.mem_append_left _ hp))) (t := t) (by rw [hck]; exact h2.k1)
      rw [hck] at this
      rw [List.map_append]
      exact this
  have hend : cntO st s Q e = 0 := by
    unfold cntO
    rw [if_neg]
    rintro ⟨h1, h2⟩
    exact (hQE e hlt.1 h1).2.2.2 rfl h2
  refine hsc.mono ?_
  rintro r W' ⟨ps, t, v, hw1, hz1, rfl, c2, lv2, ol, hpl, ho2, hca, hcb, hra⟩
  obtain ⟨rfl, rfl⟩ := hw1.det (hway hch (fun p hp => hp)) hz1 hend
  rw [List.length_map] at hcb
  exact ⟨v, ol, rfl, hpl, ⟨{ st with count := c2 }, lv2, ats, ho2, hn, hsr, hss, hth, ⟨hi1, hi2, hi3⟩, hd.same rfl rfl rfl rfl, by show 0 ≤ c2; omega, by show c2 ≤ _; omega, hl0⟩, SI.apart hx hra⟩
theorem dev_read {T : Nat} {w : World} {L : F.Loc} {q : Int} {n : Nat} {oth : List (Nat × Obj)} {now su : Nat → ByteArray} {c : Int} {W : World} {Sb : Nat} (s : Sg) (h : Dev T w L q n oth now su c W) (hSb : (Sb, .cells s.cs 44) ∈ oth) (hM : (s.M, F.med L.P 1 q) ∈ oth) (h5 : ∀ p ∈ oth, ∀ c fz, p.2 ≠ .cells c 5 fz)
    (hs : s.b ≤ 10000 ∧ s.p ≤ 64) (hfit : s.b + s.p ≤ n) (hn1 : n ≤ 1000) (hc : c ≤ 90000) {t k : Nat} {x : ByteArray} (ht : 1 ≤ t) (hg : Grp now s t k x) :
    Calls Tryz.prog 60 #[.pointer (some ⟨Sb, 0, none⟩), .int .i64 (t : Nat), .int .i64 (k : Nat)] W fun r W' => r = .returned (.string x) ∧ Dev T w L q n oth now su (c + k) W' := by
  have hy := ysize x k hg.sz
  have hf := hg.fit
  have hx := rdp_secP x k hg.sz
  have hr := sread_any s hs Sb t k ht hg.k1 hg.fit (O.tx (secP x k)) hy (Dev T w L q n oth now su c) (Dev T w L q n oth now su (c + k)) W h (fun W W' a b => a.below b) (fun W W' a b => a.below b) (fun W a => a.at' hSb) (fun W a => a.at' hSb) (fun W hW => by
    obtain ⟨st, lv, ats, ho, hn, hsr, hss, hth, ⟨hi1, hi2, hi3⟩, hd, hc0, hc1, hl0⟩ := hW.ex
    have hm := ho.mread s.M (by rw [hsr, hss]; exact hM) h5 (s.b + t + 1) k (by omega) (by omega) hi1 hth hi2 hi3 ⟨hd.ok.1, hd.ok.2⟩ ⟨hc0, by omega⟩
    refine hm.mono ?_
    rintro e W' ⟨rfl, lv', ho'⟩
    refine ⟨by rw [grp_read hd hn hfit hg], { st with count := st.count + k }, lv', ats, ho', hn, hsr, hss, hth, ⟨hi1, hi2, hi3⟩, hd.same rfl rfl rfl rfl, by show 0 ≤ st.count + (k : Int); omega, by show st.count + (k : Int) ≤ _; omega, hl0⟩)
  rw [hx] at hr
  exact hr
theorem dev_of {T : Nat} {w : World} {L : F.Loc} {q : Int} {n : Nat} {oth : List (Nat × Obj)} {now su : Nat → ByteArray} {c : Int} {W : World} (h : Dev T w L q n oth now su c W) (p : Nat) :
    Calls Tryz.prog 13 #[.pointer (some ⟨L.P, 0, none⟩), .int .i64 (p : Nat)] W fun e w' => ∃ S M, e = .returned (.pointer (some ⟨S, 0, none⟩)) ∧ Dev T w L q n ((S, .cells (sg0 M p).cs 44) :: (M, F.med L.P 1 q) :: oth) now su c w' ∧ S ≠ M ∧ (∀ q ∈ oth, q.1 ≠ S) := by
  obtain ⟨st, lv, ats, ho, h2, h3, h4, h5, h6⟩ := h.ex
  refine (of13 ho h5 h3 p).mono ?_
  rintro e w' ⟨S, M, rfl, o1, a, b⟩
  rw [h4] at o1
  exact ⟨S, M, rfl, ⟨st, lv, ats, o1, h2, h3, h4, h5, h6⟩, a, b⟩
theorem dev_room {T : Nat} {w : World} {L : F.Loc} {q : Int} {n : Nat} {oth : List (Nat × Obj)} {now su : Nat → ByteArray} {c : Int} {W : World} {Sb : Nat} (s : Sg) (h : Dev T w L q n oth now su c W) (hS : (Sb, .cells s.cs 44) ∈ oth) (k : Int) (hs : s.p ≤ 1000 ∧ s.a ≤ 1000) (b : Bool) (hb : decide (0 < k ∧ k < (s.p : Nat) - (s.a : Nat)) = b) :
    Calls Tryz.prog 14 #[.pointer (some ⟨Sb, 0, none⟩), .int .i64 k] W fun e w' => e = .returned (.bool b) ∧ Dev T w L q n oth now su c w' := by
  refine (room_any s Sb k W (h.at' hS) hs).mono ?_
  rintro e w' ⟨rfl, hbl⟩
  rw [hb]
  exact ⟨rfl, h.below hbl⟩
theorem Dev.guarded {T : Nat} {w : World} {L : F.Loc} {q : Int} {n : Nat} {oth : List (Nat × Obj)} {now su : Nat → ByteArray} {c : Int} {W : World} (h : Dev T w L q n oth now su c W) : Dev T w L q n (F.gob W.heap.size oth) now su c (F.G0 W) := by
  obtain ⟨st, lv, ats, h1, h2⟩ := h.ex
  exact ⟨st, lv, ats, h1.guarded, h2⟩
theorem Dev.kt {T : Nat} {w : World} {L : F.Loc} {q : Int} {n : Nat} {oth : List (Nat × Obj)} {now su : Nat → ByteArray} {c : Int} {W W' : World} {B : Nat} (h : Dev T w L q n (F.gob B oth) now su c W) (hne : ∀ p ∈ oth, p.1 ≠ B ∧ p.1 ≠ B + 1) (k : F.KT B W W') : Dev T w L q n oth now su c W' := by
  obtain ⟨st, lv, ats, h1, h2⟩ := h.ex
  exact ⟨st, lv, ats, h1.kt2 hne k, h2⟩
/-- A function that only ends well, within Guard. -/
theorem dev_guard {T : Nat} {w : World} {L : F.Loc} {q : Int} {n : Nat} {oth oth2 oth3 : List (Nat × Obj)} {now now2 su su2 : Nat → ByteArray} {c c2 : Int} {W : World} (f : Nat) (cap : Array Value) (hent : ∀ args W, (callFunc f args).run Tryz.prog W = .ok (.enter f args) W) (h : Dev T w L q n oth now su c W)
    (hop : Dev T w L q n (F.gob W.heap.size oth) now su c (F.G0 W) → Calls Tryz.prog f cap (F.G0 W) fun e W' => e = .returned (.tuple #[]) ∧ Dev T w L q n oth2 now2 su2 c2 W') (hs : ∀ p ∈ F.gob W.heap.size oth3, p ∈ oth2) (hne : ∀ p ∈ oth3, p.1 ≠ W.heap.size ∧ p.1 ≠ W.heap.size + 1) :
    Calls Tryz.prog 15 #[.func (.func f) #[] cap] W fun e w' => e = .returned (.tuple #[.agg #[.int .i64 0, .int .i64 0], .bool false]) ∧ Dev T w L q n oth3 now2 su2 c2 w' := by
  refine (F.guard_ok f cap (fun W' => Dev T w L q n oth2 now2 su2 c2 W') W hent ((hop h.guarded).mono ?_)).mono ?_
  · rintro e W' ⟨rfl, hd⟩
    exact ⟨rfl, hd.at' (p := (W.heap.size, F.bob)) (hs _ (by simp [F.gob])), hd.at' (p := (W.heap.size + 1, F.iob)) (hs _ (by simp [F.gob])), hd⟩
  · rintro e w' ⟨rfl, W2, hd, hk⟩
    exact ⟨rfl, (hd.forget hs).kt hne hk⟩
/-- A row of texts in a device's world. -/
theorem dev_tx {T : Nat} {w : World} {L : F.Loc} {q : Int} {n : Nat} {rest : List (Nat × Obj)} {now su : Nat → ByteArray} {c : Int} {W : World} {T1 Ob : Nat} {u : Obj} (hx : Mx T1 Ob rest) {v : Value} {xs : List ByteArray} {ol : List (Nat × Obj)} (h : Txs v xs ol) (hr : ∀ p ∈ ol, T1 ≤ p.1) (hd : Dev T w L q n (ol ++ (Ob, u) :: rest) now su c W) :
    W.ownsRow T1 9 1 v xs.length (xs.map .string) ∧ T1 ≤ W.heap.size ∧ ∀ x v' W', W'.ownsRow T1 9 1 v' (xs.length + 1) (xs.map .string ++ [.string x]) → W.grownBy W' v.ownBlock → ∃ ol', Txs v' (xs ++ [x]) ol' ∧ (∀ p ∈ ol', T1 ≤ p.1) ∧ Dev T w L q n (ol' ++ (Ob, u) :: rest) now su c W' := by
  obtain ⟨st, lv, ats, ho, h2⟩ := hd.ex
  have hle := hx.le ho
  refine ⟨?_, hle.2, ?_⟩
  · rcases h with ⟨rfl, rfl, rfl⟩ | ⟨g, cap, cur, rfl, rfl, h1, h2, h3, h4⟩
    · exact ⟨rfl, Or.inl ⟨rfl, rfl⟩⟩
    · obtain ⟨o1, _, _, o4⟩ := ho.oth (g, .cells cur 9) (List.mem_append_left _ (List.mem_singleton.2 rfl))
      exact ⟨by simp, Or.inr ⟨g, cap, cur, rfl, hr _ (List.mem_singleton.2 rfl), o1, h1, h2, by rw [Nat.mul_one]; exact h3, by rw [Nat.mul_one]; exact h4⟩⟩
  · intro x v' W' hn hg
    have hdj := SI.apart (o := u) hx hr
    have hrow : ∀ g, v.ownBlock = some g → T ≤ g ∧ ∃ c, W.heap[g]? = some (.cells c 9) := by
      intro g e
      rcases h with ⟨rfl, rfl, rfl⟩ | ⟨g', cap, cur, rfl, rfl, _⟩
      · cases e
      · injection e with e
        subst e
        obtain ⟨o1, _, _, o4⟩ := ho.oth (g', .cells cur 9) (by simp)
        exact ⟨o4, cur, o1⟩
    have h1 : F.One T w L st lv ((Ob, u) :: rest) W := ho.forget (fun p hp => List.mem_append_right _ hp)
    have h3 := h1.grownS hg hrow (by
      intro p hp e
      rcases h with ⟨rfl, rfl, rfl⟩ | ⟨g', cap, cur, rfl, rfl, _⟩
      · cases e
      · injection e with e
        exact hdj (g', .cells cur 9) (List.mem_singleton.2 rfl) p hp e)
    rcases hn.2 with ⟨_, e0⟩ | ⟨g, cap, cur, rfl, k1, k2, k3, k4, k5, k6⟩
    · exact absurd e0 (Nat.succ_ne_zero _)
    · rw [Nat.mul_one] at k5 k6
      refine ⟨[(g, .cells cur 9)], Or.inr ⟨g, cap, cur, ?_, rfl, ?_, k4, k5, ?_⟩, fun p hp => by rw [List.mem_singleton.1 hp]; exact k1, st, lv, ats, h3.addS k2 (Nat.le_trans hle.1 k1), h2⟩
      · rw [List.length_append]; rfl
      · rw [List.length_append]; exact k3
      · rw [List.length_append, List.map_append]; exact k6
/-- The texts that were read so far lie in a row, behind all the rest. -/
def RS (T : Nat) (w : World) (L : F.Loc) (q : Int) (n : Nat) (rest : List (Nat × Obj)) (now su : Nat → ByteArray) (T1 Ob : Nat) (xs : List ByteArray) (c : Int) (v : Value) (W : World) : Prop :=
  ∃ ol, Txs v xs ol ∧ (∀ p ∈ ol, T1 ≤ p.1) ∧ Dev T w L q n (ol ++ (Ob, .cells #[v] 30) :: rest) now su c W
section
variable {T : Nat} {w : World} {L : F.Loc} {q : Int} {n : Nat} {rest : List (Nat × Obj)} {now su : Nat → ByteArray} {T1 Ob : Nat} {xs : List ByteArray} {c : Int} {v : Value} {W W' : World}
theorem RS.below (h : RS T w L q n rest now su T1 Ob xs c v W) (hb : Below W.heap.size W W') : RS T w L q n rest now su T1 Ob xs c v W' := by
  obtain ⟨ol, h1, h2, h3⟩ := h
  exact ⟨ol, h1, h2, h3.below hb⟩
theorem RS.moreC {d : Int} (h : RS T w L q n rest now su T1 Ob xs c v W) (hd : c ≤ d) : RS T w L q n rest now su T1 Ob xs d v W := by
  obtain ⟨ol, h1, h2, h3⟩ := h
  exact ⟨ol, h1, h2, h3.more hd⟩
theorem RS.at' (h : RS T w L q n rest now su T1 Ob xs c v W) {p : Nat × Obj} (hp : p ∈ rest) : W.heap[p.1]? = some p.2 := by
  obtain ⟨ol, h1, h2, h3⟩ := h
  exact h3.at' (List.mem_append_right _ (List.mem_cons_of_mem _ hp))
theorem RS.out (h : RS T w L q n rest now su T1 Ob xs c v W) : W.heap[Ob]? = some (.cells #[v] 30) := by
  obtain ⟨ol, h1, h2, h3⟩ := h
  exact h3.at' (p := (Ob, .cells #[v] 30)) (List.mem_append_right _ (List.mem_cons_self ..))
/-- What was read is one text more. -/
def RS2 (T : Nat) (w : World) (L : F.Loc) (q : Int) (n : Nat) (rest : List (Nat × Obj)) (now su : Nat → ByteArray) (T1 Ob : Nat) (xs : List ByteArray) (c : Int) (v0 v : Value) (W : World) : Prop :=
  ∃ ol, Txs v xs ol ∧ (∀ p ∈ ol, T1 ≤ p.1) ∧ Dev T w L q n (ol ++ (Ob, .cells #[v0] 30) :: rest) now su c W
theorem RS2.out {v0 : Value} (h : RS2 T w L q n rest now su T1 Ob xs c v0 v W) : W.heap[Ob]? = some (.cells #[v0] 30) := by
  obtain ⟨ol, h1, h2, h3⟩ := h
  exact h3.at' (p := (Ob, .cells #[v0] 30)) (List.mem_append_right _ (List.mem_cons_self ..))
theorem RS2.at' {v0 : Value} (h : RS2 T w L q n rest now su T1 Ob xs c v0 v W) {p : Nat × Obj} (hp : p ∈ rest) : W.heap[p.1]? = some p.2 := by
  obtain ⟨ol, h1, h2, h3⟩ := h
  exact h3.at' (List.mem_append_right _ (List.mem_cons_of_mem _ hp))
theorem RS2.sl {v0 : Value} (h : RS2 T w L q n rest now su T1 Ob xs c v0 v W) : ∃ ao m cp, v = .slice ao m cp := by
  obtain ⟨ol, h1, h2, h3⟩ := h
  rcases h1 with ⟨rfl, _, _⟩ | ⟨g, cap, cur, rfl, _⟩
  · exact ⟨_, _, _, rfl⟩
  · exact ⟨_, _, _, rfl⟩
theorem RS2.store (hx : Mx T1 Ob rest) (hno : ∀ p ∈ rest, p.1 ≠ Ob) {v0 : Value} (h : RS2 T w L q n rest now su T1 Ob xs c v0 v W) : W.heap[Ob]? = some (.cells #[v0] 30) ∧ RS T w L q n rest now su T1 Ob xs c v (W.setCell ⟨Ob, 0, none⟩ v) := by
  obtain ⟨ol, h1, h2, h3⟩ := h
  refine ⟨h3.at' (p := (Ob, .cells #[v0] 30)) (List.mem_append_right _ (List.mem_cons_self ..)), ol, h1, h2, ?_⟩
  have h4 : Dev T w L q n ((Ob, .cells #[v0] 30) :: (ol ++ rest)) now su c W := h3.forget (by
    intro p hp
    simp only [List.mem_cons, List.mem_append] at hp ⊢
    rcases hp with hp | hp | hp
    · exact Or.inr (Or.inl hp)
    · exact Or.inl hp
    · exact Or.inr (Or.inr hp))
  have h5 := h4.setOther (v := v) (by
    intro p hp
    rcases List.mem_append.1 hp with hp | hp
    · have := h2 p hp; have := hx.sb; omega
    · exact hno p hp) (by decide)
  exact h5.forget (by
    intro p hp
    simp only [List.mem_cons, List.mem_append] at hp ⊢
    rcases hp with hp | hp | hp
    · exact Or.inr (Or.inl hp)
    · exact Or.inl hp
    · exact Or.inr (Or.inr hp))
theorem RS.more (hx : Mx T1 Ob rest) (h : RS T w L q n rest now su T1 Ob xs c v W) : W.ownsRow T1 9 1 v xs.length (xs.map .string) ∧ T1 ≤ W.heap.size ∧ ∀ x v' W', W'.ownsRow T1 9 1 v' (xs.length + 1) (xs.map .string ++ [.string x]) → W.grownBy W' v.ownBlock → RS2 T w L q n rest now su T1 Ob (xs ++ [x]) c v v' W' := by
  obtain ⟨ol, h1, h2, h3⟩ := h
  exact dev_tx hx h1 h2 h3
theorem RS.read {Sb : Nat} (s : Sg) (h : RS T w L q n rest now su T1 Ob xs c v W) (hSb : (Sb, .cells s.cs 44) ∈ rest) (hM : (s.M, F.med L.P 1 q) ∈ rest) (h5 : ∀ p ∈ rest, ∀ c fz, p.2 ≠ .cells c 5 fz)
    (hs : s.b ≤ 10000 ∧ s.p ≤ 64) (hfit : s.b + s.p ≤ n) (hn1 : n ≤ 1000) (hc : c ≤ 90000) {t k : Nat} {x : ByteArray} (ht : 1 ≤ t) (hg : Grp now s t k x) :
    Calls Tryz.prog 60 #[.pointer (some ⟨Sb, 0, none⟩), .int .i64 (t : Nat), .int .i64 (k : Nat)] W fun r W' => r = .returned (.string x) ∧ RS T w L q n rest now su T1 Ob xs (c + k) v W' := by
  obtain ⟨ol, h1, h2, h3⟩ := h
  refine (dev_read s h3 (List.mem_append_right _ (List.mem_cons_of_mem _ hSb)) (List.mem_append_right _ (List.mem_cons_of_mem _ hM)) ?_ hs hfit hn1 hc ht hg).mono ?_
  · intro p hp cc fz e
    rcases List.mem_append.1 hp with hp | hp
    · rcases h1 with ⟨_, _, rfl⟩ | ⟨g, cap, cur, _, rfl, _⟩
      · cases hp
      · rw [List.mem_singleton.1 hp] at e; injection e with _ e _; exact absurd e (by decide)
    · rcases List.mem_cons.1 hp with rfl | hp
      · injection e with _ e _; exact absurd e (by decide)
      · exact h5 p hp cc fz e
  · rintro e W' ⟨rfl, h4⟩
    exact ⟨rfl, ol, h1, h2, h4⟩
end
set_option maxHeartbeats 4000000 in
set_option maxRecDepth 100000 in
theorem op58 {T : Nat} {w : World} {L : F.Loc} {q : Int} {n : Nat} {oth : List (Nat × Obj)} {now su : Nat → ByteArray} {c : Int} {W0 : World} {Pb Ob Sb : Nat} (s : Sg) (h : Dev T w L q n ((Ob, .cells #[.slice none 0 0] 30) :: (Sb, .cells s.cs 44) :: oth) now su c W0)
    (hP : (Pb, .cells #[.pointer (some ⟨Sb, 0, none⟩)] 28) ∈ oth) (hM : (s.M, F.med L.P 1 q) ∈ oth) (h5 : ∀ p ∈ oth, ∀ c fz, p.2 ≠ .cells c 5 fz) (hOS : Ob ≠ Sb) (hne : ∀ p ∈ oth, p.1 ≠ Sb) (hno : ∀ p ∈ oth, p.1 ≠ Ob)
    (hsb : s.c < 18446744073709551616 ∧ s.j < 18446744073709551616 ∧ s.n < 18446744073709551616) (hs : s.b ≤ 10000 ∧ 1 ≤ s.p ∧ s.p ≤ 64) (hfit : s.b + s.p ≤ n) (hn1 : n ≤ 1000) (hc : c ≤ 40000) (hk : ∀ i, i < n → Ksec (now i)) {l : List (Nat × ByteArray)} {e : Nat} (hch : Chn now s l e) (he : Ends now n s e) :
    Calls Tryz.prog 58 #[.pointer (some ⟨Pb, 0, none⟩), .pointer (some ⟨Ob, 0, none⟩)] W0 fun r w' => r = .returned (.tuple #[]) ∧ ∃ T1 v rest, Mx T1 Ob rest ∧ (∀ p ∈ (Sb, Obj.cells (Sg.cs { s with a := e }) 44) :: oth, p ∈ rest) ∧ RS T w L q n rest now su T1 Ob (l.map Prod.snd) (c + (130 * l.length + 66)) v w' := by
  have hlen := hch.len
  have hl32 : l.length ≤ 32 := by omega
  have hsc := dev_scan (oth := (Ob, .cells #[.slice none 0 0] 30) :: oth) (Sb := Sb) s (h.forget (by
    intro p hp
    simp only [List.mem_cons] at hp ⊢
    rcases hp with rfl | rfl | hp <;> simp [*])) (List.mem_cons_of_mem _ hM) (by
      intro p hp c fz e
      rcases List.mem_cons.1 hp with rfl | hp
      · injection e with _ e _; exact absurd e (by decide)
      · exact h5 p hp c fz e) (by
      intro p hp
      rcases List.mem_cons.1 hp with rfl | hp
      · exact hOS
      · exact hne p hp) hsb hs hfit hn1 hc hk hch he
  have q0 := F.cell_of (h.at' (p := (Pb, .cells #[.pointer (some ⟨Sb, 0, none⟩)] 28)) (by simp [hP])) 0
  simp at q0
  have HAT : Hid _ := hch.at'
  go_enter Tryz.func58, Tryz.ntmps58
  go_wp2_with fail
  go_call hsc as e1 w1 ⟨v1, ol1, rfl, hpl, hd1, hap⟩
  obtain ⟨rest, hrest⟩ : ∃ rest, rest = (Sb, Obj.cells (Sg.cs { s with a := e }) 44) :: (ol1 ++ oth) := ⟨_, rfl⟩
  obtain ⟨T1, hx⟩ := Mx.of Ob rest
  have hR0 : RS T w L q n rest now su T1 Ob [] (c + 66 * l.length + 66) (.slice none 0 0) w1 := ⟨[], Txs.nil, (fun p hp => by cases hp), hd1.forget (by
    intro p hp
    rw [hrest] at hp
    simp only [List.nil_append, List.mem_cons, List.mem_append] at hp ⊢
    rcases hp with hp | hp | hp | hp
    · exact Or.inr (Or.inr (Or.inl hp))
    · exact Or.inr (Or.inl hp)
    · exact Or.inl hp
    · exact Or.inr (Or.inr (Or.inr hp)))⟩
  obtain ⟨ao, cp, g, rfl, hao, hcl⟩ := hpl.cellD (fun p hp => hd1.at' (p := p) (by simp [hp]))
  rw [List.length_map] at hao
  have hS : (Sb, Obj.cells (Sg.cs { s with a := e }) 44) ∈ rest := by rw [hrest]; exact List.mem_cons_self ..
  have hsub : ∀ p ∈ (Sb, Obj.cells (Sg.cs { s with a := e }) 44) :: oth, p ∈ rest := by
    intro p hp
    rw [hrest]
    rcases List.mem_cons.1 hp with rfl | hp
    · exact List.mem_cons_self ..
    · exact List.mem_cons_of_mem _ (List.mem_append_right _ hp)
  have hol : ∀ p ∈ ol1, p ∈ rest := fun p hp => by rw [hrest]; exact List.mem_cons_of_mem _ (List.mem_append_left _ hp)
  have hnr : ∀ p ∈ rest, p.1 ≠ Ob := by
    intro p hp
    rw [hrest] at hp
    rcases List.mem_cons.1 hp with rfl | hp
    · exact Ne.symm hOS
    · rcases List.mem_append.1 hp with hp | hp
      · exact hap p hp (Ob, .cells #[.slice none 0 0] 30) (by simp)
      · exact hno p hp
  have h5r : ∀ p ∈ rest, ∀ c fz, p.2 ≠ .cells c 5 fz := by
    intro p hp c fz e
    rw [hrest] at hp
    rcases List.mem_cons.1 hp with rfl | hp
    · injection e with _ e _; exact absurd e (by decide)
    · rcases List.mem_append.1 hp with hp | hp
      · obtain ⟨c', e'⟩ := hpl.ty p hp
        rw [e'] at e; injection e with _ e _; exact absurd e (by decide)
      · exact h5 p hp c fz e
  have HF : Hid (Mx T1 Ob rest ∧ (∀ p ∈ rest, p.1 ≠ Ob) ∧ (∀ p ∈ rest, ∀ c fz, p.2 ≠ .cells c 5 fz) ∧ (Sb, Obj.cells (Sg.cs { s with a := e }) 44) ∈ rest ∧ (Pb, Obj.cells #[.pointer (some ⟨Sb, 0, none⟩)] 28) ∈ rest ∧ (s.M, F.med L.P 1 q) ∈ rest) := ⟨hx, hnr, h5r, hS, hsub _ (List.mem_cons_of_mem _ hP), hsub _ (List.mem_cons_of_mem _ hM)⟩
  have HS : Hid _ := hsub
  have HR0 : Hid _ := hR0
  have HAO : Hid _ := hao
  have HCL : Hid (∀ W : World, (∀ p ∈ rest, W.heap[p.1]? = some p.2) → ∀ j (hj : j < l.length), W.cell? ⟨g, j, none⟩ = some (nv l[j].1)) := by
    intro W hW j hj
    have q := hcl W (fun p hp => hW p (hol p hp)) j (by rw [List.length_map]; exact hj)
    rw [q, List.getElem_map]
  have HK : Hid (s.b ≤ 10000 ∧ 1 ≤ s.p ∧ s.p ≤ 64 ∧ s.b + s.p ≤ n ∧ n ≤ 1000 ∧ c ≤ 40000) := ⟨hs.1, hs.2.1, hs.2.2, hfit, hn1, hc⟩
  have hee : e ≤ 64 := by omega
  obtain ⟨N, hN⟩ : ∃ N, N = l.length := ⟨_, rfl⟩
  have HNN : Hid _ := hN
  have hlm : (l.map Prod.fst).length = N := by rw [List.length_map, hN]
  rw [hlm]
  rw [← hN] at hl32
  clear hsc h hP hM h5 hOS hne hno hsb hs hfit hn1 hc hk hch he hlen hap hd1 hrest hx hR0 hao hcl hS hsub hol hnr h5r hpl hN hlm q0
  go_wp2
  go_loopw [10] (fun iv wr => ∃ i : Nat, iv = .int .i64 (i : Nat) ∧ i ≤ N ∧ Hid (∃ v, RS T w L q n rest now su T1 Ob ((l.map Prod.snd).take i) (c + 66 * l.length + 66 + 64 * i) v wr)) (fun iv _ => N - (intOf iv).toNat)
  case atStart => exact ⟨0, rfl, Nat.zero_le _, _, by
    have q := HR0.out
    have e : c + 66 * (l.length : Int) + 66 + 64 * ((0 : Nat) : Int) = c + 66 * l.length + 66 := by omega
    rw [e, List.take_zero]; exact q⟩
  case round =>
    obtain ⟨i, rfl, hiN, HI⟩ := hrel
    clear HR0
    rcases Nat.eq_or_lt_of_le hiN with rfl | hlt
    · have HE : Hid (∃ v, RS T w L q n rest now su T1 Ob (l.map Prod.snd) (c + (130 * l.length + 66)) v wr) := by
        obtain ⟨v, q⟩ := HI.out
        have e : (l.map Prod.snd).take i = l.map Prod.snd := List.take_of_length_le (by rw [List.length_map, HNN.out]; exact Nat.le_refl _)
        rw [e] at q
        have hN := HNN.out
        exact ⟨v, q.moreC (by omega)⟩
      clear HI
      go_wp2
      go_returns
      obtain ⟨v, q⟩ := HE.out
      exact ⟨rfl, T1, v, rest, HF.out.1, HS.out, q⟩
    · have hil : i < l.length := by rw [← HNN.out]; exact hlt
      obtain ⟨k, ht1, hg, hnx, hla⟩ := HAT.out i hil
      have hcell : ∀ j (hj : j < l.length), wr.cell? ⟨g, j, none⟩ = some (nv l[j].1) := by
        obtain ⟨v, q⟩ := HI.out
        exact HCL.out wr (fun p hp => q.at' hp)
      have c1 := hcell i hil
      have c2 : wr.cell? ⟨Sb, 6, none⟩ = some (.int .i64 (e : Nat)) := by
        obtain ⟨v, q⟩ := HI.out
        exact F.cell_of (q.at' (p := (Sb, Obj.cells (Sg.cs { s with a := e }) 44)) HF.out.2.2.2.1) 6
      have c3 : wr.cell? ⟨Pb, 0, none⟩ = some (.pointer (some ⟨Sb, 0, none⟩)) := by
        obtain ⟨v, q⟩ := HI.out
        exact F.cell_of (q.at' (p := (Pb, Obj.cells #[.pointer (some ⟨Sb, 0, none⟩)] 28)) HF.out.2.2.2.2.1) 0
      have c4 : ∀ hj : i + 1 < N, wr.cell? ⟨g, i + 1, none⟩ = some (nv (l[i].1 + 1 + k)) := fun hj => by
        have h2 : i + 1 < l.length := by rw [← HNN.out]; exact hj
        rw [← hnx h2]; exact hcell (i + 1) h2
      have c5 : ¬ i + 1 < N → e = l[i].1 + 1 + k := fun hj => hla (by rw [← HNN.out]; omega)
      have hxs : (l.map Prod.snd).take (i + 1) = (l.map Prod.snd).take i ++ [l[i].2] := by
        rw [← List.take_append_getElem (by rw [List.length_map]; exact hil), List.getElem_map]
      have hlx : ((l.map Prod.snd).take i).length = i := by rw [List.length_take, List.length_map]; omega
      obtain ⟨t, ht⟩ : ∃ t, t = l[i].1 := ⟨_, rfl⟩
      obtain ⟨x, hxx⟩ : ∃ x, x = l[i].2 := ⟨_, rfl⟩
      rw [← ht] at c1 c4 c5 hg ht1
      rw [← hxx] at hg hxs
      clear ht hxx hcell hnx hla
      have hkb : 1 ≤ k ∧ t + k < 64 := ⟨hg.k1, by have := hg.fit; have := HK.out; omega⟩
      obtain ⟨hk1, hkt⟩ := hkb
      have HG : Hid _ := hg
      have HXS : Hid _ := hxs
      have HLX : Hid _ := hlx
      clear hg hxs hlx
      obtain ⟨xs, hxs0⟩ : ∃ xs, xs = (l.map Prod.snd).take i := ⟨_, rfl⟩
      rw [← hxs0] at HI HXS HLX
      obtain rfl := HAO.out (by omega)
      simp only [nv] at c1 c4
      by_cases hj : i + 1 < N
      · have c4' := c4 hj
        clear c4 c5
        go_wp2_with fail
        obtain ⟨v0, hR0⟩ := HI.out
        obtain ⟨cc, hcc⟩ : ∃ cc : Int, cc = c + 66 * l.length + 66 + 64 * (i : Nat) := ⟨_, rfl⟩
        rw [← hcc] at hR0
        have hcb : cc ≤ 90000 := by have := HK.out; have := HNN.out; omega
        have HR1 : Hid (RS T w L q n rest now su T1 Ob xs cc v0 wr) := hR0
        clear hR0
        refine F.wp_region_pb (fun f => ⟨#[.pointer (some ⟨Pb, 0, none⟩), .pointer (some ⟨Ob, 0, none⟩), .slice (some ⟨g, 0, none⟩) N cp, .int .i64 (i : Nat), .int .i64 (t : Nat), .int .i64 ((t : Int) + 1 + (k : Int)), .pointer (some ⟨Sb, 0, none⟩), .slice (some ⟨g, 0, none⟩) N cp, .slice (some ⟨g, 0, none⟩) N cp, .int .i64 (N : Nat), .int .i64 (i : Nat), .bool true, .int .i64 (i : Nat), .pointer (some ⟨g, i, none⟩), .int .i64 (t : Nat), .pointer (some ⟨Sb, 0, none⟩), .pointer (some ⟨Sb, 0, none⟩), .pointer (some ⟨Sb, 6, none⟩), .int .i64 (e : Nat), .int .i64 (i : Nat), .int .i64 ((i : Int) + 1), .slice (some ⟨g, 0, none⟩) N cp, .int .i64 (N : Nat), .bool true, .slice (some ⟨g, 0, none⟩) N cp, .int .i64 (i : Nat), .int .i64 ((i : Int) + 1), .pointer (some ⟨g, i + 1, none⟩), .int .i64 ((t : Int) + 1 + (k : Int)), f 0, f 1, f 2, f 3, f 4, f 5, f 6, f 7, f 8, f 9, u39], []⟩) (V58 Sb t k x v0) (PhS (fun W => RS T w L q n rest now su T1 Ob xs cc v0 W) (fun W => RS T w L q n rest now su T1 Ob xs (cc + k) v0 W) (fun vv W => RS T w L q n rest now su T1 Ob xs (cc + k) v0 W ∧ ∃ G, vv = .slice (some ⟨G, 0, none⟩) 1 1 ∧ W.heap[G]? = some (.cells #[.string x] 9)) (fun vv W => RS2 T w L q n rest now su T1 Ob (xs ++ [x]) (cc + k) v0 vv W) (fun W => ∃ vv, RS T w L q n rest now su T1 Ob (xs ++ [x]) (cc + k) vv W)) (fun i => [u29, u30, u31, u32, u33, u34, u35, u36, u37, u38, undef].getD i undef) (by kernel_rfl) rfl rfl ?hIa ?hputa ?stepa ?fina
        case hIa => exact PhS.start (HR1.out.below (Below.refl _ _).drew)
        case fina =>
          intro f W hP hV
          have w0 : f 0 = v0 := hV 0 (by decide)
          have w1 : f 1 = .pointer (some ⟨Sb, 0, none⟩) := hV 1 (by decide)
          have w2 : f 2 = .int .i64 (t : Nat) := hV 2 (by decide)
          have w3 : f 3 = .int .i64 ((t : Int) + 1 + (k : Int)) := hV 3 (by decide)
          have w4 : f 4 = .int .i64 (t : Nat) := hV 4 (by decide)
          have w5 : f 5 = .int .i64 ((k : Int) + 1) := hV 5 (by decide)
          have w6 : f 6 = .int .i64 (k : Nat) := hV 6 (by decide)
          have w7 : f 7 = .string x := hV 7 (by decide)
          clear hV
          have HD : Hid _ := hP.d rfl
          clear hP
          generalize f 0 = z0 at *
          subst w0
          generalize f 1 = z1 at *
          subst w1
          generalize f 2 = z2 at *
          subst w2
          generalize f 3 = z3 at *
          subst w3
          generalize f 4 = z4 at *
          subst w4
          generalize f 5 = z5 at *
          subst w5
          generalize f 6 = z6 at *
          subst w6
          generalize f 7 = z7 at *
          subst w7
          generalize f 8 = z8 at *
          generalize f 9 = z9 at *
          have HE : Hid (∃ v, RS T w L q n rest now su T1 Ob ((l.map Prod.snd).take (i + 1)) (c + 66 * l.length + 66 + 64 * (i + 1 : Nat)) v W) := by
            obtain ⟨vv, q⟩ := HD.out
            rw [← HXS.out] at q
            exact ⟨vv, q.moreC (by rw [hcc]; omega)⟩
          clear HD HXS HG HK HF HAO HCL HNN HAT HI
          go_wp2
          go_roundw
          case rel => exact ⟨i + 1, by congr 1, by omega, HE.out⟩
          case measure =>
            show N - ((i : Int) + 1).toNat < N - ((i : Nat) : Int).toNat
            omega
        case hputa =>
          repeat (refine ⟨fun f v => rfl, ?_⟩)
          trivial
        case stepa =>
          refine ⟨?_, ?_⟩
          · intro done f W hP hdn hd K hK
            clear hd
            have q := F.cell_of (hP.any (hP.not10 (by decide) hdn) (E := fun W => W.heap[Ob]? = some (.cells #[v0] 30)) (fun h => h.out) (fun h => h.out) (fun v h => h.1.out) (fun v h => h.out)) 0
            replace q : W.cell? ⟨Ob, 0, none⟩ = some v0 := q
            go_simp
            exact hK _ _ rfl (hP.pure _ (by decide) hdn)
          refine ⟨?_, ?_⟩
          · intro done f W hP hdn hd K hK
            clear hd
            have q := F.cell_of (hP.any (hP.not10 (by decide) hdn) (E := fun W => W.heap[Pb]? = some (.cells #[.pointer (some ⟨Sb, 0, none⟩)] 28)) (fun h => h.at' HF.out.2.2.2.2.1) (fun h => h.at' HF.out.2.2.2.2.1) (fun v h => h.1.at' HF.out.2.2.2.2.1) (fun v h => h.at' HF.out.2.2.2.2.1)) 0
            replace q : W.cell? ⟨Pb, 0, none⟩ = some (.pointer (some ⟨Sb, 0, none⟩)) := q
            go_simp
            exact hK _ _ rfl (hP.pure _ (by decide) hdn)
          refine ⟨?_, ?_⟩
          · intro done f W hP hdn hd K hK
            clear hd
            go_simp
            exact hK _ _ rfl (hP.pure _ (by decide) hdn)
          refine ⟨?_, ?_⟩
          · intro done f W hP hdn hd K hK
            clear hd
            go_simp
            exact hK _ _ rfl (hP.pure _ (by decide) hdn)
          refine ⟨?_, ?_⟩
          · intro done f W hP hdn hd K hK
            clear hd
            go_simp
            exact hK _ _ rfl (hP.pure _ (by decide) hdn)
          refine ⟨?_, ?_⟩
          · intro done f W hP hdn hd K hK
            have d3 := (hd.1 rfl).2
            have e3 : done 3 = true := (hd.1 rfl).1
            have d4 := (hd.2.1 rfl).2
            have e4 : done 4 = true := (hd.2.1 rfl).1
            clear hd
            replace d3 : f 3 = .int .i64 ((t : Int) + 1 + (k : Int)) := d3
            replace d4 : f 4 = .int .i64 (t : Nat) := d4
            generalize f 3 = x3 at *
            subst d3
            clear e3
            generalize f 4 = x4 at *
            subst d4
            clear e4
            go_simp
            refine hK _ _ ?_ (hP.pure _ (by decide) hdn)
            show _ = Value.int _ _
            congr 1
            rw [IntKind.wrap_i64]
            omega
          refine ⟨?_, ?_⟩
          · intro done f W hP hdn hd K hK
            have d5 := (hd.1 rfl).2
            have e5 : done 5 = true := (hd.1 rfl).1
            clear hd
            replace d5 : f 5 = .int .i64 ((k : Int) + 1) := d5
            generalize f 5 = x5 at *
            subst d5
            clear e5
            go_simp
            refine hK _ _ ?_ (hP.pure _ (by decide) hdn)
            show _ = Value.int _ _
            congr 1
            rw [IntKind.wrap_i64]
            omega
          refine ⟨?_, ?_⟩
          · intro done f W hP hdn hd K hK
            have d1 := (hd.1 rfl).2
            have e1 : done 1 = true := (hd.1 rfl).1
            have d2 := (hd.2.1 rfl).2
            have e2 : done 2 = true := (hd.2.1 rfl).1
            have d6 := (hd.2.2.1 rfl).2
            have e6 : done 6 = true := (hd.2.2.1 rfl).1
            clear hd
            replace d1 : f 1 = .pointer (some ⟨Sb, 0, none⟩) := d1
            replace d2 : f 2 = .int .i64 (t : Nat) := d2
            replace d6 : f 6 = .int .i64 (k : Nat) := d6
            generalize f 1 = x1 at *
            subst d1
            clear e1
            generalize f 2 = x2 at *
            subst d2
            clear e2
            generalize f 6 = x6 at *
            subst d6
            clear e6
            have hA := hP.a0 hdn
            have hg := HG.out
            have hkk := HK.out
            have hrd := RS.read (Sb := Sb) { s with a := e } hA HF.out.2.2.2.1 HF.out.2.2.2.2.2 HF.out.2.2.1 ⟨hkk.1, hkk.2.2.1⟩ hkk.2.2.2.1 hkk.2.2.2.2.1 (by omega) ht1 ⟨hg.sz, hg.k1, hg.fit, hg.com, hg.pay⟩
            clear hkk hg
            go_simp
            refine Calls.mono hrd ?_
            rintro er W' ⟨rfl, hB⟩
            exact hK _ _ rfl (hP.s7 _ hdn hB)
          refine ⟨?_, ?_⟩
          · intro done f W hP hdn hd K hK
            have d7 := (hd.1 rfl).2
            have e7 : done 7 = true := (hd.1 rfl).1
            clear hd
            replace d7 : f 7 = .string x := d7
            generalize f 7 = x7 at *
            subst d7
            have hA := hP.a e7 hdn
            go_simp
            exact hK _ _ trivial (hP.s8 _ e7 hdn ⟨hA.below (Below.alloc (Below.refl _ _) (Nat.le_refl _) _), W.heap.size, rfl, F.heap_new _ _⟩)
          refine ⟨?_, ?_⟩
          · intro done f W hP hdn hd K hK
            have d0 := (hd.1 rfl).2
            have e0 : done 0 = true := (hd.1 rfl).1
            have d8 := (hd.2.1 rfl).2
            have e8 : done 8 = true := (hd.2.1 rfl).1
            clear hd
            replace d0 : f 0 = v0 := d0
            obtain ⟨hR, G, hG8, hG⟩ := hP.b e8 hdn
            obtain ⟨m1, m2, m3⟩ := hR.more HF.out.1
            rw [if_pos (by rfl)]
            refine tapp (.tmp 29) (.tmp 37) rfl (v := v0) (xs := xs) (G := G) (y := x) d0 hG8 hG m1 m2 (by rw [HLX.out]; omega) ?_
            intro v' W' r1 r2
            exact hK _ _ trivial (hP.s9 _ e8 hdn (m3 x v' W' r1 r2))
          refine ⟨?_, ?_⟩
          · intro done f W hP hdn hd K hK
            have d9 := (hd.1 rfl).2
            have e9 : done 9 = true := (hd.1 rfl).1
            have e0 : done 0 = true := (hd.2.2.1 rfl).1
            have e1 : done 1 = true := (hd.2.2.2.1 rfl).1
            have e2 : done 2 = true := (hd.2.2.2.2.1 rfl).1
            have e3 : done 3 = true := (hd.2.2.2.2.2.1 rfl).1
            have e4 : done 4 = true := (hd.2.2.2.2.2.2.1 rfl).1
            have e5 : done 5 = true := (hd.2.2.2.2.2.2.2.1 rfl).1
            have e6 : done 6 = true := (hd.2.2.2.2.2.2.2.2.1 rfl).1
            have e7 : done 7 = true := (hd.2.2.2.2.2.2.2.2.2.1 rfl).1
            have e8 : done 8 = true := (hd.2.2.2.2.2.2.2.2.2.2.1 rfl).1
            clear hd
            have hC := hP.c e9 hdn
            obtain ⟨q, hD⟩ := hC.store HF.out.1 HF.out.2.1
            have hall : ∀ j, j < 10 → done j = true := fun j hj => match j, hj with
              | 0, _ => e0 | 1, _ => e1 | 2, _ => e2 | 3, _ => e3 | 4, _ => e4 | 5, _ => e5 | 6, _ => e6 | 7, _ => e7 | 8, _ => e8 | 9, _ => e9
            obtain ⟨ao9, m9, cp9, hv9⟩ := hC.sl
            have q1 := F.cell_of q 0
            replace q1 : W.cell? ⟨Ob, 0, none⟩ = some v0 := q1
            have q2 := F.frz_of q 0
            have HD : Hid _ := hP.s10 (.bool false) hall ⟨_, hD⟩
            clear hall q hD hC hP e0 e1 e2 e3 e4 e5 e6 e7 e8 e9 
            generalize f 9 = y9 at *
            subst hv9
            go_simp
            exact hK (.bool false) _ trivial HD.out
          trivial
      · have c5' := c5 hj
        clear c4 c5
        go_wp2_with fail
        obtain ⟨v0, hR0⟩ := HI.out
        obtain ⟨cc, hcc⟩ : ∃ cc : Int, cc = c + 66 * l.length + 66 + 64 * (i : Nat) := ⟨_, rfl⟩
        rw [← hcc] at hR0
        have hcb : cc ≤ 90000 := by have := HK.out; have := HNN.out; omega
        have HR1 : Hid (RS T w L q n rest now su T1 Ob xs cc v0 wr) := hR0
        clear hR0
        refine F.wp_region_pb (fun f => ⟨#[.pointer (some ⟨Pb, 0, none⟩), .pointer (some ⟨Ob, 0, none⟩), .slice (some ⟨g, 0, none⟩) N cp, .int .i64 (i : Nat), .int .i64 (t : Nat), .int .i64 ((t : Int) + 1 + (k : Int)), .pointer (some ⟨Sb, 0, none⟩), .slice (some ⟨g, 0, none⟩) N cp, .slice (some ⟨g, 0, none⟩) N cp, .int .i64 (N : Nat), .int .i64 (i : Nat), .bool true, .int .i64 (i : Nat), .pointer (some ⟨g, i, none⟩), .int .i64 (t : Nat), .pointer (some ⟨Sb, 0, none⟩), .pointer (some ⟨Sb, 0, none⟩), .pointer (some ⟨Sb, 6, none⟩), .int .i64 ((t : Int) + 1 + (k : Int)), .int .i64 (i : Nat), .int .i64 ((i : Int) + 1), .slice (some ⟨g, 0, none⟩) N cp, .int .i64 (N : Nat), .bool (decide ((i : Int) + 1 < (N : Int))), u24, u25, u26, u27, u28, f 0, f 1, f 2, f 3, f 4, f 5, f 6, f 7, f 8, f 9, u39], []⟩) (V58 Sb t k x v0) (PhS (fun W => RS T w L q n rest now su T1 Ob xs cc v0 W) (fun W => RS T w L q n rest now su T1 Ob xs (cc + k) v0 W) (fun vv W => RS T w L q n rest now su T1 Ob xs (cc + k) v0 W ∧ ∃ G, vv = .slice (some ⟨G, 0, none⟩) 1 1 ∧ W.heap[G]? = some (.cells #[.string x] 9)) (fun vv W => RS2 T w L q n rest now su T1 Ob (xs ++ [x]) (cc + k) v0 vv W) (fun W => ∃ vv, RS T w L q n rest now su T1 Ob (xs ++ [x]) (cc + k) vv W)) (fun i => [u29, u30, u31, u32, u33, u34, u35, u36, u37, u38, undef].getD i undef) (by kernel_rfl) rfl rfl ?hIb ?hputb ?stepb ?finb
        case hIb => exact PhS.start (HR1.out.below (Below.refl _ _).drew)
        case finb =>
          intro f W hP hV
          have w0 : f 0 = v0 := hV 0 (by decide)
          have w1 : f 1 = .pointer (some ⟨Sb, 0, none⟩) := hV 1 (by decide)
          have w2 : f 2 = .int .i64 (t : Nat) := hV 2 (by decide)
          have w3 : f 3 = .int .i64 ((t : Int) + 1 + (k : Int)) := hV 3 (by decide)
          have w4 : f 4 = .int .i64 (t : Nat) := hV 4 (by decide)
          have w5 : f 5 = .int .i64 ((k : Int) + 1) := hV 5 (by decide)
          have w6 : f 6 = .int .i64 (k : Nat) := hV 6 (by decide)
          have w7 : f 7 = .string x := hV 7 (by decide)
          clear hV
          have HD : Hid _ := hP.d rfl
          clear hP
          generalize f 0 = z0 at *
          subst w0
          generalize f 1 = z1 at *
          subst w1
          generalize f 2 = z2 at *
          subst w2
          generalize f 3 = z3 at *
          subst w3
          generalize f 4 = z4 at *
          subst w4
          generalize f 5 = z5 at *
          subst w5
          generalize f 6 = z6 at *
          subst w6
          generalize f 7 = z7 at *
          subst w7
          generalize f 8 = z8 at *
          generalize f 9 = z9 at *
          have HE : Hid (∃ v, RS T w L q n rest now su T1 Ob ((l.map Prod.snd).take (i + 1)) (c + 66 * l.length + 66 + 64 * (i + 1 : Nat)) v W) := by
            obtain ⟨vv, q⟩ := HD.out
            rw [← HXS.out] at q
            exact ⟨vv, q.moreC (by rw [hcc]; omega)⟩
          clear HD HXS HG HK HF HAO HCL HNN HAT HI
          go_wp2
          go_roundw
          case rel => exact ⟨i + 1, by congr 1, by omega, HE.out⟩
          case measure =>
            show N - ((i : Int) + 1).toNat < N - ((i : Nat) : Int).toNat
            omega
        case hputb =>
          repeat (refine ⟨fun f v => rfl, ?_⟩)
          trivial
        case stepb =>
          refine ⟨?_, ?_⟩
          · intro done f W hP hdn hd K hK
            clear hd
            have q := F.cell_of (hP.any (hP.not10 (by decide) hdn) (E := fun W => W.heap[Ob]? = some (.cells #[v0] 30)) (fun h => h.out) (fun h => h.out) (fun v h => h.1.out) (fun v h => h.out)) 0
            replace q : W.cell? ⟨Ob, 0, none⟩ = some v0 := q
            go_simp
            exact hK _ _ rfl (hP.pure _ (by decide) hdn)
          refine ⟨?_, ?_⟩
          · intro done f W hP hdn hd K hK
            clear hd
            have q := F.cell_of (hP.any (hP.not10 (by decide) hdn) (E := fun W => W.heap[Pb]? = some (.cells #[.pointer (some ⟨Sb, 0, none⟩)] 28)) (fun h => h.at' HF.out.2.2.2.2.1) (fun h => h.at' HF.out.2.2.2.2.1) (fun v h => h.1.at' HF.out.2.2.2.2.1) (fun v h => h.at' HF.out.2.2.2.2.1)) 0
            replace q : W.cell? ⟨Pb, 0, none⟩ = some (.pointer (some ⟨Sb, 0, none⟩)) := q
            go_simp
            exact hK _ _ rfl (hP.pure _ (by decide) hdn)
          refine ⟨?_, ?_⟩
          · intro done f W hP hdn hd K hK
            clear hd
            go_simp
            exact hK _ _ rfl (hP.pure _ (by decide) hdn)
          refine ⟨?_, ?_⟩
          · intro done f W hP hdn hd K hK
            clear hd
            go_simp
            exact hK _ _ rfl (hP.pure _ (by decide) hdn)
          refine ⟨?_, ?_⟩
          · intro done f W hP hdn hd K hK
            clear hd
            go_simp
            exact hK _ _ rfl (hP.pure _ (by decide) hdn)
          refine ⟨?_, ?_⟩
          · intro done f W hP hdn hd K hK
            have d3 := (hd.1 rfl).2
            have e3 : done 3 = true := (hd.1 rfl).1
            have d4 := (hd.2.1 rfl).2
            have e4 : done 4 = true := (hd.2.1 rfl).1
            clear hd
            replace d3 : f 3 = .int .i64 ((t : Int) + 1 + (k : Int)) := d3
            replace d4 : f 4 = .int .i64 (t : Nat) := d4
            generalize f 3 = x3 at *
            subst d3
            clear e3
            generalize f 4 = x4 at *
            subst d4
            clear e4
            go_simp
            refine hK _ _ ?_ (hP.pure _ (by decide) hdn)
            show _ = Value.int _ _
            congr 1
            rw [IntKind.wrap_i64]
            omega
          refine ⟨?_, ?_⟩
          · intro done f W hP hdn hd K hK
            have d5 := (hd.1 rfl).2
            have e5 : done 5 = true := (hd.1 rfl).1
            clear hd
            replace d5 : f 5 = .int .i64 ((k : Int) + 1) := d5
            generalize f 5 = x5 at *
            subst d5
            clear e5
            go_simp
            refine hK _ _ ?_ (hP.pure _ (by decide) hdn)
            show _ = Value.int _ _
            congr 1
            rw [IntKind.wrap_i64]
            omega
          refine ⟨?_, ?_⟩
          · intro done f W hP hdn hd K hK
            have d1 := (hd.1 rfl).2
            have e1 : done 1 = true := (hd.1 rfl).1
            have d2 := (hd.2.1 rfl).2
            have e2 : done 2 = true := (hd.2.1 rfl).1
            have d6 := (hd.2.2.1 rfl).2
            have e6 : done 6 = true := (hd.2.2.1 rfl).1
            clear hd
            replace d1 : f 1 = .pointer (some ⟨Sb, 0, none⟩) := d1
            replace d2 : f 2 = .int .i64 (t : Nat) := d2
            replace d6 : f 6 = .int .i64 (k : Nat) := d6
            generalize f 1 = x1 at *
            subst d1
            clear e1
            generalize f 2 = x2 at *
            subst d2
            clear e2
            generalize f 6 = x6 at *
            subst d6
            clear e6
            have hA := hP.a0 hdn
            have hg := HG.out
            have hkk := HK.out
            have hrd := RS.read (Sb := Sb) { s with a := e } hA HF.out.2.2.2.1 HF.out.2.2.2.2.2 HF.out.2.2.1 ⟨hkk.1, hkk.2.2.1⟩ hkk.2.2.2.1 hkk.2.2.2.2.1 (by omega) ht1 ⟨hg.sz, hg.k1, hg.fit, hg.com, hg.pay⟩
            clear hkk hg
            go_simp
            refine Calls.mono hrd ?_
            rintro er W' ⟨rfl, hB⟩
            exact hK _ _ rfl (hP.s7 _ hdn hB)
          refine ⟨?_, ?_⟩
          · intro done f W hP hdn hd K hK
            have d7 := (hd.1 rfl).2
            have e7 : done 7 = true := (hd.1 rfl).1
            clear hd
            replace d7 : f 7 = .string x := d7
            generalize f 7 = x7 at *
            subst d7
            have hA := hP.a e7 hdn
            go_simp
            exact hK _ _ trivial (hP.s8 _ e7 hdn ⟨hA.below (Below.alloc (Below.refl _ _) (Nat.le_refl _) _), W.heap.size, rfl, F.heap_new _ _⟩)
          refine ⟨?_, ?_⟩
          · intro done f W hP hdn hd K hK
            have d0 := (hd.1 rfl).2
            have e0 : done 0 = true := (hd.1 rfl).1
            have d8 := (hd.2.1 rfl).2
            have e8 : done 8 = true := (hd.2.1 rfl).1
            clear hd
            replace d0 : f 0 = v0 := d0
            obtain ⟨hR, G, hG8, hG⟩ := hP.b e8 hdn
            obtain ⟨m1, m2, m3⟩ := hR.more HF.out.1
            rw [if_pos (by rfl)]
            refine tapp (.tmp 29) (.tmp 37) rfl (v := v0) (xs := xs) (G := G) (y := x) d0 hG8 hG m1 m2 (by rw [HLX.out]; omega) ?_
            intro v' W' r1 r2
            exact hK _ _ trivial (hP.s9 _ e8 hdn (m3 x v' W' r1 r2))
          refine ⟨?_, ?_⟩
          · intro done f W hP hdn hd K hK
            have d9 := (hd.1 rfl).2
            have e9 : done 9 = true := (hd.1 rfl).1
            have e0 : done 0 = true := (hd.2.2.1 rfl).1
            have e1 : done 1 = true := (hd.2.2.2.1 rfl).1
            have e2 : done 2 = true := (hd.2.2.2.2.1 rfl).1
            have e3 : done 3 = true := (hd.2.2.2.2.2.1 rfl).1
            have e4 : done 4 = true := (hd.2.2.2.2.2.2.1 rfl).1
            have e5 : done 5 = true := (hd.2.2.2.2.2.2.2.1 rfl).1
            have e6 : done 6 = true := (hd.2.2.2.2.2.2.2.2.1 rfl).1
            have e7 : done 7 = true := (hd.2.2.2.2.2.2.2.2.2.1 rfl).1
            have e8 : done 8 = true := (hd.2.2.2.2.2.2.2.2.2.2.1 rfl).1
            clear hd
            have hC := hP.c e9 hdn
            obtain ⟨q, hD⟩ := hC.store HF.out.1 HF.out.2.1
            have hall : ∀ j, j < 10 → done j = true := fun j hj => match j, hj with
              | 0, _ => e0 | 1, _ => e1 | 2, _ => e2 | 3, _ => e3 | 4, _ => e4 | 5, _ => e5 | 6, _ => e6 | 7, _ => e7 | 8, _ => e8 | 9, _ => e9
            obtain ⟨ao9, m9, cp9, hv9⟩ := hC.sl
            have q1 := F.cell_of q 0
            replace q1 : W.cell? ⟨Ob, 0, none⟩ = some v0 := q1
            have q2 := F.frz_of q 0
            have HD : Hid _ := hP.s10 (.bool false) hall ⟨_, hD⟩
            clear hall q hD hC hP e0 e1 e2 e3 e4 e5 e6 e7 e8 e9 
            generalize f 9 = y9 at *
            subst hv9
            go_simp
            exact hK (.bool false) _ trivial HD.out
          trivial
/-- As dev_guard, where it is not known ahead what is left. -/
theorem dev_guardE {X : Type} (O O3 : X → List (Nat × Obj)) (P : X → Prop) {T : Nat} {w : World} {L : F.Loc} {q : Int} {n : Nat} {oth : List (Nat × Obj)} {now now2 su su2 : Nat → ByteArray} {c c2 : Int} {W : World} (f : Nat) (cap : Array Value) (hent : ∀ args W, (callFunc f args).run Tryz.prog W = .ok (.enter f args) W) (h : Dev T w L q n oth now su c W)
    (hop : Dev T w L q n (F.gob W.heap.size oth) now su c (F.G0 W) → Calls Tryz.prog f cap (F.G0 W) fun e W' => e = .returned (.tuple #[]) ∧ ∃ x, P x ∧ Dev T w L q n (O x) now2 su2 c2 W') (hs : ∀ x, P x → ∀ p ∈ F.gob W.heap.size (O3 x), p ∈ O x) (hne : ∀ x, P x → ∀ p ∈ O3 x, p.1 ≠ W.heap.size ∧ p.1 ≠ W.heap.size + 1) :
    Calls Tryz.prog 15 #[.func (.func f) #[] cap] W fun e w' => e = .returned (.tuple #[.agg #[.int .i64 0, .int .i64 0], .bool false]) ∧ ∃ x, P x ∧ Dev T w L q n (O3 x) now2 su2 c2 w' := by
  refine (F.guard_ok f cap (fun W' => ∃ x, P x ∧ Dev T w L q n (O x) now2 su2 c2 W') W hent ((hop h.guarded).mono ?_)).mono ?_
  · rintro e W' ⟨rfl, x, hP, hd⟩
    exact ⟨rfl, hd.at' (p := (W.heap.size, F.bob)) (hs x hP _ (by simp [F.gob])), hd.at' (p := (W.heap.size + 1, F.iob)) (hs x hP _ (by simp [F.gob])), x, hP, hd⟩
  · rintro e w' ⟨rfl, W2, ⟨x, hP, hd⟩, hk⟩
    exact ⟨rfl, x, hP, (hd.forget (hs x hP)).kt (hne x hP) hk⟩
set_option maxHeartbeats 2000000 in
set_option maxRecDepth 100000 in
theorem scanned_all {T : Nat} {w : World} {L : F.Loc} {q : Int} {n : Nat} {oth : List (Nat × Obj)} {now su : Nat → ByteArray} {c : Int} {W : World} {Sb : Nat} (s : Sg) (h : Dev T w L q n ((Sb, .cells s.cs 44) :: oth) now su c W)
    (hM : (s.M, F.med L.P 1 q) ∈ oth) (h5 : ∀ p ∈ oth, ∀ c fz, p.2 ≠ .cells c 5 fz) (hne : ∀ p ∈ oth, p.1 ≠ Sb)
    (hsb : s.c < 18446744073709551616 ∧ s.j < 18446744073709551616 ∧ s.n < 18446744073709551616) (hs : s.b ≤ 10000 ∧ 1 ≤ s.p ∧ s.p ≤ 64) (hfit : s.b + s.p ≤ n) (hn1 : n ≤ 1000) (hc : c ≤ 40000) (hk : ∀ i, i < n → Ksec (now i)) {l : List (Nat × ByteArray)} {e : Nat} (hch : Chn now s l e) (he : Ends now n s e) :
    Calls Tryz.prog 20 #[.pointer (some ⟨Sb, 0, none⟩)] W fun r w' => ∃ v ol, r = .returned (.tuple #[v, .bool true]) ∧ Txs v (l.map Prod.snd) ol ∧ (∀ p ∈ ol, ∀ q ∈ (Sb, Obj.cells (Sg.cs { s with a := e }) 44) :: oth, p.1 ≠ q.1) ∧ Dev T w L q n (ol ++ (Sb, .cells (Sg.cs { s with a := e }) 44) :: oth) now su (c + (130 * l.length + 66)) w' := by
  obtain ⟨B, hB⟩ : ∃ B, B = W.heap.size := ⟨_, rfl⟩
  have d1 := h.alloc (.cells #[.pointer (some ⟨Sb, 0, none⟩)] 28) (F.apart_of (by decide))
  have d2 := d1.alloc (.cells #[.slice none 0 0] 30) (F.apart_of (by decide))
  have e1 : (W.alloc (.cells #[.pointer (some ⟨Sb, 0, none⟩)] 28)).heap.size = W.heap.size + 1 := by simp
  have e2 : ((W.alloc (.cells #[.pointer (some ⟨Sb, 0, none⟩)] 28)).alloc (.cells #[.slice none 0 0] 30)).heap.size = W.heap.size + 2 := by simp
  have hlt := h.lts
  have hSlt := hlt (Sb, .cells s.cs 44) (by simp)
  replace hSlt : Sb < W.heap.size := hSlt
  have hgd := dev_guardE (X := Value × List (Nat × Obj)) (now2 := now) (su2 := su) (c2 := c + (130 * l.length + 66))
    (fun x => x.2 ++ (W.heap.size + 1, .cells #[x.1] 30) :: (Sb, .cells (Sg.cs { s with a := e }) 44) :: F.gob (W.heap.size + 2) ((W.heap.size, .cells #[.pointer (some ⟨Sb, 0, none⟩)] 28) :: oth))
    (fun x => x.2 ++ (W.heap.size + 1, .cells #[x.1] 30) :: (Sb, .cells (Sg.cs { s with a := e }) 44) :: (W.heap.size, .cells #[.pointer (some ⟨Sb, 0, none⟩)] 28) :: oth)
    (fun x => Txs x.1 (l.map Prod.snd) x.2 ∧ ∀ p ∈ x.2, ∀ q ∈ (Sb, Obj.cells (Sg.cs { s with a := e }) 44) :: F.gob (W.heap.size + 2) ((W.heap.size, .cells #[.pointer (some ⟨Sb, 0, none⟩)] 28) :: oth), p.1 ≠ q.1)
    58 #[.pointer (some ⟨W.heap.size, 0, none⟩), .pointer (some ⟨W.heap.size + 1, 0, none⟩)] ent58 d2 (fun hg => by
      rw [e1, e2] at hg
      refine (op58 (Pb := W.heap.size) (Ob := W.heap.size + 1) (Sb := Sb) (oth := F.gob (W.heap.size + 2) ((W.heap.size, .cells #[.pointer (some ⟨Sb, 0, none⟩)] 28) :: oth)) s (hg.forget ?_) (by simp [F.gob]) (by simp [F.gob, hM]) ?_ (by omega) ?_ ?_ hsb hs hfit hn1 hc hk hch he).mono ?_
      · intro p hp
        simp only [F.gob, List.mem_cons] at hp ⊢
        rcases hp with rfl | rfl | rfl | rfl | rfl | hp <;> simp [*]
      · intro p hp cc fz e
        simp only [F.gob, List.mem_cons] at hp
        rcases hp with rfl | rfl | rfl | hp
        · injection e with _ e _; exact absurd e (by decide)
        · injection e with _ e _; exact absurd e (by decide)
        · injection e with _ e _; exact absurd e (by decide)
        · exact h5 p hp cc fz e
      · intro p hp
        simp only [F.gob, List.mem_cons] at hp
        rcases hp with rfl | rfl | rfl | hp
        · show W.heap.size + 2 + 1 ≠ Sb; omega
        · show W.heap.size + 2 ≠ Sb; omega
        · show W.heap.size ≠ Sb; omega
        · exact hne p hp
      · intro p hp
        simp only [F.gob, List.mem_cons] at hp
        rcases hp with rfl | rfl | rfl | hp
        · show W.heap.size + 2 + 1 ≠ W.heap.size + 1; omega
        · show W.heap.size + 2 ≠ W.heap.size + 1; omega
        · show W.heap.size ≠ W.heap.size + 1; omega
        · have := hlt p (List.mem_cons_of_mem _ hp); omega
      · rintro r W' ⟨rfl, T1, v, rest, hx, hsub, ol, t1, t2, t3⟩
        refine ⟨rfl, (v, ol), ⟨t1, fun p hp q hq => ?_⟩, t3.forget ?_⟩
        · have := hx.lt q (hsub q hq); have := t2 p hp; omega
        · intro p hp
          simp only [List.mem_append, List.mem_cons] at hp ⊢
          rcases hp with hp | hp | hp | hp
          · exact Or.inl hp
          · exact Or.inr (Or.inl hp)
          · exact Or.inr (Or.inr (hsub p (by rw [hp]; exact List.mem_cons_self ..)))
          · exact Or.inr (Or.inr (hsub p (List.mem_cons_of_mem _ hp)))) (by
    rintro ⟨v, ol⟩ hP p hp
    rw [e2] at hp
    simp only [F.gob, List.mem_append, List.mem_cons] at hp ⊢
    rcases hp with hp | hp | hp | hp | hp | hp | hp <;> simp [hp]) (by
    rintro ⟨v, ol⟩ ⟨hP1, hP2⟩ p hp
    rw [e2]
    rcases List.mem_append.1 hp with hp | hp
    · exact ⟨hP2 p hp (W.heap.size + 2, F.bob) (by simp [F.gob]), hP2 p hp (W.heap.size + 2 + 1, F.iob) (by simp [F.gob])⟩
    · simp only [List.mem_cons] at hp
      rcases hp with rfl | rfl | rfl | hp
      · exact ⟨by show W.heap.size + 1 ≠ _; omega, by show W.heap.size + 1 ≠ _; omega⟩
      · exact ⟨by show Sb ≠ _; omega, by show Sb ≠ _; omega⟩
      · exact ⟨by show W.heap.size ≠ _; omega, by show W.heap.size ≠ _; omega⟩
      · have := hlt p (List.mem_cons_of_mem _ hp); exact ⟨by omega, by omega⟩)
  have hmf : ∀ (fn : Fn) (first cap : Array Value) (w : World), (Instr.makeFunc fn first cap).run Tryz.prog w = .ok (.func fn first cap) w := fun _ _ _ _ => rfl
  clear d1 d2 hlt hB h hM h5 hne hk hch he
  go_enter Tryz.func20, Tryz.ntmps20
  go_wp2_with fail
  go_call hgd as er w3 ⟨rfl, ⟨v, ol⟩, ⟨t1, t2⟩, d3⟩
  have d4 := d3.alloc (.cells #[.int .i64 0, .int .i64 0] 37) (F.apart_of (by decide))
  have q1 := F.cell_of (d4.at' (p := (W.heap.size + 1, .cells #[v] 30)) (by simp)) 0
  replace q1 : (w3.alloc (.cells #[.int .i64 0, .int .i64 0] 37)).cell? ⟨W.heap.size + 1, 0, none⟩ = some v := q1
  obtain ⟨ao, m, cp, hv⟩ : ∃ ao m cp, v = .slice ao m cp := by
    rcases t1 with ⟨rfl, _, _⟩ | ⟨g, cap, cur, rfl, _⟩
    · exact ⟨_, _, _, rfl⟩
    · exact ⟨_, _, _, rfl⟩
  have HD4 : Hid _ := d4
  have HT1 : Hid (Txs v (l.map Prod.snd) ol) := t1
  have HT2 : Hid (∀ p ∈ ol, ∀ q ∈ (Sb, Obj.cells (Sg.cs { s with a := e }) 44) :: oth, p.1 ≠ q.1) := fun p hp q hq => t2 p hp q (by
    simp only [F.gob, List.mem_cons] at hq ⊢
    rcases hq with hq | hq
    · exact Or.inl hq
    · exact Or.inr (Or.inr (Or.inr (Or.inr hq))))
  clear hgd d4 d3 t1 t2
  subst hv
  go_wp2
  go_returns
  refine ⟨_, ol, rfl, HT1.out, HT2.out, HD4.out.forget ?_⟩
  intro p hp
  simp only [List.mem_append, List.mem_cons] at hp ⊢
  rcases hp with hp | hp | hp
  · exact Or.inr (Or.inl hp)
  · exact Or.inr (Or.inr (Or.inr (Or.inl hp)))
  · exact Or.inr (Or.inr (Or.inr (Or.inr (Or.inr hp))))
end Go.Proofs.YtncfbocbigdhiaaGreat.U

/- What lies in the segment between two rounds, each with an Append that ended, or was broken off, and a Crash. -/
namespace Go.Proofs.YtncfbocbigdhiaaGreat.U
open Go Go.RowKit
theorem Dev.ofV {T : Nat} {w : World} {L : F.Loc} {q : Int} {n : Nat} {oth : List (Nat × Obj)} {now : Nat → ByteArray} {c : Int} {W : World} (h : V.Dev T w L q n oth now c W) : Dev T w L q n oth now now c W := by
  obtain ⟨st, lv, ats, h1, h2, h3, h4, h5, h6, h7, h8, h9, h10⟩ := h.ex
  exact ⟨st, lv, ats, h1, h2, h3, h4, h5, h6, h7, h8, h9, trivial⟩
/-- What lies there between two rounds: groups up to a place, and no Commit behind them. -/
structure Gl (now : Nat → ByteArray) (n : Nat) (s : Sg) (l : List (Nat × ByteArray)) (e : Nat) : Prop where
  ch : Chn now s l e
  fit : e ≤ s.p
  ks : ∀ i, i < n → Ksec (now i)
  no : ∀ t, e ≤ t → t < s.p → (now (s.b + t))[0]? ≠ some 67
section
variable {now now' now2 sure2 : Nat → ByteArray} {n : Nat} {s : Sg} {l : List (Nat × ByteArray)} {e k : Nat} {x : ByteArray}
theorem Chn.segM (hc : Chn now s l e) (M a : Nat) : Chn now { s with M := M, a := a } l e := by
  induction hc with
  | nil => exact Chn.nil
  | next h1 h2 ih => exact Chn.next ih ⟨h2.sz, h2.k1, h2.fit, h2.com, h2.pay⟩
theorem Gl.seg (h : Gl now n s l e) (M a : Nat) : Gl now n { s with M := M, a := a } l e := ⟨Chn.segM h.ch M a, h.fit, h.ks, h.no⟩
theorem gl0 (M p n : Nat) (hp : 1 ≤ p) : Gl (fun _ => F.pad ⟨#[]⟩) n (sg0 M p) [] 1 := ⟨Chn.nil, hp, fun _ _ => ksec0, fun _ _ _ => by show (F.pad ⟨#[]⟩)[0]? ≠ _; rw [pad0]; decide⟩
theorem Gl.ends (h : Gl now n s l e) (hn : s.b + s.p ≤ n) : Ends now n s e := by
  rcases Nat.lt_or_ge e s.p with he | he
  · exact ends_other h.ch.lt.1 (h.ks _ (by omega)) (h.no e (Nat.le_refl _) he)
  · exact ends_out he
/-- An Append ended. -/
theorem Gl.done (h : Gl now n s l s.a) (hs : s.Ok) (hx : x.size = 63 * k) (hk : 1 ≤ k) (hr : s.a + k < s.p) (hn : s.b + s.p ≤ n) (hag : ∀ i, i < n → now' i = layC now s x k i) : Gl now' n s (l ++ [(s.a, x)]) (s.a + 1 + k) := by
  refine ⟨?_, by omega, fun i hi => by rw [hag i hi]; exact layC_ksec hs hx hk hr h.ks i hi, fun t h1 h2 => ?_⟩
  · have := (h.ch.more hx hk hr).of (now' := now') (fun i hi => hag i (by have : i < s.b + (s.a + 1 + k) := hi; omega))
    exact Chn.segM this s.M s.a
  · rw [hag _ (by omega), layC_ge _ (by omega)]
    exact h.no t (by omega) h2
theorem fr_layP (hx : x.size = 63 * k) {i : Nat} {v : ByteArray} (h : F.Fr now (s.b + s.a + 1) (O.tx (secP x k)) i v) : v = now i ∨ v = layP now s x k i := by
  have hpy := ypart (ysize x k hx)
  rcases h with h | ⟨h1, h2, h3⟩
  · exact Or.inl h
  · right
    rw [hpy] at h2
    unfold layP F.lay
    rw [if_pos ⟨h1, h2⟩]
    exact h3
theorem fr_layC {i : Nat} {v : ByteArray} (h : F.Fr (layP now s x k) (s.b + s.a) (s.cm s.a x).sec i v) : v = layP now s x k i ∨ v = layC now s x k i := by
  have hcs : (s.cm s.a x).sec.size = 64 * 1 := Cm.sec_size _
  have hpc := ypart hcs
  rcases h with h | ⟨h1, h2, h3⟩
  · exact Or.inl h
  · right
    rw [hpc] at h2
    unfold layC F.lay
    rw [if_pos ⟨h1, h2⟩]
    exact h3
/-- An Append was broken off ahead of its Commit. -/
theorem Gl.part (h : Gl now n s l s.a) (hs : s.Ok) (hx : x.size = 63 * k) (hr : s.a + k < s.p) (hn : s.b + s.p ≤ n) (hag : ∀ i, i < n → now' i = now i ∨ now' i = layP now s x k i) : Gl now' n s l s.a := by
  have hlt : ∀ i, i < s.b + s.a + 1 → i < n → now' i = now i := fun i hi h2 => by
    rcases hag i h2 with q | q
    · exact q
    · rw [q]; unfold layP F.lay; rw [if_neg (by omega)]
  refine ⟨h.ch.of (fun i hi => hlt i (by omega) (by have := hs.p1; omega)), h.fit, fun i hi => ?_, fun t h1 h2 => ?_⟩
  · rcases hag i hi with q | q
    · rw [q]; exact h.ks i hi
    · rw [q]; exact V.layP_ksec hs hx hr h.ks i hi
  · rcases hag (s.b + t) (by omega) with q | q
    · rw [q]; exact h.no t h1 h2
    · rw [q]
      by_cases hj : s.a + 1 ≤ t ∧ t < s.a + 1 + k
      · obtain ⟨j, rfl⟩ : ∃ j, t = s.a + 1 + j := ⟨t - (s.a + 1), by omega⟩
        have := (V.layP_d (now := now) hs hx hr j (by omega)).2
        rw [show s.b + (s.a + 1 + j) = s.b + s.a + 1 + j by omega, this]
        decide
      · unfold layP F.lay
        rw [if_neg (by omega)]
        exact h.no t h1 h2
theorem layP_same (i : Nat) (h : i ≠ s.b + s.a) : layC now s x k i = layP now s x k i := by
  unfold layC F.lay
  rw [if_neg (by omega)]
theorem Gl.brk (h : Gl now n s l s.a) (hs : s.Ok) (hx : x.size = 63 * k) (hk : 1 ≤ k) (hr : s.a + k < s.p) (hn : s.b + s.p ≤ n) (hag : ∀ i, i < n → now' i = now2 i ∨ now' i = sure2 i)
    (hb : (∀ i, F.Fr now (s.b + s.a + 1) (O.tx (secP x k)) i (now2 i) ∧ F.Fr now (s.b + s.a + 1) (O.tx (secP x k)) i (sure2 i)) ∨
      (∀ i, F.Fr (layP now s x k) (s.b + s.a) (s.cm s.a x).sec i (now2 i) ∧ F.Fr (layP now s x k) (s.b + s.a) (s.cm s.a x).sec i (sure2 i))) : Gl now' n s l s.a ∨ Gl now' n s (l ++ [(s.a, x)]) (s.a + 1 + k) := by
  rcases hb with hb | hb
  · refine Or.inl (h.part hs hx hr hn fun i hi => ?_)
    rcases hag i hi with q | q
    · rw [q]; exact fr_layP hx (hb i).1
    · rw [q]; exact fr_layP hx (hb i).2
  · have hag2 : ∀ i, i < n → now' i = layP now s x k i ∨ now' i = layC now s x k i := fun i hi => by
      rcases hag i hi with q | q
      · rw [q]; exact fr_layC (hb i).1
      · rw [q]; exact fr_layC (hb i).2
    rcases hag2 (s.b + s.a) (by omega) with q | q
    · refine Or.inl (h.part hs hx hr hn fun i hi => Or.inr ?_)
      by_cases hi2 : i = s.b + s.a
      · rw [hi2]; exact q
      · rcases hag2 i hi with r | r
        · exact r
        · rw [r, layP_same i hi2]
    · refine Or.inr (h.done hs hx hk hr hn fun i hi => ?_)
      by_cases hi2 : i = s.b + s.a
      · rw [hi2]; exact q
      · rcases hag2 i hi with r | r
        · rw [r, layP_same i hi2]
        · exact r
end
/-- How many operations there are ahead of a round, at most. -/
def cB : Nat → Nat
  | 0 => 0
  | i + 1 => cB i + (130 * i + 300)
theorem cB_le (i : Nat) (h : i ≤ 20) : cB i ≤ 40000 := by
  have : ∀ i : Fin 21, cB i.val ≤ 40000 := by decide
  exact this ⟨i, by omega⟩
end Go.Proofs.YtncfbocbigdhiaaGreat.U
