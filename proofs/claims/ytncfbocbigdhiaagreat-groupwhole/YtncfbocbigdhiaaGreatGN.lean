/- Append of a segment on a device in any mode: it ends, or is broken off, ahead of the Commit, or at it. -/
import Derived.Test.YtncfbocbigdhiaaGreatGM
namespace Go.Proofs.YtncfbocbigdhiaaGreat
open Go.RowKit
theorem ypart {y : ByteArray} {k : Nat} (h : y.size = 64 * k) : F.parts y = k := by unfold F.parts; omega
theorem tx_len (l : List UInt8) : (O.tx l).size = l.length := tx_size l
theorem ysize (x : ByteArray) (k : Nat) (hx : x.size = 63 * k) : (O.tx (secP x k)).size = 64 * k := by rw [tx_size]; exact secP_length x k (by omega)
/-- What was, with a group's payload behind its place; and with its Commit. -/
def layP (now : Nat → ByteArray) (s : Sg) (x : ByteArray) (k : Nat) : Nat → ByteArray := F.lay now (s.b + s.a + 1) (O.tx (secP x k)) k
def layC (now : Nat → ByteArray) (s : Sg) (x : ByteArray) (k : Nat) : Nat → ByteArray := F.lay (layP now s x k) (s.b + s.a) (s.cm s.a x).sec 1
/-- Behind an Append that was broken off: ahead of its Commit, or the whole payload is sure. -/
def GBrk (now : Nat → ByteArray) (s : Sg) (x : ByteArray) (k : Nat) (st' : F.St) : Prop :=
  ∃ ats now2 sure2, F.Dv st' ats now2 sure2 ∧ ((∀ i, F.Fr now (s.b + s.a + 1) (O.tx (secP x k)) i (now2 i) ∧ F.Fr now (s.b + s.a + 1) (O.tx (secP x k)) i (sure2 i)) ∨
    (∀ i, F.Fr (layP now s x k) (s.b + s.a) (s.cm s.a x).sec i (now2 i) ∧ F.Fr (layP now s x k) (s.b + s.a) (s.cm s.a x).sec i (sure2 i)))
theorem F.One.other6 {b0 : Nat} {w0 : World} {L : F.Loc} {st : F.St} {lv : Value} {oth : List (Nat × Obj)} {w w' : World} {B : Nat} {o : Obj} {c : Array Value} (h : F.One b0 w0 L st lv ((B, o) :: oth) w) (hne : ∀ p ∈ oth, p.1 ≠ B) (k : KS6 B w w') (hb : w'.heap[B]? = some (.cells c 44)) : F.One b0 w0 L st lv ((B, .cells c 44) :: oth) w' :=
  h.other hne k.os k.tape k.output k.size k.block hb (F.apart_of (by decide))
set_option maxHeartbeats 1000000 in
theorem append_md {b0 : Nat} {w0 : World} {L : F.Loc} {st : F.St} {lv : Value} {oth : List (Nat × Obj)} {w : World} {Sb : Nat} (s : Sg) (h : F.One b0 w0 L st lv ((Sb, .cells s.cs 44) :: oth) w) (hm : (s.M, F.med L.P st.serial st.session) ∈ oth) (hne : ∀ p ∈ oth, p.1 ≠ Sb)
    (hs : s.Ok) (x : ByteArray) (k : Nat) (hk : 1 ≤ k) (hroom : s.a + k < s.p) (hx : x.size = 63 * k) {ats : Nat → Nat} {now : Nat → ByteArray} (hd : F.Dv st ats now now) (hn : s.b + s.p ≤ st.n) (hn1 : st.n ≤ 1000) (ht : st.there = true) (m : F.Mode) (hmd : m.is st) (hmo : m ≠ .over) (hc : 0 ≤ st.count ∧ st.count ≤ 700000) :
    Calls Tryz.prog 17 #[.pointer (some ⟨Sb, 0, none⟩), .string x] w fun e w' =>
      (e = .returned (.int .i64 (s.a : Nat)) ∧ ∃ st' lv', F.One b0 w0 L st' lv' ((Sb, .cells (Sg.cs { s with a := s.a + 1 + k }) 44) :: oth) w' ∧ F.Kp st st' ∧ st.count ≤ st'.count ∧ st'.count ≤ st.count + 100 ∧ (∃ m' : F.Mode, m'.is st' ∧ m' ≠ .over) ∧ ∃ ats', F.Dv st' ats' (layC now s x k) (layC now s x k)) ∨
      (∃ E, e = .panicked [F.fl st.serial E] ∧ ∃ st' lv', F.One b0 w0 L st' lv' oth w' ∧ F.Kp st st' ∧ st.count ≤ st'.count ∧ st'.count ≤ st.count + 100 ∧ GBrk now s x k st') := by
  have hp1 := hs.p1
  have hy := ysize x k hx
  have hpy := ypart hy
  have hcs : (s.cm s.a x).sec.size = 64 * 1 := Cm.sec_size _
  have hpc := ypart hcs
  have hM' : (s.M, F.med L.P st.serial st.session) ∈ ((Sb, .cells s.cs 44) :: oth : List (Nat × Obj)) := List.mem_cons_of_mem _ hm
  let Bk : World → Prop := fun W => ∃ st' lv', F.One b0 w0 L st' lv' oth W ∧ F.Kp st st' ∧ st.count ≤ st'.count ∧ st'.count ≤ st.count + 100 ∧ GBrk now s x k st'
  let R : Nat → World → Prop := fun i W => ∃ (st1 : F.St) (lv1 : Value), F.One b0 w0 L st1 lv1 ((Sb, .cells s.cs 44) :: oth) W ∧ F.Kp st st1 ∧ st.count ≤ st1.count ∧ (∃ m1 : F.Mode, m1.is st1 ∧ m1 ≠ .over) ∧
    (if i = 0 then st1.count ≤ st.count ∧ ∃ ats1, F.Dv st1 ats1 now now
     else if i = 1 then st1.count ≤ st.count + (k : Nat) ∧ ∃ ats1, F.Dv st1 ats1 (layP now s x k) now
     else if i = 2 then st1.count ≤ st.count + (k : Nat) + 1 ∧ ∃ ats1, F.Dv st1 ats1 (layP now s x k) (layP now s x k)
     else if i = 3 then st1.count ≤ st.count + (k : Nat) + 2 ∧ ∃ ats1, F.Dv st1 ats1 (layC now s x k) (layP now s x k)
     else st1.count ≤ st.count + (k : Nat) + 3 ∧ ∃ ats1, F.Dv st1 ats1 (layC now s x k) (layC now s x k))
  have hkS : ∀ {st1 : F.St}, F.Kp st st1 → (s.M, F.med L.P st1.serial st1.session) ∈ ((Sb, .cells s.cs 44) :: oth : List (Nat × Obj)) := fun q => by rw [q.serial, q.session]; exact hM'
  have hk64 : k ≤ 63 := by omega
  refine (append_brk st.serial Bk s hs Sb x k hk hroom hx R w ?_ ?_ ?_ ?_ ?_ ?_ ?_).mono ?_
  · rintro i W W' ⟨st1, lv1, ho, q⟩ hb
    exact ⟨st1, lv1, ho.ofBelow hb, q⟩
  · rintro i W ⟨st1, lv1, ho, _⟩
    exact (ho.oth _ (List.mem_cons_self ..)).1
  · exact ⟨st, lv, h, F.Kp.refl st, Int.le_refl _, ⟨m, hmd, hmo⟩, by rw [if_pos rfl]; exact ⟨Int.le_refl _, ats, hd⟩⟩
  · rintro W ⟨st1, lv1, ho, kp, c0, ⟨m1, hm1, hm1o⟩, q⟩
    rw [if_pos rfl] at q
    obtain ⟨c1, ats1, hd1⟩ := q
    have hw := ho.mwrite_md s.M (hkS kp) (by rw [kp.there]; exact ht) m1 hm1 hm1o ⟨by omega, by omega⟩ hd1 (by rw [kp.n]; exact hn1) (s.b + s.a + 1) (O.tx (secP x k)) (by rw [hy]; omega) (by rw [hpy, kp.n]; omega)
    rw [hpy] at hw
    refine hw.mono ?_
    rintro e W' (⟨rfl, hz, st2, lv2, ho2, kp2, d0, d1, hm2, ats2, hd2⟩ | ⟨E, rfl, _, st2, lv2, ho2, kp2, d0, d1, ats2, now2, hd2, hfr⟩)
    · refine Or.inl ⟨rfl, st2, lv2, ho2, kp.trans kp2, by omega, ⟨_, hm2, F.Mode.iter_ne m1 hm1o _ hz⟩, ?_⟩
      rw [if_neg (by decide), if_pos rfl]
      exact ⟨by omega, ats2, hd2⟩
    · exact Or.inr ⟨E, by rw [kp.serial], st2, lv2, ho2.forget (fun p hp => List.mem_cons_of_mem _ hp), kp.trans kp2, by omega, by omega, ats2, now2, now, hd2, Or.inl fun i => ⟨hfr i, Or.inl rfl⟩⟩
  · rintro W ⟨st1, lv1, ho, kp, c0, ⟨m1, hm1, hm1o⟩, q⟩
    rw [if_neg (by decide), if_pos rfl] at q
    obtain ⟨c1, ats1, hd1⟩ := q
    refine (ho.mflush_md s.M (hkS kp) (by rw [kp.there]; exact ht) m1 hm1 hm1o ⟨by omega, by omega⟩ hd1).mono ?_
    rintro e W' (⟨rfl, he, st2, lv2, ho2, kp2, d0, d1, hm2, ats2, hd2⟩ | ⟨E, rfl, _, st2, lv2, ho2, kp2, d0, d1, ats2, sure2, hd2, hor⟩)
    · refine Or.inl ⟨rfl, st2, lv2, ho2, kp.trans kp2, by omega, ⟨_, hm2, F.Mode.next_ne m1 hm1o he⟩, ?_⟩
      rw [if_neg (by decide), if_neg (by decide), if_pos rfl]
      exact ⟨by omega, ats2, hd2⟩
    · refine Or.inr ⟨E, by rw [kp.serial], st2, lv2, ho2.forget (fun p hp => List.mem_cons_of_mem _ hp), kp.trans kp2, by omega, by omega, ats2, _, sure2, hd2, Or.inl fun i => ⟨F.lay_fr now _ _ _ (by omega) i, ?_⟩⟩
      rcases hor with rfl | rfl
      · exact Or.inl rfl
      · exact F.lay_fr now _ _ _ (by omega) i
  · rintro W ⟨st1, lv1, ho, kp, c0, ⟨m1, hm1, hm1o⟩, q⟩
    rw [if_neg (by decide), if_neg (by decide), if_pos rfl] at q
    obtain ⟨c1, ats1, hd1⟩ := q
    have hw := ho.mwrite_md s.M (hkS kp) (by rw [kp.there]; exact ht) m1 hm1 hm1o ⟨by omega, by omega⟩ hd1 (by rw [kp.n]; exact hn1) (s.b + s.a) (s.cm s.a x).sec (by rw [hcs]; decide) (by rw [hpc, kp.n]; omega)
    rw [hpc] at hw
    refine hw.mono ?_
    rintro e W' (⟨rfl, hz, st2, lv2, ho2, kp2, d0, d1, hm2, ats2, hd2⟩ | ⟨E, rfl, _, st2, lv2, ho2, kp2, d0, d1, ats2, now2, hd2, hfr⟩)
    · refine Or.inl ⟨rfl, st2, lv2, ho2, kp.trans kp2, by omega, ⟨_, hm2, F.Mode.iter_ne m1 hm1o _ hz⟩, ?_⟩
      rw [if_neg (by decide), if_neg (by decide), if_neg (by decide), if_pos rfl]
      exact ⟨by omega, ats2, hd2⟩
    · exact Or.inr ⟨E, by rw [kp.serial], st2, lv2, ho2.forget (fun p hp => List.mem_cons_of_mem _ hp), kp.trans kp2, by omega, by omega, ats2, now2, _, hd2, Or.inr fun i => ⟨hfr i, Or.inl rfl⟩⟩
  · rintro W ⟨st1, lv1, ho, kp, c0, ⟨m1, hm1, hm1o⟩, q⟩
    rw [if_neg (by decide), if_neg (by decide), if_neg (by decide), if_pos rfl] at q
    obtain ⟨c1, ats1, hd1⟩ := q
    refine (ho.mflush_md s.M (hkS kp) (by rw [kp.there]; exact ht) m1 hm1 hm1o ⟨by omega, by omega⟩ hd1).mono ?_
    rintro e W' (⟨rfl, he, st2, lv2, ho2, kp2, d0, d1, hm2, ats2, hd2⟩ | ⟨E, rfl, _, st2, lv2, ho2, kp2, d0, d1, ats2, sure2, hd2, hor⟩)
    · refine Or.inl ⟨rfl, st2, lv2, ho2, kp.trans kp2, by omega, ⟨_, hm2, F.Mode.next_ne m1 hm1o he⟩, ?_⟩
      rw [if_neg (by decide), if_neg (by decide), if_neg (by decide), if_neg (by decide)]
      exact ⟨by omega, ats2, hd2⟩
    · refine Or.inr ⟨E, by rw [kp.serial], st2, lv2, ho2.forget (fun p hp => List.mem_cons_of_mem _ hp), kp.trans kp2, by omega, by omega, ats2, _, sure2, hd2, Or.inr fun i => ⟨F.lay_fr _ _ _ _ (by omega) i, ?_⟩⟩
      rcases hor with rfl | rfl
      · exact Or.inl rfl
      · exact F.lay_fr _ _ _ _ (by omega) i
  · rintro e w' (⟨rfl, w2, ⟨st1, lv1, ho, kp, c0, hm1, q⟩, hks, hcs2⟩ | hB)
    · rw [if_neg (by decide), if_neg (by decide), if_neg (by decide), if_neg (by decide)] at q
      exact Or.inl ⟨rfl, st1, lv1, ho.other6 hne hks hcs2, kp, c0, by omega, hm1, q.2⟩
    · exact Or.inr hB
end Go.Proofs.YtncfbocbigdhiaaGreat
