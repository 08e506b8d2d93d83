/- Scan on a device that does all. -/
import Derived.Test.YtncfbocbigdhiaaGreatGW
namespace Go.Proofs.YtncfbocbigdhiaaGreat
open Go.RowKit
open Classical in
/-- How many sectors of payload the group there has, if its sector says the Commit Q. -/
noncomputable def cntO (st : F.St) (s : Sg) (Q : Nat → Cm) (t : Nat) : Nat := if t < s.p ∧ Q t = s.cm t (zO st s t (Q t).k) then (Q t).k else 0
theorem cntO_in (st : F.St) (s : Sg) (Q : Nat → Cm) (t : Nat) (h : 0 < cntO st s Q t) : t + cntO st s Q t < s.p := by
  unfold cntO at h ⊢
  split at h
  · next hh =>
    rw [if_pos hh]
    by_cases hk : (Q t).k = 0 ∨ s.p ≤ t + (Q t).k
    · have hz : zO st s t (Q t).k = ⟨#[]⟩ := by unfold zO; rw [if_pos hk]
      have e := congrArg Cm.k hh.2
      rw [hz] at e
      have e0 : (s.cm t ⟨#[]⟩).k = 0 := rfl
      omega
    · omega
  · exact absurd h (Nat.lt_irrefl _)
theorem scan_dev {b0 : Nat} {w0 : World} {L : F.Loc} {st : F.St} {lv : Value} {oth : List (Nat × Obj)} {w : World} {Sb : Nat} {s : Sg} (h : F.One b0 w0 L st lv ((Sb, .cells s.cs 44) :: oth) w)
    (hm : (s.M, F.med L.P st.serial st.session) ∈ oth) (h5 : ∀ p ∈ oth, ∀ c fz, p.2 ≠ .cells c 5 fz) {T1 : Nat} (hx : Mx T1 Sb oth) (hne : ∀ p ∈ oth, p.1 ≠ Sb)
    (hs : s.b ≤ 10000 ∧ 1 ≤ s.p ∧ s.p ≤ 64) (hfit : s.b + s.p ≤ st.n) (hn : st.n ≤ 1000) (hdn : st.down = false) (hth : st.there = true) (haw : st.aw = false) (hhw : st.hw = false) (hok : F.SecOk st) (hc : 0 ≤ st.count ∧ st.count ≤ 50000)
    (Q : Nat → Cm) (E : Nat → Int) (hQ : ∀ t, 1 ≤ t → t < s.p → (Q t).k ≤ 255 ∧ ∀ W, Calls Tryz.prog 131 #[.string ⟨(F.rdsL st (s.b + t) 1).toArray⟩] W fun e w' => e = .returned (.tuple #[.agg (Q t).cs, .int .i64 (E t)]) ∧ Below W.heap.size W w') :
    Calls Tryz.prog 59 #[.pointer (some ⟨Sb, 0, none⟩)] w fun e w' => ∃ ps t v, Way (cntO st s Q) ps t ∧ cntO st s Q t = 0 ∧ e = .returned v ∧ SI T1 b0 w0 L st Sb { s with a := t } oth (66 * ps.length + 66) ps v w' := by
  refine scan_any s h hx hne hs.2 (cntO st s Q) (cntO_in st s Q) (fun ps v i t W ht1 ht2 hi hSI => ?_)
  rcases Nat.lt_or_ge t s.p with htp | htp
  · obtain ⟨hk, htc⟩ := hQ t ht1 htp
    refine (count_si hSI hi hm h5 ⟨hs.1, hs.2.2⟩ t ht1 htp hfit hn hdn hth haw hhw hok hc (Q t) hk (E t) htc).mono ?_
    rintro e w' ⟨v', rfl, e1, e2, hS⟩
    refine ⟨?_, hS⟩
    by_cases hq : Q t = s.cm t (zO st s t (Q t).k)
    · have : cntO st s Q t = v' := by unfold cntO; rw [if_pos ⟨htp, hq⟩]; exact (e1 hq).symm
      rw [this]
    · have : cntO st s Q t = v' := by unfold cntO; rw [if_neg (fun hh => hq hh.2)]; exact (e2 hq).symm
      rw [this]
  · refine (count_out s Sb t htp W hSI.box).mono ?_
    rintro e w' ⟨rfl, hb⟩
    have : cntO st s Q t = 0 := by unfold cntO; rw [if_neg (fun hh => by omega)]
    rw [this]
    obtain ⟨c, lv2, ol, a1, a2, a3, a4, a5⟩ := hSI.below hb
    exact ⟨rfl, c, lv2, ol, a1, a2, a3, by omega, a5⟩
end Go.Proofs.YtncfbocbigdhiaaGreat
