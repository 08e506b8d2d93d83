/- Parse of any text. -/
import Derived.Test.YthojbccoejdmeaaDoorM3
import Derived.Test.YthojbccoejdmeaaDoorJ3
import Derived.Test.YthojbccoejdmeaaDoorE
namespace Go.Proofs.YthojbccoejdmeaaDoor
open Go.RowKit

def tNone : ByteArray := ⟨#[110, 111, 110, 101]⟩
def tAll : ByteArray := ⟨#[97, 108, 108]⟩
def tLow : ByteArray := ⟨#[45, 97, 108, 108]⟩
/-- What Parse answers of s: the number, and if it is one. -/
def IsP (s : ByteArray) (z : Nat) (b : Bool) : Prop :=
  (s = tNone ∧ z = 9221120237041090561 ∧ b = true) ∨ (s = tAll ∧ z = infR ∧ b = true) ∨ (s = tLow ∧ z = 18442240474082181120 ∧ b = true) ∨
  (s ≠ tNone ∧ s ≠ tAll ∧ s ≠ tLow ∧ ((phs s = .ok z ∧ txt z = s ∧ b = true) ∨ ((∀ u, phs s = .ok u → txt u ≠ s) ∧ z = 0 ∧ b = false)))
theorem beq_no {s : ByteArray} {l : List UInt8} (h : s ≠ ⟨l.toArray⟩) : (s.toList == l) = false := by
  rw [beq_eq_false_iff_ne]
  intro e
  apply h
  apply ByteArray.ext
  apply Array.ext'
  rw [Lib.toList_data] at e
  simpa using e
set_option maxRecDepth 100000 in
theorem parse_any (s : ByteArray) (hs : s.size ≤ 1000) (w : World) (ht : Tab w) (he : Errs w) :
    Calls Tryd.prog 29 #[.string s] w fun e w' => (∃ z b, IsP s z b ∧ z < 18446744073709551616 ∧ e = .returned (.tuple #[.float .f64 z, .bool b])) ∧ Below w.heap.size w w' := by
  have hb := frombits
  by_cases h1 : s = tNone
  · subst h1
    have hb0 : ∀ w, (callFunc 11 #[.int .u64 9221120237041090561]).run Tryd.prog w = .ok (.value (.float .f64 9221120237041090561)) w := frombits 9221120237041090561
    have hq : Hid (IsP tNone 9221120237041090561 true) := Or.inl ⟨rfl, rfl, rfl⟩
    go_enter Tryd.func29, Tryd.ntmps29
    simp only [tNone]
    go_wp2
    go_returns
    exact ⟨⟨_, _, hq.out, by decide, rfl⟩, Below.refl _ _⟩
  by_cases h2 : s = tAll
  · subst h2
    have hq : Hid (IsP tAll infR true) := Or.inr (Or.inl ⟨rfl, rfl, rfl⟩)
    go_enter Tryd.func29, Tryd.ntmps29
    simp only [tAll]
    go_wp2_with fail
    go_call (inf_up w) as e w1 ⟨rfl, rfl⟩
    go_wp2
    go_returns
    exact ⟨⟨_, _, hq.out, by decide, rfl⟩, Below.refl _ _⟩
  by_cases h3 : s = tLow
  · subst h3
    have hq : Hid (IsP tLow 18442240474082181120 true) := Or.inr (Or.inr (Or.inl ⟨rfl, rfl, rfl⟩))
    go_enter Tryd.func29, Tryd.ntmps29
    simp only [tLow]
    go_wp2_with fail
    go_call (inf_down w) as e w1 ⟨rfl, rfl⟩
    go_wp2
    go_returns
    exact ⟨⟨_, _, hq.out, by decide, rfl⟩, Below.refl _ _⟩
  have n1 := beq_no (l := [110, 111, 110, 101]) h1
  have n2 := beq_no (l := [97, 108, 108]) h2
  have n3 := beq_no (l := [45, 97, 108, 108]) h3
  go_enter Tryd.func29, Tryd.ntmps29
  go_wp2_with fail
  go_call (pub_any s hs w he) as e w1 ⟨hsay, hbl⟩
  have HB : Hid (Below w.heap.size w w1) := hbl
  have ht1 : Hid (Tab w1) := ⟨by rw [hbl.cell (show 6 < w.heap.size from ht.s)]; exact ht.c, Nat.lt_of_lt_of_le ht.s hbl.size⟩
  clear hbl
  rcases hsay with ⟨u, hu, rfl⟩ | ⟨hno, v, N, hv, rfl⟩
  · have hul : u < 18446744073709551616 := by
      unfold phs at hu
      split at hu
      · cases hu
      · exact ph_lt _ 0 u (by omega) hu
    go_wp2_with fail
    go_call (text_any u hul w1 ht1.out.c ht1.out.s) as e w2 ⟨rfl, hb2⟩
    have HB2 : Hid (Below w.heap.size w w2) := HB.out.trans (hb2.mono HB.out.size)
    clear hb2
    by_cases hts : txt u = s
    · have hq : Hid (IsP s u true) := Or.inr (Or.inr (Or.inr ⟨h1, h2, h3, Or.inl ⟨hu, hts, rfl⟩⟩))
      rw [hts]
      go_wp2
      go_returns
      exact ⟨⟨_, _, hq.out, hul, rfl⟩, HB2.out⟩
    · have hq : Hid (IsP s 0 false) := Or.inr (Or.inr (Or.inr ⟨h1, h2, h3, Or.inr ⟨fun u' h => by rw [hu] at h; injection h with h; rw [← h]; exact hts, rfl, rfl⟩⟩))
      have hne : ((txt u).toList == s.toList) = false := by
        rw [beq_eq_false_iff_ne, Lib.toList_data, Lib.toList_data]
        intro e; exact hts (ByteArray.ext (Array.ext' e))
      have hne2 : ((txt u).toList != s.toList) = true := by
        rw [bne, hne]; rfl
      go_wp2
      go_returns
      exact ⟨⟨_, _, hq.out, by decide, rfl⟩, HB2.out⟩
  · have hq : Hid (IsP s 0 false) := Or.inr (Or.inr (Or.inr ⟨h1, h2, h3, Or.inr ⟨fun u h => absurd h (hno u), rfl, rfl⟩⟩))
    go_wp2
    go_returns
    exact ⟨⟨_, _, hq.out, by decide, rfl⟩, HB.out⟩

theorem isp_txt (p z : Nat) (b : Bool) (hp : p < 18446744073709551616) (h : IsP (txt p) z b) : b = true ∧ same p z = true := by
  have hi : infR = 9218868437227405312 := rfl
  have ht : topB = 9223372036854775808 := rfl
  have l1 : tNone.size = 4 := rfl
  have l2 : tAll.size = 3 := rfl
  have l3 : tLow.size = 4 := rfl
  have hc : (txt p = tNone ∧ nanB p = true) ∨ (txt p = tAll ∧ p = infR) ∨ (txt p = tLow ∧ p = infR + topB) ∨ txt p = htx p 16 := by
    unfold txt
    cases hn : nanB p
    · cases h1 : infU p
      · cases h2 : infD p
        · right; right; right; rfl
        · right; right; left; exact ⟨rfl, by unfold infD at h2; exact of_decide_eq_true h2⟩
      · right; left; exact ⟨rfl, by unfold infU at h1; exact of_decide_eq_true h1⟩
    · left; exact ⟨rfl, rfl⟩
  have d1 : tNone ≠ tAll := by intro e; have := congrArg ByteArray.size e; omega
  have d2 : tNone ≠ tLow := by intro e; have := congrArg (fun s : ByteArray => s.data[0]?) e; simp [tNone, tLow] at this
  have d3 : tAll ≠ tLow := by intro e; have := congrArg ByteArray.size e; omega
  rcases hc with ⟨e, hn⟩ | ⟨e, e2⟩ | ⟨e, e2⟩ | e
  · rw [e] at h
    rcases h with ⟨_, rfl, rfl⟩ | ⟨h, _⟩ | ⟨h, _⟩ | ⟨h, _⟩
    · refine ⟨rfl, ?_⟩
      unfold same; rw [hn, show nanB 9221120237041090561 = true by decide]; rfl
    · exact absurd h d1
    · exact absurd h d2
    · exact absurd rfl h
  · rw [e] at h
    rcases h with ⟨h, _⟩ | ⟨_, rfl, rfl⟩ | ⟨h, _⟩ | ⟨_, h, _⟩
    · exact absurd h.symm d1
    · subst e2; exact ⟨rfl, by decide⟩
    · exact absurd h d3
    · exact absurd rfl h
  · rw [e] at h
    rcases h with ⟨h, _⟩ | ⟨h, _⟩ | ⟨_, rfl, rfl⟩ | ⟨_, _, h, _⟩
    · exact absurd h.symm d2
    · exact absurd h.symm d3
    · subst e2; exact ⟨rfl, by decide⟩
    · exact absurd rfl h
  · have hz : (txt p).size = 16 := by rw [e]; exact htx_size p 16
    have hph : phs (txt p) = .ok p := by
      unfold phs; rw [if_neg (by omega), e]; exact ph_hex16 p hp
    rcases h with ⟨h, _⟩ | ⟨h, _⟩ | ⟨h, _⟩ | ⟨_, _, _, ⟨h, _, rfl⟩ | ⟨h, _⟩⟩
    · rw [h] at hz; omega
    · rw [h] at hz; omega
    · rw [h] at hz; omega
    · rw [hph] at h; injection h with h; subst h
      refine ⟨rfl, ?_⟩
      unfold same; simp
    · exact absurd rfl (h p hph)
theorem isp_back (s : ByteArray) (z : Nat) (h : IsP s z true) : txt z = s := by
  rcases h with ⟨rfl, rfl, _⟩ | ⟨rfl, rfl, _⟩ | ⟨rfl, rfl, _⟩ | ⟨_, _, _, ⟨_, h, _⟩ | ⟨_, _, h⟩⟩
  · unfold txt; rw [show nanB 9221120237041090561 = true by decide]; rfl
  · unfold txt; rw [show nanB infR = false by decide, show infU infR = true by decide]; rfl
  · unfold txt; rw [show nanB 18442240474082181120 = false by decide, show infU 18442240474082181120 = false by decide, show infD 18442240474082181120 = true by decide]; rfl
  · exact h
  · cases h
theorem isp_no (s : ByteArray) (z : Nat) (h : IsP s z false) : z = 0 := by
  rcases h with ⟨_, _, h⟩ | ⟨_, _, h⟩ | ⟨_, _, h⟩ | ⟨_, _, _, ⟨_, _, h⟩ | ⟨_, h, _⟩⟩
  all_goals first | exact h | cases h
end Go.Proofs.YthojbccoejdmeaaDoor
