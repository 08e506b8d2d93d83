/- What BandolierSectors hands to Guard behind the crash, as a call; what lies there then. -/
import Derived.Test.YtiohkdpmgkobiaaBB
namespace Go.Proofs.Ytiohkdpmgkobiaa
open Go.RowKit
section
variable {b0 : Nat} {w0 : World} {L : Loc} {st : St} {lv : Value} {oth : List (Nat × Obj)} {w : World}
theorem sec_read {G : Nat} (h : One b0 w0 L st lv ((G, .cells #[.string ⟨#[]⟩] 9) :: oth) w) (M C : Nat) (hm : (M, med L.P st.serial st.session) ∈ oth ∧ (C, .cells #[.pointer (some ⟨M, 0, none⟩)] 53) ∈ oth) (hne : ∀ p ∈ oth, p.1 ≠ G) (h5 : ∀ p ∈ oth, ∀ c fz, p.2 ≠ .cells c 5 fz) (hdn : st.down = false) (ht : st.there = true) (haw : st.aw = false) (hhw : st.hw = false) (hn : st.n = 1) (hok : SecOk st) (hc : 0 ≤ st.count ∧ st.count ≤ 100000) :
    Calls Try.prog 57 #[.pointer (some ⟨C, 0, none⟩), .pointer (some ⟨G, 0, none⟩)] w fun e w' => e = .returned (.tuple #[]) ∧ ∃ lv', One b0 w0 L { st with count := st.count + 1 } lv' ((G, .cells #[.string (rd st 0)] 9) :: oth) w' := by
  have hr := h.mread M (List.mem_cons_of_mem _ hm.1) (fun p hp => by
    rcases List.mem_cons.1 hp with rfl | hp
    · intro c fz e; injection e with _ e _; exact absurd e (by decide)
    · exact h5 p hp) 0 1 (by rw [hn]; decide) (by rw [hn]; decide) hdn ht haw hhw hok hc
  have c1 : w.cell? ⟨C, 0, none⟩ = some (.pointer (some ⟨M, 0, none⟩)) := cell_of (h.oth _ (List.mem_cons_of_mem _ hm.2)).1 0
  have e : (⟨(rdsL st 0 1).toArray⟩ : ByteArray) = rd st 0 := by
    show (⟨([] ++ rdB st (0 + 0)).toArray⟩ : ByteArray) = _
    simp [rd]
  rw [e] at hr
  replace hr : Calls Try.prog 33 #[.pointer (some ⟨M, 0, none⟩), .int .i64 0, .int .i64 1] w fun e w' => e = .returned (.string (rd st 0)) ∧ ∃ lv', One b0 w0 L { st with count := st.count + 1 } lv' ((G, .cells #[.string ⟨#[]⟩] 9) :: oth) w' := hr
  have HNE : Hid _ := hne
  clear h e hm h5 hne
  generalize rd st 0 = r at *
  go_enter Try.func57, Try.ntmps57
  go_wp2_with fail
  go_call hr as e w1 ⟨rfl, lv1, o1⟩
  have g1 : w1.cell? ⟨G, 0, none⟩ = some (.string ⟨#[]⟩) := cell_of (o1.oth _ (List.mem_cons_self ..)).1 0
  have g2 : w1.frozen? ⟨G, 0, none⟩ = false := frz_of (o1.oth _ (List.mem_cons_self ..)).1 0
  have H2 : Hid _ := o1.setOther (v := .string r) HNE.out (by decide)
  clear hr c1 o1
  go_wp2
  go_returns
  exact ⟨rfl, lv1, H2.out⟩
end
/-- What is loose ahead of the crash. -/
theorem sE3_lis (pa pb : ByteArray) (h : pa.size = 64) : LIs (sE3 pa pb) (fun _ => 0) := by
  have hs : (secl (sE2 pa) 0).length = 64 := sec_length (sE2_ok pa h) (show (0 : Nat) < 1 by decide)
  have e : (sE3 pa pb).loose = ent (sE2 pa) 0 := rfl
  refine ⟨?_, (show (1 : Nat) ≤ 5000 by decide), fun k hk => ?_, fun k hk => (show (0 : Nat) < 1 by decide), fun u hu => ?_⟩
  · rw [e]; show (secl (sE2 pa) 0).length + 1 = 1 * 65; rw [hs]
  · obtain rfl : k = 0 := by have : k < 1 := hk; omega
    rfl
  · rw [e] at hu
    exact ent_one (sE2_ok pa h) u hu
/-- The sector behind the crash: what was written last, or what was flushed. -/
theorem sE3_end (pa pb : ByteArray) (h : pa.size = 64) (h2 : pb.size = 64) (N : Nat) (ch : Nat → Int) : rd { sE3 pa pb with secs := secsK (sE3 pa pb) (fun _ => 0) N ch 1 } 0 = (if stays N ch 0 then pb else pa) ∧ SecOk { sE3 pa pb with secs := secsK (sE3 pa pb) (fun _ => 0) N ch 1 } := by
  have hk : secsK (sE3 pa pb) (fun _ => 0) N ch 1 = if stays N ch 0 then (sE3 pa pb).secs else setL (sE3 pa pb).secs 0 (lwas (sE3 pa pb) 0) := rfl
  have hs2 : (secl (sE2 pa) 0).length = 64 := sec_length (sE2_ok pa h) (show (0 : Nat) < 1 by decide)
  have hsz : (sE2 pa).secs.size = 64 := (sE2_ok pa h).size
  have hok3 := sE3_ok pa pb h h2
  rw [hk]
  by_cases hst : stays N ch 0 = true
  · rw [if_pos hst, if_pos hst]
    exact ⟨rd_wrote (sE2 pa) 0 pb (sE2_ok pa h) (show (0 : Nat) < 1 by decide) h2, ⟨hok3.size, hok3.bytes⟩⟩
  · rw [if_neg hst, if_neg hst]
    have hlw : lwas (sE3 pa pb) 0 = (sE2 pa).secs.toList := by
      show ((((ent (sE2 pa) 0).drop (0 * 65)).take 65).drop 1) = _
      rw [Nat.zero_mul, List.drop_zero, List.take_of_length_le (by show (secl (sE2 pa) 0).length + 1 ≤ 65; omega)]
      show secl (sE2 pa) 0 = _
      unfold secl
      rw [Nat.zero_mul, List.drop_zero, List.take_of_length_le (by rw [Array.length_toList, hsz]; omega)]
    have hset : setL (sE3 pa pb).secs 0 (lwas (sE3 pa pb) 0) = (sE2 pa).secs := by
      unfold setL
      rw [hlw, Nat.zero_mul, List.take_zero, List.nil_append, Nat.zero_add, List.drop_eq_nil_of_le (by rw [Array.length_toList, Array.length_toList, hok3.size]; show 1 * 64 ≤ _; omega), List.append_nil, Array.toArray_toList]
    rw [hset]
    exact ⟨rd_wrote (st0 1 1) 0 pa (st0_ok 1 1) (by decide) h, ⟨(sE2_ok pa h).size, (sE2_ok pa h).bytes⟩⟩
end Go.Proofs.Ytiohkdpmgkobiaa
