/- MediumSessions: what is done in a round, as calls. -/
import Derived.Test.YtiohkdpmgkobiaaFA
import Derived.Test.YtiohkdpmgkobiaaKB
namespace Go.Proofs.Ytiohkdpmgkobiaa
open Go.RowKit
/-- A device of serial 1, a session that is worked in, and whether it is the device's yet. -/
structure SInv (st : St) (qm : Int) (al : Bool) (c d : Nat) : Prop where
  serial : st.serial = 1
  n : st.n = 4
  aw : st.aw = false
  hw : st.hw = false
  down : st.down = false
  q1 : 1 ≤ qm
  qs : qm ≤ st.session
  s2 : st.session ≤ 1 + (d : Nat)
  c0 : 0 ≤ st.count
  c1 : st.count ≤ (5 * c : Nat)
  al : al = decide (st.there = true ∧ st.session = qm)
  dv : ∃ ats now sure, Dv st ats now sure
theorem i64_and3 (n : Int) : bits .and .i64 n 3 = n % 4 := by
  have h1 : (BitVec.ofInt 64 3).toNat = 2 ^ 2 - 1 := by decide
  have key : (BitVec.ofInt 64 n &&& BitVec.ofInt 64 3).toNat = (n % ((2 ^ 64 : Nat) : Int)).toNat % 2 ^ 2 := by
    rw [BitVec.toNat_and, BitVec.toNat_ofInt, h1, Nat.and_two_pow_sub_one_eq_mod]
  show IntKind.i64.wrap ((BitVec.ofInt 64 n &&& BitVec.ofInt 64 3).toNat : Nat) = n % 4
  rw [key, IntKind.wrap_i64]
  omega
/-- Does the work fail? -/
def fails (al : Bool) (f p : Nat) : Prop := (al = true ∧ 4 < f + p) ∨ (al = false ∧ 0 < p)
def erOf (al : Bool) : Int := if al then 6 else 8
section
variable {b0 : Nat} {w0 : World} {L : Loc} {st : St} {lv : Value} {oth : List (Nat × Obj)} {w : World} {M : Nat} {qm : Int} {al : Bool} {c d : Nat}
theorem ms_write (h : One b0 w0 L st lv oth w) (hM : (M, med L.P 1 qm) ∈ oth) (hi : SInv st qm al c d) (f : Nat) (hf : f ≤ 3) (s : ByteArray) (hs : s.size ≤ 9223372036854775807) (hc : c ≤ 1000) :
    Calls Try.prog 31 #[.pointer (some ⟨M, 0, none⟩), .int .i64 (f : Nat), .string s] w fun e w' => ((fails al f (parts s) ∧ e = .panicked [fl 1 (erOf al)]) ∨ (¬ fails al f (parts s) ∧ e = .returned (.tuple #[]))) ∧ ∃ st' lv', One b0 w0 L st' lv' oth w' ∧ SInv st' qm al (c + 1) d := by
  obtain ⟨ats0, now0, sure0, hd0⟩ := hi.dv
  by_cases hal : st.there = true ∧ st.session = qm
  · have hal' : al = true := by rw [hi.al]; exact decide_eq_true hal
    refine (mwrite_big M L.P 1 qm (f : Nat) s hs (by omega) (fun k W => ∃ st' lv' ats now, One b0 w0 L st' lv' oth W ∧ Dv st' ats now sure0 ∧ Kept st st' ∧ st.count ≤ st'.count ∧ st'.count ≤ st.count + (k : Nat)) (fun k => if f + k < 4 then 0 else 6)
      (fun k W W' ⟨st', lv', ats, now, h1, h2⟩ hb => ⟨st', lv', ats, now, h1.ofBelow hb, h2⟩) (fun k W ⟨st', lv', ats, now, h1, _⟩ => (h1.oth _ hM).1) ?_ w ⟨st, lv, ats0, now0, h, hd0, ⟨rfl, rfl, rfl, rfl, rfl, rfl, rfl, rfl, rfl, rfl⟩, Int.le_refl _, by omega⟩).mono ?_
    · rintro k W hk hz ⟨st', lv', ats, now, h1, h2, h3, h4, h5⟩
      have hfk : f + k ≤ 4 := by
        rcases Nat.eq_zero_or_pos k with rfl | hk0
        · omega
        · have := hz (k - 1) (by omega)
          by_cases h9 : f + (k - 1) < 4
          · omega
          · rw [if_neg h9] at this; omega
      have hps := pad_size (chunk s k) (chunk_size s k)
      have hcc := hi.c0
      have hcd := hi.c1
      have hser : hnd st'.serial st'.session = hnd 1 qm := by rw [h3.serial, h3.session, hi.serial, hal.2]
      rw [show ((f : Nat) : Int) + (k : Nat) = ((f + k : Nat) : Int) by omega]
      by_cases h9 : f + k < 4
      · have hw := h1.pwrite_dv h2 (f + k) (pad (chunk s k)) hps (by rw [h3.down, hi.down]) (by rw [h3.there, hal.1]) (by rw [h3.aw, hi.aw]) (by rw [h3.hw, hi.hw]) (by rw [h3.n, hi.n]; exact h9) (by rw [h3.n, hi.n]; decide) ⟨by omega, by omega⟩
        rw [hser] at hw
        rw [if_pos h9]
        refine hw.mono ?_
        rintro e W' ⟨rfl, st2, lv2, ats2, g1, g2, g3, g4⟩
        exact ⟨rfl, st2, lv2, ats2, _, g1, g2, ⟨g3.serial.trans h3.serial, g3.session.trans h3.session, g3.there.trans h3.there, g3.n.trans h3.n, g3.aw.trans h3.aw, g3.al.trans h3.al, g3.ad.trans h3.ad, g3.hw.trans h3.hw, g3.hl.trans h3.hl, g3.down.trans h3.down⟩, by omega, by omega⟩
      · have hw := h1.pwrite_no ((f + k : Nat) : Int) (pad (chunk s k)) hps (by rw [h3.down, hi.down]) (by rw [h3.there, hal.1]) (by rw [h3.n, hi.n]; omega)
        rw [hser] at hw
        rw [if_neg h9]
        refine hw.mono ?_
        rintro e W' ⟨rfl, g1⟩
        exact ⟨rfl, st', lv', ats, now, g1, h2, h3, h4, by omega⟩
    · intro e w' hh
      have fin : ∀ k, k ≤ 5 → (∃ st' lv' ats now, One b0 w0 L st' lv' oth w' ∧ Dv st' ats now sure0 ∧ Kept st st' ∧ st.count ≤ st'.count ∧ st'.count ≤ st.count + (k : Nat)) → ∃ st' lv', One b0 w0 L st' lv' oth w' ∧ SInv st' qm al (c + 1) d := by
        rintro k hk ⟨st', lv', ats, now, h1, h2, h3, h4, h5⟩
        have e1 := hi.c0; have e2 := hi.c1
        exact ⟨st', lv', h1, by rw [h3.serial, hi.serial], by rw [h3.n, hi.n], by rw [h3.aw, hi.aw], by rw [h3.hw, hi.hw], by rw [h3.down, hi.down], hi.q1, by rw [h3.session]; exact hi.qs, by rw [h3.session]; exact hi.s2, by omega, by omega, by rw [h3.there, h3.session]; exact hi.al, ats, now, sure0, h2⟩
      rcases hh with ⟨k, hk, hz, hne, rfl, hx⟩ | ⟨hz, rfl, hx⟩
      · have h9 : ¬ f + k < 4 := fun h9 => hne (by simp [h9])
        have hfk : f + k ≤ 4 := by
          rcases Nat.eq_zero_or_pos k with rfl | hk0
          · omega
          · have := hz (k - 1) (by omega)
            by_cases h8 : f + (k - 1) < 4
            · omega
            · rw [if_neg h8] at this; omega
        refine ⟨Or.inl ⟨Or.inl ⟨hal', by omega⟩, ?_⟩, fin (k + 1) (by omega) hx⟩
        rw [hal']
        simp [h9, erOf]
      · have hp4 : f + parts s ≤ 4 ∨ parts s = 0 := by
          rcases Nat.eq_zero_or_pos (parts s) with h0 | h0
          · exact Or.inr h0
          · have := hz (parts s - 1) (by omega)
            by_cases h8 : f + (parts s - 1) < 4
            · left; omega
            · rw [if_neg h8] at this; omega
        refine ⟨Or.inr ⟨?_, rfl⟩, fin (parts s) (by omega) hx⟩
        rintro (⟨_, h1⟩ | ⟨h1, _⟩)
        · omega
        · rw [hal'] at h1; cases h1
  · have hal' : al = false := by rw [hi.al]; exact decide_eq_false hal
    have hg : (decide (st.there = false) || decide (¬ st.session = qm)) = true := by
      cases ht : st.there with
      | false => rfl
      | true => simp; intro e; exact hal ⟨ht, e⟩
    refine (mwrite_big M L.P 1 qm (f : Nat) s hs (by omega) (fun _ W => One b0 w0 L st lv oth W) (fun _ => 8) (fun _ W W' h1 hb => h1.ofBelow hb) (fun _ W h1 => (h1.oth _ hM).1)
      (fun k W _ _ h1 => by have := h1.write_gone qm ((f : Nat) + (k : Nat)) (pad (chunk s k)) hi.down hg; rw [hi.serial] at this; exact this) w h).mono ?_
    intro e w' hh
    have fin : One b0 w0 L st lv oth w' → ∃ st' lv', One b0 w0 L st' lv' oth w' ∧ SInv st' qm al (c + 1) d := fun h1 =>
      ⟨st, lv, h1, hi.serial, hi.n, hi.aw, hi.hw, hi.down, hi.q1, hi.qs, hi.s2, hi.c0, by have := hi.c1; omega, hi.al, hi.dv⟩
    rcases hh with ⟨k, hk, hz, hne, rfl, hx⟩ | ⟨hz, rfl, hx⟩
    · exact ⟨Or.inl ⟨Or.inr ⟨hal', by omega⟩, by rw [hal']; rfl⟩, fin hx⟩
    · refine ⟨Or.inr ⟨?_, rfl⟩, fin hx⟩
      rintro (⟨h1, _⟩ | ⟨_, h1⟩)
      · rw [hal'] at h1; cases h1
      · have := hz 0 h1; omega
theorem ent47 (args : Array Value) (W : World) : (callFunc 47 args).run Try.prog W = .ok (.enter 47 args) W := enter_of Try.func47 (by kernel_rfl) (by kernel_rfl) args W
/-- The work of a round. -/
theorem ms_do (h : One b0 w0 L st lv oth w) (C A : Nat) (x0 x1 x3 x5 x6 : Value) (i : Int) (s : ByteArray) (hs : s.size ≤ 9223372036854775807) (hm : (M, med L.P 1 qm) ∈ oth ∧ (C, .cells #[.pointer (some ⟨M, 0, none⟩)] 53) ∈ oth ∧ (A, .cells #[x0, x1, .int .i64 i, x3, .string s, x5, x6] 49) ∈ oth) (hi : SInv st qm al c d) (hc : c ≤ 1000) :
    Calls Try.prog 47 #[.pointer (some ⟨C, 0, none⟩), .pointer (some ⟨A, 0, none⟩)] w fun e w' => ((fails al (i % 4).toNat (parts s) ∧ e = .panicked [fl 1 (erOf al)]) ∨ (¬ fails al (i % 4).toNat (parts s) ∧ e = .returned (.tuple #[]))) ∧ ∃ st' lv', One b0 w0 L st' lv' oth w' ∧ SInv st' qm al (c + 1) d := by
  have hw := ms_write h hm.1 hi (i % 4).toNat (by omega) s hs hc
  have c1 : w.cell? ⟨C, 0, none⟩ = some (.pointer (some ⟨M, 0, none⟩)) := cell_of (h.oth _ hm.2.1).1 0
  have c2 : w.cell? ⟨A, 2, none⟩ = some (.int .i64 i) := cell_of (h.oth _ hm.2.2).1 2
  have c4 : w.cell? ⟨A, 4, none⟩ = some (.string s) := cell_of (h.oth _ hm.2.2).1 4
  have hand := i64_and3 i
  rw [show ((i % 4).toNat : Int) = i % 4 by omega] at hw
  generalize i % 4 = j at *
  clear h hi
  go_enter Try.func47, Try.ntmps47
  go_wp2_with fail
  go_call hw as e w1 ⟨h0, h1⟩
  have H1 : Hid _ := h1
  clear hw h1
  rcases h0 with ⟨hf, rfl⟩ | ⟨hf, rfl⟩
  · have HF : Hid _ := hf
    clear hf
    go_wp2
    exact ⟨rfl, Or.inl ⟨HF.out, rfl⟩, H1.out⟩
  · have HF : Hid _ := hf
    clear hf
    go_wp2
    go_returns
    exact ⟨Or.inr ⟨HF.out, rfl⟩, H1.out⟩
end
end Go.Proofs.Ytiohkdpmgkobiaa
