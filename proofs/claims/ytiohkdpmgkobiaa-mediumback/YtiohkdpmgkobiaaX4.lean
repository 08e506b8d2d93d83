/- What MediumBack hands to Guard, as calls. -/
import Derived.Test.YtiohkdpmgkobiaaX3
namespace Go.Proofs.Ytiohkdpmgkobiaa
open Go.RowKit
section
variable (b0 : Nat) (w0 : World) (L : Loc) (oth : List (Nat × Obj)) (M C F T N G O : Nat) (c : ByteArray) (hs : c.size ≤ 400) (f o : Int) (hf : -2 ≤ f ∧ f ≤ 12) (w : World)
include hs hf
theorem bk_do30_ok (hm : (M, med L.P 4 1) ∈ oth ∧ (C, .cells #[.pointer (some ⟨M, 0, none⟩)] 53) ∈ oth ∧ (F, .cells #[.int .i64 f] 3) ∈ oth ∧ (T, .cells #[.string c] 9) ∈ oth) (hfit : parts c = 0 ∨ (0 ≤ f ∧ f + (parts c : Int) ≤ 9)) (lv : Value) (h : One b0 w0 L (st0 4 9) lv oth w) :
    Calls Try.prog 30 #[.pointer (some ⟨C, 0, none⟩), .pointer (some ⟨F, 0, none⟩), .pointer (some ⟨T, 0, none⟩)] w fun e w' => e = .returned (.tuple #[]) ∧ ∃ st lv, One b0 w0 L st lv oth w' ∧ BackInv 100 c f st := by
  have hw := bk_write_ok b0 w0 L oth M hm.1 c hs w f hf hfit lv h
  have c1 : w.cell? ⟨C, 0, none⟩ = some (.pointer (some ⟨M, 0, none⟩)) := cell_of (h.oth _ hm.2.1).1 0
  have c2 : w.cell? ⟨F, 0, none⟩ = some (.int .i64 f) := cell_of (h.oth _ hm.2.2.1).1 0
  have c3 : w.cell? ⟨T, 0, none⟩ = some (.string c) := cell_of (h.oth _ hm.2.2.2).1 0
  clear h hfit
  go_enter Try.func30, Try.ntmps30
  go_wp2_with fail
  go_call hw as e w1 ⟨rfl, h1⟩
  have H1 : Hid _ := h1
  clear hw h1
  go_wp2
  go_returns
  exact ⟨rfl, H1.out⟩
theorem bk_do30_no (hm : (M, med L.P 4 1) ∈ oth ∧ (C, .cells #[.pointer (some ⟨M, 0, none⟩)] 53) ∈ oth ∧ (F, .cells #[.int .i64 f] 3) ∈ oth ∧ (T, .cells #[.string c] 9) ∈ oth) (hno : ¬ parts c = 0 ∧ ¬ (0 ≤ f ∧ f + (parts c : Int) ≤ 9)) (lv : Value) (h : One b0 w0 L (st0 4 9) lv oth w) :
    Calls Try.prog 30 #[.pointer (some ⟨C, 0, none⟩), .pointer (some ⟨F, 0, none⟩), .pointer (some ⟨T, 0, none⟩)] w fun e w' => e = .panicked [fl 4 6] ∧ ∃ st lv, One b0 w0 L st lv oth w' := by
  have hw := bk_write_no b0 w0 L oth M hm.1 c hs w f hf hno lv h
  have c1 : w.cell? ⟨C, 0, none⟩ = some (.pointer (some ⟨M, 0, none⟩)) := cell_of (h.oth _ hm.2.1).1 0
  have c2 : w.cell? ⟨F, 0, none⟩ = some (.int .i64 f) := cell_of (h.oth _ hm.2.2.1).1 0
  have c3 : w.cell? ⟨T, 0, none⟩ = some (.string c) := cell_of (h.oth _ hm.2.2.2).1 0
  clear h hno
  go_enter Try.func30, Try.ntmps30
  go_wp2_with fail
  go_call hw as e w1 ⟨rfl, h1⟩
  have H1 : Hid _ := h1
  clear hw h1
  go_wp2
  exact ⟨rfl, rfl, H1.out⟩
omit hs hf in
theorem bk_read (hm : (M, med L.P 4 1) ∈ oth) (h5 : ∀ p ∈ oth, ∀ c fz, p.2 ≠ .cells c 5 fz) (st : St) (lv : Value) (h : One b0 w0 L st lv oth w) (hi : BackInv 100 c f st) :
    Calls Try.prog 33 #[.pointer (some ⟨M, 0, none⟩), .int .i64 f, .int .i64 (parts c : Nat)] w fun e w' => e = .returned (.string ⟨(filledL c.data.toList).toArray⟩) ∧ ∃ lv x, 0 ≤ x ∧ x ≤ 900 ∧ One b0 w0 L { st with count := x } lv oth w' := by
  by_cases hz : parts c = 0
  · rw [hz]
    refine (h.mread_none M h5 f ((0 : Nat) : Int) (by decide)).mono ?_
    rintro e w' ⟨rfl, o'⟩
    have hc0 : c.data.toList = [] := by
      have : c.size = 0 := by unfold parts at hz; omega
      have e : c.data.toList.length = 0 := by rw [Array.length_toList]; exact this
      exact List.eq_nil_of_length_eq_zero e
    have hcnt := hi.count
    refine ⟨?_, lv, st.count, hcnt.1, by omega, o'⟩
    rw [hc0]; rfl
  · obtain ⟨p1, p2, p3⟩ := hi.put hz
    obtain ⟨frm, rfl⟩ : ∃ frm : Nat, f = (frm : Int) := ⟨f.toNat, by omega⟩
    have hcnt := hi.count
    refine (h.mread M (by rw [hi.serial, hi.session]; exact hm) h5 frm (parts c) (by rw [hi.n]; omega) (by rw [hi.n]; decide) hi.down hi.there hi.aw hi.hw hi.ok ⟨hcnt.1, by omega⟩).mono ?_
    rintro e w' ⟨rfl, lv', o'⟩
    refine ⟨?_, lv', _, ?_, ?_, o'⟩
    · rw [rds_all c st frm (fun j hj => by simpa using p3 j hj)]
    · omega
    · omega
omit hs hf in
theorem bk_more (hm : (M, med L.P 4 1) ∈ oth) (h5 : ∀ p ∈ oth, ∀ c fz, p.2 ≠ .cells c 5 fz) (st : St) (lv : Value) (h : One b0 w0 L st lv oth w) (hi : BackInv 1000 ⟨#[]⟩ 0 st) :
    (o ≤ 9 → Calls Try.prog 33 #[.pointer (some ⟨M, 0, none⟩), .int .i64 0, .int .i64 o] w fun e w' => ∃ r lv x, e = .returned (.string r) ∧ One b0 w0 L { st with count := x } lv oth w') ∧
    (o = 10 → Calls Try.prog 33 #[.pointer (some ⟨M, 0, none⟩), .int .i64 0, .int .i64 o] w fun e w' => e = .panicked [fl 4 6] ∧ ∃ lv x, One b0 w0 L { st with count := x } lv oth w') := by
  have hcnt := hi.count
  refine ⟨fun ho => ?_, fun ho => ?_⟩
  · by_cases hz : o ≤ 0
    · refine (h.mread_none M h5 0 o hz).mono ?_
      rintro e w' ⟨rfl, o'⟩
      exact ⟨_, lv, st.count, rfl, o'⟩
    · obtain ⟨n, rfl⟩ : ∃ n : Nat, o = (n : Int) := ⟨o.toNat, by omega⟩
      refine (h.mread M (by rw [hi.serial, hi.session]; exact hm) h5 0 n (by rw [hi.n]; omega) (by rw [hi.n]; decide) hi.down hi.there hi.aw hi.hw hi.ok ⟨hcnt.1, by omega⟩).mono ?_
      rintro e w' ⟨rfl, lv', o'⟩
      exact ⟨_, lv', _, rfl, o'⟩
  · subst ho
    have := h.mread_over M (by rw [hi.serial, hi.session]; exact hm) h5 0 10 9 (by rw [hi.n]) (by decide) (by decide) (by rw [hi.n]; decide) hi.down hi.there hi.aw hi.hw hi.ok ⟨hcnt.1, by omega⟩
    refine Calls.mono this ?_
    rintro e w' ⟨rfl, lv', o'⟩
    exact ⟨by rw [hi.serial], lv', _, o'⟩
end
/-- How what was read, and the device, are left. -/
def BkEnd (b0 : Nat) (w0 : World) (L : Loc) (oth : List (Nat × Obj)) (G : Nat) (pc : ByteArray) (w' : World) : Prop := ∃ st lv, One b0 w0 L st lv ((G, .cells #[.string pc] 9) :: oth) w' ∧ st.ln = 0 ∧ st.serial = 4
section
variable {b0 : Nat} {w0 : World} {L : Loc} {oth : List (Nat × Obj)} {M C F N G O : Nat} {c : ByteArray} {f o : Int} {w : World}
theorem bk_do32 (hm : (M, med L.P 4 1) ∈ oth ∧ (C, .cells #[.pointer (some ⟨M, 0, none⟩)] 53) ∈ oth ∧ (F, .cells #[.int .i64 f] 3) ∈ oth ∧ (N, .cells #[.int .i64 (parts c : Nat)] 3) ∈ oth ∧ (O, .cells #[.int .i64 o] 3) ∈ oth) (hne : ∀ p ∈ oth, p.1 ≠ G) (h5 : ∀ p ∈ oth, ∀ c fz, p.2 ≠ .cells c 5 fz) (st : St) (lv : Value) (h : One b0 w0 L st lv ((G, .cells #[.string ⟨#[]⟩] 9) :: oth) w) (hi : BackInv 100 c f st) (bad : Bool) (hbad : (bad = true → o = 10) ∧ (bad = false → o ≤ 9)) :
    Calls Try.prog 32 #[.pointer (some ⟨C, 0, none⟩), .pointer (some ⟨F, 0, none⟩), .pointer (some ⟨N, 0, none⟩), .pointer (some ⟨G, 0, none⟩), .pointer (some ⟨O, 0, none⟩)] w fun e w' => (e = if bad then .panicked [fl 4 6] else .returned (.tuple #[])) ∧ BkEnd b0 w0 L oth G ⟨(filledL c.data.toList).toArray⟩ w' := by
  have h5' : ∀ r : ByteArray, ∀ p ∈ (G, Obj.cells #[.string r] 9) :: oth, ∀ c fz, p.2 ≠ .cells c 5 fz := fun r p hp => by
    rcases List.mem_cons.1 hp with rfl | hp
    · intro c fz e; injection e with _ e _; exact absurd e (by decide)
    · exact h5 p hp
  have hr := bk_read b0 w0 L _ M c f w (List.mem_cons_of_mem _ hm.1) (h5' _) st lv h hi
  have cl : ∀ {W st lv o1}, One b0 w0 L st lv (o1 :: oth) W → W.cell? ⟨C, 0, none⟩ = some (.pointer (some ⟨M, 0, none⟩)) ∧ W.cell? ⟨F, 0, none⟩ = some (.int .i64 f) ∧ W.cell? ⟨N, 0, none⟩ = some (.int .i64 (parts c : Nat)) ∧ W.cell? ⟨O, 0, none⟩ = some (.int .i64 o) := fun h =>
    ⟨cell_of (h.oth _ (List.mem_cons_of_mem _ hm.2.1)).1 0, cell_of (h.oth _ (List.mem_cons_of_mem _ hm.2.2.1)).1 0, cell_of (h.oth _ (List.mem_cons_of_mem _ hm.2.2.2.1)).1 0, cell_of (h.oth _ (List.mem_cons_of_mem _ hm.2.2.2.2)).1 0⟩
  obtain ⟨c1, c2, c3, c4⟩ := cl h
  have HCL : Hid _ := @cl
  have H5 : Hid _ := h5'
  have HM : Hid _ := hm
  have HI : Hid _ := hi
  have HNE : Hid _ := hne
  have HB : Hid _ := hbad
  clear h cl h5 h5' hm hi hne hbad
  generalize hpc : (⟨(filledL c.data.toList).toArray⟩ : ByteArray) = pc at *
  clear hpc
  go_enter Try.func32, Try.ntmps32
  go_wp2_with fail
  go_call hr as e w1 ⟨rfl, lv1, x, hx1, hx2, o1⟩
  clear hr c1 c2 c3 c4
  have g1 : w1.cell? ⟨G, 0, none⟩ = some (.string ⟨#[]⟩) := cell_of (o1.oth _ (List.mem_cons_self ..)).1 0
  have g2 : w1.frozen? ⟨G, 0, none⟩ = false := frz_of (o1.oth _ (List.mem_cons_self ..)).1 0
  have o2 := o1.setOther (v := .string pc) HNE.out (by decide)
  have c1 := (HCL.out o2).1
  have hfl := o2.mflush M (by show (M, med L.P st.serial st.session) ∈ _; rw [HI.out.serial, HI.out.session]; exact List.mem_cons_of_mem _ HM.out.1) HI.out.down HI.out.there HI.out.aw HI.out.hw ⟨hx1, by show x ≤ _; omega⟩
  clear o1 o2
  go_wp2_with fail
  go_call hfl as e w2 ⟨rfl, lv2, o3⟩
  clear hfl c1 g1 g2
  obtain ⟨c1, _, _, c4⟩ := HCL.out o3
  have hi3 : BackInv 1000 ⟨#[]⟩ 0 { st with ln := 0, loose := [], count := x + 1 } := ⟨HI.out.serial, HI.out.session, HI.out.there, HI.out.down, HI.out.hw, HI.out.aw, HI.out.n, ⟨HI.out.ok.size, HI.out.ok.bytes⟩, ⟨by show 0 ≤ x + 1; omega, by show x + 1 ≤ 1000; omega⟩, fun h => absurd rfl h⟩
  have hmo := bk_more b0 w0 L _ M o w2 (List.mem_cons_of_mem _ HM.out.1) (H5.out _) _ lv2 o3 hi3
  clear o3 hi3
  cases bad with
  | true =>
    have hb : o = 10 := HB.out.1 rfl
    have hmo2 := hmo.2 hb
    clear hmo hb
    go_wp2_with fail
    go_call hmo2 as e w3 ⟨rfl, lv3, x3, o4⟩
    have H4 : Hid _ := o4
    clear hmo2 o4
    go_wp2
    exact ⟨rfl, rfl, _, lv3, H4.out, rfl, HI.out.serial⟩
  | false =>
    have hb : o ≤ 9 := HB.out.2 rfl
    have hmo2 := hmo.1 hb
    clear hmo
    go_wp2_with fail
    go_call hmo2 as e w3 ⟨r, lv3, x3, rfl, o4⟩
    have H4 : Hid _ := o4
    clear hmo2 o4
    go_wp2
    go_returns
    exact ⟨rfl, _, lv3, H4.out, rfl, HI.out.serial⟩
end
end Go.Proofs.Ytiohkdpmgkobiaa
