/- SlotsBack: the walk. -/
import Derived.Test.YtknmipbjkkeebaaGreatIX
namespace Go.Proofs.YtknmipbjkkeebaaGreat
open Go.RowKit
/-- Where the rounds stand. -/
def BkI (T : Nat) (w : World) (L : F.Loc) (Sb S M k : Nat) (W : World) : Prop :=
  ∃ st lv s G, F.One T w L st lv ((Sb, .cells #[.pointer (some ⟨S, 0, none⟩)] 29) :: (S, .cells (Sl.cs s M) 72) :: (M, F.med L.P 1 1) :: []) W ∧ Quiet st ∧ st.serial = 1 ∧ st.session = 1 ∧ (0 ≤ st.count ∧ st.count ≤ 32 + 60 * (k : Int)) ∧ s.slot ≤ 1 ∧ s.most = k ∧ Anc G st ∧ (∀ a, a < 2 → ∀ j, j < 16 → (G a j).q ≤ s.most)
set_option maxHeartbeats 8000000 in
set_option maxRecDepth 100000 in
theorem back_walk (ta : Option Addr) (tn tc TK tO : Nat) (txs : Nat → ByteArray) (sa : Option Addr) (sn sc SK sO : Nat) (szs : Nat → Int) (w : World) (hta : 0 < tn → ta = some ⟨TK, tO, none⟩) (htx : ∀ j, j < tn → w.cell? ⟨TK, tO + j, none⟩ = some (.string (txs j)))
    (hsa : 0 < sn → sa = some ⟨SK, sO, none⟩) (hsx : ∀ j, j < sn → w.cell? ⟨SK, sO + j, none⟩ = some (.int .i64 (szs j))) :
    Calls Tryz.prog 3 #[.slice ta tn tc, .slice sa sn sc] w fun e w' => e = .returned (.bool true) ∧ Below w.heap.size w w' := by
  have HTA : Hid _ := hta
  have HTX : Hid _ := htx
  have HSA : Hid _ := hsa
  have HSX : Hid _ := hsx
  clear hta htx hsa hsx
  go_enter Tryz.func3, Tryz.ntmps3
  go_wp2_with fail
  go_call (awake9 w) as e w1 ⟨rfl, hb1⟩
  have hmk := F.made_any w.heap.size w w1 [] hb1 hb1.size (by intro p hp; cases hp) 1 (by decide) (by decide) 33 (by decide) (by decide)
  clear hb1
  obtain ⟨T, hT⟩ : ∃ T, T = w.heap.size := ⟨_, rfl⟩
  rw [← hT] at hmk
  have HT : Hid _ := hT
  clear hT
  go_wp2_with fail
  go_call hmk as e w2 ⟨L, M0, rfl, o2⟩
  have he := emp0 1 33 (by decide) (by decide)
  have hop := opened_one o2 rfl (by
    intro p hp c fz
    simp only [List.mem_cons, List.not_mem_nil, or_false] at hp
    subst hp
    intro e; unfold F.med at e; injection e with _ e _; exact absurd e (by decide)) (fun _ _ => zp) he.anc rfl rfl rfl rfl (by decide)
  have hf := he.found
  rw [hf.1, hf.2.2.2.2] at hop
  have hsl : ({ (scan (fun _ _ => zp) 2).sl with unsure := decide ((0 : Nat) = 2) } : Sl) = ⟨0, 0, 0, false⟩ := by
    rw [show (scan (fun _ _ => zp) 2).sl = ⟨(scan (fun _ _ => zp) 2).sl.slot, (scan (fun _ _ => zp) 2).sl.seq, (scan (fun _ _ => zp) 2).sl.most, (scan (fun _ _ => zp) 2).sl.unsure⟩ from rfl, hf.2.1, hf.2.2.1, hf.2.2.2.1]
    rfl
  rw [hsl] at hop
  have HE : Hid _ := he
  clear hmk hf hsl he o2
  go_wp2_with fail
  go_call hop as e w3 ⟨S, M, lv3, rfl, hS, hMS, o3⟩
  clear hop
  have l3S := o3.lts (S, .cells (Sl.cs ⟨0, 0, 0, false⟩ M) 72) (by simp)
  have l3M := o3.lts (M, F.med L.P (F.st0 1 33).serial (F.st0 1 33).session) (by simp)
  have o4 := (o3.alloc (.cells #[.pointer (some ⟨S, 0, none⟩)] 29) (F.apart_of (by decide))).forget (oth' := (w3.heap.size, .cells #[.pointer (some ⟨S, 0, none⟩)] 29) :: (S, .cells (Sl.cs ⟨0, 0, 0, false⟩ M) 72) :: (M, F.med L.P 1 1) :: []) (by
    intro p hp
    simp only [List.mem_cons, List.not_mem_nil, or_false] at hp ⊢
    rcases hp with rfl | rfl | rfl
    · simp
    · simp
    · right; right; left; rfl)
  have H0 : Hid (BkI T w L w3.heap.size S M 0 (w3.alloc (.cells #[.pointer (some ⟨S, 0, none⟩)] 29))) := by
    have q := quiet0 1 33 (by decide) (by decide)
    exact ⟨_, lv3, ⟨0, 0, 0, false⟩, fun _ _ => zp, o4, ⟨q.ln, q.loose, ⟨q.ok.size, q.ok.bytes⟩, q.n, q.n1, q.down, q.there, q.aw, q.hw⟩, rfl, rfl, by decide, Nat.zero_le _, rfl, ⟨HE.out.anc.n, HE.out.anc.n1, ⟨HE.out.anc.ok.size, HE.out.anc.ok.bytes⟩, HE.out.anc.tells, HE.out.anc.few, HE.out.anc.dat⟩, fun _ _ _ _ => Nat.le_refl _⟩
  have HD : Hid (S ≠ M ∧ S < w3.heap.size ∧ M < w3.heap.size) := ⟨Ne.symm hMS, l3S, l3M⟩
  clear o3 o4 hS hMS l3S l3M HE
  go_wp2
  go_loopw [11] (fun i wr => ∃ k : Nat, k ≤ tn ∧ k ≤ 8 ∧ i = .int .i64 (k : Nat) ∧ Hid (BkI T w L w3.heap.size S M k wr)) (fun i _ => 8 - (intOf i).toNat)
  case atStart => exact ⟨0, by omega, by omega, rfl, H0.out⟩
  case round =>
    clear H0
    obtain ⟨k, hk1, hk2, rfl, HI⟩ := hrel
    by_cases hkt : k < tn ∧ k < 8
    · obtain ⟨hk3, hk4⟩ := hkt
      obtain rfl := HTA.out (by omega)
      obtain ⟨st, lv, s, G, hO, hQ, hser, hses, hc, hslot, hmost, hA, hle⟩ := HI.out
      have ct : wr.cell? ⟨TK, tO + k, none⟩ = some (.string (txs k)) := by
        have q := HTX.out k hk3
        exact (hO.below.cell (by show TK < T; rw [HT.out]; exact World.block_lt_of_cell? w _ q)).trans q
      have hcut : Calls Tryz.prog 11 #[.string (txs k), .int .i64 20] wr fun e w' => ∃ x : ByteArray, x.size ≤ 20 ∧ e = .returned (.string x) ∧ w' = wr := cut_any (txs k) 20 (by decide) wr
      have HO : Hid _ := hO
      have HQ : Hid _ := hQ
      have HA : Hid _ := hA
      have HLE : Hid _ := hle
      have HSER : Hid (st.serial = 1 ∧ st.session = 1) := ⟨hser, hses⟩
      have HCN : Hid _ := hc
      have HSL : Hid (s.slot ≤ 1 ∧ s.most = k) := ⟨hslot, hmost⟩
      clear HI hO hQ hA hle hser hses hc hslot hmost
      generalize txs k = tk at *
      rcases Nat.lt_or_ge k sn with hks | hks
      · obtain rfl := HSA.out (by omega)
        have cz : wr.cell? ⟨SK, sO + k, none⟩ = some (.int .i64 (szs k)) := by
          have q := HSX.out k hks
          exact (HO.out.below.cell (by show SK < T; rw [HT.out]; exact World.block_lt_of_cell? w _ q)).trans q
        generalize szs k = nn at *
        go_wp2_with fail
        go_call hcut as e w4 ⟨x4, hx4, rfl, hw4⟩
        subst hw4
        clear hcut
        have hlg := long_any x4 (by omega) nn w4
        go_wp2_with fail
        go_call hlg as e w5 ⟨x, hx, rfl, hw5⟩
        subst hw5
        have hx6 : x.size ≤ 640 := by omega
        clear hlg hx4 hx
        have l0 : w3.heap.size < w5.heap.size := HO.out.lts (w3.heap.size, .cells #[.pointer (some ⟨S, 0, none⟩)] 29) (by simp)
        have hd := HD.out
        have e1 : (w5.alloc (.cells #[.string x] 9)).heap.size = w5.heap.size + 1 := by simp
        have e2 : ((w5.alloc (.cells #[.string x] 9)).alloc (.cells #[.int .i64 0] 33)).heap.size = w5.heap.size + 2 := by simp
        have o5 := ((HO.out.alloc (.cells #[.string x] 9) (F.apart_of (by decide))).alloc (.cells #[.int .i64 0] 33) (F.apart_of (by decide))).guarded
        rw [e1, e2] at o5
        have o6 := o5.forget (oth' := (w5.heap.size + 1, .cells #[.int .i64 0] 33) :: (S, .cells (Sl.cs s M) 72) :: (w5.heap.size + 2 + 1, F.iob) :: (w5.heap.size + 2, F.bob) :: (w5.heap.size, .cells #[.string x] 9) :: (w3.heap.size, .cells #[.pointer (some ⟨S, 0, none⟩)] 29) :: (M, F.med L.P 1 1) :: []) (by
          intro p hp
          simp only [F.gob, List.mem_cons] at hp ⊢
          rcases hp with rfl | rfl | rfl | rfl | rfl | rfl | rfl | hp <;> simp [*])
        have hdo := op13 (Sb := w3.heap.size) (Tb := w5.heap.size) s x 0 o6 (by simp) (by simp) (by rw [HSER.out.1, HSER.out.2]; simp) (by
          intro p hp
          simp only [List.mem_cons, List.not_mem_nil, or_false] at hp
          rcases hp with rfl | rfl | rfl | rfl | rfl
          · exact ⟨by show w5.heap.size + 2 + 1 ≠ _; omega, by show w5.heap.size + 2 + 1 ≠ _; omega⟩
          · exact ⟨by show w5.heap.size + 2 ≠ _; omega, by show w5.heap.size + 2 ≠ _; omega⟩
          · exact ⟨by show w5.heap.size ≠ _; omega, by show w5.heap.size ≠ _; omega⟩
          · exact ⟨by show w3.heap.size ≠ _; omega, by show w3.heap.size ≠ _; omega⟩
          · exact ⟨by show M ≠ _; omega, by show M ≠ _; omega⟩) (by omega) HSL.out.1 (by rw [HSL.out.2]; omega) hx6 HQ.out ⟨HCN.out.1, by have := HCN.out.2; omega⟩
        have hgd := F.guard_ok 13 #[.pointer (some ⟨w3.heap.size, 0, none⟩), .pointer (some ⟨w5.heap.size, 0, none⟩), .pointer (some ⟨w5.heap.size + 1, 0, none⟩)] (fun W => ∃ st' lv', F.One T w L st' lv' ((w5.heap.size + 1, .cells #[.int .i64 0] 33) :: (S, .cells (Sl.cs s.next M) 72) :: (w5.heap.size + 2 + 1, F.iob) :: (w5.heap.size + 2, F.bob) :: (w5.heap.size, .cells #[.string x] 9) :: (w3.heap.size, .cells #[.pointer (some ⟨S, 0, none⟩)] 29) :: (M, F.med L.P 1 1) :: []) W ∧ Wrt st st' (s.other * 16) x (s.most + 1)) ((w5.alloc (.cells #[.string x] 9)).alloc (.cells #[.int .i64 0] 33)) ent13 (hdo.mono (by
          rintro e W ⟨rfl, st', lv', ho, hw⟩
          rw [e2]
          exact ⟨rfl, (ho.oth (w5.heap.size + 2, F.bob) (by simp)).1, (ho.oth (w5.heap.size + 2 + 1, F.iob) (by simp)).1, st', lv', ho, hw⟩))
        rw [e2] at hgd
        clear hdo o5 o6 e1 e2
        go_wp2_with fail
        go_call hgd as e w6 ⟨rfl, W, ⟨st', lv', ho, hw⟩, hkt⟩
        have o8 := (ho.forget (oth' := F.gob (w5.heap.size + 2) ((w5.heap.size + 1, .cells #[.int .i64 0] 33) :: (S, .cells (Sl.cs s.next M) 72) :: (w5.heap.size, .cells #[.string x] 9) :: (w3.heap.size, .cells #[.pointer (some ⟨S, 0, none⟩)] 29) :: (M, F.med L.P 1 1) :: [])) (by
          intro p hp
          simp only [F.gob, List.mem_cons, List.not_mem_nil, or_false] at hp ⊢
          rcases hp with rfl | rfl | rfl | rfl | rfl | rfl | rfl <;> simp [*])).kt2 (by
          intro p hp
          simp only [List.mem_cons, List.not_mem_nil, or_false] at hp
          rcases hp with rfl | rfl | rfl | rfl | rfl
          · exact ⟨by show w5.heap.size + 1 ≠ _; omega, by show w5.heap.size + 1 ≠ _; omega⟩
          · exact ⟨by show S ≠ _; omega, by show S ≠ _; omega⟩
          · exact ⟨by show w5.heap.size ≠ _; omega, by show w5.heap.size ≠ _; omega⟩
          · exact ⟨by show w3.heap.size ≠ _; omega, by show w3.heap.size ≠ _; omega⟩
          · exact ⟨by show M ≠ _; omega, by show M ≠ _; omega⟩) hkt
        have hcur := cur_next HA.out HLE.out HSL.out.1 hx6 (by rw [HSL.out.2]; omega) hw
        have hfd := hcur.found
        have hst : st'.serial = 1 ∧ st'.session = 1 := ⟨hw.serial.trans HSER.out.1, hw.session.trans HSER.out.2⟩
        have hcn : 0 ≤ st'.count ∧ st'.count ≤ 32 + 60 * (k : Int) + 18 := by have a := hw.c0; have b := hw.c1; have c := HCN.out; omega
        have O9 : Hid (∀ o, F.One T w L st' lv' ((w5.heap.size + 1, .cells #[.int .i64 0] 33) :: (S, .cells (Sl.cs s.next M) 72) :: (w5.heap.size, .cells #[.string x] 9) :: (w3.heap.size, .cells #[.pointer (some ⟨S, 0, none⟩)] 29) :: (M, F.med L.P 1 1) :: []) (w6.alloc o)) := fun o => o8.ofBelow (Below.alloc (Below.refl _ _) (Nat.le_refl _) o)
        have HOP : Hid (∀ o, Calls Tryz.prog 9 #[.pointer (some ⟨L.P, 0, none⟩)] (w6.alloc o) fun e w' => ∃ S2 M2 lv2, e = .returned (.tuple #[.pointer (some ⟨S2, 0, none⟩), .string x, .bool true, .bool true]) ∧ F.One T w L { st' with count := st'.count + 32 } lv2 ((w5.heap.size + 1, .cells #[.int .i64 0] 33) :: (S, .cells (Sl.cs s.next M) 72) :: (w5.heap.size, .cells #[.string x] 9) :: (w3.heap.size, .cells #[.pointer (some ⟨S, 0, none⟩)] 29) :: (M, F.med L.P 1 1) :: []) w') := fun o => by
          refine (opened_one (O9.out o) hst.1 (by
            intro p hp c fz
            simp only [List.mem_cons, List.not_mem_nil, or_false] at hp
            rcases hp with rfl | rfl | rfl | rfl | rfl
            · intro e; injection e with _ e _; exact absurd e (by decide)
            · intro e; injection e with _ e _; exact absurd e (by decide)
            · intro e; injection e with _ e _; exact absurd e (by decide)
            · intro e; injection e with _ e _; exact absurd e (by decide)
            · intro e; unfold F.med at e; injection e with _ e _; exact absurd e (by decide)) _ hcur.anc hw.down hw.there hw.aw hw.hw ⟨by omega, by omega⟩).mono ?_
          rintro e w' ⟨S2, M2, lv2, rfl, _, _, ho2⟩
          rw [hfd.1, decide_eq_true hfd.2.2.2.2]
          exact ⟨S2, M2, lv2, rfl, ho2.forget (by intro p hp; exact List.mem_cons_of_mem _ (List.mem_cons_of_mem _ hp))⟩
        have hsq : ∀ o, Calls Tryz.prog 15 #[.pointer (some ⟨S, 0, none⟩)] (w6.alloc o) fun e w' => e = .returned (.int .u64 ((k : Int) + 1)) ∧ w' = w6.alloc o := fun o => by
          have q := seq_any s.next S M (w6.alloc o) ((O9.out o).oth (S, .cells (Sl.cs s.next M) 72) (by simp)).1
          have e : ((s.next.seq : Nat) : Int) = (k : Int) + 1 := by show ((s.most + 1 : Nat) : Int) = _; rw [HSL.out.2]; rfl
          rw [e] at q; exact q
        have HSQ : Hid _ := hsq
        have y1 : ∀ o, (w6.alloc o).cell? ⟨w5.heap.size + 1, 0, none⟩ = some (.int .i64 0) := fun o => F.cell_of ((O9.out o).oth (w5.heap.size + 1, .cells #[.int .i64 0] 33) (by simp)).1 0
        have y2 : ∀ o, (w6.alloc o).cell? ⟨w3.heap.size, 0, none⟩ = some (.pointer (some ⟨S, 0, none⟩)) := fun o => F.cell_of ((O9.out o).oth (w3.heap.size, .cells #[.pointer (some ⟨S, 0, none⟩)] 29) (by simp)).1 0
        have HFIN : Hid (∀ lv2 w', F.One T w L { st' with count := st'.count + 32 } lv2 ((w5.heap.size + 1, .cells #[.int .i64 0] 33) :: (S, .cells (Sl.cs s.next M) 72) :: (w5.heap.size, .cells #[.string x] 9) :: (w3.heap.size, .cells #[.pointer (some ⟨S, 0, none⟩)] 29) :: (M, F.med L.P 1 1) :: []) w' → BkI T w L w3.heap.size S M (k + 1) w') := fun lv2 w' ho2 => by
          have q := hw.quiet HQ.out
          refine ⟨_, lv2, s.next, _, ho2.forget (by
            intro p hp
            simp only [List.mem_cons, List.not_mem_nil, or_false] at hp ⊢
            rcases hp with rfl | rfl | rfl <;> simp [*]), ⟨q.ln, q.loose, ⟨q.ok.size, q.ok.bytes⟩, q.n, q.n1, q.down, q.there, q.aw, q.hw⟩, hst.1, hst.2, ?_, hcur.slot, ?_, ⟨hcur.anc.n, hcur.anc.n1, ⟨hcur.anc.ok.size, hcur.anc.ok.bytes⟩, hcur.anc.tells, hcur.anc.few, hcur.anc.dat⟩, hcur.le⟩
          · show 0 ≤ st'.count + 32 ∧ st'.count + 32 ≤ 32 + 60 * ((k + 1 : Nat) : Int); omega
          · show s.most + 1 = k + 1; rw [HSL.out.2]
        have hkw : IntKind.u64.wrap ((k : Int) + 1) = (k : Int) + 1 := by rw [IntKind.wrap_u64]; omega
        clear hgd ho hw hkt o8 hcur hfd hst hcn hsq HO HQ HA HLE HCN HSER O9
        go_wp2_with fail
        go_call (HSQ.out _) as e w7 ⟨rfl, hw7⟩
        subst hw7
        clear HSQ y1 y2
        go_wp2_with fail
        go_call (HOP.out _) as e w8 ⟨S2, M2, lv8, rfl, o8⟩
        have y8 : w8.cell? ⟨w5.heap.size, 0, none⟩ = some (.string x) := F.cell_of (o8.oth (w5.heap.size, .cells #[.string x] 9) (by simp)).1 0
        have F8 : Hid _ := HFIN.out lv8 w8 o8
        clear HOP HFIN o8
        go_wp2
        go_roundw
        case rel => exact ⟨k + 1, by omega, by omega, rfl, F8.out⟩
        case measure => simp only [intOf]; omega
      · go_wp2_with fail
        go_call hcut as e w4 ⟨x4, hx4, rfl, hw4⟩
        subst hw4
        clear hcut
        have hlg := long_any x4 (by omega) 0 w4
        go_wp2_with fail
        go_call hlg as e w5 ⟨x, hx, rfl, hw5⟩
        subst hw5
        have hx6 : x.size ≤ 640 := by omega
        clear hlg hx4 hx
        have l0 : w3.heap.size < w5.heap.size := HO.out.lts (w3.heap.size, .cells #[.pointer (some ⟨S, 0, none⟩)] 29) (by simp)
        have hd := HD.out
        have e1 : (w5.alloc (.cells #[.string x] 9)).heap.size = w5.heap.size + 1 := by simp
        have e2 : ((w5.alloc (.cells #[.string x] 9)).alloc (.cells #[.int .i64 0] 33)).heap.size = w5.heap.size + 2 := by simp
        have o5 := ((HO.out.alloc (.cells #[.string x] 9) (F.apart_of (by decide))).alloc (.cells #[.int .i64 0] 33) (F.apart_of (by decide))).guarded
        rw [e1, e2] at o5
        have o6 := o5.forget (oth' := (w5.heap.size + 1, .cells #[.int .i64 0] 33) :: (S, .cells (Sl.cs s M) 72) :: (w5.heap.size + 2 + 1, F.iob) :: (w5.heap.size + 2, F.bob) :: (w5.heap.size, .cells #[.string x] 9) :: (w3.heap.size, .cells #[.pointer (some ⟨S, 0, none⟩)] 29) :: (M, F.med L.P 1 1) :: []) (by
          intro p hp
          simp only [F.gob, List.mem_cons] at hp ⊢
          rcases hp with rfl | rfl | rfl | rfl | rfl | rfl | rfl | hp <;> simp [*])
        have hdo := op13 (Sb := w3.heap.size) (Tb := w5.heap.size) s x 0 o6 (by simp) (by simp) (by rw [HSER.out.1, HSER.out.2]; simp) (by
          intro p hp
          simp only [List.mem_cons, List.not_mem_nil, or_false] at hp
          rcases hp with rfl | rfl | rfl | rfl | rfl
          · exact ⟨by show w5.heap.size + 2 + 1 ≠ _; omega, by show w5.heap.size + 2 + 1 ≠ _; omega⟩
          · exact ⟨by show w5.heap.size + 2 ≠ _; omega, by show w5.heap.size + 2 ≠ _; omega⟩
          · exact ⟨by show w5.heap.size ≠ _; omega, by show w5.heap.size ≠ _; omega⟩
          · exact ⟨by show w3.heap.size ≠ _; omega, by show w3.heap.size ≠ _; omega⟩
          · exact ⟨by show M ≠ _; omega, by show M ≠ _; omega⟩) (by omega) HSL.out.1 (by rw [HSL.out.2]; omega) hx6 HQ.out ⟨HCN.out.1, by have := HCN.out.2; omega⟩
        have hgd := F.guard_ok 13 #[.pointer (some ⟨w3.heap.size, 0, none⟩), .pointer (some ⟨w5.heap.size, 0, none⟩), .pointer (some ⟨w5.heap.size + 1, 0, none⟩)] (fun W => ∃ st' lv', F.One T w L st' lv' ((w5.heap.size + 1, .cells #[.int .i64 0] 33) :: (S, .cells (Sl.cs s.next M) 72) :: (w5.heap.size + 2 + 1, F.iob) :: (w5.heap.size + 2, F.bob) :: (w5.heap.size, .cells #[.string x] 9) :: (w3.heap.size, .cells #[.pointer (some ⟨S, 0, none⟩)] 29) :: (M, F.med L.P 1 1) :: []) W ∧ Wrt st st' (s.other * 16) x (s.most + 1)) ((w5.alloc (.cells #[.string x] 9)).alloc (.cells #[.int .i64 0] 33)) ent13 (hdo.mono (by
          rintro e W ⟨rfl, st', lv', ho, hw⟩
          rw [e2]
          exact ⟨rfl, (ho.oth (w5.heap.size + 2, F.bob) (by simp)).1, (ho.oth (w5.heap.size + 2 + 1, F.iob) (by simp)).1, st', lv', ho, hw⟩))
        rw [e2] at hgd
        clear hdo o5 o6 e1 e2
        go_wp2_with fail
        go_call hgd as e w6 ⟨rfl, W, ⟨st', lv', ho, hw⟩, hkt⟩
        have o8 := (ho.forget (oth' := F.gob (w5.heap.size + 2) ((w5.heap.size + 1, .cells #[.int .i64 0] 33) :: (S, .cells (Sl.cs s.next M) 72) :: (w5.heap.size, .cells #[.string x] 9) :: (w3.heap.size, .cells #[.pointer (some ⟨S, 0, none⟩)] 29) :: (M, F.med L.P 1 1) :: [])) (by
          intro p hp
          simp only [F.gob, List.mem_cons, List.not_mem_nil, or_false] at hp ⊢
          rcases hp with rfl | rfl | rfl | rfl | rfl | rfl | rfl <;> simp [*])).kt2 (by
          intro p hp
          simp only [List.mem_cons, List.not_mem_nil, or_false] at hp
          rcases hp with rfl | rfl | rfl | rfl | rfl
          · exact ⟨by show w5.heap.size + 1 ≠ _; omega, by show w5.heap.size + 1 ≠ _; omega⟩
          · exact ⟨by show S ≠ _; omega, by show S ≠ _; omega⟩
          · exact ⟨by show w5.heap.size ≠ _; omega, by show w5.heap.size ≠ _; omega⟩
          · exact ⟨by show w3.heap.size ≠ _; omega, by show w3.heap.size ≠ _; omega⟩
          · exact ⟨by show M ≠ _; omega, by show M ≠ _; omega⟩) hkt
        have hcur := cur_next HA.out HLE.out HSL.out.1 hx6 (by rw [HSL.out.2]; omega) hw
        have hfd := hcur.found
        have hst : st'.serial = 1 ∧ st'.session = 1 := ⟨hw.serial.trans HSER.out.1, hw.session.trans HSER.out.2⟩
        have hcn : 0 ≤ st'.count ∧ st'.count ≤ 32 + 60 * (k : Int) + 18 := by have a := hw.c0; have b := hw.c1; have c := HCN.out; omega
        have O9 : Hid (∀ o, F.One T w L st' lv' ((w5.heap.size + 1, .cells #[.int .i64 0] 33) :: (S, .cells (Sl.cs s.next M) 72) :: (w5.heap.size, .cells #[.string x] 9) :: (w3.heap.size, .cells #[.pointer (some ⟨S, 0, none⟩)] 29) :: (M, F.med L.P 1 1) :: []) (w6.alloc o)) := fun o => o8.ofBelow (Below.alloc (Below.refl _ _) (Nat.le_refl _) o)
        have HOP : Hid (∀ o, Calls Tryz.prog 9 #[.pointer (some ⟨L.P, 0, none⟩)] (w6.alloc o) fun e w' => ∃ S2 M2 lv2, e = .returned (.tuple #[.pointer (some ⟨S2, 0, none⟩), .string x, .bool true, .bool true]) ∧ F.One T w L { st' with count := st'.count + 32 } lv2 ((w5.heap.size + 1, .cells #[.int .i64 0] 33) :: (S, .cells (Sl.cs s.next M) 72) :: (w5.heap.size, .cells #[.string x] 9) :: (w3.heap.size, .cells #[.pointer (some ⟨S, 0, none⟩)] 29) :: (M, F.med L.P 1 1) :: []) w') := fun o => by
          refine (opened_one (O9.out o) hst.1 (by
            intro p hp c fz
            simp only [List.mem_cons, List.not_mem_nil, or_false] at hp
            rcases hp with rfl | rfl | rfl | rfl | rfl
            · intro e; injection e with _ e _; exact absurd e (by decide)
            · intro e; injection e with _ e _; exact absurd e (by decide)
            · intro e; injection e with _ e _; exact absurd e (by decide)
            · intro e; injection e with _ e _; exact absurd e (by decide)
            · intro e; unfold F.med at e; injection e with _ e _; exact absurd e (by decide)) _ hcur.anc hw.down hw.there hw.aw hw.hw ⟨by omega, by omega⟩).mono ?_
          rintro e w' ⟨S2, M2, lv2, rfl, _, _, ho2⟩
          rw [hfd.1, decide_eq_true hfd.2.2.2.2]
          exact ⟨S2, M2, lv2, rfl, ho2.forget (by intro p hp; exact List.mem_cons_of_mem _ (List.mem_cons_of_mem _ hp))⟩
        have hsq : ∀ o, Calls Tryz.prog 15 #[.pointer (some ⟨S, 0, none⟩)] (w6.alloc o) fun e w' => e = .returned (.int .u64 ((k : Int) + 1)) ∧ w' = w6.alloc o := fun o => by
          have q := seq_any s.next S M (w6.alloc o) ((O9.out o).oth (S, .cells (Sl.cs s.next M) 72) (by simp)).1
          have e : ((s.next.seq : Nat) : Int) = (k : Int) + 1 := by show ((s.most + 1 : Nat) : Int) = _; rw [HSL.out.2]; rfl
          rw [e] at q; exact q
        have HSQ : Hid _ := hsq
        have y1 : ∀ o, (w6.alloc o).cell? ⟨w5.heap.size + 1, 0, none⟩ = some (.int .i64 0) := fun o => F.cell_of ((O9.out o).oth (w5.heap.size + 1, .cells #[.int .i64 0] 33) (by simp)).1 0
        have y2 : ∀ o, (w6.alloc o).cell? ⟨w3.heap.size, 0, none⟩ = some (.pointer (some ⟨S, 0, none⟩)) := fun o => F.cell_of ((O9.out o).oth (w3.heap.size, .cells #[.pointer (some ⟨S, 0, none⟩)] 29) (by simp)).1 0
        have HFIN : Hid (∀ lv2 w', F.One T w L { st' with count := st'.count + 32 } lv2 ((w5.heap.size + 1, .cells #[.int .i64 0] 33) :: (S, .cells (Sl.cs s.next M) 72) :: (w5.heap.size, .cells #[.string x] 9) :: (w3.heap.size, .cells #[.pointer (some ⟨S, 0, none⟩)] 29) :: (M, F.med L.P 1 1) :: []) w' → BkI T w L w3.heap.size S M (k + 1) w') := fun lv2 w' ho2 => by
          have q := hw.quiet HQ.out
          refine ⟨_, lv2, s.next, _, ho2.forget (by
            intro p hp
            simp only [List.mem_cons, List.not_mem_nil, or_false] at hp ⊢
            rcases hp with rfl | rfl | rfl <;> simp [*]), ⟨q.ln, q.loose, ⟨q.ok.size, q.ok.bytes⟩, q.n, q.n1, q.down, q.there, q.aw, q.hw⟩, hst.1, hst.2, ?_, hcur.slot, ?_, ⟨hcur.anc.n, hcur.anc.n1, ⟨hcur.anc.ok.size, hcur.anc.ok.bytes⟩, hcur.anc.tells, hcur.anc.few, hcur.anc.dat⟩, hcur.le⟩
          · show 0 ≤ st'.count + 32 ∧ st'.count + 32 ≤ 32 + 60 * ((k + 1 : Nat) : Int); omega
          · show s.most + 1 = k + 1; rw [HSL.out.2]
        have hkw : IntKind.u64.wrap ((k : Int) + 1) = (k : Int) + 1 := by rw [IntKind.wrap_u64]; omega
        clear hgd ho hw hkt o8 hcur hfd hst hcn hsq HO HQ HA HLE HCN HSER O9
        go_wp2_with fail
        go_call (HSQ.out _) as e w7 ⟨rfl, hw7⟩
        subst hw7
        clear HSQ y1 y2
        go_wp2_with fail
        go_call (HOP.out _) as e w8 ⟨S2, M2, lv8, rfl, o8⟩
        have y8 : w8.cell? ⟨w5.heap.size, 0, none⟩ = some (.string x) := F.cell_of (o8.oth (w5.heap.size, .cells #[.string x] 9) (by simp)).1 0
        have F8 : Hid _ := HFIN.out lv8 w8 o8
        clear HOP HFIN o8
        go_wp2
        go_roundw
        case rel => exact ⟨k + 1, by omega, by omega, rfl, F8.out⟩
        case measure => simp only [intOf]; omega
    · obtain ⟨st, lv, s, G, hO, hQ, hser, hses, hc, hslot, hmost, hA, hle⟩ := HI.out
      have HO : Hid _ := hO
      clear HI hO hQ hser hses hc hslot hmost hA hle
      have hsp : k = tn ∨ (k < tn ∧ k = 8) := by omega
      rcases hsp with rfl | ⟨hk3, rfl⟩
      · have hcn := count_one HO.out
        have l0 : w3.heap.size < wr.heap.size := HO.out.lts (w3.heap.size, .cells #[.pointer (some ⟨S, 0, none⟩)] 29) (by simp)
        have lS : S < wr.heap.size := HO.out.lts (S, .cells (Sl.cs s M) 72) (by simp)
        have lM : M < wr.heap.size := HO.out.lts (M, F.med L.P 1 1) (by simp)
        go_wp2_with fail
        go_call hcn as e w4 ⟨rfl, hw4⟩
        subst hw4
        clear hcn
        have e1 : (w4.alloc (.cells #[.int .i64 0] 33)).heap.size = w4.heap.size + 1 := by simp
        have o5 := (HO.out.alloc (.cells #[.int .i64 0] 33) (F.apart_of (by decide))).guarded
        rw [e1] at o5
        have o6 := o5.forget (oth' := (w4.heap.size, .cells #[.int .i64 0] 33) :: (w4.heap.size + 1 + 1, F.iob) :: (w4.heap.size + 1, F.bob) :: (w3.heap.size, .cells #[.pointer (some ⟨S, 0, none⟩)] 29) :: (S, .cells (Sl.cs s M) 72) :: (M, F.med L.P 1 1) :: []) (by
          intro p hp
          simp only [F.gob, List.mem_cons] at hp ⊢
          rcases hp with rfl | rfl | rfl | rfl | rfl | rfl | hp <;> simp [*])
        have hdo := op17 (Sb := w3.heap.size) (S := S) 0 o6 (by simp) (by
          intro p hp
          simp only [List.mem_cons, List.not_mem_nil, or_false] at hp
          rcases hp with rfl | rfl | rfl | rfl | rfl
          · show w4.heap.size + 1 + 1 ≠ _; omega
          · show w4.heap.size + 1 ≠ _; omega
          · show w3.heap.size ≠ _; omega
          · show S ≠ _; omega
          · show M ≠ _; omega)
        have hgd := F.guard_ok 17 #[.pointer (some ⟨w3.heap.size, 0, none⟩), .pointer (some ⟨w4.heap.size, 0, none⟩)] (fun W => F.One T w L st lv ((w4.heap.size, .cells #[.int .i64 2] 33) :: (w4.heap.size + 1 + 1, F.iob) :: (w4.heap.size + 1, F.bob) :: (w3.heap.size, .cells #[.pointer (some ⟨S, 0, none⟩)] 29) :: (S, .cells (Sl.cs s M) 72) :: (M, F.med L.P 1 1) :: []) W) (w4.alloc (.cells #[.int .i64 0] 33)) ent17 (hdo.mono (by
          rintro e W ⟨rfl, ho⟩
          rw [e1]
          exact ⟨rfl, (ho.oth (w4.heap.size + 1, F.bob) (by simp)).1, (ho.oth (w4.heap.size + 1 + 1, F.iob) (by simp)).1, ho⟩))
        rw [e1] at hgd
        clear hdo o5 o6 e1 HO
        go_wp2_with fail
        go_call hgd as e w6 ⟨rfl, W, ho, hkt⟩
        have o8 := (ho.forget (oth' := F.gob (w4.heap.size + 1) ((w4.heap.size, .cells #[.int .i64 2] 33) :: [])) (by
          intro p hp
          simp only [F.gob, List.mem_cons, List.not_mem_nil, or_false] at hp ⊢
          rcases hp with rfl | rfl | rfl <;> simp [*])).kt2 (by
          intro p hp
          simp only [List.mem_cons, List.not_mem_nil, or_false] at hp
          subst hp
          exact ⟨by show w4.heap.size ≠ _; omega, by show w4.heap.size ≠ _; omega⟩) hkt
        have O9 : Hid (∀ o, F.One T w L st lv ((w4.heap.size, .cells #[.int .i64 2] 33) :: []) (w6.alloc o)) := fun o => o8.ofBelow (Below.alloc (Below.refl _ _) (Nat.le_refl _) o)
        have y1 : ∀ o, (w6.alloc o).cell? ⟨w4.heap.size, 0, none⟩ = some (.int .i64 2) := fun o => F.cell_of ((O9.out o).oth (w4.heap.size, .cells #[.int .i64 2] 33) (by simp)).1 0
        have HCT : Hid (∀ o, Calls Tryz.prog 16 #[.pointer (some ⟨L.P, 0, none⟩)] (w6.alloc o) fun e w' => e = .returned (.int .i64 st.count) ∧ w' = w6.alloc o) := fun o => count_one (O9.out o)
        have HBE : Hid (∀ o, Below T w (w6.alloc o)) := fun o => (O9.out o).below
        clear hgd ho hkt o8 O9 l0 lS lM
        go_wp2_with fail
        go_call (HCT.out _) as e w7 ⟨rfl, hw7⟩
        subst hw7
        clear HCT y1
        go_wp2
        go_returns
        exact ⟨rfl, by rw [← HT.out]; exact HBE.out _⟩
      · have hcn := count_one HO.out
        have l0 : w3.heap.size < wr.heap.size := HO.out.lts (w3.heap.size, .cells #[.pointer (some ⟨S, 0, none⟩)] 29) (by simp)
        have lS : S < wr.heap.size := HO.out.lts (S, .cells (Sl.cs s M) 72) (by simp)
        have lM : M < wr.heap.size := HO.out.lts (M, F.med L.P 1 1) (by simp)
        go_wp2_with fail
        go_call hcn as e w4 ⟨rfl, hw4⟩
        subst hw4
        clear hcn
        have e1 : (w4.alloc (.cells #[.int .i64 0] 33)).heap.size = w4.heap.size + 1 := by simp
        have o5 := (HO.out.alloc (.cells #[.int .i64 0] 33) (F.apart_of (by decide))).guarded
        rw [e1] at o5
        have o6 := o5.forget (oth' := (w4.heap.size, .cells #[.int .i64 0] 33) :: (w4.heap.size + 1 + 1, F.iob) :: (w4.heap.size + 1, F.bob) :: (w3.heap.size, .cells #[.pointer (some ⟨S, 0, none⟩)] 29) :: (S, .cells (Sl.cs s M) 72) :: (M, F.med L.P 1 1) :: []) (by
          intro p hp
          simp only [F.gob, List.mem_cons] at hp ⊢
          rcases hp with rfl | rfl | rfl | rfl | rfl | rfl | hp <;> simp [*])
        have hdo := op17 (Sb := w3.heap.size) (S := S) 0 o6 (by simp) (by
          intro p hp
          simp only [List.mem_cons, List.not_mem_nil, or_false] at hp
          rcases hp with rfl | rfl | rfl | rfl | rfl
          · show w4.heap.size + 1 + 1 ≠ _; omega
          · show w4.heap.size + 1 ≠ _; omega
          · show w3.heap.size ≠ _; omega
          · show S ≠ _; omega
          · show M ≠ _; omega)
        have hgd := F.guard_ok 17 #[.pointer (some ⟨w3.heap.size, 0, none⟩), .pointer (some ⟨w4.heap.size, 0, none⟩)] (fun W => F.One T w L st lv ((w4.heap.size, .cells #[.int .i64 2] 33) :: (w4.heap.size + 1 + 1, F.iob) :: (w4.heap.size + 1, F.bob) :: (w3.heap.size, .cells #[.pointer (some ⟨S, 0, none⟩)] 29) :: (S, .cells (Sl.cs s M) 72) :: (M, F.med L.P 1 1) :: []) W) (w4.alloc (.cells #[.int .i64 0] 33)) ent17 (hdo.mono (by
          rintro e W ⟨rfl, ho⟩
          rw [e1]
          exact ⟨rfl, (ho.oth (w4.heap.size + 1, F.bob) (by simp)).1, (ho.oth (w4.heap.size + 1 + 1, F.iob) (by simp)).1, ho⟩))
        rw [e1] at hgd
        clear hdo o5 o6 e1 HO
        go_wp2_with fail
        go_call hgd as e w6 ⟨rfl, W, ho, hkt⟩
        have o8 := (ho.forget (oth' := F.gob (w4.heap.size + 1) ((w4.heap.size, .cells #[.int .i64 2] 33) :: [])) (by
          intro p hp
          simp only [F.gob, List.mem_cons, List.not_mem_nil, or_false] at hp ⊢
          rcases hp with rfl | rfl | rfl <;> simp [*])).kt2 (by
          intro p hp
          simp only [List.mem_cons, List.not_mem_nil, or_false] at hp
          subst hp
          exact ⟨by show w4.heap.size ≠ _; omega, by show w4.heap.size ≠ _; omega⟩) hkt
        have O9 : Hid (∀ o, F.One T w L st lv ((w4.heap.size, .cells #[.int .i64 2] 33) :: []) (w6.alloc o)) := fun o => o8.ofBelow (Below.alloc (Below.refl _ _) (Nat.le_refl _) o)
        have y1 : ∀ o, (w6.alloc o).cell? ⟨w4.heap.size, 0, none⟩ = some (.int .i64 2) := fun o => F.cell_of ((O9.out o).oth (w4.heap.size, .cells #[.int .i64 2] 33) (by simp)).1 0
        have HCT : Hid (∀ o, Calls Tryz.prog 16 #[.pointer (some ⟨L.P, 0, none⟩)] (w6.alloc o) fun e w' => e = .returned (.int .i64 st.count) ∧ w' = w6.alloc o) := fun o => count_one (O9.out o)
        have HBE : Hid (∀ o, Below T w (w6.alloc o)) := fun o => (O9.out o).below
        clear hgd ho hkt o8 O9 l0 lS lM
        go_wp2_with fail
        go_call (HCT.out _) as e w7 ⟨rfl, hw7⟩
        subst hw7
        clear HCT y1
        go_wp2
        go_returns
        exact ⟨rfl, by rw [← HT.out]; exact HBE.out _⟩
end Go.Proofs.YtknmipbjkkeebaaGreat
