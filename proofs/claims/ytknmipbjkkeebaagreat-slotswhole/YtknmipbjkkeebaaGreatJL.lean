/- SlotsRise: the walk. -/
import Derived.Test.YtknmipbjkkeebaaGreatJK
import Derived.StillTailTactics
namespace Go.Proofs.YtknmipbjkkeebaaGreat
open Go.RowKit
theorem still_tail {P : Program} {id : Nat} {Q : Exit → Act → World → Prop} {a : Act} {w : World} {l : List Oper} (n : Nat) (hm : P.follows .mixedOrders = true) (hB : Region.lexTailB .any l.toArray n = true)
    (h : ∀ w', w' = w.drew → wpStill P l.toArray w' (fun a' => wpList P l.toArray Q (l.drop n) a' w') (l.take n) a) : (Code.region id l.toArray true).wp P Q a w := wp_region_still_tail n hm hB (h _ rfl)
theorem ri_end {k : Nat} {T' : Nat → Nat → ByteArray} {G G' : Nat → Nat → Pg} {st st2 : F.St} {T : Nat → Nat → ByteArray} (h : Lies k T G st) (a : Lies (k + 1) T' G' st2) (b : Whl (G' (fnd G).other)) (c : (G' (fnd G).other 0).q = (fnd G).most + 1) : RI ((fnd G).most + 1) (k + 1) st2 := by
  have := other_le h.found
  exact ⟨T', G', a, Or.inr ⟨_, by omega, b, by omega⟩⟩
theorem ri_brk {last k : Nat} {T T' : Nat → Nat → ByteArray} {G G' : Nat → Nat → Pg} {st st2 : F.St} (h : Lies k T G st) (hl : last = 0 ∨ ∃ c, c < 2 ∧ Whl (G c) ∧ last ≤ (G c 0).q) (a : Lies (k + 1) T' G' st2) (b : ∀ k j, k < 2 → k ≠ (fnd G).other → j < 16 → G' k j = G k j) : RI last (k + 1) st2 := by
  have hf := h.found
  refine ⟨T', G', a, ?_⟩
  by_cases e : last = 0
  · exact Or.inl e
  · right
    have hs' : last ≤ (scan G 2).sl.seq := (rise_seq h hl).1
    have hne : (scan G 2).sl.seq ≠ 0 := by omega
    obtain ⟨h1, h2, h3, _⟩ := hf.some hne
    have hsl := hf.slot
    have ho := other_ne hf hne
    have hc : ∀ j, j < 16 → G' (scan G 2).sl.slot j = G (scan G 2).sl.slot j := fun j hj => b _ j (by omega) ho hj
    refine ⟨(scan G 2).sl.slot, by omega, whl_congr hc (h.size _ (by omega) 0 (by decide)).1 h2, ?_⟩
    rw [hc 0 (by decide), h3]; exact hs'
theorem seq_most {k : Nat} {T : Nat → Nat → ByteArray} {G : Nat → Nat → Pg} {st : F.St} (h : Lies k T G st) : (fnd G).seq ≤ (fnd G).most := by
  have hf := h.found
  by_cases e : (scan G 2).sl.seq = 0
  · show (scan G 2).sl.seq ≤ _; omega
  · obtain ⟨_, _, h3, _⟩ := hf.some e
    have := page_most G (scan G 2).sl.slot (by have := hf.slot; omega) 0 (by decide)
    show (scan G 2).sl.seq ≤ (scan G 2).sl.most; omega
/-- What a Try is, as it lies in memory. -/
structure TryAt (w : World) (LK a : Nat) (tx : ByteArray) (sz af : Int) (ca : Option Addr) (cn cc CK cO : Nat) (ch : Nat → Int) : Prop where
  tx : w.cell? ⟨LK, a, none⟩ = some (.string tx)
  sz : w.cell? ⟨LK, a + 1, none⟩ = some (.int .i64 sz)
  af : w.cell? ⟨LK, a + 2, none⟩ = some (.int .i64 af)
  cs : w.cell? ⟨LK, a + 5, none⟩ = some (.slice ca cn cc)
  le : cn ≤ cc
  mx : cc ≤ 9223372036854775807
  at0 : 0 < cn → ca = some ⟨CK, cO, none⟩
  row : ∀ j, j < cn → w.cell? ⟨CK, cO + j, none⟩ = some (.int .i64 (ch j))
/-- The choices that a crash is given. -/
theorem cut_choice (ca : Option Addr) (cn cc CK cO : Nat) (hle : cn ≤ cc) (hmx : cc ≤ 9223372036854775807) (hat : 0 < cn → ca = some ⟨CK, cO, none⟩) : ∃ c, F.ChL CK cO (min cn 20) 0 c ∧ ∀ W, (Instr.slice 23 (.slice ca cn cc) none (some (.int .i64 (min (cn : Int) 20))) none).run Tryz.prog W = .ok c W := by
  have hm : min (cn : Int) 20 = ((min cn 20 : Nat) : Int) := by omega
  have hb : (0 : Int) ≤ ((min cn 20 : Nat) : Int) ∧ ((min cn 20 : Nat) : Int) ≤ (cc : Int) := by omega
  refine ⟨.slice (if cc = 0 then ca else ca.map (·.add 0)) (min cn 20) cc, ⟨_, cc, rfl, by omega, hmx, fun h => ?_⟩, fun W => ?_⟩
  · have h0 : 0 < cn := by omega
    rw [if_neg (by omega), hat h0]
    rfl
  · rw [hm]
    have hi3 : (Tryz.prog.info? 3).isSome = true := by kernel_rfl
    obtain ⟨i3, hi3⟩ := Option.isSome_iff_exists.1 hi3
    have hb2 : min cn 20 ≤ cc := by omega
    simp [Instr.slice, run_underlying Tryz.underlying23, Instr.sliceBounds, Instr.sliceBound, asIntOf, sizeOf, typeInfo, hb, hb2, hi3]
/-- Where the rounds stand. -/
def RsI (b0 : Nat) (w : World) (L : F.Loc) (lv0 : Value) (B k last : Nat) (W : World) : Prop :=
  ∃ st lv, F.One b0 w L st lv ((B, .cells #[.int .i64 (k : Nat)] 3) :: (b0, .cells #[lv0] 43) :: []) W ∧ B ≠ b0 ∧ Rs k st ∧ RI last k st
/-- How many rounds are left. -/
def msr (ib : Value) (wr : World) : Nat := match ib with
  | .pointer (some a) => match wr.cell? a with
    | some v => 12 - (intOf v).toNat
    | none => 0
  | _ => 0
theorem msr_is {a : Addr} {wr : World} {k : Nat} (h : wr.cell? a = some (.int .i64 (k : Nat))) : msr (.pointer (some a)) wr = 12 - k := by
  unfold msr; simp [h, intOf]
set_option maxHeartbeats 8000000 in
set_option maxRecDepth 100000 in
theorem rise_walk (la : Option Addr) (ln lc LK lO : Nat) (txs : Nat → ByteArray) (szs afs : Nat → Int) (cas : Nat → Option Addr) (cns ccs CKs cOs : Nat → Nat) (chs : Nat → Nat → Int) (w : World) (hla : 0 < ln → la = some ⟨LK, lO, none⟩)
    (hrow : ∀ j, j < ln → TryAt w LK (lO + j * 6) (txs j) (szs j) (afs j) (cas j) (cns j) (ccs j) (CKs j) (cOs j) (chs j)) :
    Calls Tryz.prog 5 #[.slice la ln lc] w fun e w' => e = .returned (.bool true) ∧ Below w.heap.size w w' := by
  have HLA : Hid _ := hla
  have HROW : Hid _ := hrow
  clear hla hrow
  go_enter Tryz.func5, Tryz.ntmps5
  go_wp2_with fail
  go_call (awake9 _) as e w1 ⟨rfl, hb1⟩
  have hbx : w1.heap[w.heap.size]? = some (.cells #[.slice la ln lc] 43) := by
    rw [hb1.block _ (by simp)]
    exact F.heap_new _ _
  have hb0 : Below w.heap.size w w1 := (Below.alloc (Below.refl _ w) (Nat.le_refl _) _).trans (hb1.mono (by simp))
  have hmk := F.made_any w.heap.size w w1 [(w.heap.size, .cells #[.slice la ln lc] 43)] hb0 hb0.size (by
    intro p hp
    simp only [List.mem_cons, List.not_mem_nil, or_false] at hp
    subst hp
    exact ⟨hbx, F.apart_of (by decide), Nat.le_refl _⟩) 1 (by decide) (by decide) 32 (by decide) (by decide)
  clear hb1 hbx hb0
  obtain ⟨T, hT⟩ : ∃ T, T = w.heap.size := ⟨_, rfl⟩
  rw [← hT] at hmk ⊢
  have HT : Hid _ := hT
  clear hT
  go_wp2_with fail
  go_call hmk as e w2 ⟨L, M0, rfl, o2⟩
  have o3 := (o2.alloc (.cells #[.int .i64 0] 3) (F.apart_of (by decide))).forget (oth' := (w2.heap.size, .cells #[.int .i64 ((0 : Nat) : Int)] 3) :: (T, .cells #[.slice la ln lc] 43) :: []) (by
    intro p hp
    simp only [List.mem_cons, List.not_mem_nil, or_false] at hp ⊢
    rcases hp with rfl | rfl <;> simp)
  have H0 : Hid (RsI T w L (.slice la ln lc) w2.heap.size 0 0 (w2.alloc (.cells #[.int .i64 0] 3))) :=
    ⟨_, _, o3, fun e => by have := o2.lts (T, .cells #[.slice la ln lc] 43) (by simp); simp at this; omega, ⟨rfl, rfl, rfl, rfl, rfl, rfl, by decide, by decide, by decide, by decide, _, _, F.dv0 1 32⟩, _, _, lies0 1 32 (by decide) (by decide), Or.inl rfl⟩
  clear hmk o2 o3
  go_wp2
  go_loopw [5, 6] (fun lst ib wr => ∃ k last B : Nat, k ≤ ln ∧ k ≤ 12 ∧ lst = .int .u64 (last : Nat) ∧ ib = .pointer (some ⟨B, 0, none⟩) ∧ Hid (RsI T w L (.slice la ln lc) B k last wr)) (fun _ ib wr => msr ib wr)
  case atStart => exact ⟨0, 0, w2.heap.size, by omega, by omega, rfl, rfl, H0.out⟩
  case round =>
    clear H0
    obtain ⟨k, last, B, hk1, hk2, rfl, rfl, HI⟩ := hrel
    obtain ⟨st, lv, hO, hBT, hR, hRI⟩ := HI.out
    have yB : wr.cell? ⟨B, 0, none⟩ = some (.int .i64 (k : Nat)) := F.cell_of (hO.oth (B, .cells #[.int .i64 (k : Nat)] 3) (by simp)).1 0
    have yT : wr.cell? ⟨T, 0, none⟩ = some (.slice la ln lc) := F.cell_of (hO.oth (T, .cells #[.slice la ln lc] 43) (by simp)).1 0
    have HMS : Hid (msr (.pointer (some ⟨B, 0, none⟩)) wr = 12 - k) := msr_is yB
    clear HI
    by_cases hkt : k < ln ∧ k < 12
    · obtain ⟨hk3, hk4⟩ := hkt
      obtain rfl := HLA.out (by omega)
      obtain ⟨Tt, G, hL, hlast⟩ := hRI
      obtain ⟨ats, now, hd⟩ := hR.dv
      have hop := opened_one hO hR.serial (by
        intro p hp c fz
        simp only [List.mem_cons, List.not_mem_nil, or_false] at hp
        rcases hp with rfl | rfl
        · intro e; injection e with _ e _; exact absurd e (by decide)
        · intro e; injection e with _ e _; exact absurd e (by decide)) G hL.anc hR.down hR.there hR.aw hR.hw ⟨hR.c0, by have := hR.c1; omega⟩
      have hsq := rise_seq hL hlast
      have hsm := seq_most hL
      rw [hsq.2] at hop
      have hin := HROW.out k hk3
      have hkT : T = w.heap.size := HT.out
      have HL : Hid _ := hL
      have HD : Hid _ := hd
      have HR : Hid _ := hR
      have HLA2 : Hid _ := hlast
      have HTR : Hid (∀ W, Below T w W → TryAt W LK (lO + k * 6) (txs k) (szs k) (afs k) (cas k) (cns k) (ccs k) (CKs k) (cOs k) (chs k)) := fun W hb => by
        have cl : ∀ a v, w.cell? a = some v → W.cell? a = some v := fun a v q => (hb.cell (by rw [hkT]; exact World.block_lt_of_cell? w _ q)).trans q
        exact ⟨cl _ _ hin.tx, cl _ _ hin.sz, cl _ _ hin.af, cl _ _ hin.cs, hin.le, hin.mx, hin.at0, fun j hj => cl _ _ (hin.row j hj)⟩
      have lB := hO.lts (B, .cells #[.int .i64 (k : Nat)] 3) (by simp)
      have lT := hO.lts (T, .cells #[.slice (some ⟨LK, lO, none⟩) ln lc] 43) (by simp)
      simp only at lB lT
      obtain ⟨sq, hsqe⟩ : ∃ sq, sq = (fnd G).seq := ⟨_, rfl⟩
      rw [← hsqe] at hop hsq hsm
      have HSE : Hid (sq = (fnd G).seq) := hsqe
      clear hsqe
      have hseq : last ≤ sq := hsq.1
      have hnl : ¬ sq < last := by omega
      clear hsq hin hO hd hR hL hlast hkT
      go_wp2_with fail
      go_call hop as e w3 ⟨S, M, lv3, rfl, hS, hMS, o3⟩
      clear hop yB yT
      have lS := o3.lts (S, .cells (Sl.cs (fnd G) M) 72) (List.mem_cons_self ..)
      have lM := o3.lts (M, F.med L.P st.serial st.session) (by simp)
      simp only at lS lM
      have o4 := (o3.alloc (.cells #[.pointer (some ⟨S, 0, none⟩)] 29) (F.apart_of (by decide))).forget (oth' := (S, .cells (Sl.cs (fnd G) M) 72) :: (w3.heap.size, .cells #[.pointer (some ⟨S, 0, none⟩)] 29) :: (M, F.med L.P st.serial st.session) :: (B, .cells #[.int .i64 (k : Nat)] 3) :: (T, .cells #[.slice (some ⟨LK, lO, none⟩) ln lc] 43) :: []) (by
        intro p hp
        simp only [List.mem_cons, List.not_mem_nil, or_false] at hp ⊢
        rcases hp with rfl | rfl | rfl | rfl | rfl
        · right; left; rfl
        · left; rfl
        · simp
        · simp
        · simp)
      have HLS : Hid (B < S ∧ T < S ∧ M ≠ S ∧ S < w3.heap.size ∧ M < w3.heap.size ∧ B ≠ T) := ⟨by omega, by omega, hMS, lS, lM, hBT⟩
      clear o3 hS hMS lS lM lB lT hBT
      have HS1 : Hid (∀ W stx lvx, F.One T w L stx lvx ((S, .cells (Sl.cs (fnd G) M) 72) :: (w3.heap.size, .cells #[.pointer (some ⟨S, 0, none⟩)] 29) :: (M, F.med L.P st.serial st.session) :: (B, .cells #[.int .i64 (k : Nat)] 3) :: (T, .cells #[.slice (some ⟨LK, lO, none⟩) ln lc] 43) :: []) W → Calls Tryz.prog 15 #[.pointer (some ⟨S, 0, none⟩)] W fun e w' => e = .returned (.int .u64 (sq : Nat)) ∧ w' = W) := fun W stx lvx ho => by
        rw [HSE.out]; exact seq_any (fnd G) S M W (ho.oth _ (List.mem_cons_self ..)).1
      have O4 : Hid _ := o4
      have hs4 := HS1.out _ _ _ o4
      have zS : (w3.alloc (.cells #[.pointer (some ⟨S, 0, none⟩)] 29)).cell? ⟨w3.heap.size, 0, none⟩ = some (.pointer (some ⟨S, 0, none⟩)) := F.cell_of (o4.oth (w3.heap.size, .cells #[.pointer (some ⟨S, 0, none⟩)] 29) (by simp)).1 0
      have zB : (w3.alloc (.cells #[.pointer (some ⟨S, 0, none⟩)] 29)).cell? ⟨B, 0, none⟩ = some (.int .i64 (k : Nat)) := F.cell_of (o4.oth (B, .cells #[.int .i64 (k : Nat)] 3) (by simp)).1 0
      have zT : (w3.alloc (.cells #[.pointer (some ⟨S, 0, none⟩)] 29)).cell? ⟨T, 0, none⟩ = some (.slice (some ⟨LK, lO, none⟩) ln lc) := F.cell_of (o4.oth (T, .cells #[.slice (some ⟨LK, lO, none⟩) ln lc] 43) (by simp)).1 0
      have zA := (HTR.out _ o4.below).af
      clear o4
      go_wp2_with fail
      go_call hs4 as e w5 ⟨rfl, hw5⟩
      subst hw5
      go_wp2_with fail
      go_call hs4 as e w5 ⟨rfl, hw5⟩
      subst hw5
      have hki : (k : Int) < (ln : Int) := by omega
      by_cases haf : 0 ≤ afs k
      · have haf2 : afs k ≥ 0 := haf
        have hhl := O4.out.halt (min (afs k) 40) (by omega)
        go_wp2_with fail
        go_call hhl as e w5 ⟨rfl, o5⟩
        have hlS := HLS.out
        have L1 : Lies k Tt G { st with count := st.count + 32, hw := true, hl := min (afs k) 40 } := HL.out.same rfl ⟨HL.out.ok.size, HL.out.ok.bytes⟩ (fun _ _ => rfl)
        have D1 : F.Dv { st with count := st.count + 32, hw := true, hl := min (afs k) 40 } ats now now := HD.out.same rfl rfl rfl rfl
        have R1 : Rt k { st with count := st.count + 32, hw := true, hl := min (afs k) 40 } := ⟨HR.out.serial, HR.out.there, HR.out.n, HR.out.s0, HR.out.s1, by have := HR.out.c0; show 0 ≤ st.count + 32; omega, by have := HR.out.c1; show st.count + 32 ≤ _; omega⟩
        have M1 : (F.Mode.halt (min (afs k) 40).toNat).is { st with count := st.count + 32, hw := true, hl := min (afs k) 40 } := ⟨HR.out.down, HR.out.aw, rfl, by show min (afs k) 40 = _; omega, by omega⟩
        have lw5 : S < w5.heap.size := o5.lts (S, .cells (Sl.cs (fnd G) M) 72) (List.mem_cons_self ..)
        have hg := wguard (now := now) 22 #[.pointer (some ⟨w3.heap.size, 0, none⟩), .pointer (some ⟨T, 0, none⟩), .pointer (some ⟨B, 0, none⟩)] ent22 o5 (fun W oth2 hsub hsup hW => op22 (LK := LK) (lO := lO) (ln := ln) (lc := lc) (k := k) (tx := txs k) (sz := szs k) (fnd G) hW (hsub _ (by simp)) (by
            intro p hp
            rcases hsup p hp with hq | hq
            · simp only [List.mem_cons, List.not_mem_nil, or_false] at hq
              rcases hq with rfl | rfl | rfl | rfl
              · show w3.heap.size ≠ S; omega
              · show M ≠ S; omega
              · show B ≠ S; omega
              · show T ≠ S; omega
            · omega) (hsub _ (by simp)) (hsub _ (by simp)) (hsub _ (by simp)) hk3 (by omega) (fun W hb => ⟨(HTR.out W hb).tx, (HTR.out W hb).sz⟩) HL.out.found.slot (by have : (fnd G).most ≤ k := HL.out.most; omega) D1 (by have := R1.n; omega) (by have := R1.n; omega) R1.there (F.Mode.halt (min (afs k) 40).toNat) M1 (fun e => by cases e) ⟨R1.c0, by have := R1.c1; omega⟩)
        have hs5 := HS1.out _ _ _ o5
        have vS : w5.cell? ⟨w3.heap.size, 0, none⟩ = some (.pointer (some ⟨S, 0, none⟩)) := F.cell_of (o5.oth (w3.heap.size, .cells #[.pointer (some ⟨S, 0, none⟩)] 29) (by simp)).1 0
        have hmf : ∀ (fn : Fn) (first cap : Array Value) (w : World), (Instr.makeFunc fn first cap).run Tryz.prog w = .ok (.func fn first cap) w := fun _ _ _ _ => rfl
        have L1h : Hid _ := L1
        have D1h : Hid _ := D1
        have R1h : Hid _ := R1
        clear o5 L1 D1 R1 M1 hs4 zS zB zT zA O4
        go_wp2_with fail
        go_call hs5 as e w6 ⟨rfl, hw6⟩
        subst hw6
        go_wp2_with fail
        go_call hg as e w7 (⟨rfl, x, hx, hE⟩ | ⟨ea, eb, rfl, x, hx, hE⟩)
        case hr.inr =>
          have hE2 := hE.ofBelow (W' := w7.alloc (.cells #[.int .i64 ea, .int .i64 eb] 35)) (Below.alloc (Below.refl _ _) (Nat.le_refl _) _)
          have hE3 := hE2.ofBelow (Below.refl _ _).drew
          have HE : Hid _ := hE3
          obtain ⟨stx, lvx, ox⟩ := hE3.ones
          have xB : (w7.alloc (.cells #[.int .i64 ea, .int .i64 eb] 35)).drew.cell? ⟨B, 0, none⟩ = some (.int .i64 (k : Nat)) := F.cell_of (ox.oth (B, .cells #[.int .i64 (k : Nat)] 3) (by simp)).1 0
          have xT : (w7.alloc (.cells #[.int .i64 ea, .int .i64 eb] 35)).drew.cell? ⟨T, 0, none⟩ = some (.slice (some ⟨LK, lO, none⟩) ln lc) := F.cell_of (ox.oth (T, .cells #[.slice (some ⟨LK, lO, none⟩) ln lc] 43) (by simp)).1 0
          have htr := HTR.out _ ox.below
          have xC := htr.cs
          obtain ⟨cv, hcv, hcr⟩ := cut_choice (cas k) (cns k) (ccs k) (CKs k) (cOs k) htr.le htr.mx htr.at0
          have hcr2 := crash_brk HE.out hx R1h.out (by omega) L1h.out D1h.out (CKs k) (cOs k) (min (cns k) 20) cv (chs k) hcv (fun W hb j hj => (HTR.out W hb).row j (by omega))
          have HRI : Hid (∀ st2, (∃ T' G', Lies (k + 1) T' G' st2 ∧ T' = updT Tt (fnd G).other ((fnd G).most + 1) x ∧ ∀ k j, k < 2 → k ≠ (fnd G).other → j < 16 → G' k j = G k j) → RI last (k + 1) st2) := fun st2 ⟨T', G', a, _, c⟩ => ri_brk HL.out HLA2.out a c
          clear hE hE2 hE3 ox hg hs5 vS htr HE
          generalize cas k = cak at *
          generalize cns k = cnk at *
          generalize ccs k = cck at *
          go_wp2_with fail
          refine still_tail 14 (by kernel_rfl) (by kernel_rfl) (fun w8 hw8 => ?_)
          rw [← hw8] at xB xT xC hcr2
          clear hw8
          simp only [List.take_succ_cons, List.take_zero, List.drop_succ_cons, List.drop_zero]
          still_step
          still_step
          still_step
          still_step
          still_step
          still_step
          still_step
          still_step
          still_step
          still_step
          still_step
          still_step
          still_step
          still_step
          refine wpStill_nil ?_
          change wpList _ _ _ _ _ _
          go_wp2_with fail
          go_call hcr2 as e w9 ⟨rfl, st2, lv2, o9, r9, hx9⟩
          have r9i := HRI.out st2 hx9
          have yB9 : w9.cell? ⟨B, 0, none⟩ = some (.int .i64 (k : Nat)) := F.cell_of (o9.oth (B, .cells #[.int .i64 (k : Nat)] 3) (by simp)).1 0
          have l9T : T < w9.heap.size := o9.lts (T, .cells #[.slice (some ⟨LK, lO, none⟩) ln lc] 43) (by simp)
          have o10 := (o9.alloc (.cells #[.int .i64 ((k : Int) + 1)] 3) (F.apart_of (by decide))).forget (oth' := (w9.heap.size, .cells #[.int .i64 ((k + 1 : Nat) : Int)] 3) :: (T, .cells #[.slice (some ⟨LK, lO, none⟩) ln lc] 43) :: []) (by
            intro p hp
            simp only [List.mem_cons, List.not_mem_nil, or_false] at hp ⊢
            rcases hp with rfl | rfl <;> simp)
          have F10 : Hid (RsI T w L (.slice (some ⟨LK, lO, none⟩) ln lc) w9.heap.size (k + 1) last (w9.alloc (.cells #[.int .i64 ((k : Int) + 1)] 3))) := ⟨st2, lv2, o10, by omega, r9, r9i⟩
          have hmsr : Hid (msr (.pointer (some ⟨w9.heap.size, 0, none⟩)) (w9.alloc (.cells #[.int .i64 ((k : Int) + 1)] 3)) = 12 - (k + 1)) := msr_is (k := k + 1) (F.cell_of (o10.oth (w9.heap.size, .cells #[.int .i64 ((k + 1 : Nat) : Int)] 3) (by simp)).1 0)
          clear o9 r9 hx9 r9i o10 hcr2 HRI xB xT xC
          go_wp2
          go_roundw
          case rel => exact ⟨k + 1, last, w9.heap.size, by omega, by omega, rfl, rfl, F10.out⟩
          case measure =>
            have a := hmsr.out
            have b := HMS.out
            rw [b]
            first
              | (rw [a]; omega)
              | (refine Nat.lt_of_le_of_lt (Nat.le_of_eq a) ?_; omega)
        have hE2 := hE.ofBelow (W' := w7.alloc (.cells #[.int .i64 0, .int .i64 0] 35)) (Below.alloc (Below.refl _ _) (Nat.le_refl _) _)
        obtain ⟨nq, hnq⟩ : ∃ nq, nq = (fnd G).most + 1 := ⟨_, rfl⟩
        have hE3 := hE2.ofBelow (Below.refl _ _).drew
        have HE : Hid _ := hE3
        obtain ⟨stx, lvx, ox⟩ := hE2.ones
        have hs7 := seq_any _ S M _ (ox.oth _ (List.mem_cons_self ..)).1
        replace hs7 : Calls Tryz.prog 15 #[.pointer (some ⟨S, 0, none⟩)] (w7.alloc (.cells #[.int .i64 0, .int .i64 0] 35)) fun e w' => e = .returned (.int .u64 (nq : Nat)) ∧ w' = (w7.alloc (.cells #[.int .i64 0, .int .i64 0] 35)) := by rw [hnq]; exact hs7
        have xS : (w7.alloc (.cells #[.int .i64 0, .int .i64 0] 35)).cell? ⟨w3.heap.size, 0, none⟩ = some (.pointer (some ⟨S, 0, none⟩)) := F.cell_of (ox.oth (w3.heap.size, .cells #[.pointer (some ⟨S, 0, none⟩)] 29) (by simp)).1 0
        obtain ⟨sty, lvy, oy⟩ := hE3.ones
        have xB : (w7.alloc (.cells #[.int .i64 0, .int .i64 0] 35)).drew.cell? ⟨B, 0, none⟩ = some (.int .i64 (k : Nat)) := F.cell_of (oy.oth (B, .cells #[.int .i64 (k : Nat)] 3) (by simp)).1 0
        have xT : (w7.alloc (.cells #[.int .i64 0, .int .i64 0] 35)).drew.cell? ⟨T, 0, none⟩ = some (.slice (some ⟨LK, lO, none⟩) ln lc) := F.cell_of (oy.oth (T, .cells #[.slice (some ⟨LK, lO, none⟩) ln lc] 43) (by simp)).1 0
        have htr := HTR.out _ oy.below
        have xC := htr.cs
        obtain ⟨cv, hcv, hcr⟩ := cut_choice (cas k) (cns k) (ccs k) (CKs k) (cOs k) htr.le htr.mx htr.at0
        have hcr2 := crash_end HE.out hx R1h.out (by omega) L1h.out D1h.out (CKs k) (cOs k) (min (cns k) 20) cv (chs k) hcv (fun W hb j hj => (HTR.out W hb).row j (by omega))
        have HRI : Hid (∀ st2, (∃ T' G', Lies (k + 1) T' G' st2 ∧ Whl (G' (fnd G).other) ∧ (G' (fnd G).other 0).q = (fnd G).most + 1 ∧ T' = updT Tt (fnd G).other ((fnd G).most + 1) x ∧ ∀ k j, k ≠ (fnd G).other → G' k j = G k j) → RI nq (k + 1) st2) := fun st2 ⟨T', G', a, b, c, _⟩ => by rw [hnq]; exact ri_end HL.out a b c
        have hnle : ¬ ((nq : Nat) : Int) ≤ (sq : Int) := by omega
        have HNQ : Hid _ := hnq
        clear hnq
        clear hE hE2 hE3 ox oy hg hs5 vS htr HE
        generalize cas k = cak at *
        generalize cns k = cnk at *
        generalize ccs k = cck at *
        go_wp2_with fail
        go_call hs7 as e w8 ⟨rfl, hw8⟩
        subst hw8
        go_wp2_with fail
        go_call hs7 as e w8 ⟨rfl, hw8⟩
        subst hw8
        go_wp2_with fail
        refine still_tail 14 (by kernel_rfl) (by kernel_rfl) (fun w8 hw8 => ?_)
        rw [← hw8] at xB xT xC hcr2
        clear hw8
        simp only [List.take_succ_cons, List.take_zero, List.drop_succ_cons, List.drop_zero]
        still_step
        still_step
        still_step
        still_step
        still_step
        still_step
        still_step
        still_step
        still_step
        still_step
        still_step
        still_step
        still_step
        still_step
        refine wpStill_nil ?_
        change wpList _ _ _ _ _ _
        go_wp2_with fail
        go_call hcr2 as e w9 ⟨rfl, st2, lv2, o9, r9, hx9⟩
        have r9i := HRI.out st2 hx9
        have yB9 : w9.cell? ⟨B, 0, none⟩ = some (.int .i64 (k : Nat)) := F.cell_of (o9.oth (B, .cells #[.int .i64 (k : Nat)] 3) (by simp)).1 0
        have l9T : T < w9.heap.size := o9.lts (T, .cells #[.slice (some ⟨LK, lO, none⟩) ln lc] 43) (by simp)
        have o10 := (o9.alloc (.cells #[.int .i64 ((k : Int) + 1)] 3) (F.apart_of (by decide))).forget (oth' := (w9.heap.size, .cells #[.int .i64 ((k + 1 : Nat) : Int)] 3) :: (T, .cells #[.slice (some ⟨LK, lO, none⟩) ln lc] 43) :: []) (by
          intro p hp
          simp only [List.mem_cons, List.not_mem_nil, or_false] at hp ⊢
          rcases hp with rfl | rfl <;> simp)
        have F10 : Hid (RsI T w L (.slice (some ⟨LK, lO, none⟩) ln lc) w9.heap.size (k + 1) nq (w9.alloc (.cells #[.int .i64 ((k : Int) + 1)] 3))) := ⟨st2, lv2, o10, by omega, r9, r9i⟩
        have hmsr : Hid (msr (.pointer (some ⟨w9.heap.size, 0, none⟩)) (w9.alloc (.cells #[.int .i64 ((k : Int) + 1)] 3)) = 12 - (k + 1)) := msr_is (k := k + 1) (F.cell_of (o10.oth (w9.heap.size, .cells #[.int .i64 ((k + 1 : Nat) : Int)] 3) (by simp)).1 0)
        clear o9 r9 hx9 r9i o10 hcr2 HRI xB xT xC
        go_wp2
        go_roundw
        case rel => exact ⟨k + 1, nq, w9.heap.size, by omega, by omega, rfl, rfl, F10.out⟩
        case measure =>
          have a := hmsr.out
          have b := HMS.out
          rw [b]
          first
            | (rw [a]; omega)
            | (refine Nat.lt_of_le_of_lt (Nat.le_of_eq a) ?_; omega)
      · have haf2 : ¬ afs k ≥ 0 := haf
        have o5 := O4.out
        obtain ⟨w5, hw5⟩ : ∃ w5, w5 = w3.alloc (.cells #[.pointer (some ⟨S, 0, none⟩)] 29) := ⟨_, rfl⟩
        rw [← hw5] at o5 zS zB zT zA hs4 ⊢
        have hlS := HLS.out
        have L1 : Lies k Tt G { st with count := st.count + 32 } := HL.out.same rfl ⟨HL.out.ok.size, HL.out.ok.bytes⟩ (fun _ _ => rfl)
        have D1 : F.Dv { st with count := st.count + 32 } ats now now := HD.out.same rfl rfl rfl rfl
        have R1 : Rt k { st with count := st.count + 32 } := ⟨HR.out.serial, HR.out.there, HR.out.n, HR.out.s0, HR.out.s1, by have := HR.out.c0; show 0 ≤ st.count + 32; omega, by have := HR.out.c1; show st.count + 32 ≤ _; omega⟩
        have M1 : (F.Mode.idle).is { st with count := st.count + 32 } := ⟨HR.out.down, HR.out.aw, HR.out.hw⟩
        have lw5 : S < w5.heap.size := o5.lts (S, .cells (Sl.cs (fnd G) M) 72) (List.mem_cons_self ..)
        have hg := wguard (now := now) 22 #[.pointer (some ⟨w3.heap.size, 0, none⟩), .pointer (some ⟨T, 0, none⟩), .pointer (some ⟨B, 0, none⟩)] ent22 o5 (fun W oth2 hsub hsup hW => op22 (LK := LK) (lO := lO) (ln := ln) (lc := lc) (k := k) (tx := txs k) (sz := szs k) (fnd G) hW (hsub _ (by simp)) (by
            intro p hp
            rcases hsup p hp with hq | hq
            · simp only [List.mem_cons, List.not_mem_nil, or_false] at hq
              rcases hq with rfl | rfl | rfl | rfl
              · show w3.heap.size ≠ S; omega
              · show M ≠ S; omega
              · show B ≠ S; omega
              · show T ≠ S; omega
            · omega) (hsub _ (by simp)) (hsub _ (by simp)) (hsub _ (by simp)) hk3 (by omega) (fun W hb => ⟨(HTR.out W hb).tx, (HTR.out W hb).sz⟩) HL.out.found.slot (by have : (fnd G).most ≤ k := HL.out.most; omega) D1 (by have := R1.n; omega) (by have := R1.n; omega) R1.there (F.Mode.idle) M1 (fun e => by cases e) ⟨R1.c0, by have := R1.c1; omega⟩)
        have hs5 := HS1.out _ _ _ o5
        have vS : w5.cell? ⟨w3.heap.size, 0, none⟩ = some (.pointer (some ⟨S, 0, none⟩)) := F.cell_of (o5.oth (w3.heap.size, .cells #[.pointer (some ⟨S, 0, none⟩)] 29) (by simp)).1 0
        have hmf : ∀ (fn : Fn) (first cap : Array Value) (w : World), (Instr.makeFunc fn first cap).run Tryz.prog w = .ok (.func fn first cap) w := fun _ _ _ _ => rfl
        have L1h : Hid _ := L1
        have D1h : Hid _ := D1
        have R1h : Hid _ := R1
        clear o5 L1 D1 R1 M1 hs4 hw5 O4
        go_wp2_with fail
        go_call hs5 as e w6 ⟨rfl, hw6⟩
        subst hw6
        go_wp2_with fail
        go_call hg as e w7 (⟨rfl, x, hx, hE⟩ | ⟨ea, eb, rfl, x, hx, hE⟩)
        case hr.inr =>
          have hE2 := hE.ofBelow (W' := w7.alloc (.cells #[.int .i64 ea, .int .i64 eb] 35)) (Below.alloc (Below.refl _ _) (Nat.le_refl _) _)
          have hE3 := hE2.ofBelow (Below.refl _ _).drew
          have HE : Hid _ := hE3
          obtain ⟨stx, lvx, ox⟩ := hE3.ones
          have xB : (w7.alloc (.cells #[.int .i64 ea, .int .i64 eb] 35)).drew.cell? ⟨B, 0, none⟩ = some (.int .i64 (k : Nat)) := F.cell_of (ox.oth (B, .cells #[.int .i64 (k : Nat)] 3) (by simp)).1 0
          have xT : (w7.alloc (.cells #[.int .i64 ea, .int .i64 eb] 35)).drew.cell? ⟨T, 0, none⟩ = some (.slice (some ⟨LK, lO, none⟩) ln lc) := F.cell_of (ox.oth (T, .cells #[.slice (some ⟨LK, lO, none⟩) ln lc] 43) (by simp)).1 0
          have htr := HTR.out _ ox.below
          have xC := htr.cs
          obtain ⟨cv, hcv, hcr⟩ := cut_choice (cas k) (cns k) (ccs k) (CKs k) (cOs k) htr.le htr.mx htr.at0
          have hcr2 := crash_brk HE.out hx R1h.out (by omega) L1h.out D1h.out (CKs k) (cOs k) (min (cns k) 20) cv (chs k) hcv (fun W hb j hj => (HTR.out W hb).row j (by omega))
          have HRI : Hid (∀ st2, (∃ T' G', Lies (k + 1) T' G' st2 ∧ T' = updT Tt (fnd G).other ((fnd G).most + 1) x ∧ ∀ k j, k < 2 → k ≠ (fnd G).other → j < 16 → G' k j = G k j) → RI last (k + 1) st2) := fun st2 ⟨T', G', a, _, c⟩ => ri_brk HL.out HLA2.out a c
          clear hE hE2 hE3 ox hg hs5 vS htr HE
          generalize cas k = cak at *
          generalize cns k = cnk at *
          generalize ccs k = cck at *
          go_wp2_with fail
          refine still_tail 14 (by kernel_rfl) (by kernel_rfl) (fun w8 hw8 => ?_)
          rw [← hw8] at xB xT xC hcr2
          clear hw8
          simp only [List.take_succ_cons, List.take_zero, List.drop_succ_cons, List.drop_zero]
          still_step
          still_step
          still_step
          still_step
          still_step
          still_step
          still_step
          still_step
          still_step
          still_step
          still_step
          still_step
          still_step
          still_step
          refine wpStill_nil ?_
          change wpList _ _ _ _ _ _
          go_wp2_with fail
          go_call hcr2 as e w9 ⟨rfl, st2, lv2, o9, r9, hx9⟩
          have r9i := HRI.out st2 hx9
          have yB9 : w9.cell? ⟨B, 0, none⟩ = some (.int .i64 (k : Nat)) := F.cell_of (o9.oth (B, .cells #[.int .i64 (k : Nat)] 3) (by simp)).1 0
          have l9T : T < w9.heap.size := o9.lts (T, .cells #[.slice (some ⟨LK, lO, none⟩) ln lc] 43) (by simp)
          have o10 := (o9.alloc (.cells #[.int .i64 ((k : Int) + 1)] 3) (F.apart_of (by decide))).forget (oth' := (w9.heap.size, .cells #[.int .i64 ((k + 1 : Nat) : Int)] 3) :: (T, .cells #[.slice (some ⟨LK, lO, none⟩) ln lc] 43) :: []) (by
            intro p hp
            simp only [List.mem_cons, List.not_mem_nil, or_false] at hp ⊢
            rcases hp with rfl | rfl <;> simp)
          have F10 : Hid (RsI T w L (.slice (some ⟨LK, lO, none⟩) ln lc) w9.heap.size (k + 1) last (w9.alloc (.cells #[.int .i64 ((k : Int) + 1)] 3))) := ⟨st2, lv2, o10, by omega, r9, r9i⟩
          have hmsr : Hid (msr (.pointer (some ⟨w9.heap.size, 0, none⟩)) (w9.alloc (.cells #[.int .i64 ((k : Int) + 1)] 3)) = 12 - (k + 1)) := msr_is (k := k + 1) (F.cell_of (o10.oth (w9.heap.size, .cells #[.int .i64 ((k + 1 : Nat) : Int)] 3) (by simp)).1 0)
          clear o9 r9 hx9 r9i o10 hcr2 HRI xB xT xC
          go_wp2
          go_roundw
          case rel => exact ⟨k + 1, last, w9.heap.size, by omega, by omega, rfl, rfl, F10.out⟩
          case measure =>
            have a := hmsr.out
            have b := HMS.out
            rw [b]
            first
              | (rw [a]; omega)
              | (refine Nat.lt_of_le_of_lt (Nat.le_of_eq a) ?_; omega)
        have hE2 := hE.ofBelow (W' := w7.alloc (.cells #[.int .i64 0, .int .i64 0] 35)) (Below.alloc (Below.refl _ _) (Nat.le_refl _) _)
        obtain ⟨nq, hnq⟩ : ∃ nq, nq = (fnd G).most + 1 := ⟨_, rfl⟩
        have hE3 := hE2.ofBelow (Below.refl _ _).drew
        have HE : Hid _ := hE3
        obtain ⟨stx, lvx, ox⟩ := hE2.ones
        have hs7 := seq_any _ S M _ (ox.oth _ (List.mem_cons_self ..)).1
        replace hs7 : Calls Tryz.prog 15 #[.pointer (some ⟨S, 0, none⟩)] (w7.alloc (.cells #[.int .i64 0, .int .i64 0] 35)) fun e w' => e = .returned (.int .u64 (nq : Nat)) ∧ w' = (w7.alloc (.cells #[.int .i64 0, .int .i64 0] 35)) := by rw [hnq]; exact hs7
        have xS : (w7.alloc (.cells #[.int .i64 0, .int .i64 0] 35)).cell? ⟨w3.heap.size, 0, none⟩ = some (.pointer (some ⟨S, 0, none⟩)) := F.cell_of (ox.oth (w3.heap.size, .cells #[.pointer (some ⟨S, 0, none⟩)] 29) (by simp)).1 0
        obtain ⟨sty, lvy, oy⟩ := hE3.ones
        have xB : (w7.alloc (.cells #[.int .i64 0, .int .i64 0] 35)).drew.cell? ⟨B, 0, none⟩ = some (.int .i64 (k : Nat)) := F.cell_of (oy.oth (B, .cells #[.int .i64 (k : Nat)] 3) (by simp)).1 0
        have xT : (w7.alloc (.cells #[.int .i64 0, .int .i64 0] 35)).drew.cell? ⟨T, 0, none⟩ = some (.slice (some ⟨LK, lO, none⟩) ln lc) := F.cell_of (oy.oth (T, .cells #[.slice (some ⟨LK, lO, none⟩) ln lc] 43) (by simp)).1 0
        have htr := HTR.out _ oy.below
        have xC := htr.cs
        obtain ⟨cv, hcv, hcr⟩ := cut_choice (cas k) (cns k) (ccs k) (CKs k) (cOs k) htr.le htr.mx htr.at0
        have hcr2 := crash_end HE.out hx R1h.out (by omega) L1h.out D1h.out (CKs k) (cOs k) (min (cns k) 20) cv (chs k) hcv (fun W hb j hj => (HTR.out W hb).row j (by omega))
        have HRI : Hid (∀ st2, (∃ T' G', Lies (k + 1) T' G' st2 ∧ Whl (G' (fnd G).other) ∧ (G' (fnd G).other 0).q = (fnd G).most + 1 ∧ T' = updT Tt (fnd G).other ((fnd G).most + 1) x ∧ ∀ k j, k ≠ (fnd G).other → G' k j = G k j) → RI nq (k + 1) st2) := fun st2 ⟨T', G', a, b, c, _⟩ => by rw [hnq]; exact ri_end HL.out a b c
        have hnle : ¬ ((nq : Nat) : Int) ≤ (sq : Int) := by omega
        have HNQ : Hid _ := hnq
        clear hnq
        clear hE hE2 hE3 ox oy hg hs5 vS htr HE
        generalize cas k = cak at *
        generalize cns k = cnk at *
        generalize ccs k = cck at *
        go_wp2_with fail
        go_call hs7 as e w8 ⟨rfl, hw8⟩
        subst hw8
        go_wp2_with fail
        go_call hs7 as e w8 ⟨rfl, hw8⟩
        subst hw8
        go_wp2_with fail
        refine still_tail 14 (by kernel_rfl) (by kernel_rfl) (fun w8 hw8 => ?_)
        rw [← hw8] at xB xT xC hcr2
        clear hw8
        simp only [List.take_succ_cons, List.take_zero, List.drop_succ_cons, List.drop_zero]
        still_step
        still_step
        still_step
        still_step
        still_step
        still_step
        still_step
        still_step
        still_step
        still_step
        still_step
        still_step
        still_step
        still_step
        refine wpStill_nil ?_
        change wpList _ _ _ _ _ _
        go_wp2_with fail
        go_call hcr2 as e w9 ⟨rfl, st2, lv2, o9, r9, hx9⟩
        have r9i := HRI.out st2 hx9
        have yB9 : w9.cell? ⟨B, 0, none⟩ = some (.int .i64 (k : Nat)) := F.cell_of (o9.oth (B, .cells #[.int .i64 (k : Nat)] 3) (by simp)).1 0
        have l9T : T < w9.heap.size := o9.lts (T, .cells #[.slice (some ⟨LK, lO, none⟩) ln lc] 43) (by simp)
        have o10 := (o9.alloc (.cells #[.int .i64 ((k : Int) + 1)] 3) (F.apart_of (by decide))).forget (oth' := (w9.heap.size, .cells #[.int .i64 ((k + 1 : Nat) : Int)] 3) :: (T, .cells #[.slice (some ⟨LK, lO, none⟩) ln lc] 43) :: []) (by
          intro p hp
          simp only [List.mem_cons, List.not_mem_nil, or_false] at hp ⊢
          rcases hp with rfl | rfl <;> simp)
        have F10 : Hid (RsI T w L (.slice (some ⟨LK, lO, none⟩) ln lc) w9.heap.size (k + 1) nq (w9.alloc (.cells #[.int .i64 ((k : Int) + 1)] 3))) := ⟨st2, lv2, o10, by omega, r9, r9i⟩
        have hmsr : Hid (msr (.pointer (some ⟨w9.heap.size, 0, none⟩)) (w9.alloc (.cells #[.int .i64 ((k : Int) + 1)] 3)) = 12 - (k + 1)) := msr_is (k := k + 1) (F.cell_of (o10.oth (w9.heap.size, .cells #[.int .i64 ((k + 1 : Nat) : Int)] 3) (by simp)).1 0)
        clear o9 r9 hx9 r9i o10 hcr2 HRI xB xT xC
        go_wp2
        go_roundw
        case rel => exact ⟨k + 1, nq, w9.heap.size, by omega, by omega, rfl, rfl, F10.out⟩
        case measure =>
          have a := hmsr.out
          have b := HMS.out
          rw [b]
          first
            | (rw [a]; omega)
            | (refine Nat.lt_of_le_of_lt (Nat.le_of_eq a) ?_; omega)
    · have hbl : Below T w wr := hO.below
      have HBL : Hid _ := hbl
      clear hbl hO hR hRI hBT
      have hsp : k = ln ∨ (k < ln ∧ k = 12) := by omega
      rcases hsp with rfl | ⟨hk3, rfl⟩
      · go_wp2
        go_returns
        exact ⟨rfl, by rw [← HT.out]; exact HBL.out⟩
      · go_wp2
        go_returns
        exact ⟨rfl, by rw [← HT.out]; exact HBL.out⟩
end Go.Proofs.YtknmipbjkkeebaaGreat
