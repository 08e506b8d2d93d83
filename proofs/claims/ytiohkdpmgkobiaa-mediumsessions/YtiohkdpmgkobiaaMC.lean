/- MediumSessions: the walk. -/
import Derived.Test.YtiohkdpmgkobiaaMB
namespace Go.Proofs.Ytiohkdpmgkobiaa
open Go.RowKit
/-- A call, as it is given. -/
structure AAct where
  kind : Int
  ser : Int
  i : Int
  sess : Int
  s : ByteArray
  odd : Bool
  cao : Option Addr
  cn : Nat
  ccp : Nat
  K : Nat
  o : Nat
  ch : Nat → Int
def AAct.cs (a : AAct) : List Value := [.int .i64 a.kind, .int .i64 a.ser, .int .i64 a.i, .int .i64 a.sess, .string a.s, .bool a.odd, .slice a.cao a.cn a.ccp]
structure AOk (w : World) (a : AAct) : Prop where
  s : a.s.size ≤ 9223372036854775807
  ca : 0 < a.cn → a.cao = some ⟨a.K, a.o, none⟩
  le : a.cn ≤ a.ccp
  m : a.ccp ≤ 9223372036854775807
  x : ∀ t, t < a.cn → w.cell? ⟨a.K, a.o + t, none⟩ = some (.int .i64 (a.ch t))
theorem AOk.few {w : World} {a : AAct} (h : AOk w a) : ChL a.K a.o (min a.cn 20) 0 (.slice a.cao (min a.cn 20) a.ccp) :=
  ⟨_, _, rfl, by have := h.le; omega, h.m, fun h0 => by rw [h.ca (by omega)]; rfl⟩
theorem AOk.cells {T : Nat} {w : World} {a : AAct} (hT : T = w.heap.size) (h : AOk w a) : ∀ W, Below T w W → ∀ j, j < min a.cn 20 → W.cell? ⟨a.K, a.o + j, none⟩ = some (.int .i64 (a.ch j)) := fun W hW j hj => by
  have h1 := h.x j (by omega)
  have h2 := World.block_lt_of_cell? w _ h1
  exact (hW.cell (by show a.K < T; rw [hT]; exact h2)).trans h1
/-- Where the rounds stand. -/
def MSR (T : Nat) (w : World) (L : Loc) (C : Nat) (b : Bool) (j : Nat) (W : World) : Prop :=
  ∃ st lv M qm, One T w L st lv [(M, med L.P 1 qm), (C, .cells #[.pointer (some ⟨M, 0, none⟩)] 53)] W ∧ SInv st qm b j j
theorem One.swap' {b0 : Nat} {w0 : World} {L : Loc} {st : St} {lv : Value} {oth : List (Nat × Obj)} {w : World} {p q : Nat × Obj} (h : One b0 w0 L st lv (p :: q :: oth) w) : One b0 w0 L st lv (q :: p :: oth) w := h.forget (by
  intro x hx
  simp at hx ⊢
  rcases hx with h | h | h
  · exact Or.inr (Or.inl h)
  · exact Or.inl h
  · exact Or.inr (Or.inr h))
theorem parts_zero (s : ByteArray) (h : parts s = 0) : s = ⟨#[]⟩ := by
  unfold parts at h
  have h0 : s.size = 0 := by omega
  exact ByteArray.size_eq_zero_iff.1 h0
theorem parts_one (s : ByteArray) (h : s.size ≤ 64) : parts s ≤ 1 := by unfold parts; omega
set_option maxHeartbeats 40000000 in
set_option maxRecDepth 100000 in
theorem ms_walk (aa : Option Addr) (an acap KA oA : Nat) (act : Nat → AAct) (w : World) (haa : 0 < an → aa = some ⟨KA, oA, none⟩)
    (hax : ∀ j, j < an → w.rangeAt KA (oA + j * 7) (act j).cs) (hok : ∀ j, j < an → AOk w (act j)) :
    Calls Try.prog 9 #[.slice aa an acap] w fun e w' => e = .returned (.bool true) ∧ Below w.heap.size w w' := by
  have HAA : Hid _ := haa
  have HAX : Hid _ := hax
  have HOK : Hid _ := hok
  clear haa hax hok
  go_enter Try.func9, Try.ntmps9
  go_wp2_with fail
  go_call (awake6 w) as e w1 ⟨rfl, hb1⟩
  have hmk := made_any w.heap.size w w1 [] hb1 hb1.size (by intro p hp; cases hp) 1 (by decide) (by decide) 4 (by decide) (by decide)
  clear hb1
  obtain ⟨T0, hT⟩ : ∃ T0, T0 = w.heap.size := ⟨_, rfl⟩
  rw [← hT] at hmk
  have HT : Hid _ := hT
  clear hT
  go_wp2_with fail
  go_call hmk as e w2 ⟨L, M0, rfl, o2⟩
  clear hmk
  have o3 := o2.alloc (.cells #[.pointer (some ⟨M0, 0, none⟩)] 53) (apart_of (by decide))
  have H0 : Hid (∃ W, W = w2.alloc (.cells #[.pointer (some ⟨M0, 0, none⟩)] 53) ∧ MSR T0 w L w2.heap.size true 0 W) :=
    ⟨_, rfl, st0 1 4, _, M0, 1, o3.swap', ⟨rfl, rfl, rfl, rfl, rfl, by decide, by show (1 : Int) ≤ 1; decide, by show (1 : Int) ≤ 1 + (0 : Nat); decide, by show (0 : Int) ≤ 0; decide, by show (0 : Int) ≤ (5 * 0 : Nat); decide, by decide, _, _, _, dv0 1 4⟩⟩
  clear o2 o3
  go_wp2
  generalize hC : w2.heap.size = C at *
  clear hC
  go_loopw [5, 6] (fun al i wr => ∃ j : Nat, ∃ b : Bool, j ≤ 20 ∧ i = .int .i64 (j : Nat) ∧ al = .bool b ∧ Hid (MSR T0 w L C b j wr)) (fun _ i _ => 20 - (intOf i).toNat)
  case atStart =>
    obtain ⟨W, rfl, h⟩ := H0.out
    exact ⟨0, true, by omega, rfl, rfl, h⟩
  case round =>
    clear H0
    obtain ⟨j, b, hj, rfl, rfl, HI⟩ := hrel
    obtain ⟨st, lv, M, qm, oR, hI⟩ := HI.out
    by_cases hjt : j < an ∧ j < 20
    · obtain ⟨hjt1, hjt2⟩ := hjt
      obtain rfl := HAA.out (by omega)
      have hr := HAX.out j hjt1
      have ho := HOK.out j hjt1
      generalize act j = a at *
      have hKT : KA < T0 := by rw [HT.out]; exact World.block_lt_of_cell? w _ (hr 0 _ rfl)
      have c0 : wr.cell? ⟨KA, oA + j * 7, none⟩ = some (.int .i64 a.kind) := (oR.below.cell (by exact hKT)).trans (hr 0 _ rfl)
      have c1 : wr.cell? ⟨KA, oA + j * 7 + 1, none⟩ = some (.int .i64 a.ser) := (oR.below.cell (by exact hKT)).trans (hr 1 _ rfl)
      have c2 : wr.cell? ⟨KA, oA + j * 7 + 2, none⟩ = some (.int .i64 a.i) := (oR.below.cell (by exact hKT)).trans (hr 2 _ rfl)
      have c3 : wr.cell? ⟨KA, oA + j * 7 + 3, none⟩ = some (.int .i64 a.sess) := (oR.below.cell (by exact hKT)).trans (hr 3 _ rfl)
      have c4 : wr.cell? ⟨KA, oA + j * 7 + 4, none⟩ = some (.string a.s) := (oR.below.cell (by exact hKT)).trans (hr 4 _ rfl)
      have c5 : wr.cell? ⟨KA, oA + j * 7 + 5, none⟩ = some (.bool a.odd) := (oR.below.cell (by exact hKT)).trans (hr 5 _ rfl)
      have c6 : wr.cell? ⟨KA, oA + j * 7 + 6, none⟩ = some (.slice a.cao a.cn a.ccp) := (oR.below.cell (by exact hKT)).trans (hr 6 _ rfl)
      have oS := oR.alloc (.cells #[.int .i64 a.kind, .int .i64 a.ser, .int .i64 a.i, .int .i64 a.sess, .string a.s, .bool a.odd, .slice a.cao a.cn a.ccp] 49) (apart_of (by decide))
      have hlM := oR.lts
      have HO : Hid _ := ho
      have hsb := ho.s
      clear hr HI oR ho
      obtain ⟨kd, hkd⟩ : ∃ kd, kd = a.kind := ⟨_, rfl⟩
      rw [← hkd] at c0 oS
      have hlC : C < wr.heap.size := hlM (C, .cells #[.pointer (some ⟨M, 0, none⟩)] 53) (by simp)
      have hlM0 : M < wr.heap.size := hlM (M, med L.P 1 qm) (List.mem_cons_self ..)
      clear hkd hlM
      generalize hA : wr.heap.size = A at *
      have HA : Hid (wr.heap.size = A) := hA
      clear hA
      by_cases h6 : kd = 6
      · subst h6
        have hfw := fun W => few_any a.cao a.cn a.ccp HO.out.le HO.out.m W 6 a.ser a.i a.sess a.s a.odd
        have hch := HO.out.few
        have hcl := AOk.cells HT.out HO.out
        generalize min a.cn 20 = N at *
        go_wp2_with fail
        go_call (hfw _) as e w5 ⟨rfl, hb5⟩
        have o5 := oS.ofBelow hb5
        have hcr := SInv.crash o5 hI (by omega) a.K a.o N _ a.ch hch hcl
        clear oS hb5 o5 hfw hI hch hcl
        go_wp2_with fail
        go_call hcr as e w7 ⟨rfl, st7, lv7, o7, i7⟩
        clear hcr
        have g7 := o7.guarded
        have HL7 : Hid (∀ p ∈ [(A, .cells #[.int .i64 6, .int .i64 a.ser, .int .i64 a.i, .int .i64 a.sess, .string a.s, .bool a.odd, .slice a.cao a.cn a.ccp] 49), (M, med L.P 1 qm), (C, Obj.cells #[.pointer (some ⟨M, 0, none⟩)] 53)], p.1 < w7.heap.size) := o7.lts
        have hdo := ms_do (M := M) (c := j) g7 C A (.int .i64 6) (.int .i64 a.ser) (.int .i64 a.sess) (.bool a.odd) (.slice a.cao a.cn a.ccp) a.i a.s hsb ⟨by simp [gob], by simp [gob], by simp [gob]⟩ i7 (by omega)
        have hmf : ∀ (fn : Fn) (first cap : Array Value) (w : World), (Instr.makeFunc fn first cap).run Try.prog w = .ok (.func fn first cap) w := fun _ _ _ _ => rfl
        clear o7 g7
        by_cases hf : fails false (a.i % 4).toNat (parts a.s)
        · have hgd := guard_fail 47 #[.pointer (some ⟨C, 0, none⟩), .pointer (some ⟨A, 0, none⟩)] 1 (erOf false) (fun W => ∃ st8 lv8, One T0 w L st8 lv8 (gob w7.heap.size [(A, .cells #[.int .i64 6, .int .i64 a.ser, .int .i64 a.i, .int .i64 a.sess, .string a.s, .bool a.odd, .slice a.cao a.cn a.ccp] 49), (M, med L.P 1 qm), (C, Obj.cells #[.pointer (some ⟨M, 0, none⟩)] 53)]) W ∧ SInv st8 qm false (j + 1) (j + 1)) w7 ent47 (hdo.mono (by
            rintro e W ⟨h0, st8, lv8, oW, iW⟩
            rcases h0 with ⟨_, rfl⟩ | ⟨hx, _⟩
            · exact ⟨rfl, (oW.oth (w7.heap.size, bob) (by simp [gob])).1, (oW.oth (w7.heap.size + 1, iob) (by simp [gob])).1, st8, lv8, oW, iW⟩
            · exact absurd hf hx))
          clear hdo i7
          go_wp2_with fail
          rw [HA.out]
          go_call hgd as e w8 ⟨rfl, W', ⟨st8, lv8, oW, iW⟩, hk⟩
          clear hgd
          have o8 := oW.kt (fun p hp => by
            have q := HL7.out p hp
            exact q) hk
          clear oW hk
          have kA8 := (o8.oth (A, .cells #[.int .i64 6, .int .i64 a.ser, .int .i64 a.i, .int .i64 a.sess, .string a.s, .bool a.odd, .slice a.cao a.cn a.ccp] 49) (by simp)).1
          have cS : ∀ o, (w8.alloc o).cell? ⟨A, 4, none⟩ = some (.string a.s) := fun o => cell_of ((Below.heap_alloc _ _ _ (getElem?_lt kA8)).trans kA8) 4
          have HE : ∀ o, Hid (MSR T0 w L C false (j + 1) (w8.alloc o)) := fun o => ⟨st8, lv8, M, qm, (o8.laid o).forget (by intro p hp; simp at hp ⊢; rcases hp with h | h <;> simp [h]), iW⟩
          clear o8 iW kA8
          have her : erOf false = 8 := rfl
          rw [her]
          have hs0 : ¬ a.s = ⟨#[]⟩ := fun h => by
            rcases hf with ⟨h1, _⟩ | ⟨_, h1⟩
            · cases h1
            · rw [h] at h1; exact absurd h1 (by decide)
          clear hf her
          by_cases hs64 : a.s.size ≤ 64
          · go_wp2
            all_goals (
              go_roundw
              case rel => exact ⟨j + 1, false, by omega, rfl, rfl, HE _⟩
              case measure => simp only [intOf]; omega)
          · go_wp2
            all_goals (
              go_roundw
              case rel => exact ⟨j + 1, false, by omega, rfl, rfl, HE _⟩
              case measure => simp only [intOf]; omega)
        · have hgd := guard_ok 47 #[.pointer (some ⟨C, 0, none⟩), .pointer (some ⟨A, 0, none⟩)] (fun W => ∃ st8 lv8, One T0 w L st8 lv8 (gob w7.heap.size [(A, .cells #[.int .i64 6, .int .i64 a.ser, .int .i64 a.i, .int .i64 a.sess, .string a.s, .bool a.odd, .slice a.cao a.cn a.ccp] 49), (M, med L.P 1 qm), (C, Obj.cells #[.pointer (some ⟨M, 0, none⟩)] 53)]) W ∧ SInv st8 qm false (j + 1) (j + 1)) w7 ent47 (hdo.mono (by
            rintro e W ⟨h0, st8, lv8, oW, iW⟩
            rcases h0 with ⟨hx, _⟩ | ⟨_, rfl⟩
            · exact absurd hx hf
            · exact ⟨rfl, (oW.oth (w7.heap.size, bob) (by simp [gob])).1, (oW.oth (w7.heap.size + 1, iob) (by simp [gob])).1, st8, lv8, oW, iW⟩))
          clear hdo i7
          go_wp2_with fail
          rw [HA.out]
          go_call hgd as e w8 ⟨rfl, W', ⟨st8, lv8, oW, iW⟩, hk⟩
          clear hgd
          have o8 := oW.kt (fun p hp => by
            have q := HL7.out p hp
            exact q) hk
          clear oW hk
          have kA8 := (o8.oth (A, .cells #[.int .i64 6, .int .i64 a.ser, .int .i64 a.i, .int .i64 a.sess, .string a.s, .bool a.odd, .slice a.cao a.cn a.ccp] 49) (by simp)).1
          have cS : ∀ o, (w8.alloc o).cell? ⟨A, 4, none⟩ = some (.string a.s) := fun o => cell_of ((Below.heap_alloc _ _ _ (getElem?_lt kA8)).trans kA8) 4
          have HE : ∀ o, Hid (MSR T0 w L C false (j + 1) (w8.alloc o)) := fun o => ⟨st8, lv8, M, qm, (o8.laid o).forget (by intro p hp; simp at hp ⊢; rcases hp with h | h <;> simp [h]), iW⟩
          clear o8 iW kA8
          have hs0 : a.s = ⟨#[]⟩ := parts_zero _ (by
            rcases Nat.eq_zero_or_pos (parts a.s) with h | h
            · exact h
            · exact absurd (Or.inr ⟨rfl, h⟩) hf)
          clear hf
          go_wp2
          all_goals (
            go_roundw
            case rel => exact ⟨j + 1, false, by omega, rfl, rfl, HE _⟩
            case measure => simp only [intOf]; omega)
      · by_cases h7 : kd = 7
        · subst h7
          have hfw := fun W => few_any a.cao a.cn a.ccp HO.out.le HO.out.m W 7 a.ser a.i a.sess a.s a.odd
          have hch := HO.out.few
          have hcl := AOk.cells HT.out HO.out
          generalize min a.cn 20 = N at *
          go_wp2_with fail
          go_call (hfw _) as e w5 ⟨rfl, hb5⟩
          have o5 := oS.ofBelow hb5
          have hcr := SInv.detach o5 hI a.K a.o N _ a.ch hch hcl
          clear oS hb5 o5 hfw hch hcl
          go_wp2_with fail
          go_call hcr as e w7 hde
          clear hcr
          rcases hde with ⟨rfl, st7, lv7, o7, i7'⟩ | ⟨rfl, o7⟩
          · have i7 : SInv st7 qm false j (j + 1) := ⟨i7'.serial, i7'.n, i7'.aw, i7'.hw, i7'.down, i7'.q1, i7'.qs, by have := i7'.s2; omega, i7'.c0, i7'.c1, i7'.al, i7'.dv⟩
            clear i7' hI
            have g7 := o7.guarded
            have HL7 : Hid (∀ p ∈ [(A, .cells #[.int .i64 7, .int .i64 a.ser, .int .i64 a.i, .int .i64 a.sess, .string a.s, .bool a.odd, .slice a.cao a.cn a.ccp] 49), (M, med L.P 1 qm), (C, Obj.cells #[.pointer (some ⟨M, 0, none⟩)] 53)], p.1 < w7.heap.size) := o7.lts
            have hdo := ms_do (M := M) (c := j) g7 C A (.int .i64 7) (.int .i64 a.ser) (.int .i64 a.sess) (.bool a.odd) (.slice a.cao a.cn a.ccp) a.i a.s hsb ⟨by simp [gob], by simp [gob], by simp [gob]⟩ i7 (by omega)
            have hmf : ∀ (fn : Fn) (first cap : Array Value) (w : World), (Instr.makeFunc fn first cap).run Try.prog w = .ok (.func fn first cap) w := fun _ _ _ _ => rfl
            clear o7 g7
            by_cases hf : fails false (a.i % 4).toNat (parts a.s)
            · have hgd := guard_fail 47 #[.pointer (some ⟨C, 0, none⟩), .pointer (some ⟨A, 0, none⟩)] 1 (erOf false) (fun W => ∃ st8 lv8, One T0 w L st8 lv8 (gob w7.heap.size [(A, .cells #[.int .i64 7, .int .i64 a.ser, .int .i64 a.i, .int .i64 a.sess, .string a.s, .bool a.odd, .slice a.cao a.cn a.ccp] 49), (M, med L.P 1 qm), (C, Obj.cells #[.pointer (some ⟨M, 0, none⟩)] 53)]) W ∧ SInv st8 qm false (j + 1) (j + 1)) w7 ent47 (hdo.mono (by
                rintro e W ⟨h0, st8, lv8, oW, iW⟩
                rcases h0 with ⟨_, rfl⟩ | ⟨hx, _⟩
                · exact ⟨rfl, (oW.oth (w7.heap.size, bob) (by simp [gob])).1, (oW.oth (w7.heap.size + 1, iob) (by simp [gob])).1, st8, lv8, oW, iW⟩
                · exact absurd hf hx))
              clear hdo i7
              go_wp2_with fail
              rw [HA.out]
              go_call hgd as e w8 ⟨rfl, W', ⟨st8, lv8, oW, iW⟩, hk⟩
              clear hgd
              have o8 := oW.kt (fun p hp => by
                have q := HL7.out p hp
                exact q) hk
              clear oW hk
              have kA8 := (o8.oth (A, .cells #[.int .i64 7, .int .i64 a.ser, .int .i64 a.i, .int .i64 a.sess, .string a.s, .bool a.odd, .slice a.cao a.cn a.ccp] 49) (by simp)).1
              have cS : ∀ o, (w8.alloc o).cell? ⟨A, 4, none⟩ = some (.string a.s) := fun o => cell_of ((Below.heap_alloc _ _ _ (getElem?_lt kA8)).trans kA8) 4
              have HE : ∀ o, Hid (MSR T0 w L C false (j + 1) (w8.alloc o)) := fun o => ⟨st8, lv8, M, qm, (o8.laid o).forget (by intro p hp; simp at hp ⊢; rcases hp with h | h <;> simp [h]), iW⟩
              clear o8 iW kA8
              have her : erOf false = 8 := rfl
              rw [her]
              have hs0 : ¬ a.s = ⟨#[]⟩ := fun h => by
                rcases hf with ⟨h1, _⟩ | ⟨_, h1⟩
                · cases h1
                · rw [h] at h1; exact absurd h1 (by decide)
              clear hf her
              by_cases hs64 : a.s.size ≤ 64
              · go_wp2
                all_goals (
                  go_roundw
                  case rel => exact ⟨j + 1, false, by omega, rfl, rfl, HE _⟩
                  case measure => simp only [intOf]; omega)
              · go_wp2
                all_goals (
                  go_roundw
                  case rel => exact ⟨j + 1, false, by omega, rfl, rfl, HE _⟩
                  case measure => simp only [intOf]; omega)
            · have hgd := guard_ok 47 #[.pointer (some ⟨C, 0, none⟩), .pointer (some ⟨A, 0, none⟩)] (fun W => ∃ st8 lv8, One T0 w L st8 lv8 (gob w7.heap.size [(A, .cells #[.int .i64 7, .int .i64 a.ser, .int .i64 a.i, .int .i64 a.sess, .string a.s, .bool a.odd, .slice a.cao a.cn a.ccp] 49), (M, med L.P 1 qm), (C, Obj.cells #[.pointer (some ⟨M, 0, none⟩)] 53)]) W ∧ SInv st8 qm false (j + 1) (j + 1)) w7 ent47 (hdo.mono (by
                rintro e W ⟨h0, st8, lv8, oW, iW⟩
                rcases h0 with ⟨hx, _⟩ | ⟨_, rfl⟩
                · exact absurd hx hf
                · exact ⟨rfl, (oW.oth (w7.heap.size, bob) (by simp [gob])).1, (oW.oth (w7.heap.size + 1, iob) (by simp [gob])).1, st8, lv8, oW, iW⟩))
              clear hdo i7
              go_wp2_with fail
              rw [HA.out]
              go_call hgd as e w8 ⟨rfl, W', ⟨st8, lv8, oW, iW⟩, hk⟩
              clear hgd
              have o8 := oW.kt (fun p hp => by
                have q := HL7.out p hp
                exact q) hk
              clear oW hk
              have kA8 := (o8.oth (A, .cells #[.int .i64 7, .int .i64 a.ser, .int .i64 a.i, .int .i64 a.sess, .string a.s, .bool a.odd, .slice a.cao a.cn a.ccp] 49) (by simp)).1
              have cS : ∀ o, (w8.alloc o).cell? ⟨A, 4, none⟩ = some (.string a.s) := fun o => cell_of ((Below.heap_alloc _ _ _ (getElem?_lt kA8)).trans kA8) 4
              have HE : ∀ o, Hid (MSR T0 w L C false (j + 1) (w8.alloc o)) := fun o => ⟨st8, lv8, M, qm, (o8.laid o).forget (by intro p hp; simp at hp ⊢; rcases hp with h | h <;> simp [h]), iW⟩
              clear o8 iW kA8
              have hs0 : a.s = ⟨#[]⟩ := parts_zero _ (by
                rcases Nat.eq_zero_or_pos (parts a.s) with h | h
                · exact h
                · exact absurd (Or.inr ⟨rfl, h⟩) hf)
              clear hf
              go_wp2
              all_goals (
                go_roundw
                case rel => exact ⟨j + 1, false, by omega, rfl, rfl, HE _⟩
                case measure => simp only [intOf]; omega)
          · have i7 : SInv st qm b j (j + 1) := ⟨hI.serial, hI.n, hI.aw, hI.hw, hI.down, hI.q1, hI.qs, by have := hI.s2; omega, hI.c0, hI.c1, hI.al, hI.dv⟩
            clear hI
            have g7 := o7.guarded
            have HL7 : Hid (∀ p ∈ [(A, .cells #[.int .i64 7, .int .i64 a.ser, .int .i64 a.i, .int .i64 a.sess, .string a.s, .bool a.odd, .slice a.cao a.cn a.ccp] 49), (M, med L.P 1 qm), (C, Obj.cells #[.pointer (some ⟨M, 0, none⟩)] 53)], p.1 < w7.heap.size) := o7.lts
            have hdo := ms_do (M := M) (c := j) g7 C A (.int .i64 7) (.int .i64 a.ser) (.int .i64 a.sess) (.bool a.odd) (.slice a.cao a.cn a.ccp) a.i a.s hsb ⟨by simp [gob], by simp [gob], by simp [gob]⟩ i7 (by omega)
            have hmf : ∀ (fn : Fn) (first cap : Array Value) (w : World), (Instr.makeFunc fn first cap).run Try.prog w = .ok (.func fn first cap) w := fun _ _ _ _ => rfl
            clear o7 g7
            by_cases hf : fails b (a.i % 4).toNat (parts a.s)
            · have hgd := guard_fail 47 #[.pointer (some ⟨C, 0, none⟩), .pointer (some ⟨A, 0, none⟩)] 1 (erOf b) (fun W => ∃ st8 lv8, One T0 w L st8 lv8 (gob w7.heap.size [(A, .cells #[.int .i64 7, .int .i64 a.ser, .int .i64 a.i, .int .i64 a.sess, .string a.s, .bool a.odd, .slice a.cao a.cn a.ccp] 49), (M, med L.P 1 qm), (C, Obj.cells #[.pointer (some ⟨M, 0, none⟩)] 53)]) W ∧ SInv st8 qm b (j + 1) (j + 1)) w7 ent47 (hdo.mono (by
                rintro e W ⟨h0, st8, lv8, oW, iW⟩
                rcases h0 with ⟨_, rfl⟩ | ⟨hx, _⟩
                · exact ⟨rfl, (oW.oth (w7.heap.size, bob) (by simp [gob])).1, (oW.oth (w7.heap.size + 1, iob) (by simp [gob])).1, st8, lv8, oW, iW⟩
                · exact absurd hf hx))
              clear hdo i7
              go_wp2_with fail
              rw [HA.out]
              go_call hgd as e w8 ⟨rfl, W', ⟨st8, lv8, oW, iW⟩, hk⟩
              clear hgd
              have o8 := oW.kt (fun p hp => by
                have q := HL7.out p hp
                exact q) hk
              clear oW hk
              have kA8 := (o8.oth (A, .cells #[.int .i64 7, .int .i64 a.ser, .int .i64 a.i, .int .i64 a.sess, .string a.s, .bool a.odd, .slice a.cao a.cn a.ccp] 49) (by simp)).1
              have cS : ∀ o, (w8.alloc o).cell? ⟨A, 4, none⟩ = some (.string a.s) := fun o => cell_of ((Below.heap_alloc _ _ _ (getElem?_lt kA8)).trans kA8) 4
              have HE : ∀ o, Hid (MSR T0 w L C b (j + 1) (w8.alloc o)) := fun o => ⟨st8, lv8, M, qm, (o8.laid o).forget (by intro p hp; simp at hp ⊢; rcases hp with h | h <;> simp [h]), iW⟩
              clear o8 iW kA8
              cases b with
              | true =>
                have hs64 : ¬ a.s.size ≤ 64 := fun h => by
                  rcases hf with ⟨_, h1⟩ | ⟨h1, _⟩
                  · have := parts_one a.s h; omega
                  · cases h1
                have her : erOf true = 6 := rfl
                rw [her]
                clear hf her
                by_cases hs0 : a.s = ⟨#[]⟩
                · exfalso; apply hs64; rw [hs0]; decide
                · go_wp2
                  all_goals (
                    go_roundw
                    case rel => exact ⟨j + 1, true, by omega, rfl, rfl, HE _⟩
                    case measure => simp only [intOf]; omega)
              | false =>
                have her : erOf false = 8 := rfl
                rw [her]
                have hs0 : ¬ a.s = ⟨#[]⟩ := fun h => by
                  rcases hf with ⟨h1, _⟩ | ⟨_, h1⟩
                  · cases h1
                  · rw [h] at h1; exact absurd h1 (by decide)
                clear hf her
                by_cases hs64 : a.s.size ≤ 64
                · go_wp2
                  all_goals (
                    go_roundw
                    case rel => exact ⟨j + 1, false, by omega, rfl, rfl, HE _⟩
                    case measure => simp only [intOf]; omega)
                · go_wp2
                  all_goals (
                    go_roundw
                    case rel => exact ⟨j + 1, false, by omega, rfl, rfl, HE _⟩
                    case measure => simp only [intOf]; omega)
            · have hgd := guard_ok 47 #[.pointer (some ⟨C, 0, none⟩), .pointer (some ⟨A, 0, none⟩)] (fun W => ∃ st8 lv8, One T0 w L st8 lv8 (gob w7.heap.size [(A, .cells #[.int .i64 7, .int .i64 a.ser, .int .i64 a.i, .int .i64 a.sess, .string a.s, .bool a.odd, .slice a.cao a.cn a.ccp] 49), (M, med L.P 1 qm), (C, Obj.cells #[.pointer (some ⟨M, 0, none⟩)] 53)]) W ∧ SInv st8 qm b (j + 1) (j + 1)) w7 ent47 (hdo.mono (by
                rintro e W ⟨h0, st8, lv8, oW, iW⟩
                rcases h0 with ⟨hx, _⟩ | ⟨_, rfl⟩
                · exact absurd hx hf
                · exact ⟨rfl, (oW.oth (w7.heap.size, bob) (by simp [gob])).1, (oW.oth (w7.heap.size + 1, iob) (by simp [gob])).1, st8, lv8, oW, iW⟩))
              clear hdo i7
              go_wp2_with fail
              rw [HA.out]
              go_call hgd as e w8 ⟨rfl, W', ⟨st8, lv8, oW, iW⟩, hk⟩
              clear hgd
              have o8 := oW.kt (fun p hp => by
                have q := HL7.out p hp
                exact q) hk
              clear oW hk
              have kA8 := (o8.oth (A, .cells #[.int .i64 7, .int .i64 a.ser, .int .i64 a.i, .int .i64 a.sess, .string a.s, .bool a.odd, .slice a.cao a.cn a.ccp] 49) (by simp)).1
              have cS : ∀ o, (w8.alloc o).cell? ⟨A, 4, none⟩ = some (.string a.s) := fun o => cell_of ((Below.heap_alloc _ _ _ (getElem?_lt kA8)).trans kA8) 4
              have HE : ∀ o, Hid (MSR T0 w L C b (j + 1) (w8.alloc o)) := fun o => ⟨st8, lv8, M, qm, (o8.laid o).forget (by intro p hp; simp at hp ⊢; rcases hp with h | h <;> simp [h]), iW⟩
              clear o8 iW kA8
              cases b with
              | true =>
                clear hf
                by_cases hs0 : a.s = ⟨#[]⟩
                · go_wp2
                  all_goals (
                    go_roundw
                    case rel => exact ⟨j + 1, true, by omega, rfl, rfl, HE _⟩
                    case measure => simp only [intOf]; omega)
                · by_cases hs64 : a.s.size ≤ 64
                  · go_wp2
                    all_goals (
                      go_roundw
                      case rel => exact ⟨j + 1, true, by omega, rfl, rfl, HE _⟩
                      case measure => simp only [intOf]; omega)
                  · go_wp2
                    all_goals (
                      go_roundw
                      case rel => exact ⟨j + 1, true, by omega, rfl, rfl, HE _⟩
                      case measure => simp only [intOf]; omega)
              | false =>
                have hs0 : a.s = ⟨#[]⟩ := parts_zero _ (by
                  rcases Nat.eq_zero_or_pos (parts a.s) with h | h
                  · exact h
                  · exact absurd (Or.inr ⟨rfl, h⟩) hf)
                clear hf
                go_wp2
                all_goals (
                  go_roundw
                  case rel => exact ⟨j + 1, false, by omega, rfl, rfl, HE _⟩
                  case measure => simp only [intOf]; omega)
        · by_cases h8 : kd = 8
          · subst h8
            have hat := SInv.attach oS hI (by omega)
            clear oS hI
            go_wp2_with fail
            go_call hat as e w7 ⟨⟨y, rfl⟩, st7, lv7, o7, i7⟩
            clear hat
            have g7 := o7.guarded
            have HL7 : Hid (∀ p ∈ [(A, .cells #[.int .i64 8, .int .i64 a.ser, .int .i64 a.i, .int .i64 a.sess, .string a.s, .bool a.odd, .slice a.cao a.cn a.ccp] 49), (M, med L.P 1 qm), (C, Obj.cells #[.pointer (some ⟨M, 0, none⟩)] 53)], p.1 < w7.heap.size) := o7.lts
            have hdo := ms_do (M := M) (c := j) g7 C A (.int .i64 8) (.int .i64 a.ser) (.int .i64 a.sess) (.bool a.odd) (.slice a.cao a.cn a.ccp) a.i a.s hsb ⟨by simp [gob], by simp [gob], by simp [gob]⟩ i7 (by omega)
            have hmf : ∀ (fn : Fn) (first cap : Array Value) (w : World), (Instr.makeFunc fn first cap).run Try.prog w = .ok (.func fn first cap) w := fun _ _ _ _ => rfl
            clear o7 g7
            by_cases hf : fails b (a.i % 4).toNat (parts a.s)
            · have hgd := guard_fail 47 #[.pointer (some ⟨C, 0, none⟩), .pointer (some ⟨A, 0, none⟩)] 1 (erOf b) (fun W => ∃ st8 lv8, One T0 w L st8 lv8 (gob w7.heap.size [(A, .cells #[.int .i64 8, .int .i64 a.ser, .int .i64 a.i, .int .i64 a.sess, .string a.s, .bool a.odd, .slice a.cao a.cn a.ccp] 49), (M, med L.P 1 qm), (C, Obj.cells #[.pointer (some ⟨M, 0, none⟩)] 53)]) W ∧ SInv st8 qm b (j + 1) (j + 1)) w7 ent47 (hdo.mono (by
                rintro e W ⟨h0, st8, lv8, oW, iW⟩
                rcases h0 with ⟨_, rfl⟩ | ⟨hx, _⟩
                · exact ⟨rfl, (oW.oth (w7.heap.size, bob) (by simp [gob])).1, (oW.oth (w7.heap.size + 1, iob) (by simp [gob])).1, st8, lv8, oW, iW⟩
                · exact absurd hf hx))
              clear hdo i7
              go_wp2_with fail
              rw [HA.out]
              go_call hgd as e w8 ⟨rfl, W', ⟨st8, lv8, oW, iW⟩, hk⟩
              clear hgd
              have o8 := oW.kt (fun p hp => by
                have q := HL7.out p hp
                exact q) hk
              clear oW hk
              have kA8 := (o8.oth (A, .cells #[.int .i64 8, .int .i64 a.ser, .int .i64 a.i, .int .i64 a.sess, .string a.s, .bool a.odd, .slice a.cao a.cn a.ccp] 49) (by simp)).1
              have cS : ∀ o, (w8.alloc o).cell? ⟨A, 4, none⟩ = some (.string a.s) := fun o => cell_of ((Below.heap_alloc _ _ _ (getElem?_lt kA8)).trans kA8) 4
              have HE : ∀ o, Hid (MSR T0 w L C b (j + 1) (w8.alloc o)) := fun o => ⟨st8, lv8, M, qm, (o8.laid o).forget (by intro p hp; simp at hp ⊢; rcases hp with h | h <;> simp [h]), iW⟩
              clear o8 iW kA8
              cases b with
              | true =>
                have hs64 : ¬ a.s.size ≤ 64 := fun h => by
                  rcases hf with ⟨_, h1⟩ | ⟨h1, _⟩
                  · have := parts_one a.s h; omega
                  · cases h1
                have her : erOf true = 6 := rfl
                rw [her]
                clear hf her
                by_cases hs0 : a.s = ⟨#[]⟩
                · exfalso; apply hs64; rw [hs0]; decide
                · go_wp2
                  all_goals (
                    go_roundw
                    case rel => exact ⟨j + 1, true, by omega, rfl, rfl, HE _⟩
                    case measure => simp only [intOf]; omega)
              | false =>
                have her : erOf false = 8 := rfl
                rw [her]
                have hs0 : ¬ a.s = ⟨#[]⟩ := fun h => by
                  rcases hf with ⟨h1, _⟩ | ⟨_, h1⟩
                  · cases h1
                  · rw [h] at h1; exact absurd h1 (by decide)
                clear hf her
                by_cases hs64 : a.s.size ≤ 64
                · go_wp2
                  all_goals (
                    go_roundw
                    case rel => exact ⟨j + 1, false, by omega, rfl, rfl, HE _⟩
                    case measure => simp only [intOf]; omega)
                · go_wp2
                  all_goals (
                    go_roundw
                    case rel => exact ⟨j + 1, false, by omega, rfl, rfl, HE _⟩
                    case measure => simp only [intOf]; omega)
            · have hgd := guard_ok 47 #[.pointer (some ⟨C, 0, none⟩), .pointer (some ⟨A, 0, none⟩)] (fun W => ∃ st8 lv8, One T0 w L st8 lv8 (gob w7.heap.size [(A, .cells #[.int .i64 8, .int .i64 a.ser, .int .i64 a.i, .int .i64 a.sess, .string a.s, .bool a.odd, .slice a.cao a.cn a.ccp] 49), (M, med L.P 1 qm), (C, Obj.cells #[.pointer (some ⟨M, 0, none⟩)] 53)]) W ∧ SInv st8 qm b (j + 1) (j + 1)) w7 ent47 (hdo.mono (by
                rintro e W ⟨h0, st8, lv8, oW, iW⟩
                rcases h0 with ⟨hx, _⟩ | ⟨_, rfl⟩
                · exact absurd hx hf
                · exact ⟨rfl, (oW.oth (w7.heap.size, bob) (by simp [gob])).1, (oW.oth (w7.heap.size + 1, iob) (by simp [gob])).1, st8, lv8, oW, iW⟩))
              clear hdo i7
              go_wp2_with fail
              rw [HA.out]
              go_call hgd as e w8 ⟨rfl, W', ⟨st8, lv8, oW, iW⟩, hk⟩
              clear hgd
              have o8 := oW.kt (fun p hp => by
                have q := HL7.out p hp
                exact q) hk
              clear oW hk
              have kA8 := (o8.oth (A, .cells #[.int .i64 8, .int .i64 a.ser, .int .i64 a.i, .int .i64 a.sess, .string a.s, .bool a.odd, .slice a.cao a.cn a.ccp] 49) (by simp)).1
              have cS : ∀ o, (w8.alloc o).cell? ⟨A, 4, none⟩ = some (.string a.s) := fun o => cell_of ((Below.heap_alloc _ _ _ (getElem?_lt kA8)).trans kA8) 4
              have HE : ∀ o, Hid (MSR T0 w L C b (j + 1) (w8.alloc o)) := fun o => ⟨st8, lv8, M, qm, (o8.laid o).forget (by intro p hp; simp at hp ⊢; rcases hp with h | h <;> simp [h]), iW⟩
              clear o8 iW kA8
              cases b with
              | true =>
                clear hf
                by_cases hs0 : a.s = ⟨#[]⟩
                · go_wp2
                  all_goals (
                    go_roundw
                    case rel => exact ⟨j + 1, true, by omega, rfl, rfl, HE _⟩
                    case measure => simp only [intOf]; omega)
                · by_cases hs64 : a.s.size ≤ 64
                  · go_wp2
                    all_goals (
                      go_roundw
                      case rel => exact ⟨j + 1, true, by omega, rfl, rfl, HE _⟩
                      case measure => simp only [intOf]; omega)
                  · go_wp2
                    all_goals (
                      go_roundw
                      case rel => exact ⟨j + 1, true, by omega, rfl, rfl, HE _⟩
                      case measure => simp only [intOf]; omega)
              | false =>
                have hs0 : a.s = ⟨#[]⟩ := parts_zero _ (by
                  rcases Nat.eq_zero_or_pos (parts a.s) with h | h
                  · exact h
                  · exact absurd (Or.inr ⟨rfl, h⟩) hf)
                clear hf
                go_wp2
                all_goals (
                  go_roundw
                  case rel => exact ⟨j + 1, false, by omega, rfl, rfl, HE _⟩
                  case measure => simp only [intOf]; omega)
          · by_cases h9 : kd = 9
            · subst h9
              have hof := SInv.of oS hI
              clear oS
              go_wp2_with fail
              go_call hof as e w6 hde
              clear hof
              rcases hde with ⟨M2, q2, rfl, o6, i6⟩ | ⟨rfl, o6⟩
              · have kC := (o6.oth (C, .cells #[.pointer (some ⟨M, 0, none⟩)] 53) (by simp)).1
                have cC : w6.cell? ⟨C, 0, none⟩ = some (.pointer (some ⟨M, 0, none⟩)) := cell_of kC 0
                have fC := frz_of kC 0
                have hMC : ∀ p ∈ [(A, Obj.cells #[.int .i64 9, .int .i64 a.ser, .int .i64 a.i, .int .i64 a.sess, .string a.s, .bool a.odd, .slice a.cao a.cn a.ccp] 49), (M2, med L.P 1 q2)], p.1 ≠ C := by
                  have k1 := (o6.oth (A, Obj.cells #[.int .i64 9, .int .i64 a.ser, .int .i64 a.i, .int .i64 a.sess, .string a.s, .bool a.odd, .slice a.cao a.cn a.ccp] 49) (by simp)).1
                  have k2 := (o6.oth (M2, med L.P 1 q2) (by simp)).1
                  intro p hp
                  simp at hp
                  rcases hp with rfl | rfl
                  · intro e2; rw [e2, kC] at k1; injection k1 with k1; injection k1 with _ k1 _; exact absurd k1 (by decide)
                  · intro e2; rw [e2, kC] at k2; injection k2 with k2; injection k2 with _ k2 _; exact absurd k2 (by decide)
                have o7 : One T0 w L st lv [(A, Obj.cells #[.int .i64 9, .int .i64 a.ser, .int .i64 a.i, .int .i64 a.sess, .string a.s, .bool a.odd, .slice a.cao a.cn a.ccp] 49), (M2, med L.P 1 q2), (C, .cells #[.pointer (some ⟨M2, 0, none⟩)] 53)] (w6.setCell ⟨C, 0, none⟩ (.pointer (some ⟨M2, 0, none⟩))) := by
                  have o6' : One T0 w L st lv ((C, .cells #[.pointer (some ⟨M, 0, none⟩)] 53) :: [(A, Obj.cells #[.int .i64 9, .int .i64 a.ser, .int .i64 a.i, .int .i64 a.sess, .string a.s, .bool a.odd, .slice a.cao a.cn a.ccp] 49), (M2, med L.P 1 q2)]) w6 := o6.forget (by intro p hp; simp at hp ⊢; rcases hp with h | h | h <;> simp [h])
                  exact (o6'.setOther hMC (by decide)).forget (by intro p hp; simp at hp ⊢; rcases hp with h | h | h <;> simp [h])
                have i7 : SInv st q2 true j (j + 1) := ⟨i6.serial, i6.n, i6.aw, i6.hw, i6.down, i6.q1, i6.qs, by have := i6.s2; omega, i6.c0, i6.c1, i6.al, i6.dv⟩
                have H7 : Hid _ := o7
                have I7 : Hid _ := i7
                clear o6 i6 o7 i7 kC hMC hI
                go_wp2_with fail
                obtain ⟨w7, hw7⟩ : ∃ w7, w7 = w6.setCell ⟨C, 0, none⟩ (.pointer (some ⟨M2, 0, none⟩)) := ⟨_, rfl⟩
                have o7 := H7.out
                have i7 := I7.out
                rw [← hw7] at o7
                rw [← hw7]
                clear hw7 H7 I7 cC fC
                have g7 := o7.guarded
                have HL7 : Hid (∀ p ∈ [(A, .cells #[.int .i64 9, .int .i64 a.ser, .int .i64 a.i, .int .i64 a.sess, .string a.s, .bool a.odd, .slice a.cao a.cn a.ccp] 49), (M2, med L.P 1 q2), (C, Obj.cells #[.pointer (some ⟨M2, 0, none⟩)] 53)], p.1 < w7.heap.size) := o7.lts
                have hdo := ms_do (M := M2) (c := j) g7 C A (.int .i64 9) (.int .i64 a.ser) (.int .i64 a.sess) (.bool a.odd) (.slice a.cao a.cn a.ccp) a.i a.s hsb ⟨by simp [gob], by simp [gob], by simp [gob]⟩ i7 (by omega)
                have hmf : ∀ (fn : Fn) (first cap : Array Value) (w : World), (Instr.makeFunc fn first cap).run Try.prog w = .ok (.func fn first cap) w := fun _ _ _ _ => rfl
                clear o7 g7
                by_cases hf : fails true (a.i % 4).toNat (parts a.s)
                · have hgd := guard_fail 47 #[.pointer (some ⟨C, 0, none⟩), .pointer (some ⟨A, 0, none⟩)] 1 (erOf true) (fun W => ∃ st8 lv8, One T0 w L st8 lv8 (gob w7.heap.size [(A, .cells #[.int .i64 9, .int .i64 a.ser, .int .i64 a.i, .int .i64 a.sess, .string a.s, .bool a.odd, .slice a.cao a.cn a.ccp] 49), (M2, med L.P 1 q2), (C, Obj.cells #[.pointer (some ⟨M2, 0, none⟩)] 53)]) W ∧ SInv st8 q2 true (j + 1) (j + 1)) w7 ent47 (hdo.mono (by
                    rintro e W ⟨h0, st8, lv8, oW, iW⟩
                    rcases h0 with ⟨_, rfl⟩ | ⟨hx, _⟩
                    · exact ⟨rfl, (oW.oth (w7.heap.size, bob) (by simp [gob])).1, (oW.oth (w7.heap.size + 1, iob) (by simp [gob])).1, st8, lv8, oW, iW⟩
                    · exact absurd hf hx))
                  clear hdo i7
                  go_wp2_with fail
                  rw [HA.out]
                  go_call hgd as e w8 ⟨rfl, W', ⟨st8, lv8, oW, iW⟩, hk⟩
                  clear hgd
                  have o8 := oW.kt (fun p hp => by
                    have q := HL7.out p hp
                    exact q) hk
                  clear oW hk
                  have kA8 := (o8.oth (A, .cells #[.int .i64 9, .int .i64 a.ser, .int .i64 a.i, .int .i64 a.sess, .string a.s, .bool a.odd, .slice a.cao a.cn a.ccp] 49) (by simp)).1
                  have cS : ∀ o, (w8.alloc o).cell? ⟨A, 4, none⟩ = some (.string a.s) := fun o => cell_of ((Below.heap_alloc _ _ _ (getElem?_lt kA8)).trans kA8) 4
                  have HE : ∀ o, Hid (MSR T0 w L C true (j + 1) (w8.alloc o)) := fun o => ⟨st8, lv8, M2, q2, (o8.laid o).forget (by intro p hp; simp at hp ⊢; rcases hp with h | h <;> simp [h]), iW⟩
                  clear o8 iW kA8
                  have hs64 : ¬ a.s.size ≤ 64 := fun h => by
                    rcases hf with ⟨_, h1⟩ | ⟨h1, _⟩
                    · have := parts_one a.s h; omega
                    · cases h1
                  have her : erOf true = 6 := rfl
                  rw [her]
                  clear hf her
                  by_cases hs0 : a.s = ⟨#[]⟩
                  · exfalso; apply hs64; rw [hs0]; decide
                  · go_wp2
                    all_goals (
                      go_roundw
                      case rel => exact ⟨j + 1, true, by omega, rfl, rfl, HE _⟩
                      case measure => simp only [intOf]; omega)
                · have hgd := guard_ok 47 #[.pointer (some ⟨C, 0, none⟩), .pointer (some ⟨A, 0, none⟩)] (fun W => ∃ st8 lv8, One T0 w L st8 lv8 (gob w7.heap.size [(A, .cells #[.int .i64 9, .int .i64 a.ser, .int .i64 a.i, .int .i64 a.sess, .string a.s, .bool a.odd, .slice a.cao a.cn a.ccp] 49), (M2, med L.P 1 q2), (C, Obj.cells #[.pointer (some ⟨M2, 0, none⟩)] 53)]) W ∧ SInv st8 q2 true (j + 1) (j + 1)) w7 ent47 (hdo.mono (by
                    rintro e W ⟨h0, st8, lv8, oW, iW⟩
                    rcases h0 with ⟨hx, _⟩ | ⟨_, rfl⟩
                    · exact absurd hx hf
                    · exact ⟨rfl, (oW.oth (w7.heap.size, bob) (by simp [gob])).1, (oW.oth (w7.heap.size + 1, iob) (by simp [gob])).1, st8, lv8, oW, iW⟩))
                  clear hdo i7
                  go_wp2_with fail
                  rw [HA.out]
                  go_call hgd as e w8 ⟨rfl, W', ⟨st8, lv8, oW, iW⟩, hk⟩
                  clear hgd
                  have o8 := oW.kt (fun p hp => by
                    have q := HL7.out p hp
                    exact q) hk
                  clear oW hk
                  have kA8 := (o8.oth (A, .cells #[.int .i64 9, .int .i64 a.ser, .int .i64 a.i, .int .i64 a.sess, .string a.s, .bool a.odd, .slice a.cao a.cn a.ccp] 49) (by simp)).1
                  have cS : ∀ o, (w8.alloc o).cell? ⟨A, 4, none⟩ = some (.string a.s) := fun o => cell_of ((Below.heap_alloc _ _ _ (getElem?_lt kA8)).trans kA8) 4
                  have HE : ∀ o, Hid (MSR T0 w L C true (j + 1) (w8.alloc o)) := fun o => ⟨st8, lv8, M2, q2, (o8.laid o).forget (by intro p hp; simp at hp ⊢; rcases hp with h | h <;> simp [h]), iW⟩
                  clear o8 iW kA8
                  clear hf
                  by_cases hs0 : a.s = ⟨#[]⟩
                  · go_wp2
                    all_goals (
                      go_roundw
                      case rel => exact ⟨j + 1, true, by omega, rfl, rfl, HE _⟩
                      case measure => simp only [intOf]; omega)
                  · by_cases hs64 : a.s.size ≤ 64
                    · go_wp2
                      all_goals (
                        go_roundw
                        case rel => exact ⟨j + 1, true, by omega, rfl, rfl, HE _⟩
                        case measure => simp only [intOf]; omega)
                    · go_wp2
                      all_goals (
                        go_roundw
                        case rel => exact ⟨j + 1, true, by omega, rfl, rfl, HE _⟩
                        case measure => simp only [intOf]; omega)
              · have i7 : SInv st qm b j (j + 1) := ⟨hI.serial, hI.n, hI.aw, hI.hw, hI.down, hI.q1, hI.qs, by have := hI.s2; omega, hI.c0, hI.c1, hI.al, hI.dv⟩
                have o7 := o6
                clear hI o6
                generalize hw7 : w6 = w7 at *
                clear hw7
                have g7 := o7.guarded
                have HL7 : Hid (∀ p ∈ [(A, .cells #[.int .i64 9, .int .i64 a.ser, .int .i64 a.i, .int .i64 a.sess, .string a.s, .bool a.odd, .slice a.cao a.cn a.ccp] 49), (M, med L.P 1 qm), (C, Obj.cells #[.pointer (some ⟨M, 0, none⟩)] 53)], p.1 < w7.heap.size) := o7.lts
                have hdo := ms_do (M := M) (c := j) g7 C A (.int .i64 9) (.int .i64 a.ser) (.int .i64 a.sess) (.bool a.odd) (.slice a.cao a.cn a.ccp) a.i a.s hsb ⟨by simp [gob], by simp [gob], by simp [gob]⟩ i7 (by omega)
                have hmf : ∀ (fn : Fn) (first cap : Array Value) (w : World), (Instr.makeFunc fn first cap).run Try.prog w = .ok (.func fn first cap) w := fun _ _ _ _ => rfl
                clear o7 g7
                by_cases hf : fails b (a.i % 4).toNat (parts a.s)
                · have hgd := guard_fail 47 #[.pointer (some ⟨C, 0, none⟩), .pointer (some ⟨A, 0, none⟩)] 1 (erOf b) (fun W => ∃ st8 lv8, One T0 w L st8 lv8 (gob w7.heap.size [(A, .cells #[.int .i64 9, .int .i64 a.ser, .int .i64 a.i, .int .i64 a.sess, .string a.s, .bool a.odd, .slice a.cao a.cn a.ccp] 49), (M, med L.P 1 qm), (C, Obj.cells #[.pointer (some ⟨M, 0, none⟩)] 53)]) W ∧ SInv st8 qm b (j + 1) (j + 1)) w7 ent47 (hdo.mono (by
                    rintro e W ⟨h0, st8, lv8, oW, iW⟩
                    rcases h0 with ⟨_, rfl⟩ | ⟨hx, _⟩
                    · exact ⟨rfl, (oW.oth (w7.heap.size, bob) (by simp [gob])).1, (oW.oth (w7.heap.size + 1, iob) (by simp [gob])).1, st8, lv8, oW, iW⟩
                    · exact absurd hf hx))
                  clear hdo i7
                  go_wp2_with fail
                  rw [HA.out]
                  go_call hgd as e w8 ⟨rfl, W', ⟨st8, lv8, oW, iW⟩, hk⟩
                  clear hgd
                  have o8 := oW.kt (fun p hp => by
                    have q := HL7.out p hp
                    exact q) hk
                  clear oW hk
                  have kA8 := (o8.oth (A, .cells #[.int .i64 9, .int .i64 a.ser, .int .i64 a.i, .int .i64 a.sess, .string a.s, .bool a.odd, .slice a.cao a.cn a.ccp] 49) (by simp)).1
                  have cS : ∀ o, (w8.alloc o).cell? ⟨A, 4, none⟩ = some (.string a.s) := fun o => cell_of ((Below.heap_alloc _ _ _ (getElem?_lt kA8)).trans kA8) 4
                  have HE : ∀ o, Hid (MSR T0 w L C b (j + 1) (w8.alloc o)) := fun o => ⟨st8, lv8, M, qm, (o8.laid o).forget (by intro p hp; simp at hp ⊢; rcases hp with h | h <;> simp [h]), iW⟩
                  clear o8 iW kA8
                  cases b with
                  | true =>
                    have hs64 : ¬ a.s.size ≤ 64 := fun h => by
                      rcases hf with ⟨_, h1⟩ | ⟨h1, _⟩
                      · have := parts_one a.s h; omega
                      · cases h1
                    have her : erOf true = 6 := rfl
                    rw [her]
                    clear hf her
                    by_cases hs0 : a.s = ⟨#[]⟩
                    · exfalso; apply hs64; rw [hs0]; decide
                    · go_wp2
                      all_goals (
                        go_roundw
                        case rel => exact ⟨j + 1, true, by omega, rfl, rfl, HE _⟩
                        case measure => simp only [intOf]; omega)
                  | false =>
                    have her : erOf false = 8 := rfl
                    rw [her]
                    have hs0 : ¬ a.s = ⟨#[]⟩ := fun h => by
                      rcases hf with ⟨h1, _⟩ | ⟨_, h1⟩
                      · cases h1
                      · rw [h] at h1; exact absurd h1 (by decide)
                    clear hf her
                    by_cases hs64 : a.s.size ≤ 64
                    · go_wp2
                      all_goals (
                        go_roundw
                        case rel => exact ⟨j + 1, false, by omega, rfl, rfl, HE _⟩
                        case measure => simp only [intOf]; omega)
                    · go_wp2
                      all_goals (
                        go_roundw
                        case rel => exact ⟨j + 1, false, by omega, rfl, rfl, HE _⟩
                        case measure => simp only [intOf]; omega)
                · have hgd := guard_ok 47 #[.pointer (some ⟨C, 0, none⟩), .pointer (some ⟨A, 0, none⟩)] (fun W => ∃ st8 lv8, One T0 w L st8 lv8 (gob w7.heap.size [(A, .cells #[.int .i64 9, .int .i64 a.ser, .int .i64 a.i, .int .i64 a.sess, .string a.s, .bool a.odd, .slice a.cao a.cn a.ccp] 49), (M, med L.P 1 qm), (C, Obj.cells #[.pointer (some ⟨M, 0, none⟩)] 53)]) W ∧ SInv st8 qm b (j + 1) (j + 1)) w7 ent47 (hdo.mono (by
                    rintro e W ⟨h0, st8, lv8, oW, iW⟩
                    rcases h0 with ⟨hx, _⟩ | ⟨_, rfl⟩
                    · exact absurd hx hf
                    · exact ⟨rfl, (oW.oth (w7.heap.size, bob) (by simp [gob])).1, (oW.oth (w7.heap.size + 1, iob) (by simp [gob])).1, st8, lv8, oW, iW⟩))
                  clear hdo i7
                  go_wp2_with fail
                  rw [HA.out]
                  go_call hgd as e w8 ⟨rfl, W', ⟨st8, lv8, oW, iW⟩, hk⟩
                  clear hgd
                  have o8 := oW.kt (fun p hp => by
                    have q := HL7.out p hp
                    exact q) hk
                  clear oW hk
                  have kA8 := (o8.oth (A, .cells #[.int .i64 9, .int .i64 a.ser, .int .i64 a.i, .int .i64 a.sess, .string a.s, .bool a.odd, .slice a.cao a.cn a.ccp] 49) (by simp)).1
                  have cS : ∀ o, (w8.alloc o).cell? ⟨A, 4, none⟩ = some (.string a.s) := fun o => cell_of ((Below.heap_alloc _ _ _ (getElem?_lt kA8)).trans kA8) 4
                  have HE : ∀ o, Hid (MSR T0 w L C b (j + 1) (w8.alloc o)) := fun o => ⟨st8, lv8, M, qm, (o8.laid o).forget (by intro p hp; simp at hp ⊢; rcases hp with h | h <;> simp [h]), iW⟩
                  clear o8 iW kA8
                  cases b with
                  | true =>
                    clear hf
                    by_cases hs0 : a.s = ⟨#[]⟩
                    · go_wp2
                      all_goals (
                        go_roundw
                        case rel => exact ⟨j + 1, true, by omega, rfl, rfl, HE _⟩
                        case measure => simp only [intOf]; omega)
                    · by_cases hs64 : a.s.size ≤ 64
                      · go_wp2
                        all_goals (
                          go_roundw
                          case rel => exact ⟨j + 1, true, by omega, rfl, rfl, HE _⟩
                          case measure => simp only [intOf]; omega)
                      · go_wp2
                        all_goals (
                          go_roundw
                          case rel => exact ⟨j + 1, true, by omega, rfl, rfl, HE _⟩
                          case measure => simp only [intOf]; omega)
                  | false =>
                    have hs0 : a.s = ⟨#[]⟩ := parts_zero _ (by
                      rcases Nat.eq_zero_or_pos (parts a.s) with h | h
                      · exact h
                      · exact absurd (Or.inr ⟨rfl, h⟩) hf)
                    clear hf
                    go_wp2
                    all_goals (
                      go_roundw
                      case rel => exact ⟨j + 1, false, by omega, rfl, rfl, HE _⟩
                      case measure => simp only [intOf]; omega)
            · have i7 : SInv st qm b j (j + 1) := ⟨hI.serial, hI.n, hI.aw, hI.hw, hI.down, hI.q1, hI.qs, by have := hI.s2; omega, hI.c0, hI.c1, hI.al, hI.dv⟩
              obtain ⟨w7, hw7⟩ : ∃ w7, w7 = wr.alloc (Obj.cells #[.int .i64 kd, .int .i64 a.ser, .int .i64 a.i, .int .i64 a.sess, .string a.s, .bool a.odd, .slice a.cao a.cn a.ccp] 49) := ⟨_, rfl⟩
              have o7 := oS
              rw [← hw7] at o7
              clear oS hI
              go_wp2_with fail
              rw [← hw7]
              clear hw7
              have g7 := o7.guarded
              have HL7 : Hid (∀ p ∈ [(A, .cells #[.int .i64 kd, .int .i64 a.ser, .int .i64 a.i, .int .i64 a.sess, .string a.s, .bool a.odd, .slice a.cao a.cn a.ccp] 49), (M, med L.P 1 qm), (C, Obj.cells #[.pointer (some ⟨M, 0, none⟩)] 53)], p.1 < w7.heap.size) := o7.lts
              have hdo := ms_do (M := M) (c := j) g7 C A (.int .i64 kd) (.int .i64 a.ser) (.int .i64 a.sess) (.bool a.odd) (.slice a.cao a.cn a.ccp) a.i a.s hsb ⟨by simp [gob], by simp [gob], by simp [gob]⟩ i7 (by omega)
              have hmf : ∀ (fn : Fn) (first cap : Array Value) (w : World), (Instr.makeFunc fn first cap).run Try.prog w = .ok (.func fn first cap) w := fun _ _ _ _ => rfl
              clear o7 g7
              by_cases hf : fails b (a.i % 4).toNat (parts a.s)
              · have hgd := guard_fail 47 #[.pointer (some ⟨C, 0, none⟩), .pointer (some ⟨A, 0, none⟩)] 1 (erOf b) (fun W => ∃ st8 lv8, One T0 w L st8 lv8 (gob w7.heap.size [(A, .cells #[.int .i64 kd, .int .i64 a.ser, .int .i64 a.i, .int .i64 a.sess, .string a.s, .bool a.odd, .slice a.cao a.cn a.ccp] 49), (M, med L.P 1 qm), (C, Obj.cells #[.pointer (some ⟨M, 0, none⟩)] 53)]) W ∧ SInv st8 qm b (j + 1) (j + 1)) w7 ent47 (hdo.mono (by
                  rintro e W ⟨h0, st8, lv8, oW, iW⟩
                  rcases h0 with ⟨_, rfl⟩ | ⟨hx, _⟩
                  · exact ⟨rfl, (oW.oth (w7.heap.size, bob) (by simp [gob])).1, (oW.oth (w7.heap.size + 1, iob) (by simp [gob])).1, st8, lv8, oW, iW⟩
                  · exact absurd hf hx))
                clear hdo i7
                go_wp2_with fail
                rw [HA.out]
                go_call hgd as e w8 ⟨rfl, W', ⟨st8, lv8, oW, iW⟩, hk⟩
                clear hgd
                have o8 := oW.kt (fun p hp => by
                  have q := HL7.out p hp
                  exact q) hk
                clear oW hk
                have kA8 := (o8.oth (A, .cells #[.int .i64 kd, .int .i64 a.ser, .int .i64 a.i, .int .i64 a.sess, .string a.s, .bool a.odd, .slice a.cao a.cn a.ccp] 49) (by simp)).1
                have cS : ∀ o, (w8.alloc o).cell? ⟨A, 4, none⟩ = some (.string a.s) := fun o => cell_of ((Below.heap_alloc _ _ _ (getElem?_lt kA8)).trans kA8) 4
                have HE : ∀ o, Hid (MSR T0 w L C b (j + 1) (w8.alloc o)) := fun o => ⟨st8, lv8, M, qm, (o8.laid o).forget (by intro p hp; simp at hp ⊢; rcases hp with h | h <;> simp [h]), iW⟩
                clear o8 iW kA8
                cases b with
                | true =>
                  have hs64 : ¬ a.s.size ≤ 64 := fun h => by
                    rcases hf with ⟨_, h1⟩ | ⟨h1, _⟩
                    · have := parts_one a.s h; omega
                    · cases h1
                  have her : erOf true = 6 := rfl
                  rw [her]
                  clear hf her
                  by_cases hs0 : a.s = ⟨#[]⟩
                  · exfalso; apply hs64; rw [hs0]; decide
                  · go_wp2
                    all_goals (
                      go_roundw
                      case rel => exact ⟨j + 1, true, by omega, rfl, rfl, HE _⟩
                      case measure => simp only [intOf]; omega)
                | false =>
                  have her : erOf false = 8 := rfl
                  rw [her]
                  have hs0 : ¬ a.s = ⟨#[]⟩ := fun h => by
                    rcases hf with ⟨h1, _⟩ | ⟨_, h1⟩
                    · cases h1
                    · rw [h] at h1; exact absurd h1 (by decide)
                  clear hf her
                  by_cases hs64 : a.s.size ≤ 64
                  · go_wp2
                    all_goals (
                      go_roundw
                      case rel => exact ⟨j + 1, false, by omega, rfl, rfl, HE _⟩
                      case measure => simp only [intOf]; omega)
                  · go_wp2
                    all_goals (
                      go_roundw
                      case rel => exact ⟨j + 1, false, by omega, rfl, rfl, HE _⟩
                      case measure => simp only [intOf]; omega)
              · have hgd := guard_ok 47 #[.pointer (some ⟨C, 0, none⟩), .pointer (some ⟨A, 0, none⟩)] (fun W => ∃ st8 lv8, One T0 w L st8 lv8 (gob w7.heap.size [(A, .cells #[.int .i64 kd, .int .i64 a.ser, .int .i64 a.i, .int .i64 a.sess, .string a.s, .bool a.odd, .slice a.cao a.cn a.ccp] 49), (M, med L.P 1 qm), (C, Obj.cells #[.pointer (some ⟨M, 0, none⟩)] 53)]) W ∧ SInv st8 qm b (j + 1) (j + 1)) w7 ent47 (hdo.mono (by
                  rintro e W ⟨h0, st8, lv8, oW, iW⟩
                  rcases h0 with ⟨hx, _⟩ | ⟨_, rfl⟩
                  · exact absurd hx hf
                  · exact ⟨rfl, (oW.oth (w7.heap.size, bob) (by simp [gob])).1, (oW.oth (w7.heap.size + 1, iob) (by simp [gob])).1, st8, lv8, oW, iW⟩))
                clear hdo i7
                go_wp2_with fail
                rw [HA.out]
                go_call hgd as e w8 ⟨rfl, W', ⟨st8, lv8, oW, iW⟩, hk⟩
                clear hgd
                have o8 := oW.kt (fun p hp => by
                  have q := HL7.out p hp
                  exact q) hk
                clear oW hk
                have kA8 := (o8.oth (A, .cells #[.int .i64 kd, .int .i64 a.ser, .int .i64 a.i, .int .i64 a.sess, .string a.s, .bool a.odd, .slice a.cao a.cn a.ccp] 49) (by simp)).1
                have cS : ∀ o, (w8.alloc o).cell? ⟨A, 4, none⟩ = some (.string a.s) := fun o => cell_of ((Below.heap_alloc _ _ _ (getElem?_lt kA8)).trans kA8) 4
                have HE : ∀ o, Hid (MSR T0 w L C b (j + 1) (w8.alloc o)) := fun o => ⟨st8, lv8, M, qm, (o8.laid o).forget (by intro p hp; simp at hp ⊢; rcases hp with h | h <;> simp [h]), iW⟩
                clear o8 iW kA8
                cases b with
                | true =>
                  clear hf
                  by_cases hs0 : a.s = ⟨#[]⟩
                  · go_wp2
                    all_goals (
                      go_roundw
                      case rel => exact ⟨j + 1, true, by omega, rfl, rfl, HE _⟩
                      case measure => simp only [intOf]; omega)
                  · by_cases hs64 : a.s.size ≤ 64
                    · go_wp2
                      all_goals (
                        go_roundw
                        case rel => exact ⟨j + 1, true, by omega, rfl, rfl, HE _⟩
                        case measure => simp only [intOf]; omega)
                    · go_wp2
                      all_goals (
                        go_roundw
                        case rel => exact ⟨j + 1, true, by omega, rfl, rfl, HE _⟩
                        case measure => simp only [intOf]; omega)
                | false =>
                  have hs0 : a.s = ⟨#[]⟩ := parts_zero _ (by
                    rcases Nat.eq_zero_or_pos (parts a.s) with h | h
                    · exact h
                    · exact absurd (Or.inr ⟨rfl, h⟩) hf)
                  clear hf
                  go_wp2
                  all_goals (
                    go_roundw
                    case rel => exact ⟨j + 1, false, by omega, rfl, rfl, HE _⟩
                    case measure => simp only [intOf]; omega)
    · have HB : Hid (Below T0 w wr) := oR.below
      have hjx : ¬ (j < an ∧ j < 20) := hjt
      clear hjt HI oR hI
      rcases Nat.lt_or_ge j an with hj1 | hj1
      · have hj2 : ¬ j < 20 := fun h => hjx ⟨hj1, h⟩
        clear hjx
        go_wp2
        go_returns
        exact ⟨rfl, by have q := HB.out; rw [HT.out] at q; exact q⟩
      · have hj2 : ¬ j < an := by omega
        clear hjx
        go_wp2
        go_returns
        exact ⟨rfl, by have q := HB.out; rw [HT.out] at q; exact q⟩
end Go.Proofs.Ytiohkdpmgkobiaa
