/- TablePlays as a call: of any number and any calls it returns true, and nothing that was there has turned; where the table of rounds reads as the program's text lays it. -/
import Derived.Test.YtcgmngafodmfcaaDoorT
namespace Go.Proofs.YtcgmngafodmfcaaDoor
open Go.RowKit
theorem size29 : (Tryd.prog.info? 29).map (·.size) = some 3 := by kernel_rfl
section
variable {ops : Array Oper} {rest : List Oper} {op : Oper} {act : Act} {W : World} {Q : Exit → Act → World → Prop}
theorem ld29l (hgd : op.guard = none) (x : Operand) (ho : op.op = .load 29 x) {pb i : Nat} {a c : Int} {s : ByteArray} (hx : act.eval x = .pointer (some ⟨pb, i, none⟩)) (h : W.rangeAt pb i [.int .i64 a, .string s, .int .i64 c]) (k : wpList Tryd.prog ops Q rest (act.put op.dst (.agg #[.int .i64 a, .string s, .int .i64 c])) W) : wpList Tryd.prog ops Q (op :: rest) act W :=
  wpList_load_mid hgd 29 x ho pb i hx [.int .i64 a, .string s, .int .i64 c] _ h Tryd.underlying29 rfl (by rw [size29]; rfl) k
end
/-- The table, and the document's list. -/
structure One1 (T : Nat) (w : World) (tb pb : Nat) (v : Value) (l : List Ent) (W : World) : Prop where
  t : Tb W tb pb l
  p : PIs W T v l
  s : Srt l
  lo : Lo T w tb pb W
theorem PIs.kp {w W : World} {b : Nat} {v : Value} {l : List Ent} {tb pb : Nat} {E : List Ent} (h : PIs w b v l) (ht : Tb w tb pb E) (hk : Kp tb pb w W) : PIs W b v l := by
  obtain ⟨sd, n, L, h1, _⟩ := ht.ex
  obtain ⟨C, hC, _⟩ := h1.p
  refine ⟨h.1, ?_⟩
  rcases h.2 with h0 | ⟨g, cap, cur, e, hb1, hg, hr⟩
  · exact Or.inl h0
  · refine Or.inr ⟨g, cap, cur, e, hb1, (hk.block _ (getElem?_lt hg) (fun e2 => ?_) (fun e2 => ?_)).trans hg, hr⟩
    · rw [e2, h1.t] at hg; cases hg
    · rw [e2, hC] at hg; cases hg
theorem One1.below {T : Nat} {w : World} {tb pb : Nat} {v : Value} {l : List Ent} {W W' : World} (h : One1 T w tb pb v l W) (hb : Below W.heap.size W W') : One1 T w tb pb v l W' :=
  ⟨h.t.below hb, h.p.below hb, h.s, h.lo.below hb h.lo.sz⟩
set_option maxHeartbeats 4000000 in
set_option maxRecDepth 100000 in
theorem plays_walk (sd : Nat) (hsd : sd < 18446744073709551616) (ao : Option Addr) (n cap b o : Nat) (ka : Nat → Int) (ks : Nat → ByteArray) (kv : Nat → Int) (w : World) (ht : Tab w) (g1 : 0 < n → ao = some ⟨b, o, none⟩) (g2 : ∀ j, j < n → w.rangeAt b (o + j * 3) [.int .i64 (ka j), .string (ks j), .int .i64 (kv j)]) (gz : ∀ j, j < n → (ks j).size ≤ 9223372036854775807) (hnn : n ≤ 9223372036854775807) :
    Calls Tryd.prog 3 #[.int .u64 (sd : Nat), .slice ao n cap] w fun e w' => e = .returned (.bool true) ∧ Below w.heap.size w w' := by
  have hsz := ht.size
  have haw := awake_any w ht
  have HT : Hid (Tab w) := ht
  have HG1 : Hid _ := g1
  have HG2 : Hid _ := g2
  have HGZ : Hid _ := gz
  clear ht g1 g2 gz
  go_enter Tryd.func3, Tryd.ntmps3
  go_wp2_with fail
  go_call haw as e w1 ⟨rfl, hb1⟩
  have HTB1 : Hid (Tab w1) := HT.out.below hsz hb1
  have hnw := tnew sd hsd w1 HTB1.out
  have HB1 : Hid _ := hb1
  clear haw hb1
  go_wp2_with fail
  go_call hnw as e w2 ⟨tb, pb, rfl, hTb, hb2, ha1, ha2⟩
  have HW0 : Hid (One1 w.heap.size w tb pb (.slice none 0 0) [] w2) := by
    have s1 := HB1.out.size
    have s2 := hb2.size
    exact ⟨hTb, World.ownsRow_nil _ _ _ _, List.Pairwise.nil, ⟨HB1.out.trans (hb2.mono s1), by omega, by omega, by omega⟩⟩
  clear hnw hTb hb2 ha1 ha2 HB1 HTB1
  go_wp2
  rename_i K hK
  have HK : Hid _ := hK
  clear hK
  go_loopw [6, 7] (fun y x wr => ∃ (i pb' : Nat) (ao' : Option Addr) (cp' : Nat) (l : List Ent), y = .slice ao' l.length cp' ∧ x = .int .i64 (i : Nat) ∧ i ≤ n ∧ i ≤ 120 ∧ Hid (One1 w.heap.size w tb pb' (.slice ao' l.length cp') l wr) ∧ l.length ≤ i) (fun _ x _ => 121 - (intOf x).toNat)
  case atStart => exact ⟨0, pb, none, 0, [], rfl, rfl, Nat.zero_le _, Nat.zero_le _, HW0, Nat.le_refl _⟩
  case round =>
    obtain ⟨i, pb', ao', cp', l, rfl, rfl, hin, hi120, hW, hll⟩ := hrel
    clear HW0
    rcases Nat.lt_or_ge i n with hi | hi
    · rcases Nat.lt_or_ge i 120 with hi2 | hi2
      · obtain rfl := HG1.out (by omega)
        have hin2 : (i : Int) < (n : Int) := by omega
        have hi3 : (i : Int) < 120 := by omega
        have hro : Hid (wr.rangeAt b (o + i * 3) [.int .i64 (ka i), .string (ks i), .int .i64 (kv i)]) := fun k v hk => by
          have h9 := HG2.out i hi k v hk
          have hbw : b < w.heap.size := by
            have := h9
            unfold World.cell? at this
            exact Nat.lt_of_not_le fun hle => by
              rw [Array.getElem?_eq_none (by exact hle)] at this
              simp at this
          rw [hW.out.lo.bl.cell (p := ⟨b, o + i * 3 + k, none⟩) hbw]
          exact h9
        have hzi := HGZ.out i hi
        have hct := cut_any (ks i) 20 (by decide) hzi
        have hc8 := cutN_le (ks i) 20
        obtain ⟨kk, hkk⟩ : ∃ kk, kk = cutN (ks i) 20 := ⟨_, rfl⟩
        rw [← hkk] at hct hc8
        clear hkk
        obtain ⟨a, ha⟩ : ∃ a, a = ka i := ⟨_, rfl⟩
        rw [← ha] at hro
        clear ha
        have HBX : Hid (Below wr.heap.size wr (wr.alloc (.cells #[.int .i64 a, .string (ks i), .int .i64 (kv i)] 29))) := (Below.refl _ _).alloc (Nat.le_refl _) _
        have hbk := heap_new wr (.cells #[.int .i64 a, .string (ks i), .int .i64 (kv i)] 29)
        have HBK : Hid _ := hbk
        clear hbk
        have HW1 : Hid _ := hW.out.below HBX.out
        have hct2 := hct (wr.alloc (.cells #[.int .i64 a, .string (ks i), .int .i64 (kv i)] 29))
        clear hct
        by_cases hc1 : a = 1
        · subst hc1
          go_wp2_with (refine ld29l rfl _ rfl rfl hro.out ?k1)
          go_call hct2 as e wc ⟨rfl, rfl⟩
          clear hct2
          have hg := tget HW1.out.t kk (by omega)
          go_wp2_with fail
          go_call hg as e w3 ⟨rfl, hb3⟩
          have HW3 : Hid _ := HW1.out.below hb3
          have hrg := rget_any (.slice ao' l.length cp') l kk w3 _ HW3.out.p (by omega)
          clear hg hb3
          obtain ⟨r, hr⟩ : ∃ r, r = lk l kk := ⟨_, rfl⟩
          rw [← hr] at hrg
          rw [← hr]
          clear hr
          go_wp2_with fail
          go_call hrg as e w4 ⟨rfl, hb4⟩
          have HWZ : Hid _ := HW3.out.below hb4
          clear hrg hb4
          obtain ⟨lz, hlz⟩ : ∃ lz, lz = l := ⟨_, rfl⟩
          obtain ⟨pz, hpz⟩ : ∃ pz, pz = pb' := ⟨_, rfl⟩
          obtain ⟨aoz, haoz⟩ : ∃ a, a = ao' := ⟨_, rfl⟩
          obtain ⟨cpz, hcpz⟩ : ∃ a, a = cp' := ⟨_, rfl⟩
          subst hlz hpz haoz hcpz
          have HLZ : Hid (lz.length ≤ i + 1) := by show _ ≤ _; omega
          have hlz5 : lz.length ≤ 200 := by have := HLZ.out; omega
          have hs1 := tsteps HWZ.out.t kk (by omega)
          go_wp2_with fail
          go_call hs1 as e y1 ⟨⟨s1, rfl, hs1b⟩, hby1⟩
          have HY1 : Hid _ := HWZ.out.below hby1
          have hl1 := tlen HY1.out.t
          have hsc : ¬ ((lz.length : Int) + 1 < (s1 : Int) + 1) := by omega
          have hsc2 : ¬ ((lz.length : Int) < (s1 : Int)) := by omega
          clear hs1 hby1
          go_wp2_with fail
          go_call hl1 as e y2 ⟨rfl, rfl⟩
          have hs2 := tsteps HY1.out.t kk (by omega)
          clear hl1
          go_wp2_with fail
          go_call hs2 as e y3 ⟨⟨s2, rfl, hs2b⟩, hby3⟩
          have HY3 : Hid _ := HY1.out.below hby3
          have hsd2 : ¬ ((s2 : Int) + 1 < 1) := by omega
          clear hs2 hby3
          go_wp2
          go_roundw
          case rel => exact ⟨i + 1, pz, aoz, cpz, lz, rfl, by go_num, by omega, by omega, HY3.out, by have := HLZ.out; omega⟩
          case measure => simp only [intOf]; omega
        · by_cases hc2 : a = 2
          · subst hc2
            go_wp2_with (refine ld29l rfl _ rfl rfl hro.out ?k2)
            go_call hct2 as e wc ⟨rfl, rfl⟩
            clear hct2
            have hrd := rdrop_any (.slice ao' l.length cp') l kk _ _ HW1.out.p (by omega)
            go_wp2_with fail
            go_call hrd as e w3 ⟨v3, rfl, hp3, hb3⟩
            obtain ⟨aoz, cpz, rfl⟩ := own_slice hp3
            have hB3 := hb3.size
            have HT3 : Hid _ := HW1.out.t.below hb3
            have HLO3 : Hid _ := HW1.out.lo.below hb3 HW1.out.lo.sz
            have HP3 : Hid (PIs w3 w.heap.size (.slice aoz (wo l kk).length cpz) (wo l kk)) := hp3.least HW1.out.lo.sz
            have hdp := drop_any HT3.out kk (by omega)
            clear hrd hb3 hp3 hB3
            obtain ⟨r, hr⟩ : ∃ r, r = (lk l kk).isSome := ⟨_, rfl⟩
            rw [← hr] at hdp
            rw [← hr]
            clear hr
            have HSW : Hid _ := HW1.out.s.wo kk
            have HLZ0 : Hid ((wo l kk).length ≤ i + 1) := Nat.le_trans (wo_len l kk) (by omega)
            obtain ⟨lz, hlz⟩ : ∃ lz, lz = wo l kk := ⟨_, rfl⟩
            rw [← hlz] at hdp HP3 HSW HLZ0 ⊢
            clear hlz
            go_wp2_with fail
            go_call hdp as e w4 ⟨rfl, pz, h1, h2, h3⟩
            have HWZ : Hid (One1 w.heap.size w tb pz (.slice aoz lz.length cpz) lz w4) := ⟨h1, HP3.out.kp HT3.out h2, HSW.out, HLO3.out.step h2 h3⟩
            have HLZ : Hid _ := HLZ0
            clear hdp h1 h2 h3
            have hlz5 : lz.length ≤ 200 := by have := HLZ.out; omega
            have hs1 := tsteps HWZ.out.t kk (by omega)
            go_wp2_with fail
            go_call hs1 as e y1 ⟨⟨s1, rfl, hs1b⟩, hby1⟩
            have HY1 : Hid _ := HWZ.out.below hby1
            have hl1 := tlen HY1.out.t
            have hsc : ¬ ((lz.length : Int) + 1 < (s1 : Int) + 1) := by omega
            have hsc2 : ¬ ((lz.length : Int) < (s1 : Int)) := by omega
            clear hs1 hby1
            go_wp2_with fail
            go_call hl1 as e y2 ⟨rfl, rfl⟩
            have hs2 := tsteps HY1.out.t kk (by omega)
            clear hl1
            go_wp2_with fail
            go_call hs2 as e y3 ⟨⟨s2, rfl, hs2b⟩, hby3⟩
            have HY3 : Hid _ := HY1.out.below hby3
            have hsd2 : ¬ ((s2 : Int) + 1 < 1) := by omega
            clear hs2 hby3
            go_wp2
            go_roundw
            case rel => exact ⟨i + 1, pz, aoz, cpz, lz, rfl, by go_num, by omega, by omega, HY3.out, by have := HLZ.out; omega⟩
            case measure => simp only [intOf]; omega
          · go_wp2_with (refine ld29l rfl _ rfl rfl hro.out ?k3)
            go_call hct2 as e wc ⟨rfl, rfl⟩
            clear hct2
            have hrp := rput_any (.slice ao' l.length cp') l kk (kv i) _ _ HW1.out.p (by omega)
            have hc1i : ¬ a = 1 := hc1
            have hc2i : ¬ a = 2 := hc2
            go_wp2_with fail
            go_call hrp as e w3 ⟨v3, rfl, hp3, hb3⟩
            obtain ⟨aoz, cpz, rfl⟩ := own_slice hp3
            have HT3 : Hid _ := HW1.out.t.below hb3
            have HLO3 : Hid _ := HW1.out.lo.below hb3 HW1.out.lo.sz
            have HP3 : Hid (PIs w3 w.heap.size (.slice aoz (ins (wo l kk) kk (kv i)).length cpz) (ins (wo l kk) kk (kv i))) := hp3.least HW1.out.lo.sz
            have hbk3 := (hb3.block _ (getElem?_lt HBK.out)).trans HBK.out
            have hk2c := cell_of hbk3 2
            simp at hk2c
            have hpt := put_any HT3.out kk (by omega) (kv i) (by omega)
            clear hrp hb3 hp3 hbk3
            obtain ⟨r, hr⟩ : ∃ r, r = (lk l kk).isSome := ⟨_, rfl⟩
            rw [← hr] at hpt
            rw [← hr]
            clear hr
            have HSW : Hid (Srt (ins (wo l kk) kk (kv i))) := (HW1.out.s.wo kk).ins (kv i) (fun p hp => of_decide_eq_true (List.mem_filter.1 hp).2)
            have HPM : Hid (((kk, kv i) :: wo l kk).Perm (ins (wo l kk) kk (kv i))) := (ins_perm _ _ _).symm
            have HLZ0 : Hid ((ins (wo l kk) kk (kv i)).length ≤ i + 1) := by
              have h8 := wo_len l kk
              have h9 := (ins_perm (wo l kk) kk (kv i)).length_eq
              rw [List.length_cons] at h9
              show _ ≤ _
              omega
            obtain ⟨lz, hlz⟩ : ∃ lz, lz = ins (wo l kk) kk (kv i) := ⟨_, rfl⟩
            rw [← hlz] at HP3 HSW HLZ0 HPM ⊢
            clear hlz
            go_wp2_with fail
            go_call hpt as e w4 ⟨rfl, pz, h1, h2, h3⟩
            have HWZ : Hid (One1 w.heap.size w tb pz (.slice aoz lz.length cpz) lz w4) := ⟨h1.perm HPM.out, HP3.out.kp HT3.out h2, HSW.out, HLO3.out.step h2 h3⟩
            have HLZ : Hid _ := HLZ0
            clear hpt h1 h2 h3
            have hlz5 : lz.length ≤ 200 := by have := HLZ.out; omega
            have hs1 := tsteps HWZ.out.t kk (by omega)
            go_wp2_with fail
            go_call hs1 as e y1 ⟨⟨s1, rfl, hs1b⟩, hby1⟩
            have HY1 : Hid _ := HWZ.out.below hby1
            have hl1 := tlen HY1.out.t
            have hsc : ¬ ((lz.length : Int) + 1 < (s1 : Int) + 1) := by omega
            have hsc2 : ¬ ((lz.length : Int) < (s1 : Int)) := by omega
            clear hs1 hby1
            go_wp2_with fail
            go_call hl1 as e y2 ⟨rfl, rfl⟩
            have hs2 := tsteps HY1.out.t kk (by omega)
            clear hl1
            go_wp2_with fail
            go_call hs2 as e y3 ⟨⟨s2, rfl, hs2b⟩, hby3⟩
            have HY3 : Hid _ := HY1.out.below hby3
            have hsd2 : ¬ ((s2 : Int) + 1 < 1) := by omega
            clear hs2 hby3
            go_wp2
            go_roundw
            case rel => exact ⟨i + 1, pz, aoz, cpz, lz, rfl, by go_num, by omega, by omega, HY3.out, by have := HLZ.out; omega⟩
            case measure => simp only [intOf]; omega
      · obtain rfl : i = 120 := by omega
        go_wp2
        refine HK.out _ _ ?_
        clear HK
        have hise := is_any (.slice ao' l.length cp') l wr _ tb pb' hW.out.t hW.out.p hW.out.s (by omega)
        go_wp2_with fail
        go_call hise as e wl ⟨rfl, hbl⟩
        have HBL : Hid _ := hW.out.below hbl
        clear hise hbl
        go_wp2
        go_returns
        exact ⟨rfl, HBL.out.lo.bl⟩
    · obtain rfl : i = n := by omega
      go_wp2
      refine HK.out _ _ ?_
      clear HK
      have hise := is_any (.slice ao' l.length cp') l wr _ tb pb' hW.out.t hW.out.p hW.out.s (by omega)
      go_wp2_with fail
      go_call hise as e wl ⟨rfl, hbl⟩
      have HBL : Hid _ := hW.out.below hbl
      clear hise hbl
      go_wp2
      go_returns
      exact ⟨rfl, HBL.out.lo.bl⟩
end Go.Proofs.YtcgmngafodmfcaaDoor
