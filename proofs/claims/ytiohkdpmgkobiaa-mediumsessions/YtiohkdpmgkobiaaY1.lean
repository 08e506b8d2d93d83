/- Fill; settle with one that stays; Crash; the fixed fact that each statement on flash begins with. -/
import Derived.Test.YtiohkdpmgkobiaaV1
namespace Go.Proofs.Ytiohkdpmgkobiaa
open Go.RowKit
theorem info5 : (Try.prog.info? 5).map (fun i => (i.zero, i.size, i.bytes)) = some (some (.int .u8 0), 1, 1) := by kernel_rfl
theorem mk_64 (w : World) : (Instr.makeSlice 75 (.int .i64 64) (.int .i64 64)).run Try.prog w = .ok (.slice (some ⟨w.heap.size, 0, none⟩) 64 64) (w.alloc (.cells (Array.replicate 64 (.int .u8 0)) 5)) := by
  obtain ⟨i, hi, hz, hs, hb⟩ := info_parts info5
  have := run_make (P := Try.prog) w 75 5 i (.int .u8 0) Try.underlying75 hi hz .i64 .i64 64 64 (by decide) (by decide) (by rw [hb]; decide) (by decide)
  rw [hs] at this
  have e : madeCells (Value.int .u8 0).cells ((64 : Int).toNat * 1) = Array.replicate 64 (.int .u8 0) := by kernel_rfl
  rw [e] at this
  exact this
theorem byteCells_rep (n : Nat) : Lib.byteCells (List.replicate n (0 : UInt8)) = List.replicate n (.int .u8 0) := by
  unfold Lib.byteCells; simp
/-- Fill of a text of at most 64 bytes is that text, filled up. -/
theorem fill_any (s : ByteArray) (hs : s.size ≤ 64) (w : World) : Calls Try.prog 16 #[.string s] w fun e w' => e = .returned (.string (pad s)) ∧ Below w.heap.size w w' := by
  have hmk := mk_64
  have h1 : (w.alloc (.cells (Array.replicate 64 (.int .u8 0)) 5)).heap[w.heap.size]? = some (.cells (Array.replicate 64 (.int .u8 0)) 5) := heap_new _ _
  have hcp := Lib.run_copy_row_string (P := Try.prog) (w.alloc (.cells (Array.replicate 64 (.int .u8 0)) 5)) 75 9 3 5 w.heap.size 0 64 64 s (Array.replicate 64 (.int .u8 0)) 5 Try.underlying75 size5 h1 hs (by simp; omega)
  have hrow : (List.take 0 (Array.replicate 64 (Value.int .u8 0)).toList ++ Lib.byteCells s.data.toList ++ List.drop (0 + s.size) (Array.replicate 64 (Value.int .u8 0)).toList) = Lib.byteCells ((pad s).data.toList) := by
    rw [List.take_zero, List.nil_append, Array.toList_replicate, List.drop_replicate, Nat.zero_add]
    have : (pad s).data.toList = s.data.toList ++ List.replicate (64 - s.size) 0 := by
      unfold pad
      rw [ByteArray.data_append]
      simp
    rw [this]
    unfold Lib.byteCells
    rw [List.map_append]
    simp
  rw [hrow] at hcp
  have h2 := setRow_heap (w.alloc (.cells (Array.replicate 64 (.int .u8 0)) 5)) w.heap.size _ (Lib.byteCells ((pad s).data.toList)).toArray 5 _ h1
  have hb : Below w.heap.size w ((w.alloc (.cells (Array.replicate 64 (.int .u8 0)) 5)).setRow w.heap.size (Lib.byteCells ((pad s).data.toList)).toArray) := by
    refine ⟨rfl, rfl, rfl, by simp [World.setRow], fun k hk => ?_⟩
    rw [setRow_other _ _ _ _ (by omega), Below.heap_alloc _ _ _ hk]
  have hpz : (pad s).data.toList.length = 64 := by rw [Array.length_toList]; exact pad_size s hs
  have hcv := run_convert_bytes_back (P := Try.prog) ((w.alloc (.cells (Array.replicate 64 (.int .u8 0)) 5)).setRow w.heap.size (Lib.byteCells ((pad s).data.toList)).toArray) 75 9 5 ⟨w.heap.size, 0, none⟩ 64 (pad s).data.toList Try.underlying75 Try.underlying5 Try.underlying9 (by
    intro j hj
    rw [Addr.add_mid, Nat.zero_add, cell_of h2]
    unfold Lib.byteCells
    simp [List.getElem?_eq_getElem hj])
  rw [hpz] at hcv
  have HB : Hid _ := hb
  clear hb h1 h2 hrow
  have hps : (⟨(pad s).data.toList.toArray⟩ : ByteArray) = pad s := by cases pad s; simp
  rw [hps] at hcv
  generalize (w.alloc (.cells (Array.replicate 64 (.int .u8 0)) 5)).setRow w.heap.size (Lib.byteCells ((pad s).data.toList)).toArray = w2 at *
  generalize hA : Array.replicate 64 (Value.int .u8 0) = A at *
  go_enter Try.func16, Try.ntmps16
  go_wp2
  go_returns
  exact ⟨rfl, HB.out⟩
theorem setCells_below (b : Nat) : ∀ (vs : List Value) (o : Nat) (w : World), Below b w (w.setCells b o vs)
  | [], _, w => Below.refl _ _
  | v :: r, o, w => by
    rw [World.setCells]
    have h1 : Below b w (w.setCell ⟨b, o, none⟩ v) := ⟨rfl, rfl, rfl, by simp [World.setCell], fun k hk => Below.heap_setCell _ _ _ _ (by show k ≠ b; omega)⟩
    exact h1.trans (setCells_below b r (o + 1) _)
section
variable {b0 : Nat} {w0 : World} {L : Loc} {st : St} {lv : Value} {oth : List (Nat × Obj)} {w : World}
set_option maxRecDepth 100000 in
/-- settle, where one sector is loose and the first choice is odd: it stays. -/
theorem One.settle1 (h : One b0 w0 L st lv oth w) (hl1 : st.ln = 1) (G : Nat) (x : Int) (hx : ¬ x.tmod 2 = 0) (hG : (G, .cells #[.int .i64 x] 3) ∈ oth) (ho1 : ∀ u ∈ st.loose, u.oneCell' = true) :
    Calls Try.prog 74 #[.pointer (some ⟨L.D, 0, none⟩), .slice (some ⟨G, 0, none⟩) 1 1] w fun e w' => (∃ ao, e = .returned (.slice ao 0 0)) ∧ One b0 w0 L { st with ln := 0, loose := [] } (.slice none 0 0) oth w' := by
  obtain ⟨g, cap, cur, rfl, hb, hg, hn, hm, hsz, htk⟩ : ∃ g cap cur, lv = .slice (some ⟨g, 0, none⟩) 1 cap ∧ b0 ≤ g ∧ w.heap[g]? = some (.cells cur 149) ∧ 1 ≤ cap ∧ cap ≤ maxLen ∧ cur.size = cap * 65 ∧ cur.toList.take 65 = st.loose := by
    rcases h.own.2 with ⟨_, h1⟩ | ⟨g, cap, cur, h1, h2, h3, h4, h5, h6, h7⟩
    · omega
    · rw [hl1] at h1 h4 h7
      exact ⟨g, cap, cur, h1, h2, h3, h4, h5, h6, by simpa using h7⟩
  have hlen : st.loose.length = 65 := by have := h.own.1; rw [hl1] at this; omega
  have hr : w.rangeAt g 0 st.loose := by
    intro j v hj
    rw [cell_of hg, Nat.zero_add]
    rw [← htk, List.getElem?_take] at hj
    split at hj
    · rw [Array.getElem?_toList] at hj; exact hj
    · cases hj
  have hl65 : (Try.prog.info? 149).map (·.size) = some st.loose.length := by rw [size149, hlen]
  have d4 := h.dc.2.2.2.2.1
  have cG : w.cell? ⟨G, 0, none⟩ = some (.int .i64 x) := cell_of (h.oth _ hG).1 0
  have h1c : st.loose.toArray.all (·.oneCell') = true := all_oneCell_toArray ho1
  have hzs : Try.zeroCells149.size = 65 := by kernel_rfl
  have hth : (w.alloc (.cells Try.zeroCells149 149)).there w.heap.size 0 st.loose.toArray.size := by
    intro j hj
    have hj2 : j < 65 := by simpa [hlen] using hj
    rw [Nat.zero_add, cell_of (heap_new _ _), frz_of (heap_new _ _)]
    refine ⟨?_, rfl⟩
    rw [Array.getElem?_eq_getElem (by rw [hzs]; exact hj2)]; rfl
  have hbA : Below w.heap.size w ((w.alloc (.cells Try.zeroCells149 149)).setCells w.heap.size 0 st.loose) := by
    have h1 : Below w.heap.size w (w.alloc (.cells Try.zeroCells149 149)) := Below.alloc (Below.refl _ _) (Nat.le_refl _) _
    exact h1.trans (setCells_below _ _ _ _)
  have h2 := h.ofBelow hbA
  have hsA : (Try.prog.info? 149).map (·.size) = some st.loose.toArray.size := by rw [size149]; simp [hlen]
  have hf := h2.flush
  have cG2 : ((w.alloc (.cells Try.zeroCells149 149)).setCells w.heap.size 0 st.loose).cell? ⟨G, 0, none⟩ = some (.int .i64 x) := cell_of (h2.oth _ hG).1 0
  clear h h2
  have hxb : (x.tmod 2 != 0) = true := by simpa using hx
  clear hx
  generalize hW2 : (w.alloc (.cells Try.zeroCells149 149)).setCells w.heap.size 0 st.loose = W2 at *
  have hst : ∀ {ops : Array Oper} {rest : List Oper} {op : Oper} {a : Act} {Q : Exit → Act → World → Prop} (x y : Operand), op.guard = none → op.op = .store 149 x y → a.eval x = .pointer (some ⟨w.heap.size, 0, none⟩) → a.eval y = .agg st.loose.toArray → wpList Try.prog ops Q rest (a.put op.dst undef) W2 → wpList Try.prog ops Q (op :: rest) a (w.alloc (.cells Try.zeroCells149 149)) := by
    intro ops rest op a Q x y h1 h2 h3 h4 h5
    refine wpList_store_mid h1 149 x y h2 w.heap.size 0 st.loose.toArray h3 h4 hth hsA h1c ?_
    have e : (w.alloc (.cells Try.zeroCells149 149)).setCells w.heap.size 0 st.loose.toArray.toList = W2 := by rw [← hW2]
    rw [e]; exact h5
  have HST : Hid _ := @hst
  clear hst hW2
  go_enter Try.func74, Try.ntmps74
  go_wp2
  go_loopw [1, 13] (fun c i wr => (c = .slice (some ⟨G, 0, none⟩) 1 1 ∧ i = .int .i64 0 ∧ wr = w) ∨ (∃ ao, c = .slice ao 0 0 ∧ i = .int .i64 1 ∧ wr = W2)) (fun _ i _ => 1 - (intOf i).toNat)
  case atStart => exact Or.inl ⟨rfl, rfl, rfl⟩
  case round =>
    rcases hrel with ⟨rfl, rfl, rfl⟩ | ⟨ao, rfl, rfl, rfl⟩
    · clear hf
      go_wp2_with (first | (refine wpList_load_mid rfl 149 _ rfl g 0 rfl st.loose _ hr Try.underlying149 rfl hl65 ?_) | (refine HST.out _ _ rfl rfl rfl rfl ?_))
      go_roundw
      case rel => exact Or.inr ⟨_, rfl, by first | rfl | trivial, by first | rfl | trivial⟩
      case measure => simp only [intOf]; omega
    · go_wp2_with fail
      go_call hf as e w1 ⟨rfl, h1⟩
      have H1 : Hid _ := h1
      clear hf h1
      go_wp2
      go_returns
      exact ⟨⟨ao, rfl⟩, H1.out⟩
/-- Crash, where one sector is loose, the first choice is odd, and the device is there. -/
theorem One.crash1 (h : One b0 w0 L st lv oth w) (hl1 : st.ln = 1) (G : Nat) (x : Int) (hx : ¬ x.tmod 2 = 0) (hG : (G, .cells #[.int .i64 x] 3) ∈ oth) (ho1 : ∀ u ∈ st.loose, u.oneCell' = true) (ht : st.there = true) (hq : 0 ≤ st.session ∧ st.session ≤ 1000000) :
    Calls Try.prog 19 #[.pointer (some ⟨L.P, 0, none⟩), .slice (some ⟨G, 0, none⟩) 1 1] w fun e w' => e = .returned (.tuple #[]) ∧ One b0 w0 L { st with ln := 0, loose := [], aw := false, al := 0, session := st.session + 1, hw := false, hl := 0, down := false } (.slice none 0 0) oth w' := by
  have hs := h.settle1 hl1 G x hx hG ho1
  have c0 := h.pc.1
  have hr := h.row
  have HT : Hid (st.there = true) := ht
  clear ht
  have H : ∀ w1, One b0 w0 L { st with ln := 0, loose := [] } (.slice none 0 0) oth w1 → One b0 w0 L { st with ln := 0, loose := [], aw := false, al := 0, session := st.session + 1, hw := false, hl := 0, down := false } (.slice none 0 0) oth ((((((w1.setCell ⟨L.D, 5, none⟩ (.bool false)).setCell ⟨L.D, 6, none⟩ (.int .i64 0)).setCell ⟨L.D, 1, none⟩ (.int .i64 (st.session + 1))).setCell ⟨L.P, 1, none⟩ (.bool false)).setCell ⟨L.P, 2, none⟩ (.int .i64 0)).setCell ⟨L.P, 3, none⟩ (.bool false)) := by
    intro w1 h1
    have h2 := h1.updD 5 (.bool false) { st with ln := 0, loose := [], aw := false } (.slice none 0 0) ⟨rfl, rfl, rfl, rfl, rfl⟩ rfl (h1.ownD _ _)
    have h3 := h2.updD 6 (.int .i64 0) { st with ln := 0, loose := [], aw := false, al := 0 } (.slice none 0 0) ⟨rfl, rfl, rfl, rfl, rfl⟩ rfl (h2.ownD _ _)
    have h4 := h3.updD 1 (.int .i64 (st.session + 1)) { st with ln := 0, loose := [], aw := false, al := 0, session := st.session + 1 } (.slice none 0 0) ⟨rfl, rfl, rfl, rfl, rfl⟩ rfl (h3.ownD _ _)
    have h5 := h4.updP 1 (.bool false) { st with ln := 0, loose := [], aw := false, al := 0, session := st.session + 1, hw := false } ⟨rfl, rfl, rfl, rfl, rfl, rfl, rfl, rfl, rfl, rfl⟩ rfl
    have h6 := h5.updP 2 (.int .i64 0) { st with ln := 0, loose := [], aw := false, al := 0, session := st.session + 1, hw := false, hl := 0 } ⟨rfl, rfl, rfl, rfl, rfl, rfl, rfl, rfl, rfl, rfl⟩ rfl
    exact h6.updP 3 (.bool false) _ ⟨rfl, rfl, rfl, rfl, rfl, rfl, rfl, rfl, rfl, rfl⟩ rfl
  have HH : Hid _ := H
  clear h H
  go_enter Try.func19, Try.ntmps19
  go_wp2
  go_loopw [1, 11] (fun c i wr => (c = .slice (some ⟨G, 0, none⟩) 1 1 ∧ i = .int .i64 0 ∧ wr = w) ∨ (i = .int .i64 1 ∧ Hid (∃ w1, One b0 w0 L { st with ln := 0, loose := [] } (.slice none 0 0) oth w1 ∧ wr = ((w1.setCell ⟨L.D, 5, none⟩ (.bool false)).setCell ⟨L.D, 6, none⟩ (.int .i64 0)).setCell ⟨L.D, 1, none⟩ (.int .i64 (st.session + 1))))) (fun _ i _ => 1 - (intOf i).toNat)
  case atStart => exact Or.inl ⟨rfl, rfl, rfl⟩
  case round =>
    rcases hrel with ⟨rfl, rfl, rfl⟩ | ⟨rfl, hz⟩
    · go_wp2_with fail
      go_call hs as e w1 ⟨⟨ao, rfl⟩, h1⟩
      obtain ⟨d0, d1, d2, d3, d4, d5, d6, d7⟩ := h1.dc
      have f1 := h1.df 1
      have f5 := h1.df 5
      have f6 := h1.df 6
      replace d2 : w1.cell? ⟨L.D, 2, none⟩ = some (.bool st.there) := d2
      replace d1 : w1.cell? ⟨L.D, 1, none⟩ = some (.int .i64 st.session) := d1
      rw [HT.out] at d2
      have H1 : Hid _ := h1
      clear hs h1 hr
      go_wp2
      go_roundw
      case rel => exact Or.inr ⟨rfl, ⟨w1, H1.out, rfl⟩⟩
      case measure => simp only [intOf]; omega
    · clear hs hr
      obtain ⟨w1, h1, hw⟩ := hz.out
      have hfin := HH.out w1 h1
      rw [← hw] at hfin
      have h4 : One b0 w0 L { st with ln := 0, loose := [], aw := false, al := 0, session := st.session + 1 } (.slice none 0 0) oth wr := by
        have h2 := h1.updD 5 (.bool false) { st with ln := 0, loose := [], aw := false } (.slice none 0 0) ⟨rfl, rfl, rfl, rfl, rfl⟩ rfl (h1.ownD _ _)
        have h3 := h2.updD 6 (.int .i64 0) { st with ln := 0, loose := [], aw := false, al := 0 } (.slice none 0 0) ⟨rfl, rfl, rfl, rfl, rfl⟩ rfl (h2.ownD _ _)
        rw [hw]
        exact h3.updD 1 (.int .i64 (st.session + 1)) _ (.slice none 0 0) ⟨rfl, rfl, rfl, rfl, rfl⟩ rfl (h3.ownD _ _)
      obtain ⟨p0, p1, p2, p3, p4⟩ := h4.pc
      have g1 := h4.pf 1
      have g2 := h4.pf 2
      have g3 := h4.pf 3
      have HF : Hid _ := hfin
      clear hz h1 hw hfin h4 HH
      go_wp2
      go_returns
      exact ⟨rfl, HF.out⟩
end
end Go.Proofs.Ytiohkdpmgkobiaa
