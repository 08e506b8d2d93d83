/- New and resize of a table, as calls. -/
import Derived.Test.YtcgmngafodmfcaaDoorE
namespace Go.Proofs.YtcgmngafodmfcaaDoor
open Go.RowKit
def zrow : Value := .agg #[.bool false, .string ⟨#[]⟩, .int .i64 0]
theorem info55 : (Tryd.prog.info? 55).map (fun i => (i.zero, i.size, i.bytes)) = some (some zrow, 3, 32) := by kernel_rfl
def rw0 (n : Nat) : Array Value := madeCells zrow.cells (n * 3)
theorem rw0_row (n : Nat) : Row (rw0 n) n (fun _ => none) := by
  refine ⟨size_madeCells _ _, fun i hi k v hk => ?_⟩
  have hk3 : k < 3 := by
    have := (List.getElem?_eq_some_iff.1 hk).1
    rwa [pl_len] at this
  have hz : zrow.cells = #[.bool false, .string ⟨#[]⟩, .int .i64 0] := rfl
  unfold rw0 madeCells
  rw [hz, Array.getElem?_map, Array.getElem?_range, if_pos (by omega)]
  simp only [Option.map_some]
  match k, hk3 with
  | 0, _ => simp [pl] at hk ⊢; rw [← hk]
  | 1, _ =>
    simp [pl] at hk ⊢
    exact hk
  | 2, _ =>
    simp [pl] at hk ⊢
    exact hk
theorem info_parts {t : TypeId} {z : Value} {s b : Nat} (h : (Tryd.prog.info? t).map (fun i => (i.zero, i.size, i.bytes)) = some (some z, s, b)) : ∃ i, Tryd.prog.info? t = some i ∧ i.zero = some z ∧ i.size = s ∧ i.bytes = b := by
  cases hi : Tryd.prog.info? t with
  | none => rw [hi] at h; cases h
  | some i =>
    rw [hi] at h
    simp only [Option.map_some, Option.some.injEq, Prod.mk.injEq] at h
    exact ⟨i, rfl, h.1, h.2.1, h.2.2⟩
theorem mk_rows (n : Nat) (hn : n ≤ 8192) (w : World) : (Instr.makeSlice 49 (.int .i64 (n : Nat)) (.int .i64 (n : Nat))).run Tryd.prog w = .ok (.slice (some ⟨w.heap.size, 0, none⟩) n n) (w.alloc (.cells (rw0 n) 55)) := by
  obtain ⟨i, hi, hz, hs, hb⟩ := info_parts info55
  have := run_make (P := Tryd.prog) w 49 55 i zrow Tryd.underlying49 hi hz .i64 .i64 n n (by omega) (by omega) (by rw [hb]; omega) (by omega)
  rw [hs] at this
  simp only [Int.toNat_natCast] at this
  exact this
theorem ents_mono (L : Nat → Option Ent) {a b : Nat} (h : a ≤ b) : (ents a L).length ≤ (ents b L).length := by
  induction h with
  | refl => exact Nat.le_refl _
  | step _ ih => rw [ents_succ, List.length_append]; omega
theorem ents_none (n : Nat) : ents n (fun _ => (none : Option Ent)) = [] := by
  unfold ents; simp
theorem good_none {n : Nat} (sd : Nat) (h : 0 < n) : Good n (hm sd n) (fun _ => (none : Option Ent)) :=
  ⟨hm_lt sd h, (fun i _ p e => by cases e), by rw [ents_none]; exact List.nodup_nil⟩
theorem new_any (sd : Nat) (hsd : sd < 18446744073709551616) (w : World) (ht : Tab w) :
    Calls Tryd.prog 7 #[.int .u64 (sd : Nat)] w fun e w' => ∃ tb pb, e = .returned (.pointer (some ⟨tb, 0, none⟩)) ∧ Tm w' tb pb sd 8 0 (fun _ => none) ∧ Below w.heap.size w w' ∧ w.heap.size ≤ tb ∧ w.heap.size ≤ pb := by
  have hmk : ∀ w : World, (Instr.makeSlice 49 (.int .i64 8) (.int .i64 8)).run Tryd.prog w = .ok (.slice (some ⟨w.heap.size, 0, none⟩) 8 8) (w.alloc (.cells (rw0 8) 55)) := mk_rows 8 (by decide)
  have HT : Hid (Tab w) := ht
  have hsz := ht.size
  have HR : Hid (Row (rw0 8) 8 (fun _ => none)) := rw0_row 8
  clear ht
  generalize rw0 8 = C at *
  go_enter Tryd.func7, Tryd.ntmps7
  go_wp2
  go_returns
  refine ⟨w.heap.size + 1, w.heap.size, rfl, ⟨?_, ⟨C, ?_, HR.out⟩, by decide, by decide, hsd, (fun i _ p e => by cases e), HT.out.below hsz ?_, by omega, hsz⟩, ?_, by omega, Nat.le_refl _⟩
  · have := heap_new (w.alloc (.cells C 55)) (.cells #[.int .u64 (sd : Nat), .slice (some ⟨w.heap.size, 0, none⟩) 8 8, .int .i64 0] 51)
    simpa using this
  · rw [Below.heap_alloc _ _ _ (by simp)]; exact heap_new _ _
  · exact ((Below.refl w.heap.size w).alloc (Nat.le_refl _) _).alloc (by simp) _
  · exact ((Below.refl w.heap.size w).alloc (Nat.le_refl _) _).alloc (by simp) _
section
variable {ops : Array Oper} {rest : List Oper} {op : Oper} {act : Act} {W : World} {Q : Exit → Act → World → Prop} {K : Act → World → Prop}
theorem ld55n (hgd : op.guard = none) (x : Operand) (ho : op.op = .load 55 x) {pb i : Nat} (hx : act.eval x = .pointer (some ⟨pb, i, none⟩)) (h : W.rangeAt pb i (pl none)) (k : wpList Tryd.prog ops Q rest (act.put op.dst (.agg #[.bool false, .string ⟨#[]⟩, .int .i64 0])) W) : wpList Tryd.prog ops Q (op :: rest) act W :=
  ld55l hgd x ho none hx h k
theorem ld55s (hgd : op.guard = none) (x : Operand) (ho : op.op = .load 55 x) {pb i : Nat} {p : Ent} (hx : act.eval x = .pointer (some ⟨pb, i, none⟩)) (h : W.rangeAt pb i (pl (some p))) (k : wpList Tryd.prog ops Q rest (act.put op.dst (.agg #[.bool true, .string p.1, .int .i64 p.2])) W) : wpList Tryd.prog ops Q (op :: rest) act W :=
  ld55l hgd x ho (some p) hx h k
end
section
variable {w : World} {tb pb sd n cnt : Nat} {L : Nat → Option Ent}
theorem box_row (a : Value) (b : Value) (c : Value) (ha : a = .bool false) (hb : b = .string ⟨#[]⟩) (hc : c = .int .i64 0) : Row #[a, b, c] 1 (fun _ => none) := by
  subst ha hb hc
  refine ⟨rfl, fun i hi k v hk => ?_⟩
  obtain rfl : i = 0 := by omega
  rw [Nat.zero_mul, Nat.zero_add]
  simpa [pl] using hk
def ZV (w : World) (tb m a : Nat) (p : Ent) : Nat → Value → Prop
  | 0, v => v = .pointer (some ⟨tb, 0, none⟩)
  | 1, v => v = .pointer (some ⟨tb, 0, none⟩)
  | 2, v => v = .pointer (some ⟨tb, 1, none⟩)
  | 3, v => v = .slice (some ⟨w.heap.size, 0, none⟩) m m
  | 4, v => v = .int .i64 (a : Int)
  | 5, v => v = .agg #[.bool true, .string p.1, .int .i64 p.2]
  | 6, v => v = .pointer (some ⟨w.heap.size, a * 3, none⟩)
  | _, _ => True
set_option maxHeartbeats 2000000 in
theorem resize_any (h : Tm w tb pb sd n cnt L) (hg : Good n (hm sd n) L) (m : Nat) (hm4 : 4 ≤ m) (hmb : m ≤ 4096) (hl : (ents n L).length < m) :
    Calls Tryd.prog 22 #[.pointer (some ⟨tb, 0, none⟩), .int .i64 (m : Nat)] w fun e w' => e = .returned (.tuple #[]) ∧ ∃ pb' L', Tm w' tb pb' sd m cnt L' ∧ Good m (hm sd m) L' ∧ (ents m L').Perm (ents n L) ∧ Kp tb pb' w w' ∧ w.heap.size ≤ pb' := by
  have HT : Hid (Tm w tb pb sd n cnt L) := h
  have HG : Hid (Good n (hm sd n) L) := hg
  have HLE : Hid ((ents n L).length < m) := hl
  have n4 := h.n4
  have nb := h.nb
  obtain ⟨-, t1, -⟩ := h.tc
  have f1 : w.frozen? ⟨tb, 1, none⟩ = false := frz_of h.t 1
  have hmk := mk_rows m (by omega)
  have HR : Hid (Row (rw0 m) m (fun _ => none)) := rw0_row m
  have hts := getElem?_lt h.t
  have hps := h.plt
  have hne := h.ne
  clear h hg hl
  generalize rw0 m = C0 at *
  have t1' : (w.alloc (.cells C0 55)).cell? ⟨tb, 1, none⟩ = some (.slice (some ⟨pb, 0, none⟩) n n) := (World.cell?_alloc_past _ _ _ hts).trans t1
  have f1' : (w.alloc (.cells C0 55)).frozen? ⟨tb, 1, none⟩ = false := by
    rw [← f1]; exact Below.frozen ((Below.refl w.heap.size w).alloc (Nat.le_refl _) _) hts
  go_enter Tryd.func22, Tryd.ntmps22
  go_wp2
  clear hmk
  obtain ⟨w1, hw1⟩ : ∃ w1, w1 = (w.setCell ⟨tb, 1, none⟩ (.slice (some ⟨w.heap.size, 0, none⟩) m m)).alloc (.cells C0 55) := ⟨_, rfl⟩
  have hsw : (w.setCell ⟨tb, 1, none⟩ (.slice (some ⟨w.heap.size, 0, none⟩) m m)).heap.size = w.heap.size := by simp [World.setCell]
  have hsm : w1.heap.size = w.heap.size + 1 := by rw [hw1]; simp [World.setCell]
  have hp2 := block_set (i := 1) HT.out.t (.slice (some ⟨w.heap.size, 0, none⟩) m m)
  rw [← Below.heap_alloc _ (.cells C0 55) tb (by omega), ← hw1] at hp2
  have hq2 := heap_new (w.setCell ⟨tb, 1, none⟩ (.slice (some ⟨w.heap.size, 0, none⟩) m m)) (.cells C0 55)
  rw [hsw, ← hw1] at hq2
  have HK0 : Hid (Kp tb w.heap.size w w1) :=
    ⟨by rw [hw1]; rfl, by rw [hw1]; rfl, by rw [hw1]; rfl, by omega, fun k hk h1 _ => by rw [hw1, Below.heap_alloc _ _ _ (by omega)]; exact Below.heap_setCell _ _ _ _ (by exact h1)⟩
  have HTm : Hid (Tm w1 tb w.heap.size sd m cnt (fun _ => none)) :=
    ⟨hp2, ⟨C0, hq2, HR.out⟩, hm4, hmb, HT.out.sdb, (fun i _ p e => by cases e),
      HT.out.rt.below (n := 1) (by decide) (HK0.out.below (by have := HT.out.t0; omega) HT.out.t0 (by have := HT.out.p0; omega)), HT.out.t0, by have := HT.out.p0; omega⟩
  have HSZ : Hid (w.heap.size < w1.heap.size) := by show _ < _; omega
  rw [← hw1]
  clear hp2 hq2 hsm hsw t1' f1' t1 f1 hts hw1
  go_loopw [21] (fun x wr => ∃ (i : Nat) (M : Nat → Option Ent), x = .int .i64 (i : Nat) ∧ i ≤ n ∧ Hid (Tm wr tb w.heap.size sd m cnt M) ∧ Hid (Good m (hm sd m) M) ∧ Hid ((ents m M).Perm (ents i L)) ∧ Hid (Kp tb w.heap.size w wr) ∧ Hid (w.heap.size < wr.heap.size)) (fun x _ => n - (intOf x).toNat)
  case atStart => exact ⟨0, _, rfl, Nat.zero_le _, HTm, good_none sd (by omega), by show (ents m _).Perm _; rw [ents_none, ents_zero], HK0, HSZ⟩
  case round =>
    obtain ⟨i, M, rfl, hin, hT, hGd, hE, hKp, hS⟩ := hrel
    clear HTm HK0 HSZ
    rcases Nat.lt_or_ge i n with hi | hi
    · have hro : Hid (wr.rangeAt pb (i * 3) (pl (L i))) := by
        intro k v hk
        rw [World.cell?_of_block (w := w) (hKp.out.block pb hps (Ne.symm hne) (by omega))]
        exact HT.out.rng hi k v hk
      cases hL : L i with
      | none =>
        rw [hL] at hro
        go_wp2_with (refine ld55n rfl _ rfl rfl hro.out ?k1)
        go_roundw
        case rel =>
          have hbx : Below wr.heap.size wr (wr.alloc (.cells #[.bool false, .string ⟨#[]⟩, .int .i64 0] 55)) := (Below.refl _ _).alloc (Nat.le_refl _) _
          refine ⟨i + 1, M, by go_num, by omega, hT.out.below hbx, hGd, ?_, hKp.out.thenBelow hbx (Nat.le_refl _), ?_⟩
          · show (ents m M).Perm (ents (i + 1) L)
            rw [ents_succ, hL]
            simpa using hE.out
          · have := hS.out
            show _ < _
            simp; omega
        case measure => simp only [intOf]; omega
      | some p =>
        rw [hL] at hro
        have hbx : Below wr.heap.size wr (wr.alloc (.cells #[.bool true, .string p.1, .int .i64 p.2] 55)) := (Below.refl _ _).alloc (Nat.le_refl _) _
        have hT1 := hT.out.below hbx
        have hlm : (ents m M).length < m := by
          rw [hE.out.length_eq]
          have h5 := ents_mono L (show i + 1 ≤ n by omega)
          rw [ents_succ, List.length_append] at h5
          have := HLE.out
          omega
        have hfd := find_any hT1 hlm p.1 (HT.out.kz i hi p hL)
        have hbk := heap_new wr (.cells #[.bool true, .string p.1, .int .i64 p.2] 55)
        have HT1 : Hid _ := hT1
        have HBK : Hid _ := hbk
        have HL2 : Hid (L i = some p) := hL
        have HBX : Hid _ := hbx
        clear hT1 hlm hbk hL hbx
        go_wp2_with (refine ld55s rfl _ rfl rfl hro.out ?k3)
        go_call hfd as e w2 ⟨a, s, is, rfl, hF, hb2⟩
        have HB2 : Hid _ := hb2
        have HF : Hid _ := hF
        have han : a < m := hF.f.lt
        clear hfd hb2 hF
        go_wp2_with fail
        refine O.wp_region_pb (fun f => ⟨#[.pointer (some ⟨tb, 0, none⟩), .int .i64 (m : Int), undef, undef, .slice (some ⟨pb, 0, none⟩) n n, undef, .pointer (some ⟨wr.heap.size, 0, none⟩), .int .i64 (a : Int), .int .i64 ((s : Int) + 1), .bool is, .pointer (some ⟨tb, 0, none⟩), .pointer (some ⟨tb, 0, none⟩), .pointer (some ⟨tb, 1, none⟩), .slice (some ⟨pb, 0, none⟩) n n, .pointer (some ⟨tb, 0, none⟩), .int .i64 (m : Int), .slice (some ⟨w.heap.size, 0, none⟩) m m, .pointer (some ⟨tb, 0, none⟩), .pointer (some ⟨tb, 1, none⟩), .slice (some ⟨pb, 0, none⟩) n n, .int .i64 (n : Int), .int .i64 (i : Int), .bool true, .pointer (some ⟨pb, i * 3, none⟩), .agg #[.bool true, .string p.1, .int .i64 p.2], .pointer (some ⟨wr.heap.size, 0, none⟩), .bool true, .tuple #[.int .i64 (a : Int), .int .i64 ((s : Int) + 1), .bool is], .pointer (some ⟨tb, 0, none⟩), .pointer (some ⟨wr.heap.size, 1, none⟩), .string p.1, .tuple #[.int .i64 (a : Int), .int .i64 ((s : Int) + 1), .bool is], .int .i64 (a : Int), .int .i64 ((s : Int) + 1), .bool is, f 0, f 1, f 2, f 3, f 4, f 5, f 6, u42], []⟩) (ZV w tb m a p) (SPh 7 (fun W => Tm W tb w.heap.size sd m cnt M ∧ Kp tb w.heap.size w2 W ∧ W.heap[wr.heap.size]? = some (.cells #[.bool true, .string p.1, .int .i64 p.2] 55)) (fun W => Tm W tb w.heap.size sd m cnt (up M a (some p)) ∧ Kp tb w.heap.size w2 W)) (fun i => [u35, u36, u37, u38, u39, u40, u41, undef].getD i undef) (by kernel_rfl) rfl rfl ?hIq ?hputq ?stepq ?finq
        case hIq => exact SPh.start ⟨(HT1.out.below HB2.out).below (Below.refl _ _).drew, Kp.ofBelow (Below.refl _ _).drew (Nat.le_refl _), (HB2.out.block _ (getElem?_lt HBK.out)).trans HBK.out⟩
        case finq =>
          intro f W hP hV
          have v0 : f 0 = .pointer (some ⟨tb, 0, none⟩) := hV 0 (by decide)
          have v1 : f 1 = .pointer (some ⟨tb, 0, none⟩) := hV 1 (by decide)
          have v2 : f 2 = .pointer (some ⟨tb, 1, none⟩) := hV 2 (by decide)
          have v3 : f 3 = .slice (some ⟨w.heap.size, 0, none⟩) m m := hV 3 (by decide)
          have v4 : f 4 = .int .i64 (a : Int) := hV 4 (by decide)
          have v5 : f 5 = .agg #[.bool true, .string p.1, .int .i64 p.2] := hV 5 (by decide)
          have v6 : f 6 = .pointer (some ⟨w.heap.size, a * 3, none⟩) := hV 6 (by decide)
          clear hV
          have HB : Hid _ := hP.b rfl
          clear hP
          generalize f 0 = z0 at *
          subst v0
          generalize f 1 = z1 at *
          subst v1
          generalize f 2 = z2 at *
          subst v2
          generalize f 3 = z3 at *
          subst v3
          generalize f 4 = z4 at *
          subst v4
          generalize f 5 = z5 at *
          subst v5
          generalize f 6 = z6 at *
          subst v6
          go_wp2
          go_roundw
          case rel =>
            have hMa : M a = none := by
              cases e : M a with
              | none => rfl
              | some q =>
                exfalso
                have h1 := HF.out.ky q e
                have h2 : q ∈ ents i L := hE.out.mem_iff.1 (mem_ents.2 ⟨a, han, e⟩)
                obtain ⟨j, hj, e2⟩ := mem_ents.1 h2
                have := HG.out.one (show j < n by omega) hi e2 HL2.out h1
                omega
            have hpu := ents_put M p han hMa
            refine ⟨i + 1, up M a (some p), by go_num, by omega, HB.out.1, hGd.out.put HF.out.f hMa p.2, ?_, ?_, ?_⟩
            · show (ents m _).Perm (ents (i + 1) L)
              rw [ents_succ, HL2.out]
              exact hpu.trans ((hE.out.cons p).trans (List.perm_append_singleton p _).symm)
            · exact ((hKp.out.thenBelow HBX.out (Nat.le_refl _)).thenBelow HB2.out (Nat.le_refl _)).trans HB.out.2 (Or.inl rfl)
            · have h1 := hS.out
              have h2 := HBX.out.size
              have h3 := HB2.out.size
              have h4 := HB.out.2.size
              show _ < _
              omega
          case measure => simp only [intOf]; omega
        case hputq =>
          repeat (refine ⟨fun f v => rfl, ?_⟩)
          trivial
        case stepq =>
          refine ⟨?_, ?_⟩
          · intro done f W hP hdn hd K hK
            clear hd
            have hdn0 := hdn
            go_simp
            exact hK _ _ rfl (hP.pure (by decide) hdn0)
          refine ⟨?_, ?_⟩
          · intro done f W hP hdn hd K hK
            have d0 := (hd.1 rfl).2
            have e0 : done 0 = true := (hd.1 rfl).1
            clear hd
            replace d0 : f 0 = .pointer (some ⟨tb, 0, none⟩) := d0
            have hdn0 := hdn
            generalize f 0 = x0 at *
            subst d0
            clear e0
            go_simp
            exact hK _ _ rfl (hP.pure (by decide) hdn0)
          refine ⟨?_, ?_⟩
          · intro done f W hP hdn hd K hK
            have d1 := (hd.1 rfl).2
            have e1 : done 1 = true := (hd.1 rfl).1
            clear hd
            replace d1 : f 1 = .pointer (some ⟨tb, 0, none⟩) := d1
            have hdn0 := hdn
            generalize f 1 = x1 at *
            subst d1
            clear e1
            go_simp
            exact hK _ _ rfl (hP.pure (by decide) hdn0)
          refine ⟨?_, ?_⟩
          · intro done f W hP hdn hd K hK
            have d2 := (hd.1 rfl).2
            have e2 : done 2 = true := (hd.1 rfl).1
            clear hd
            replace d2 : f 2 = .pointer (some ⟨tb, 1, none⟩) := d2
            have hdn0 := hdn
            generalize f 2 = x2 at *
            subst d2
            clear e2
            have hno := hP.no (j := 3) (by decide) hdn0
            obtain ⟨-, q, -⟩ := (hP.a hno).1.tc
            go_simp
            exact hK _ _ rfl (hP.pure (by decide) hdn0)
          refine ⟨?_, ?_⟩
          · intro done f W hP hdn hd K hK
            clear hd
            have hdn0 := hdn
            go_simp
            exact hK _ _ rfl (hP.pure (by decide) hdn0)
          refine ⟨?_, ?_⟩
          · intro done f W hP hdn hd K hK
            clear hd
            have hdn0 := hdn
            have hno := hP.no (j := 5) (by decide) hdn0
            have q := (hP.a hno).2.2
            refine go_if_pos rfl ?_
            exact ld55 _ rfl (some p) rfl (fun k v hk => by rw [cell_of q]; simpa [pl] using hk) (hK _ _ rfl (hP.pure (by decide) hdn0))
          refine ⟨?_, ?_⟩
          · intro done f W hP hdn hd K hK
            have d3 := (hd.1 rfl).2
            have e3 : done 3 = true := (hd.1 rfl).1
            have d4 := (hd.2.1 rfl).2
            have e4 : done 4 = true := (hd.2.1 rfl).1
            clear hd
            replace d3 : f 3 = .slice (some ⟨w.heap.size, 0, none⟩) m m := d3
            replace d4 : f 4 = .int .i64 (a : Int) := d4
            have hdn0 := hdn
            generalize f 3 = x3 at *
            subst d3
            clear e3
            generalize f 4 = x4 at *
            subst d4
            clear e4
            have q := han
            go_simp
            exact hK _ _ rfl (hP.pure (by decide) hdn0)
          refine ⟨?_, ?_⟩
          · intro done f W hP hdn hd K hK
            have d6 := (hd.1 rfl).2
            have e6 : done 6 = true := (hd.1 rfl).1
            have d5 := (hd.2.1 rfl).2
            have e5 : done 5 = true := (hd.2.1 rfl).1
            have e0 : done 0 = true := (hd.2.2.1 rfl).1
            have e1 : done 1 = true := (hd.2.2.2.1 rfl).1
            have e2 : done 2 = true := (hd.2.2.2.2.1 rfl).1
            have e3 : done 3 = true := (hd.2.2.2.2.2.1 rfl).1
            have e4 : done 4 = true := (hd.2.2.2.2.2.2.1 rfl).1
            clear hd
            replace d6 : f 6 = .pointer (some ⟨w.heap.size, a * 3, none⟩) := d6
            replace d5 : f 5 = .agg #[.bool true, .string p.1, .int .i64 p.2] := d5
            have hdn0 := hdn
            generalize f 6 = x6 at *
            subst d6
            generalize f 5 = x5 at *
            subst d5
            -- e5 e6
            obtain ⟨C, h1, h2⟩ := (hP.a hdn0).1.here
            have HA0 : Hid _ := hP.a hdn0
            refine go_if_pos rfl ?_
            refine st55 _ _ rfl h1 h2 han (some p) rfl rfl fun W2 ho hC => hK _ _ trivial (SPh.last ?_ ⟨HA0.out.1.up ho hC (fun q e => by cases e; exact HT.out.kz i hi p HL2.out), HA0.out.2.1.trans (Kp.ofOff ⟨ho.os, ho.tape, ho.output, ho.size, fun k _ h2 => ho.block k h2 h2⟩) (Or.inl rfl)⟩)
            intro j hj
            have : j = 0 ∨ j = 1 ∨ j = 2 ∨ j = 3 ∨ j = 4 ∨ j = 5 ∨ j = 6 := by omega
            rcases this with rfl | rfl | rfl | rfl | rfl | rfl | rfl
            · exact e0
            · exact e1
            · exact e2
            · exact e3
            · exact e4
            · exact e5
            · exact e6
          trivial
    · obtain rfl : i = n := by omega
      go_wp2
      go_returns
      exact ⟨rfl, _, M, hT.out, hGd.out, hE.out, hKp.out, Nat.le_refl _⟩
end
end Go.Proofs.YtcgmngafodmfcaaDoor
