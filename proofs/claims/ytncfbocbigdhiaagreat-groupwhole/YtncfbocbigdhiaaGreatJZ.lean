/- Texts of this seat, one behind the other: JA, JB, JC, JD, JE, JF, JG, JH, JI, JJ, JK, JL. -/
import Derived.Test.YtncfbocbigdhiaaGreatGX
import Derived.Lib.BufferWrite
import Derived.Lib.MinMax
import Derived.Deep.QuietTactic
import Derived.BigQuiet
/- What the statements' pay answers, as a call: so many bytes of a text, filled up, marked; of every text and every number of sectors from 1 on. -/
namespace Go.Proofs.YtncfbocbigdhiaaGreat
open Go.RowKit
/-- 'copy(dst, s)', dst being a whole row of bytes: as many of s's bytes go over as there is room. -/
theorem run_copy_bytes (w : World) (g N cp : Nat) (s : ByteArray) (cur : Array Value) (hg : w.heap[g]? = some (.cells cur 5)) (hN : cur.size = N) (ty : TypeId) :
    (Builtin.copy_ #[75, 9] ty #[.slice (some ⟨g, 0, none⟩) N cp, .string s]).run Tryz.prog w =
      .ok (goInt (Nat.min s.size N)) (w.setRow g (Lib.byteCells (s.data.toList.take N) ++ cur.toList.drop (Nat.min s.size N)).toArray) := by
  have hlen : (Lib.byteCells (s.data.toList.take N)).length = Nat.min s.size N := by
    rw [Lib.byteCells_length, List.length_take, ← Lib.size_eq]; exact Nat.min_comm _ _
  have hst := run_storeCells_at Tryz.prog g 0 5 (Lib.byteCells (s.data.toList.take N)) 0 cur w hg (by rw [hlen, hN, Nat.add_zero, Nat.zero_add]; exact Nat.min_le_right _ _) (Lib.byteCells_one _)
  have htk : List.take (Nat.min s.size N) (List.map (fun b : UInt8 => Value.int IntKind.u8 (b.toNat : Int)) s.data.toList) = Lib.byteCells (s.data.toList.take N) := by
    unfold Lib.byteCells
    rw [← List.map_take]
    congr 1
    rcases Nat.le_total s.size N with h | h
    · rw [show Nat.min s.size N = s.size from Nat.min_eq_left h, List.take_of_length_le (by rw [← Lib.size_eq]; exact Nat.le_refl _), List.take_of_length_le (by rw [← Lib.size_eq]; exact h)]
    · rw [show Nat.min s.size N = N from Nat.min_eq_right h]
  rw [hlen] at hst
  simp only [Nat.add_zero] at hst
  have hs : (Tryz.prog.info? 5).map (·.size) = some 1 := by kernel_rfl
  cases hq : Tryz.prog.info? 5 with
  | none => simp [hq] at hs
  | some i =>
    simp [Builtin.copy_, run_underlying Tryz.underlying75, Builtin.lenOf, Builtin.firstCells, sizeOf, typeInfo, hq]
    rw [htk, hst]
    simp [Result.andThen]
/-- What pay answers. -/
def payN (s : ByteArray) (n : Nat) : ByteArray := O.tx (((s.data.toList.take (63 * n)) ++ List.replicate (63 * n - s.size) 0).set 62 (UInt8.ofNat n))
theorem payN_size (s : ByteArray) (n : Nat) : (payN s n).size = 63 * n := by
  unfold payN
  rw [tx_size, List.length_set, List.length_append, List.length_take, List.length_replicate, ← Lib.size_eq]
  omega
def zb (n : Nat) : Array Value := Array.replicate n (.int .u8 0)
theorem info5 : (Tryz.prog.info? 5).map (fun i => (i.zero, i.size, i.bytes)) = some (some (.int .u8 0), 1, 1) := by kernel_rfl
theorem mk_bytes (n : Nat) (hn : n ≤ 100000) (w : World) : (Instr.makeSlice 75 (.int .i64 (n : Nat)) (.int .i64 (n : Nat))).run Tryz.prog w = .ok (.slice (some ⟨w.heap.size, 0, none⟩) n n) (w.alloc (.cells (zb n) 5)) := by
  obtain ⟨i, hi, hz, hs, hb⟩ := info_parts info5
  have := run_make (P := Tryz.prog) w 75 5 i (.int .u8 0) Tryz.underlying75 hi hz .i64 .i64 n n (by omega) (by omega) (by rw [hb]; omega) (by omega)
  rw [hs] at this
  simp only [Int.toNat_natCast] at this
  have e : madeCells (Value.int .u8 0).cells (n * 1) = zb n := by
    have hz : (Value.int .u8 0).cells = #[.int .u8 0] := rfl
    rw [hz]
    unfold madeCells zb
    apply Array.ext
    · simp
    · intro k h1 h2
      simp [Nat.mod_one]
  rw [e] at this
  exact this
/-- The bytes, ahead of the mark. -/
def pl0 (s : ByteArray) (n : Nat) : List UInt8 := (s.data.toList.take (63 * n)) ++ List.replicate (63 * n - s.size) 0
theorem pl0_len (s : ByteArray) (n : Nat) : (pl0 s n).length = 63 * n := by
  unfold pl0
  rw [List.length_append, List.length_take, List.length_replicate, ← Lib.size_eq]
  omega
theorem pl0_cells (s : ByteArray) (n : Nat) : (Lib.byteCells (s.data.toList.take (63 * n)) ++ (zb (63 * n)).toList.drop (Nat.min s.size (63 * n))) = Lib.byteCells (pl0 s n) := by
  unfold pl0 zb Lib.byteCells
  rw [List.map_append, List.map_replicate, Array.toList_replicate, List.drop_replicate]
  congr 2
  show 63 * n - min s.size (63 * n) = _
  omega
set_option maxHeartbeats 1000000 in
set_option maxRecDepth 100000 in
theorem pay_any (s : ByteArray) (n : Nat) (h1 : 1 ≤ n) (h2 : n ≤ 100) (w : World) : Calls Tryz.prog 18 #[.string s, .int .i64 (n : Nat)] w fun e w' => e = .returned (.string (payN s n)) ∧ Below w.heap.size w w' := by
  have hmk := mk_bytes (63 * n) (by omega) w
  have e63 : (63 : Int) * (n : Int) = ((63 * n : Nat) : Int) := by omega
  have hcp := run_copy_bytes (w.alloc (.cells (zb (63 * n)) 5)) w.heap.size (63 * n) (63 * n) s (zb (63 * n)) (F.heap_new _ _) (by unfold zb; simp) 3
  rw [pl0_cells] at hcp
  obtain ⟨w2, hw2⟩ : ∃ w2, w2 = (w.alloc (.cells (zb (63 * n)) 5)).setRow w.heap.size (Lib.byteCells (pl0 s n)).toArray := ⟨_, rfl⟩
  rw [← hw2] at hcp
  have hb2 : w2.heap[w.heap.size]? = some (.cells (Lib.byteCells (pl0 s n)).toArray 5) := by rw [hw2]; exact setRow_heap _ _ _ _ _ _ (F.heap_new _ _)
  have hl2 : (Lib.byteCells (pl0 s n)).length = 63 * n := by rw [Lib.byteCells_length, pl0_len]
  have q0 : ∃ x, w2.cell? ⟨w.heap.size, 62, none⟩ = some x := by
    rw [F.cell_of hb2]
    exact ⟨_, Array.getElem?_eq_getElem (by rw [List.size_toArray, hl2]; omega)⟩
  obtain ⟨x0, q0⟩ := q0
  have f0 : w2.frozen? ⟨w.heap.size, 62, none⟩ = false := F.frz_of hb2 62
  have hb3 := F.block_set (i := 62) hb2 (.int .u8 (n : Int))
  obtain ⟨w3, hw3⟩ : ∃ w3, w3 = w2.setCell ⟨w.heap.size, 62, none⟩ (.int .u8 (n : Int)) := ⟨_, rfl⟩
  rw [← hw3] at hb3
  have hcv : (convert 75 9 (.slice (some ⟨w.heap.size, 0, none⟩) (63 * n) (63 * n))).run Tryz.prog w3 = .ok (.string (payN s n)) w3 := by
    have h := run_convert_bytes_back (P := Tryz.prog) w3 75 9 5 ⟨w.heap.size, 0, none⟩ (63 * n) ((pl0 s n).set 62 (UInt8.ofNat n)) Tryz.underlying75 Tryz.underlying5 Tryz.underlying9 (fun j hj => by
      have hj2 : j < 63 * n := by rw [List.length_set, pl0_len] at hj; exact hj
      rw [Addr.add_lit, Nat.zero_add, F.cell_of hb3, Array.getElem?_setIfInBounds]
      by_cases e : 62 = j
      · subst e
        rw [if_pos rfl, if_pos (by rw [List.size_toArray, hl2]; omega), List.getElem_set_self]
        congr 2
        rw [UInt8.toNat_ofNat']; omega
      · rw [if_neg e, List.getElem?_toArray, List.getElem?_eq_getElem (by rw [hl2]; exact hj2), List.getElem_set_ne e]
        unfold Lib.byteCells
        rw [List.getElem_map])
    rw [List.length_set, pl0_len] at h
    exact h
  have HB : Hid (Below w.heap.size w w3) := by
    rw [hw3, hw2]
    have hb1 : Below w.heap.size w (w.alloc (.cells (zb (63 * n)) 5)) := (Below.refl _ _).alloc (Nat.le_refl _) _
    have hb4 : Below w.heap.size w ((w.alloc (.cells (zb (63 * n)) 5)).setRow w.heap.size (Lib.byteCells (pl0 s n)).toArray) := ⟨hb1.os, hb1.tape, hb1.output, by rw [size_setRow]; exact hb1.size, fun k hk => by rw [setRow_other _ _ _ _ (by omega)]; exact hb1.block k hk⟩
    exact hb4.setCell (Nat.le_refl _) _
  rw [← e63] at hmk
  rw [hw3] at hcv HB
  clear hb2 hl2 hb3 hw2 e63 hw3
  go_enter Tryz.func18, Tryz.ntmps18
  go_wp2
  go_returns
  exact ⟨rfl, HB.out⟩
end Go.Proofs.YtncfbocbigdhiaaGreat

/- A segment of a device as the statements make it; their fixed fact, as calls. -/
namespace Go.Proofs.YtncfbocbigdhiaaGreat.F
open Go.RowKit
section
variable {b0 : Nat} {w0 : World} {L : Loc} {st : St} {lv : Value} {oth : List (Nat × Obj)} {w : World}
theorem One.kt2 {B : Nat} {w' : World} (h : One b0 w0 L st lv (gob B oth) w) (hne : ∀ p ∈ oth, p.1 ≠ B ∧ p.1 ≠ B + 1) (k : KT B w w') : One b0 w0 L st lv oth w' := by
  obtain ⟨i1, i2, i3, i4⟩ := h.oth (B + 1, iob) (by simp [gob])
  obtain ⟨j1, j2, j3, j4⟩ := h.oth (B, bob) (by simp [gob])
  have same : ∀ {j : Nat} {o : Obj}, w.heap[j]? = some o → j ≠ B → j ≠ B + 1 → w'.heap[j]? = some o := fun e h1 h2 => (k.block _ (getElem?_lt e) h1 h2).trans e
  refine ⟨?_, h.bP, h.bR, h.bD, h.bS, same h.pool j2.1.symm i2.1.symm, same h.rowb j2.2.1.symm i2.2.1.symm, h.rc0, same h.dev j2.2.2.1.symm i2.2.2.1.symm, same h.sec j2.2.2.2.symm i2.2.2.2.symm, ⟨h.own.1, ?_⟩, ?_⟩
  · refine ⟨k.os.trans h.below.os, k.tape.trans h.below.tape, k.output.trans h.below.output, Nat.le_trans h.below.size k.size, fun j hj => ?_⟩
    have j4' : b0 ≤ B := j4
    have hs : j < w.heap.size := by have := getElem?_lt h.pool; have := h.bP; omega
    rw [k.block j hs (by omega) (by omega)]
    exact h.below.block j hj
  · rcases h.own.2 with h1 | ⟨g, cap, cur, e, h2, h3, h4⟩
    · exact Or.inl h1
    · refine Or.inr ⟨g, cap, cur, e, h2, same h3 ?_ ?_, h4⟩
      · intro e2; rw [e2] at h3; rw [h3] at j1; injection j1 with j1; exact j3 _ j1.symm
      · intro e2; rw [e2] at h3; rw [h3] at i1; injection i1 with i1; exact i3 _ i1.symm
  · intro p hp
    obtain ⟨o1, o2, o3, o4⟩ := h.oth p (by simp [gob, hp])
    have := hne p hp
    exact ⟨same o1 this.1 this.2, o2, o3, o4⟩
end
end Go.Proofs.YtncfbocbigdhiaaGreat.F
namespace Go.Proofs.YtncfbocbigdhiaaGreat
open Go.RowKit
def sg0 (M p : Nat) : Sg := ⟨M, 3, 2, 5, 4, p, 1⟩
theorem sg0_ok (M p : Nat) (h1 : 8 ≤ p) (h2 : p ≤ 64) : (sg0 M p).Ok := ⟨(by decide : (3 : Nat) < _), (by decide : (2 : Nat) < _), (by decide : (5 : Nat) < _), (by decide : (4 : Nat) ≤ _), h1, h2, Nat.le_refl _, (by show 1 ≤ p; omega)⟩
set_option maxHeartbeats 1000000 in
theorem of13 {b0 : Nat} {w0 : World} {L : F.Loc} {st : F.St} {lv : Value} {oth : List (Nat × Obj)} {w : World} (h : F.One b0 w0 L st lv oth w) (ht : st.there = true) (hs : st.serial = 1) (p : Nat) :
    Calls Tryz.prog 13 #[.pointer (some ⟨L.P, 0, none⟩), .int .i64 (p : Nat)] w fun e w' => ∃ S M, e = .returned (.pointer (some ⟨S, 0, none⟩)) ∧ F.One b0 w0 L st lv ((S, .cells (sg0 M p).cs 44) :: (M, F.med L.P 1 st.session) :: oth) w' ∧ S ≠ M ∧ (∀ q ∈ oth, q.1 ≠ S) := by
  have ho := h.of_any ht
  rw [hs] at ho
  have hl := h.lts
  have HL : Hid _ := hl
  clear h hl
  go_enter Tryz.func13, Tryz.ntmps13
  go_wp2_with fail
  go_call ho as e w1 ⟨M, rfl, o1⟩
  have o2 := o1.alloc (.cells (sg0 M p).cs 44) (F.apart_of (by decide))
  have O1 : Hid _ := o1
  have O2 : Hid _ := o2
  clear ho o1 o2
  go_wp2
  go_returns
  exact ⟨w1.heap.size, M, rfl, O2.out, (fun e => by have := O1.out.lts (M, F.med L.P 1 st.session) (List.mem_cons_self ..); have e2 : w1.heap.size = M := e; omega), fun q hq e => by have := O1.out.lts q (List.mem_cons_of_mem _ hq); omega⟩
end Go.Proofs.YtncfbocbigdhiaaGreat

/- A device that does all: Append, Room, Scan and Read of a segment there, by what lies on it. -/
namespace Go.Proofs.YtncfbocbigdhiaaGreat
open Go.RowKit
/-- A device that does all, with nothing that is not sure, and what lies on it. -/
structure Dev (T : Nat) (w : World) (L : F.Loc) (n : Nat) (oth : List (Nat × Obj)) (now : Nat → ByteArray) (c : Int) (W : World) : Prop where
  ex : ∃ st lv ats, F.One T w L st lv oth W ∧ st.n = n ∧ st.serial = 1 ∧ st.session = 1 ∧ st.there = true ∧ F.Mode.idle.is st ∧ F.Dv st ats now now ∧ 0 ≤ st.count ∧ st.count ≤ c ∧ st.ln = 0
section
variable {T : Nat} {w : World} {L : F.Loc} {n : Nat} {oth oth' : List (Nat × Obj)} {now : Nat → ByteArray} {c : Int} {W W' : World}
theorem Dev.below (h : Dev T w L n oth now c W) (hb : Below W.heap.size W W') : Dev T w L n oth now c W' := by
  obtain ⟨st, lv, ats, h1, h2⟩ := h.ex
  exact ⟨st, lv, ats, h1.ofBelow hb, h2⟩
theorem Dev.forget (h : Dev T w L n oth now c W) (hs : ∀ p ∈ oth', p ∈ oth) : Dev T w L n oth' now c W := by
  obtain ⟨st, lv, ats, h1, h2⟩ := h.ex
  exact ⟨st, lv, ats, h1.forget hs, h2⟩
theorem Dev.alloc (h : Dev T w L n oth now c W) (o : Obj) (ho : F.Obj.apart o) : Dev T w L n ((W.heap.size, o) :: oth) now c (W.alloc o) := by
  obtain ⟨st, lv, ats, h1, h2⟩ := h.ex
  exact ⟨st, lv, ats, h1.alloc o ho, h2⟩
theorem Dev.setOther {B : Nat} {v0 v : Value} {t : TypeId} (h : Dev T w L n ((B, .cells #[v0] t) :: oth) now c W) (hne : ∀ p ∈ oth, p.1 ≠ B) (ht : t ≠ 152) : Dev T w L n ((B, .cells #[v] t) :: oth) now c (W.setCell ⟨B, 0, none⟩ v) := by
  obtain ⟨st, lv, ats, h1, h2⟩ := h.ex
  exact ⟨st, lv, ats, h1.setOther hne ht, h2⟩
theorem Dev.at' (h : Dev T w L n oth now c W) {p : Nat × Obj} (hp : p ∈ oth) : W.heap[p.1]? = some p.2 := by
  obtain ⟨st, lv, ats, h1, h2⟩ := h.ex
  exact (h1.oth p hp).1
theorem Dev.bel (h : Dev T w L n oth now c W) : Below T w W := by
  obtain ⟨st, lv, ats, h1, h2⟩ := h.ex
  exact h1.below
theorem Dev.more (h : Dev T w L n oth now c W) {d : Int} (hd : c ≤ d) : Dev T w L n oth now d W := by
  obtain ⟨st, lv, ats, h1, h2, h3, h4, h5, h6, h7, h8, h9, h10⟩ := h.ex
  exact ⟨st, lv, ats, h1, h2, h3, h4, h5, h6, h7, h8, by omega, h10⟩
theorem Dev.lts (h : Dev T w L n oth now c W) : ∀ p ∈ oth, p.1 < W.heap.size := by
  obtain ⟨st, lv, ats, h1, h2⟩ := h.ex
  exact h1.lts
end
theorem idle_iter (k : Nat) : F.Mode.idle.iter k = F.Mode.idle := by
  induction k with
  | zero => rfl
  | succ k ih => first | (show (F.Mode.idle.iter k).next = _; rw [ih]; rfl) | (show F.Mode.idle.next.iter k = _; exact ih)
theorem dev_write {T : Nat} {w : World} {L : F.Loc} {n : Nat} {oth : List (Nat × Obj)} {st : F.St} {lv : Value} {ats : Nat → Nat} {now sure : Nat → ByteArray} {W : World} (h : F.One T w L st lv oth W) (hn : st.n = n) (hs : st.serial = 1) (hq : st.session = 1) (ht : st.there = true) (hi : F.Mode.idle.is st) (hd : F.Dv st ats now sure) (hc : 0 ≤ st.count ∧ st.count ≤ 700000) (hn1 : n ≤ 1000) (M : Nat) (hM : (M, F.med L.P 1 1) ∈ oth) (frm : Nat) (y : ByteArray) (k : Nat) (hy : y.size = 64 * k) (hk : k ≤ 100) (hf : frm + k ≤ n) :
    Calls Tryz.prog 28 #[.pointer (some ⟨M, 0, none⟩), .int .i64 (frm : Nat), .string y] W fun e W' => e = .returned (.tuple #[]) ∧ ∃ st' lv' ats', F.One T w L st' lv' oth W' ∧ st'.n = n ∧ st'.serial = 1 ∧ st'.session = 1 ∧ st'.there = true ∧ F.Mode.idle.is st' ∧ F.Dv st' ats' (F.lay now frm y k) sure ∧ st.count ≤ st'.count ∧ st'.count ≤ st.count + k := by
  have hp := ypart hy
  refine (h.mwrite_md M (by rw [hs, hq]; exact hM) ht .idle hi (fun e => by cases e) ⟨hc.1, by omega⟩ hd (by omega) frm y (by omega) (by rw [hp]; omega)).mono ?_
  rintro e W' (⟨rfl, -, st', lv', ho, kp, c0, c1, hm, ats', hd'⟩ | ⟨E, -, ⟨j, hj⟩, -⟩)
  · rw [hp] at c1 hm hd'
    rw [idle_iter] at hm
    exact ⟨rfl, st', lv', ats', ho, kp.n.trans hn, kp.serial.trans hs, kp.session.trans hq, kp.there.trans ht, hm, hd', c0, c1⟩
  · rw [idle_iter] at hj
    exact absurd rfl hj
theorem dev_flush {T : Nat} {w : World} {L : F.Loc} {n : Nat} {oth : List (Nat × Obj)} {st : F.St} {lv : Value} {ats : Nat → Nat} {now sure : Nat → ByteArray} {W : World} (h : F.One T w L st lv oth W) (hn : st.n = n) (hs : st.serial = 1) (hq : st.session = 1) (ht : st.there = true) (hi : F.Mode.idle.is st) (hd : F.Dv st ats now sure) (hc : 0 ≤ st.count ∧ st.count ≤ 700000) (M : Nat) (hM : (M, F.med L.P 1 1) ∈ oth) :
    Calls Tryz.prog 55 #[.pointer (some ⟨M, 0, none⟩)] W fun e W' => e = .returned (.tuple #[]) ∧ ∃ st' lv' ats', F.One T w L st' lv' oth W' ∧ st'.n = n ∧ st'.serial = 1 ∧ st'.session = 1 ∧ st'.there = true ∧ F.Mode.idle.is st' ∧ F.Dv st' ats' now now ∧ st.count ≤ st'.count ∧ st'.count ≤ st.count + 1 ∧ st'.ln = 0 := by
  refine (h.mflush M (by rw [hs, hq]; exact hM) hi.1 ht hi.2.1 hi.2.2 ⟨hc.1, by omega⟩).mono ?_
  rintro e W' ⟨rfl, lv', ho⟩
  exact ⟨rfl, _, lv', ats, ho, hn, hs, hq, ht, hi, hd.flushed rfl rfl rfl rfl, by show st.count ≤ st.count + 1; omega, Int.le_refl _, rfl⟩
set_option maxHeartbeats 1000000 in
theorem dev_append {T : Nat} {w : World} {L : F.Loc} {n : Nat} {oth : List (Nat × Obj)} {now : Nat → ByteArray} {c : Int} {W : World} {Sb : Nat} (s : Sg) (h : Dev T w L n ((Sb, .cells s.cs 44) :: oth) now c W) (hM : (s.M, F.med L.P 1 1) ∈ oth) (hne : ∀ p ∈ oth, p.1 ≠ Sb) (hs : s.Ok) (x : ByteArray) (k : Nat) (hk : 1 ≤ k) (hroom : s.a + k < s.p) (hx : x.size = 63 * k) (hn : s.b + s.p ≤ n) (hn1 : n ≤ 1000) (hc : c ≤ 600000) :
    Calls Tryz.prog 17 #[.pointer (some ⟨Sb, 0, none⟩), .string x] W fun e W' => e = .returned (.int .i64 (s.a : Nat)) ∧ Dev T w L n ((Sb, .cells (Sg.cs { s with a := s.a + 1 + k }) 44) :: oth) (layC now s x k) (c + 100) W' := by
  have hy := ysize x k hx
  have hp1 := hs.p1
  have hcs : (s.cm s.a x).sec.size = 64 * 1 := Cm.sec_size _
  have hM' : (s.M, F.med L.P 1 1) ∈ ((Sb, .cells s.cs 44) :: oth : List (Nat × Obj)) := List.mem_cons_of_mem _ hM
  let St : (Nat → ByteArray) → (Nat → ByteArray) → Int → World → Prop := fun a b d W => ∃ st lv ats, F.One T w L st lv ((Sb, .cells s.cs 44) :: oth) W ∧ st.n = n ∧ st.serial = 1 ∧ st.session = 1 ∧ st.there = true ∧ F.Mode.idle.is st ∧ F.Dv st ats a b ∧ 0 ≤ st.count ∧ st.count ≤ d
  let St0 : (Nat → ByteArray) → Int → World → Prop := fun a d W => ∃ st lv ats, F.One T w L st lv ((Sb, .cells s.cs 44) :: oth) W ∧ st.n = n ∧ st.serial = 1 ∧ st.session = 1 ∧ st.there = true ∧ F.Mode.idle.is st ∧ F.Dv st ats a a ∧ 0 ≤ st.count ∧ st.count ≤ d ∧ st.ln = 0
  let R : Nat → World → Prop := fun i W => if i = 0 then St now now c W else if i = 1 then St (layP now s x k) now (c + k) W else if i = 2 then St (layP now s x k) (layP now s x k) (c + k + 1) W else if i = 3 then St (layC now s x k) (layP now s x k) (c + k + 2) W else St0 (layC now s x k) (c + k + 3) W
  have hStB : ∀ {a b d W W'}, St a b d W → Below W.heap.size W W' → St a b d W' := fun ⟨st, lv, ats, h1, h2⟩ hb => ⟨st, lv, ats, h1.ofBelow hb, h2⟩
  have hStB0 : ∀ {a d W W'}, St0 a d W → Below W.heap.size W W' → St0 a d W' := fun ⟨st, lv, ats, h1, h2⟩ hb => ⟨st, lv, ats, h1.ofBelow hb, h2⟩
  have hStS0 : ∀ {a d W}, St0 a d W → W.heap[Sb]? = some (.cells s.cs 44) := fun ⟨st, lv, ats, h1, h2⟩ => (h1.oth _ (List.mem_cons_self ..)).1
  have hStS : ∀ {a b d W}, St a b d W → W.heap[Sb]? = some (.cells s.cs 44) := fun ⟨st, lv, ats, h1, h2⟩ => (h1.oth _ (List.mem_cons_self ..)).1
  refine (append_brk 1 (fun _ => False) s hs Sb x k hk hroom hx R W ?_ ?_ (by
    obtain ⟨st, lv, ats, h1, h2, h3, h4, h5, h6, h7, h8, h9, _⟩ := h.ex
    exact ⟨st, lv, ats, h1, h2, h3, h4, h5, h6, h7, h8, h9⟩) ?_ ?_ ?_ ?_).mono ?_
  · intro i W W' hR hb
    show if i = 0 then _ else _
    have hR' : (if i = 0 then St now now c W else if i = 1 then St (layP now s x k) now (c + k) W else if i = 2 then St (layP now s x k) (layP now s x k) (c + k + 1) W else if i = 3 then St (layC now s x k) (layP now s x k) (c + k + 2) W else St0 (layC now s x k) (c + k + 3) W) := hR
    repeat' (split at hR' <;> split <;> try contradiction)
    all_goals first | exact hStB hR' hb | exact hStB0 hR' hb
  · intro i W hR
    have hR' : (if i = 0 then St now now c W else if i = 1 then St (layP now s x k) now (c + k) W else if i = 2 then St (layP now s x k) (layP now s x k) (c + k + 1) W else if i = 3 then St (layC now s x k) (layP now s x k) (c + k + 2) W else St0 (layC now s x k) (c + k + 3) W) := hR
    repeat' split at hR'
    all_goals first | exact hStS hR' | exact hStS0 hR'
  · rintro W ⟨st, lv, ats, h1, h2, h3, h4, h5, h6, h7, h8, h9⟩
    refine (dev_write h1 h2 h3 h4 h5 h6 h7 ⟨h8, by omega⟩ hn1 s.M hM' (s.b + s.a + 1) (O.tx (secP x k)) k hy (by omega) (by omega)).mono ?_
    rintro e W' ⟨rfl, st', lv', ats', a1, a2, a3, a4, a5, a6, a7, a8, a9⟩
    exact Or.inl ⟨rfl, st', lv', ats', a1, a2, a3, a4, a5, a6, a7, by omega, by omega⟩
  · rintro W ⟨st, lv, ats, h1, h2, h3, h4, h5, h6, h7, h8, h9⟩
    refine (dev_flush h1 h2 h3 h4 h5 h6 h7 ⟨h8, by omega⟩ s.M hM').mono ?_
    rintro e W' ⟨rfl, st', lv', ats', a1, a2, a3, a4, a5, a6, a7, a8, a9, _⟩
    exact Or.inl ⟨rfl, st', lv', ats', a1, a2, a3, a4, a5, a6, a7, by omega, by omega⟩
  · rintro W ⟨st, lv, ats, h1, h2, h3, h4, h5, h6, h7, h8, h9⟩
    refine (dev_write h1 h2 h3 h4 h5 h6 h7 ⟨h8, by omega⟩ hn1 s.M hM' (s.b + s.a) (s.cm s.a x).sec 1 hcs (by decide) (by omega)).mono ?_
    rintro e W' ⟨rfl, st', lv', ats', a1, a2, a3, a4, a5, a6, a7, a8, a9⟩
    exact Or.inl ⟨rfl, st', lv', ats', a1, a2, a3, a4, a5, a6, a7, by omega, by omega⟩
  · rintro W ⟨st, lv, ats, h1, h2, h3, h4, h5, h6, h7, h8, h9⟩
    refine (dev_flush h1 h2 h3 h4 h5 h6 h7 ⟨h8, by omega⟩ s.M hM').mono ?_
    rintro e W' ⟨rfl, st', lv', ats', a1, a2, a3, a4, a5, a6, a7, a8, a9, a10⟩
    exact Or.inl ⟨rfl, st', lv', ats', a1, a2, a3, a4, a5, a6, a7, by omega, by omega, a10⟩
  · rintro e w' (⟨rfl, w2, ⟨st, lv, ats, h1, h2, h3, h4, h5, h6, h7, h8, h9, h10⟩, hks, hcs2⟩ | ⟨E, -, hB⟩)
    · exact ⟨rfl, st, lv, ats, h1.other6 hne hks hcs2, h2, h3, h4, h5, h6, h7, h8, by omega, h10⟩
    · exact hB.elim
end Go.Proofs.YtncfbocbigdhiaaGreat

/- Groups as they lie on a device, one behind the other, and what Scan finds of them. -/
namespace Go.Proofs.YtncfbocbigdhiaaGreat
open Go.RowKit
theorem chunk_list (y : ByteArray) (i : Nat) : (F.chunk y i).data.toList = (y.data.toList.drop (64 * i)).take 64 := by
  unfold F.chunk F.part
  rw [ByteArray.data_extract, Array.toList_extract, List.extract_eq_take_drop, ByteArray.data_extract, Array.toList_extract, List.extract_eq_take_drop]
  simp only [List.drop_zero, Nat.sub_zero]
  rw [List.take_of_length_le (l := List.drop (64 * i) y.data.toList) (by rw [List.length_drop, ← O.size_list]; exact Nat.le_refl _)]
  rw [ByteArray.size_extract]
  rcases Nat.le_total 64 (y.size - 64 * i) with h | h
  · rw [Nat.min_eq_left (by omega)]
  · rw [List.take_of_length_le (by rw [List.length_drop, ← O.size_list]; omega), List.take_of_length_le (by rw [List.length_drop, ← O.size_list]; omega)]
theorem padc_list (y : ByteArray) (i n : Nat) (h : y.size = 64 * n) (hi : i < n) : (F.pad (F.chunk y i)).data.toList = (y.data.toList.drop (64 * i)).take 64 := by
  have hc := chunk_list y i
  have hl : (F.chunk y i).size = 64 := by
    rw [O.size_list, hc, List.length_take, List.length_drop, ← O.size_list]; omega
  unfold F.pad
  rw [hl, ← hc]
  show ((F.chunk y i) ++ _).data.toList = _
  rw [ByteArray.data_append, Array.toList_append]
  simp
/-- What is read of sectors that hold a text's parts is the text. -/
theorem rdsL_lay (st : F.St) (frm : Nat) (y : ByteArray) (n : Nat) (h : y.size = 64 * n) : ∀ k, k ≤ n → (∀ i, i < k → F.rd st (frm + i) = F.pad (F.chunk y i)) → F.rdsL st frm k = y.data.toList.take (64 * k)
  | 0, _, _ => by simp [F.rdsL]
  | k + 1, hk, hr => by
    have h1 := rdsL_lay st frm y n h k (by omega) (fun i hi => hr i (by omega))
    have h2 : F.rdB st (frm + k) = (y.data.toList.drop (64 * k)).take 64 := by
      rw [← padc_list y k n h (by omega), ← hr k (by omega)]
      show _ = (F.rdB st (frm + k)).toArray.toList
      rw [List.toList_toArray]
    show F.rdsL st frm k ++ F.rdB st (frm + k) = _
    rw [h1, h2, show 64 * (k + 1) = 64 * k + 64 by omega, List.take_add]
theorem rds_one (st : F.St) (i : Nat) : (⟨(F.rdsL st i 1).toArray⟩ : ByteArray) = F.rd st i := by
  show (⟨([] ++ F.rdB st (i + 0)).toArray⟩ : ByteArray) = _
  rfl
/-- A group lies there. -/
structure Grp (now : Nat → ByteArray) (s : Sg) (t k : Nat) (x : ByteArray) : Prop where
  sz : x.size = 63 * k
  k1 : 1 ≤ k
  fit : t + k < s.p
  com : now (s.b + t) = (s.cm t x).sec
  pay : ∀ i, i < k → now (s.b + t + 1 + i) = F.pad (F.chunk (O.tx (secP x k)) i)
/-- Groups, one behind the other, from the first place on. -/
inductive Chn (now : Nat → ByteArray) (s : Sg) : List (Nat × ByteArray) → Nat → Prop
  | nil : Chn now s [] 1
  | next {l : List (Nat × ByteArray)} {t k : Nat} {x : ByteArray} : Chn now s l t → Grp now s t k x → Chn now s (l ++ [(t, x)]) (t + 1 + k)
theorem Chn.lt {now : Nat → ByteArray} {s : Sg} {l : List (Nat × ByteArray)} {e : Nat} (h : Chn now s l e) : 1 ≤ e ∧ ∀ p ∈ l, 1 ≤ p.1 ∧ p.1 < e := by
  induction h with
  | nil => exact ⟨Nat.le_refl _, fun p hp => by cases hp⟩
  | next h1 h2 ih =>
    refine ⟨by omega, fun p hp => ?_⟩
    rcases List.mem_append.1 hp with hp | hp
    · have := ih.2 p hp; omega
    · rw [List.mem_singleton.1 hp]; exact ⟨ih.1, by show _ < _; simp; omega⟩
theorem Chn.grp {now : Nat → ByteArray} {s : Sg} {l : List (Nat × ByteArray)} {e : Nat} (h : Chn now s l e) : ∀ p ∈ l, ∃ k, Grp now s p.1 k p.2 := by
  induction h with
  | nil => intro p hp; cases hp
  | next h1 h2 ih =>
    intro p hp
    rcases List.mem_append.1 hp with hp | hp
    · exact ih p hp
    · rw [List.mem_singleton.1 hp]; exact ⟨_, h2⟩
theorem Chn.one {now : Nat → ByteArray} {s : Sg} {l : List (Nat × ByteArray)} {e : Nat} (h : Chn now s l e) : ∀ p ∈ l, ∀ q ∈ l, p.1 = q.1 → p = q := by
  induction h with
  | nil => intro p hp; cases hp
  | next h1 h2 ih =>
    intro p hp q hq e
    have hl := h1.lt.2
    rcases List.mem_append.1 hp with hp | hp <;> rcases List.mem_append.1 hq with hq | hq
    · exact ih p hp q hq e
    · have := hl p hp; rw [List.mem_singleton.1 hq] at e; simp only at e; omega
    · have := hl q hq; rw [List.mem_singleton.1 hp] at e; simp only at e; omega
    · rw [List.mem_singleton.1 hp, List.mem_singleton.1 hq]
/-- What each sector is: no Commit by its mark, or one that may be. -/
def Ksec (y : ByteArray) : Prop := y.size = 64 ∧ (y[0]? ≠ some 67 ∨ ∃ q : Cm, q.Ok ∧ y = q.sec)
def cm0 : Cm := ⟨0, 0, 0, 0, 0, 0⟩
theorem ksec_tells {y : ByteArray} (h : Ksec y) : ∃ (q : Cm) (er : Int), q.k ≤ 255 ∧ (y[0]? ≠ some 67 → q = cm0) ∧ (∀ W, Calls Tryz.prog 131 #[.string y] W fun e w' => e = .returned (.tuple #[.agg q.cs, .int .i64 er]) ∧ Below W.heap.size W w') := by
  by_cases h0 : y[0]? = some 67
  · rcases h.2 with h1 | ⟨q, hq, rfl⟩
    · exact absurd h0 h1
    · exact ⟨q, 0, by have := hq.ak; omega, fun h => absurd h0 h, fun W => tocommit_back q hq W⟩
  · obtain ⟨er, hc⟩ := tocommit_other y h.1 h0
    exact ⟨cm0, er, Nat.zero_le _, fun _ => rfl, hc⟩
/-- Where so many steps lead. -/
def wayG (cnt : Nat → Nat) : Nat → List Nat × Nat
  | 0 => ([], 1)
  | j + 1 => ((wayG cnt j).1 ++ [(wayG cnt j).2], (wayG cnt j).2 + 1 + cnt (wayG cnt j).2)
theorem Way.steps {cnt : Nat → Nat} {ps : List Nat} {t : Nat} (h : Way cnt ps t) : (ps, t) = wayG cnt ps.length ∧ ∀ j, j < ps.length → 0 < cnt (wayG cnt j).2 := by
  induction h with
  | nil => exact ⟨rfl, fun j hj => absurd hj (Nat.not_lt_zero _)⟩
  | next h1 h2 ih =>
    rename_i ps t
    have e1 : (wayG cnt ps.length).1 = ps := by rw [← ih.1]
    have e2 : (wayG cnt ps.length).2 = t := by rw [← ih.1]
    rw [List.length_append]
    refine ⟨?_, fun j hj => ?_⟩
    · show _ = wayG cnt (ps.length + 1)
      show _ = ((wayG cnt ps.length).1 ++ [(wayG cnt ps.length).2], (wayG cnt ps.length).2 + 1 + cnt (wayG cnt ps.length).2)
      rw [e1, e2]
    · have hj' : j < ps.length + 1 := hj
      rcases Nat.lt_or_ge j ps.length with h | h
      · exact ih.2 j h
      · obtain rfl : j = ps.length := by omega
        rw [e2]; exact h2
theorem Way.det {cnt : Nat → Nat} {ps ps' : List Nat} {t t' : Nat} (h : Way cnt ps t) (h' : Way cnt ps' t') (hz : cnt t = 0) (hz' : cnt t' = 0) : ps = ps' ∧ t = t' := by
  have s1 := h.steps
  have s2 := h'.steps
  have e2 : (wayG cnt ps.length).2 = t := by rw [← s1.1]
  have e2' : (wayG cnt ps'.length).2 = t' := by rw [← s2.1]
  rcases Nat.lt_trichotomy ps.length ps'.length with h | h | h
  · have := s2.2 _ h; rw [e2] at this; omega
  · have e : (ps, t) = (ps', t') := by rw [s1.1, s2.1, h]
    injection e with a b
    exact ⟨a, b⟩
  · have := s1.2 _ h; rw [e2'] at this; omega
end Go.Proofs.YtncfbocbigdhiaaGreat

/- Scan and Read of a segment whose groups lie there; and what an Append adds to them. -/
namespace Go.Proofs.YtncfbocbigdhiaaGreat
open Go.RowKit
theorem rd_now {st : F.St} {ats : Nat → Nat} {now : Nat → ByteArray} {n : Nat} (hd : F.Dv st ats now now) (hn : st.n = n) (i : Nat) (hi : i < n) : F.rd st i = now i := hd.nw i (by omega)
theorem grp_read {st : F.St} {ats : Nat → Nat} {now : Nat → ByteArray} {n : Nat} {s : Sg} {t k : Nat} {x : ByteArray} (hd : F.Dv st ats now now) (hn : st.n = n) (hfit : s.b + s.p ≤ n) (hg : Grp now s t k x) : (⟨(F.rdsL st (s.b + t + 1) k).toArray⟩ : ByteArray) = O.tx (secP x k) := by
  have hy := ysize x k hg.sz
  have hf := hg.fit
  have h1 := rdsL_lay st (s.b + t + 1) (O.tx (secP x k)) k hy k (Nat.le_refl _) (fun i hi => by rw [rd_now hd hn _ (by omega)]; exact hg.pay i hi)
  rw [h1, List.take_of_length_le (by rw [← O.size_list]; omega)]
theorem sec_mark (q : Cm) : q.sec[0]? = some 67 := by
  unfold Cm.sec secL
  rfl
theorem dev_scan {T : Nat} {w : World} {L : F.Loc} {n : Nat} {oth : List (Nat × Obj)} {now : Nat → ByteArray} {c : Int} {W : World} {Sb : Nat} (s : Sg) (h : Dev T w L n ((Sb, .cells s.cs 44) :: oth) now c W) (hM : (s.M, F.med L.P 1 1) ∈ oth) (h5 : ∀ p ∈ oth, ∀ c fz, p.2 ≠ .cells c 5 fz) (hne : ∀ p ∈ oth, p.1 ≠ Sb)
    (hsb : s.c < 18446744073709551616 ∧ s.j < 18446744073709551616 ∧ s.n < 18446744073709551616) (hs : s.b ≤ 10000 ∧ 1 ≤ s.p ∧ s.p ≤ 64) (hfit : s.b + s.p ≤ n) (hn1 : n ≤ 1000) (hc : c ≤ 40000) (hk : ∀ i, i < n → Ksec (now i)) {l : List (Nat × ByteArray)} {e : Nat} (hch : Chn now s l e) (he : e < s.p → (now (s.b + e))[0]? ≠ some 67) :
    Calls Tryz.prog 59 #[.pointer (some ⟨Sb, 0, none⟩)] W fun r W' => ∃ v ol, r = .returned v ∧ Plc v (l.map Prod.fst) ol ∧ Dev T w L n (ol ++ (Sb, .cells (Sg.cs { s with a := e }) 44) :: oth) now (c + 66 * l.length + 66) W' ∧ (∀ p ∈ ol, ∀ q ∈ (Sb, .cells s.cs 44) :: oth, p.1 ≠ q.1) := by
  obtain ⟨T1, hx⟩ := Mx.of Sb oth
  obtain ⟨st, lv, ats, ho, hn, hsr, hss, hth, ⟨hi1, hi2, hi3⟩, hd, hc0, hc1, hl0⟩ := h.ex
  have hlt := hch.lt
  have key : ∀ t, ∃ (q : Cm) (er : Int), 1 ≤ t → t < s.p → (q.k ≤ 255 ∧ (∀ W, Calls Tryz.prog 131 #[.string ⟨(F.rdsL st (s.b + t) 1).toArray⟩] W fun e w' => e = .returned (.tuple #[.agg q.cs, .int .i64 er]) ∧ Below W.heap.size W w') ∧ (∀ x, (t, x) ∈ l → q = s.cm t x) ∧ (t = e → ∀ z, q ≠ s.cm t z)) := by
    intro t
    by_cases ht : 1 ≤ t ∧ t < s.p
    · have hr : (⟨(F.rdsL st (s.b + t) 1).toArray⟩ : ByteArray) = now (s.b + t) := by rw [rds_one, rd_now hd hn _ (by omega)]
      by_cases hx : ∃ x, (t, x) ∈ l
      · obtain ⟨x, hx⟩ := hx
        obtain ⟨k, hg⟩ := hch.grp _ hx
        have hg' : Grp now s t k x := hg
        have hcom := hg'.com
        have hxk : x.size / 63 = k := by have := hg'.sz; omega
        have hfit2 := hg'.fit
        have hk1 := hg'.k1
        have hok : (s.cm t x).Ok := ⟨hsb.1, hsb.2.1, hsb.2.2, ht.1, by show 1 ≤ x.size / 63; omega, by show t + x.size / 63 ≤ 63; omega, sm_lt x⟩
        refine ⟨s.cm t x, 0, fun _ _ => ⟨by show x.size / 63 ≤ 255; omega, fun W => by rw [hr, hcom]; exact tocommit_back _ hok W, fun x' hx' => ?_, fun hte => ?_⟩⟩
        · have := hch.one (t, x) hx (t, x') hx' rfl
          injection this with _ e2
          rw [e2]
        · have := hlt.2 _ hx
          simp only at this
          omega
      · obtain ⟨q, er, hq1, hq2, hq3⟩ := ksec_tells (hk (s.b + t) (by omega))
        refine ⟨q, er, fun _ _ => ⟨hq1, fun W => by rw [hr]; exact hq3 W, fun x' hx' => absurd ⟨x', hx'⟩ hx, fun hte z => ?_⟩⟩
        rw [hq2 (by rw [hte]; exact he (by omega))]
        intro e2
        have := congrArg Cm.a e2
        have e3 : (0 : Nat) = t := this
        omega
    · exact ⟨cm0, 0, fun h1 h2 => absurd ⟨h1, h2⟩ ht⟩
  let Q : Nat → Cm := fun t => (key t).choose
  let E : Nat → Int := fun t => (key t).choose_spec.choose
  have hQE : ∀ t, 1 ≤ t → t < s.p → _ := fun t => (key t).choose_spec.choose_spec
  have hsc := scan_dev ho (by rw [hsr, hss]; exact hM) h5 hx hne hs (by omega) (by omega) hi1 hth hi2 hi3 ⟨hd.ok.1, hd.ok.2⟩ ⟨hc0, by omega⟩ Q E (fun t h1 h2 => ⟨(hQE t h1 h2).1, (hQE t h1 h2).2.1⟩)
  have hcnt : ∀ p ∈ l, ∀ k, Grp now s p.1 k p.2 → cntO st s Q p.1 = k := by
    intro p hp k hg
    have hq := (hQE p.1 (hlt.2 p hp).1 (by have := hg.fit; omega)).2.2.1 p.2 hp
    have hxk : p.2.size / 63 = k := by have := hg.sz; omega
    have hqk : (Q p.1).k = k := by show (key p.1).choose.k = k; rw [hq]; exact hxk
    have hz : zO st s p.1 (Q p.1).k = p.2 := by
      rw [hqk]
      unfold zO
      rw [if_neg (by have := hg.k1; have := hg.fit; omega), grp_read hd hn hfit hg, rdp_secP p.2 k hg.sz]
    unfold cntO
    rw [if_pos ⟨by have := hg.fit; omega, by rw [hz]; exact hq⟩, hqk]
  have hway : ∀ {l2 : List (Nat × ByteArray)} {e2 : Nat}, Chn now s l2 e2 → (∀ p ∈ l2, p ∈ l) → Way (cntO st s Q) (l2.map Prod.fst) e2 := by
    intro l2 e2 hc2
    induction hc2 with
    | nil => intro _; exact Way.nil
    | next h1 h2 ih =>
      rename_i l3 t k x
      intro hsub
      have hck := hcnt (t, x) (hsub _ (List.mem_append_right _ (List.mem_singleton.2 rfl))) k h2
      have := Way.next (ih (fun p hp => hsub p (List.mem_append_left _ hp))) (t := t) (by rw [hck]; exact h2.k1)
      rw [hck] at this
      rw [List.map_append]
      exact this
  have hend : cntO st s Q e = 0 := by
    unfold cntO
    rw [if_neg]
    rintro ⟨h1, h2⟩
    exact (hQE e hlt.1 h1).2.2.2 rfl _ h2
  refine hsc.mono ?_
  rintro r W' ⟨ps, t, v, hw1, hz1, rfl, c2, lv2, ol, hpl, ho2, hca, hcb, hra⟩
  obtain ⟨rfl, rfl⟩ := hw1.det (hway hch (fun p hp => hp)) hz1 hend
  rw [List.length_map] at hcb
  exact ⟨v, ol, rfl, hpl, ⟨{ st with count := c2 }, lv2, ats, ho2, hn, hsr, hss, hth, ⟨hi1, hi2, hi3⟩, hd.same rfl rfl rfl rfl, by show 0 ≤ c2; omega, by show c2 ≤ _; omega, hl0⟩, SI.apart hx hra⟩
theorem dev_read {T : Nat} {w : World} {L : F.Loc} {n : Nat} {oth : List (Nat × Obj)} {now : Nat → ByteArray} {c : Int} {W : World} {Sb : Nat} (s : Sg) (h : Dev T w L n oth now c W) (hSb : (Sb, .cells s.cs 44) ∈ oth) (hM : (s.M, F.med L.P 1 1) ∈ oth) (h5 : ∀ p ∈ oth, ∀ c fz, p.2 ≠ .cells c 5 fz)
    (hs : s.b ≤ 10000 ∧ s.p ≤ 64) (hfit : s.b + s.p ≤ n) (hn1 : n ≤ 1000) (hc : c ≤ 90000) {t k : Nat} {x : ByteArray} (ht : 1 ≤ t) (hg : Grp now s t k x) :
    Calls Tryz.prog 60 #[.pointer (some ⟨Sb, 0, none⟩), .int .i64 (t : Nat), .int .i64 (k : Nat)] W fun r W' => r = .returned (.string x) ∧ Dev T w L n oth now (c + k) W' := by
  have hy := ysize x k hg.sz
  have hf := hg.fit
  have hx := rdp_secP x k hg.sz
  have hr := sread_any s hs Sb t k ht hg.k1 hg.fit (O.tx (secP x k)) hy (Dev T w L n oth now c) (Dev T w L n oth now (c + k)) W h (fun W W' a b => a.below b) (fun W W' a b => a.below b) (fun W a => a.at' hSb) (fun W a => a.at' hSb) (fun W hW => by
    obtain ⟨st, lv, ats, ho, hn, hsr, hss, hth, ⟨hi1, hi2, hi3⟩, hd, hc0, hc1, hl0⟩ := hW.ex
    have hm := ho.mread s.M (by rw [hsr, hss]; exact hM) h5 (s.b + t + 1) k (by omega) (by omega) hi1 hth hi2 hi3 ⟨hd.ok.1, hd.ok.2⟩ ⟨hc0, by omega⟩
    refine hm.mono ?_
    rintro e W' ⟨rfl, lv', ho'⟩
    refine ⟨by rw [grp_read hd hn hfit hg], { st with count := st.count + k }, lv', ats, ho', hn, hsr, hss, hth, ⟨hi1, hi2, hi3⟩, hd.same rfl rfl rfl rfl, by show 0 ≤ st.count + (k : Int); omega, by show st.count + (k : Int) ≤ _; omega, hl0⟩)
  rw [hx] at hr
  exact hr
theorem ba_get (b : ByteArray) (i : Nat) : b[i]? = b.data[i]? := rfl
theorem pad_whole (y : ByteArray) (h : y.size = 64) : F.pad (F.chunk y 0) = y := by
  apply ByteArray.ext
  apply Array.toList_inj.1
  rw [padc_list y 0 1 (by omega) (by decide), Nat.mul_zero, List.drop_zero, List.take_of_length_le (by rw [← O.size_list]; omega)]
section
variable {now now' : Nat → ByteArray} {s : Sg} {x : ByteArray} {k t n : Nat}
theorem layC_ge (i : Nat) (h : s.b + s.a + 1 + k ≤ i) : layC now s x k i = now i := by
  unfold layC layP F.lay
  rw [if_neg (by omega), if_neg (by omega)]
theorem layC_lt (i : Nat) (h : i < s.b + s.a) : layC now s x k i = now i := by
  unfold layC layP F.lay
  rw [if_neg (by omega), if_neg (by omega)]
theorem layC_com : layC now s x k (s.b + s.a) = (s.cm s.a x).sec := by
  unfold layC F.lay
  rw [if_pos (by omega), Nat.sub_self]
  exact pad_whole _ (Cm.sec_size _)
theorem layC_pay (i : Nat) (h : i < k) : layC now s x k (s.b + s.a + 1 + i) = F.pad (F.chunk (O.tx (secP x k)) i) := by
  unfold layC layP F.lay
  rw [if_neg (by omega), if_pos (by omega), show s.b + s.a + 1 + i - (s.b + s.a + 1) = i by omega]
theorem Grp.of (h : ∀ i, i < s.b + (t + 1 + k) → now' i = now i) (hg : Grp now s t k x) : Grp now' s t k x :=
  ⟨hg.sz, hg.k1, hg.fit, by rw [h _ (by have := hg.k1; omega)]; exact hg.com, fun i hi => by rw [h _ (by omega)]; exact hg.pay i hi⟩
theorem Chn.of {l : List (Nat × ByteArray)} {e : Nat} (hc : Chn now s l e) (h : ∀ i, i < s.b + e → now' i = now i) : Chn now' s l e := by
  induction hc with
  | nil => exact Chn.nil
  | next h1 h2 ih => exact Chn.next (ih (fun i hi => h i (by omega))) (h2.of (fun i hi => h i (by omega)))
theorem Chn.seg {l : List (Nat × ByteArray)} {e : Nat} (hc : Chn now s l e) (a : Nat) : Chn now { s with a := a } l e := by
  induction hc with
  | nil => exact Chn.nil
  | next h1 h2 ih => exact Chn.next ih ⟨h2.sz, h2.k1, h2.fit, h2.com, h2.pay⟩
theorem Chn.more {l : List (Nat × ByteArray)} (hc : Chn now s l s.a) (hx : x.size = 63 * k) (hk : 1 ≤ k) (hr : s.a + k < s.p) : Chn (layC now s x k) { s with a := s.a + 1 + k } (l ++ [(s.a, x)]) (s.a + 1 + k) :=
  ((hc.of (fun i hi => layC_lt i hi)).next ⟨hx, hk, hr, layC_com, fun i hi => layC_pay i hi⟩).seg _
theorem layC_ksec (hs : s.Ok) (hx : x.size = 63 * k) (hk : 1 ≤ k) (hr : s.a + k < s.p) (h : ∀ i, i < n → Ksec (now i)) : ∀ i, i < n → Ksec (layC now s x k i) := by
  intro i hi
  have hp := hs.p1
  have ha := hs.a0
  rcases Nat.lt_trichotomy i (s.b + s.a) with h1 | h1 | h1
  · rw [layC_lt i h1]; exact h i hi
  · rw [h1, layC_com]
    exact ⟨Cm.sec_size _, Or.inr ⟨_, ⟨hs.c, hs.j, hs.n, ha, by show 1 ≤ x.size / 63; omega, by show s.a + x.size / 63 ≤ 63; omega, sm_lt x⟩, rfl⟩⟩
  · rcases Nat.lt_or_ge i (s.b + s.a + 1 + k) with h2 | h2
    · obtain ⟨j, rfl⟩ : ∃ j, i = s.b + s.a + 1 + j := ⟨i - (s.b + s.a + 1), by omega⟩
      rw [layC_pay j (by omega)]
      have hy := ysize x k hx
      have hl := padc_list (O.tx (secP x k)) j k hy (by omega)
      have hmk := secP_mk x k j (by omega) (by omega)
      refine ⟨F.pad_size _ (F.chunk_size _ _), Or.inl ?_⟩
      have e1 : (F.pad (F.chunk (O.tx (secP x k)) j))[0]? = some 68 := by
        rw [ba_get, ← Array.getElem?_toList, hl, List.getElem?_take_of_lt (by decide), List.getElem?_drop, Array.getElem?_toList, Nat.add_zero, ← ba_get]
        exact hmk
      rw [e1]
      intro e
      have e2 := Option.some.inj e
      exact absurd e2 (by decide)
    · rw [layC_ge i h2]; exact h i hi
end
end Go.Proofs.YtncfbocbigdhiaaGreat

/- The fixed fact of the statements on groups, as a call. -/
namespace Go.Proofs.YtncfbocbigdhiaaGreat
open Go.RowKit
/-- Two changes, one behind the other, whatever else is done. -/
structure Ph3 (i1 i2 : Nat) (A B C : World → Prop) (done : Nat → Bool) (f : Nat → Value) (W : World) : Prop where
  a : done i1 = false → A W
  b : done i1 = true → done i2 = false → B W
  c : done i1 = true → done i2 = true → C W
  e : done i2 = true → done i1 = true
theorem Ph3.start {i1 i2 : Nat} {A B C : World → Prop} {f : Nat → Value} {W : World} (h : A W) : Ph3 i1 i2 A B C (fun _ => false) f W := ⟨fun _ => h, (fun e => by cases e), (fun e => by cases e), (fun e => by cases e)⟩
theorem Ph3.step {i1 i2 j : Nat} {A B C : World → Prop} {done : Nat → Bool} {f g : Nat → Value} {W W' : World} (h : Ph3 i1 i2 A B C done f W) (h1 : i1 ≠ j) (h2 : i2 ≠ j) (hA : A W → A W') (hB : B W → B W') (hC : C W → C W') : Ph3 i1 i2 A B C (F.updB done j) g W' := by
  have e1 : F.updB done j i1 = done i1 := if_neg h1
  have e2 : F.updB done j i2 = done i2 := if_neg h2
  exact ⟨fun q => hA (h.a (by rw [← e1]; exact q)), fun q r => hB (h.b (by rw [← e1]; exact q) (by rw [← e2]; exact r)), fun q r => hC (h.c (by rw [← e1]; exact q) (by rw [← e2]; exact r)), fun q => by rw [e1]; exact h.e (by rw [← e2]; exact q)⟩
theorem Ph3.pure {i1 i2 j : Nat} {A B C : World → Prop} {done : Nat → Bool} {f g : Nat → Value} {W : World} (h : Ph3 i1 i2 A B C done f W) (h1 : i1 ≠ j) (h2 : i2 ≠ j) : Ph3 i1 i2 A B C (F.updB done j) g W := h.step h1 h2 id id id
theorem Ph3.one {i1 i2 : Nat} {A B C : World → Prop} {done : Nat → Bool} {f g : Nat → Value} {W W' : World} (h : Ph3 i1 i2 A B C done f W) (hne : i2 ≠ i1) (hd : done i1 = false) (hB : B W') : Ph3 i1 i2 A B C (F.updB done i1) g W' := by
  have e1 : F.updB done i1 i1 = true := if_pos rfl
  have e2 : F.updB done i1 i2 = done i2 := if_neg hne
  have h2 : done i2 = false := by
    cases q : done i2 with
    | false => rfl
    | true => rw [h.e q] at hd; cases hd
  exact ⟨(fun q => by rw [e1] at q; cases q), fun _ _ => hB, (fun _ r => by rw [e2, h2] at r; cases r), fun _ => e1⟩
theorem Ph3.two {i1 i2 : Nat} {A B C : World → Prop} {done : Nat → Bool} {f g : Nat → Value} {W W' : World} (_ : Ph3 i1 i2 A B C done f W) (hne : i1 ≠ i2) (hd : done i1 = true) (hC : C W') : Ph3 i1 i2 A B C (F.updB done i2) g W' := by
  have e1 : F.updB done i2 i1 = true := by show (if _ then _ else _) = _; rw [if_neg hne]; exact hd
  have e2 : F.updB done i2 i2 = true := if_pos rfl
  exact ⟨(fun q => by rw [e1] at q; cases q), (fun _ q => by rw [e2] at q; cases q), fun _ _ => hC, fun _ => e1⟩
theorem Ph3.any {i1 i2 : Nat} {A B C D : World → Prop} {done : Nat → Bool} {f : Nat → Value} {W : World} (h : Ph3 i1 i2 A B C done f W) (h1 : A W → D W) (h2 : B W → D W) (h3 : C W → D W) : D W := by
  cases e : done i1 with
  | false => exact h1 (h.a e)
  | true =>
    cases e2 : done i2 with
    | false => exact h2 (h.b e e2)
    | true => exact h3 (h.c e e2)
theorem ent49 (args : Array Value) (W : World) : (callFunc 49 args).run Tryz.prog W = .ok (.enter 49 args) W := O.enter_of Tryz.func49 (by kernel_rfl) (by kernel_rfl) args W
def V49 (Sb : Nat) : Nat → Value → Prop
  | 0, v => v = .pointer (some ⟨Sb, 0, none⟩)
  | 1, v => v = .string (payN ⟨#[120]⟩ 2)
  | 2, v => v = .int .i64 1
  | _, _ => True
set_option maxHeartbeats 1000000 in
set_option maxRecDepth 100000 in
theorem op49 {T : Nat} {w : World} {L : F.Loc} {rest : List (Nat × Obj)} {now : Nat → ByteArray} {c : Int} {W0 : World} {Pb Ab Sb M : Nat} (h : Dev T w L 70 ((Sb, .cells (sg0 M 8).cs 44) :: (Ab, .cells #[.int .i64 0] 3) :: rest) now c W0)
    (pbm : (Pb, .cells #[.pointer (some ⟨Sb, 0, none⟩)] 28) ∈ rest) (hM : (M, F.med L.P 1 1) ∈ rest) (h12 : Ab ≠ Sb) (hne : ∀ p ∈ rest, p.1 ≠ Sb) (hna : ∀ p ∈ rest, p.1 ≠ Ab) (hc : c ≤ 600000) :
    Calls Tryz.prog 49 #[.pointer (some ⟨Pb, 0, none⟩), .pointer (some ⟨Ab, 0, none⟩)] W0 fun e w' => e = .returned (.tuple #[]) ∧ Dev T w L 70 ((Ab, .cells #[.int .i64 1] 3) :: (Sb, .cells (Sg.cs { sg0 M 8 with a := 4 }) 44) :: rest) (layC now (sg0 M 8) (payN ⟨#[120]⟩ 2) 2) (c + 100) w' := by
  go_enter Tryz.func49, Tryz.ntmps49
  refine F.wp_region_pb (fun f => ⟨#[.pointer (some ⟨Pb, 0, none⟩), .pointer (some ⟨Ab, 0, none⟩), f 0, f 1, f 2], []⟩) (V49 Sb) (Ph3 2 3 (fun W => Dev T w L 70 ((Sb, .cells (sg0 M 8).cs 44) :: (Ab, .cells #[.int .i64 0] 3) :: rest) now c W) (fun W => Dev T w L 70 ((Sb, .cells (Sg.cs { sg0 M 8 with a := (sg0 M 8).a + 1 + 2 }) 44) :: (Ab, .cells #[.int .i64 0] 3) :: rest) (layC now (sg0 M 8) (payN ⟨#[120]⟩ 2) 2) (c + 100) W) (fun W => Dev T w L 70 ((Ab, .cells #[.int .i64 1] 3) :: (Sb, .cells (Sg.cs { sg0 M 8 with a := 4 }) 44) :: rest) (layC now (sg0 M 8) (payN ⟨#[120]⟩ 2) 2) (c + 100) W)) (fun i => [undef, undef, undef, undef].getD i undef) (by kernel_rfl) rfl rfl ?hIq ?hputq ?stepq ?finq
  case hIq => exact Ph3.start (h.below (Below.refl _ _).drew)
  case finq =>
    intro f W hP hV
    have v0 : f 0 = .pointer (some ⟨Sb, 0, none⟩) := hV 0 (by decide)
    have v1 : f 1 = .string (payN ⟨#[120]⟩ 2) := hV 1 (by decide)
    have v2 : f 2 = .int .i64 1 := hV 2 (by decide)
    clear hV
    have HC : Hid _ := hP.c rfl rfl
    clear hP
    generalize f 0 = z0 at *
    subst v0
    generalize f 1 = z1 at *
    subst v1
    generalize f 2 = z2 at *
    subst v2
    go_wp2
    go_returns
    exact ⟨rfl, HC.out⟩
  case hputq =>
    repeat (refine ⟨fun f v => rfl, ?_⟩)
    trivial
  case stepq =>
    refine ⟨?_, ?_⟩
    · intro done f W hP hdn hd K hK
      clear hd
      have q := F.cell_of (hP.any (D := fun W => W.heap[Pb]? = some (.cells #[.pointer (some ⟨Sb, 0, none⟩)] 28)) (fun h => h.at' (p := (Pb, _)) (by simp [pbm])) (fun h => h.at' (p := (Pb, _)) (by simp [pbm])) (fun h => h.at' (p := (Pb, _)) (by simp [pbm]))) 0
      simp at q
      go_simp
      exact hK _ _ rfl (hP.pure (by decide) (by decide))
    refine ⟨?_, ?_⟩
    · intro done f W hP hdn hd K hK
      clear hd
      go_simp
      refine Calls.mono (pay_any ⟨#[120]⟩ 2 (by decide) (by decide) W) ?_
      rintro e W' ⟨rfl, hb⟩
      exact hK _ _ rfl (hP.step (by decide) (by decide) (fun h => h.below hb) (fun h => h.below hb) (fun h => h.below hb))
    refine ⟨?_, ?_⟩
    · intro done f W hP hdn hd K hK
      have d0 := (hd.1 rfl).2
      have e0 : done 0 = true := (hd.1 rfl).1
      have d1 := (hd.2.1 rfl).2
      have e1 : done 1 = true := (hd.2.1 rfl).1
      clear hd
      replace d0 : f 0 = .pointer (some ⟨Sb, 0, none⟩) := d0
      replace d1 : f 1 = .string (payN ⟨#[120]⟩ 2) := d1
      generalize f 0 = x0 at *
      subst d0
      clear e0
      generalize f 1 = x1 at *
      subst d1
      clear e1
      have hA := hP.a hdn
      have hap := dev_append (sg0 M 8) hA (List.mem_cons_of_mem _ hM) (by
        intro p hp
        rcases List.mem_cons.1 hp with rfl | hp
        · exact h12
        · exact hne p hp) (sg0_ok M 8 (by decide) (by decide)) (payN ⟨#[120]⟩ 2) 2 (by decide) (by show 1 + 2 < 8; decide) (payN_size _ _) (by show 4 + 8 ≤ 70; decide) (by decide) hc
      go_simp
      refine Calls.mono hap ?_
      rintro e W' ⟨rfl, hB⟩
      exact hK _ _ rfl (hP.one (by decide) hdn hB)
    refine ⟨?_, ?_⟩
    · intro done f W hP hdn hd K hK
      have d2 := (hd.1 rfl).2
      have e2 : done 2 = true := (hd.1 rfl).1
      clear hd
      replace d2 : f 2 = .int .i64 1 := d2
      generalize f 2 = x2 at *
      subst d2
      have hB := hP.b e2 hdn
      have q := F.cell_of (hB.at' (p := (Ab, .cells #[.int .i64 0] 3)) (by simp)) 0
      have z := F.frz_of (hB.at' (p := (Ab, .cells #[.int .i64 0] 3)) (by simp)) 0
      simp at q
      have hC := ((hB.forget (oth' := (Ab, .cells #[.int .i64 0] 3) :: (Sb, .cells (Sg.cs { sg0 M 8 with a := 4 }) 44) :: rest) (by intro p hp; simp only [List.mem_cons] at hp ⊢; rcases hp with rfl | rfl | hp <;> simp [*, sg0])).setOther (v := .int .i64 1) (by
        intro p hp
        rcases List.mem_cons.1 hp with rfl | hp
        · exact Ne.symm h12
        · exact hna p hp) (by decide))
      have HC : Hid _ := hC
      clear hC
      go_simp
      exact hK (.bool false) _ trivial (hP.two (by decide) e2 HC.out)
    trivial
end Go.Proofs.YtncfbocbigdhiaaGreat

/- awake of the statements on groups, as a call. -/
namespace Go.Proofs.YtncfbocbigdhiaaGreat
open Go.RowKit
theorem dev0 {T : Nat} {w : World} {L : F.Loc} {n : Nat} {oth : List (Nat × Obj)} {lv : Value} {W : World} (h : F.One T w L (F.st0 1 n) lv oth W) : Dev T w L n oth (fun _ => F.pad ⟨#[]⟩) 0 W :=
  ⟨F.st0 1 n, lv, _, h, rfl, rfl, rfl, rfl, ⟨rfl, rfl, rfl⟩, F.dv0 1 n, Int.le_refl _, Int.le_refl _, rfl⟩
theorem pad0 : (F.pad ⟨#[]⟩)[0]? = some 0 := by decide
theorem ksec0 : Ksec (F.pad ⟨#[]⟩) := ⟨F.pad_size _ (by decide), Or.inl (by rw [pad0]; decide)⟩
theorem dev_of {T : Nat} {w : World} {L : F.Loc} {n : Nat} {oth : List (Nat × Obj)} {now : Nat → ByteArray} {c : Int} {W : World} (h : Dev T w L n oth now c W) (p : Nat) :
    Calls Tryz.prog 13 #[.pointer (some ⟨L.P, 0, none⟩), .int .i64 (p : Nat)] W fun e w' => ∃ S M, e = .returned (.pointer (some ⟨S, 0, none⟩)) ∧ Dev T w L n ((S, .cells (sg0 M p).cs 44) :: (M, F.med L.P 1 1) :: oth) now c w' ∧ S ≠ M ∧ (∀ q ∈ oth, q.1 ≠ S) := by
  obtain ⟨st, lv, ats, ho, h2, h3, h4, h5, h6⟩ := h.ex
  refine (of13 ho h5 h3 p).mono ?_
  rintro e w' ⟨S, M, rfl, o1, a, b⟩
  rw [h4] at o1
  exact ⟨S, M, rfl, ⟨st, lv, ats, o1, h2, h3, h4, h5, h6⟩, a, b⟩
theorem dev_room {T : Nat} {w : World} {L : F.Loc} {n : Nat} {oth : List (Nat × Obj)} {now : Nat → ByteArray} {c : Int} {W : World} {Sb : Nat} (s : Sg) (h : Dev T w L n oth now c W) (hS : (Sb, .cells s.cs 44) ∈ oth) (k : Int) (hs : s.p ≤ 1000 ∧ s.a ≤ 1000) (b : Bool) (hb : decide (0 < k ∧ k < (s.p : Nat) - (s.a : Nat)) = b) :
    Calls Tryz.prog 14 #[.pointer (some ⟨Sb, 0, none⟩), .int .i64 k] W fun e w' => e = .returned (.bool b) ∧ Dev T w L n oth now c w' := by
  refine (room_any s Sb k W (h.at' hS) hs).mono ?_
  rintro e w' ⟨rfl, hbl⟩
  rw [hb]
  exact ⟨rfl, h.below hbl⟩
theorem Dev.guarded {T : Nat} {w : World} {L : F.Loc} {n : Nat} {oth : List (Nat × Obj)} {now : Nat → ByteArray} {c : Int} {W : World} (h : Dev T w L n oth now c W) : Dev T w L n (F.gob W.heap.size oth) now c (F.G0 W) := by
  obtain ⟨st, lv, ats, h1, h2⟩ := h.ex
  exact ⟨st, lv, ats, h1.guarded, h2⟩
theorem Dev.kt {T : Nat} {w : World} {L : F.Loc} {n : Nat} {oth : List (Nat × Obj)} {now : Nat → ByteArray} {c : Int} {W W' : World} {B : Nat} (h : Dev T w L n (F.gob B oth) now c W) (hne : ∀ p ∈ oth, p.1 ≠ B ∧ p.1 ≠ B + 1) (k : F.KT B W W') : Dev T w L n oth now c W' := by
  obtain ⟨st, lv, ats, h1, h2⟩ := h.ex
  exact ⟨st, lv, ats, h1.kt2 hne k, h2⟩
/-- A function that only ends well, within Guard. -/
theorem dev_guard {T : Nat} {w : World} {L : F.Loc} {n : Nat} {oth oth2 oth3 : List (Nat × Obj)} {now now2 : Nat → ByteArray} {c c2 : Int} {W : World} (f : Nat) (cap : Array Value) (hent : ∀ args W, (callFunc f args).run Tryz.prog W = .ok (.enter f args) W) (h : Dev T w L n oth now c W)
    (hop : Dev T w L n (F.gob W.heap.size oth) now c (F.G0 W) → Calls Tryz.prog f cap (F.G0 W) fun e W' => e = .returned (.tuple #[]) ∧ Dev T w L n oth2 now2 c2 W') (hs : ∀ p ∈ F.gob W.heap.size oth3, p ∈ oth2) (hne : ∀ p ∈ oth3, p.1 ≠ W.heap.size ∧ p.1 ≠ W.heap.size + 1) :
    Calls Tryz.prog 15 #[.func (.func f) #[] cap] W fun e w' => e = .returned (.tuple #[.agg #[.int .i64 0, .int .i64 0], .bool false]) ∧ Dev T w L n oth3 now2 c2 w' := by
  refine (F.guard_ok f cap (fun W' => Dev T w L n oth2 now2 c2 W') W hent ((hop h.guarded).mono ?_)).mono ?_
  · rintro e W' ⟨rfl, hd⟩
    exact ⟨rfl, hd.at' (p := (W.heap.size, F.bob)) (hs _ (by simp [F.gob])), hd.at' (p := (W.heap.size + 1, F.iob)) (hs _ (by simp [F.gob])), hd⟩
  · rintro e w' ⟨rfl, W2, hd, hk⟩
    exact ⟨rfl, (hd.forget hs).kt hne hk⟩
set_option maxHeartbeats 2000000 in
set_option maxRecDepth 100000 in
theorem awake11 (w : World) : Calls Tryz.prog 11 #[] w fun e w' => e = .returned (.bool true) ∧ Below w.heap.size w w' := by
  have hmk := F.made_any w.heap.size w w [] (Below.refl _ _) (Nat.le_refl _) (by intro p hp; cases hp) 1 (by decide) (by decide) 70 (by decide) (by decide)
  go_enter Tryz.func11, Tryz.ntmps11
  go_wp2_with fail
  go_call hmk as e w1 ⟨L, M0, rfl, o1⟩
  have hd1 := dev0 o1
  have hof := dev_of hd1 8
  clear hmk o1 hd1
  go_wp2_with fail
  go_call hof as e w2 ⟨S, M, rfl, hd2, hSM, hne2⟩
  have hl2 := hd2.lts
  have hd3 := hd2.alloc (.cells #[.pointer (some ⟨S, 0, none⟩)] 28) (F.apart_of (by decide))
  have HL2 : Hid (S < w2.heap.size ∧ M < w2.heap.size ∧ M0 < w2.heap.size) := ⟨hl2 (S, .cells (sg0 M 8).cs 44) (by simp), hl2 (M, F.med L.P 1 1) (by simp), hl2 (M0, F.med L.P 1 1) (by simp)⟩
  have HSM : Hid _ := hSM
  have HN2 : Hid (M0 ≠ S) := hne2 (M0, F.med L.P 1 1) (by simp)
  have hr6 := dev_room (Sb := S) (sg0 M 8) hd3 (by simp) 6 (by show 8 ≤ 1000 ∧ 1 ≤ 1000; decide) true (by show decide ((0:Int) < 6 ∧ (6:Int) < ((8:Nat):Int) - ((1:Nat):Int)) = true; decide)
  clear hof hd2 hl2 hSM hne2 hd3
  go_wp2_with fail
  go_call hr6 as e w3 ⟨rfl, hd4⟩
  have hr7 := dev_room (Sb := S) (sg0 M 8) hd4 (by simp) 7 (by show 8 ≤ 1000 ∧ 1 ≤ 1000; decide) false (by show decide ((0:Int) < 7 ∧ (7:Int) < ((8:Nat):Int) - ((1:Nat):Int)) = false; decide)
  have c4 := F.cell_of (hd4.at' (p := (w2.heap.size, .cells #[.pointer (some ⟨S, 0, none⟩)] 28)) (by simp)) 0
  simp at c4
  clear hr6 hd4
  go_wp2_with fail
  go_call hr7 as e w4 ⟨rfl, hd5⟩
  have hd6 := hd5.alloc (.cells #[.int .i64 0] 3) (F.apart_of (by decide))
  have hl5 := hd5.lts
  have l5 : w2.heap.size < w4.heap.size := hl5 (w2.heap.size, .cells #[.pointer (some ⟨S, 0, none⟩)] 28) (by simp)
  have hs2 := HL2.out
  have hn2 := HN2.out
  have hsm := HSM.out
  have e6 : (w4.alloc (.cells #[.int .i64 0] 3)).heap.size = w4.heap.size + 1 := by simp
  have hgd := dev_guard (oth3 := (w4.heap.size, .cells #[.int .i64 1] 3) :: (S, .cells (Sg.cs { sg0 M 8 with a := 4 }) 44) :: (w2.heap.size, .cells #[.pointer (some ⟨S, 0, none⟩)] 28) :: []) 49 #[.pointer (some ⟨w2.heap.size, 0, none⟩), .pointer (some ⟨w4.heap.size, 0, none⟩)] ent49 hd6 (fun hg => op49 (Sb := S) (Ab := w4.heap.size) (Pb := w2.heap.size) (M := M) (rest := F.gob (w4.heap.size + 1) ((w2.heap.size, .cells #[.pointer (some ⟨S, 0, none⟩)] 28) :: (M, F.med L.P 1 1) :: (M0, F.med L.P 1 1) :: [])) (hg.forget (by
    rw [e6]
    intro p hp
    simp only [F.gob, List.mem_cons] at hp ⊢
    rcases hp with rfl | rfl | rfl | rfl | rfl | rfl | rfl | hp <;> simp [*])) (by simp [F.gob]) (by simp [F.gob]) (by omega) (by
      intro p hp
      simp only [F.gob, List.mem_cons, List.not_mem_nil, or_false] at hp
      rcases hp with rfl | rfl | rfl | rfl | rfl
      · show w4.heap.size + 1 + 1 ≠ S; omega
      · show w4.heap.size + 1 ≠ S; omega
      · show w2.heap.size ≠ S; omega
      · exact fun e => hsm e.symm
      · exact hn2) (by
      intro p hp
      simp only [F.gob, List.mem_cons, List.not_mem_nil, or_false] at hp
      rcases hp with rfl | rfl | rfl | rfl | rfl
      · show w4.heap.size + 1 + 1 ≠ _; omega
      · show w4.heap.size + 1 ≠ _; omega
      · show w2.heap.size ≠ _; omega
      · show M ≠ _; omega
      · show M0 ≠ _; omega) (by decide)) (by
    rw [e6]
    intro p hp
    simp only [F.gob, List.mem_cons, List.not_mem_nil, or_false] at hp ⊢
    rcases hp with rfl | rfl | rfl | rfl | rfl <;> simp [*]) (by
    rw [e6]
    intro p hp
    simp only [List.mem_cons, List.not_mem_nil, or_false] at hp
    rcases hp with rfl | rfl | rfl
    · show w4.heap.size ≠ _ ∧ w4.heap.size ≠ _; omega
    · show S ≠ _ ∧ S ≠ _; omega
    · show w2.heap.size ≠ _ ∧ w2.heap.size ≠ _; omega)
  have hmf : ∀ (fn : Fn) (first cap : Array Value) (w : World), (Instr.makeFunc fn first cap).run Tryz.prog w = .ok (.func fn first cap) w := fun _ _ _ _ => rfl
  clear hr7 hd5 hd6 hl5 l5 hs2 hn2 hsm e6 c4
  go_wp2_with fail
  go_call hgd as e w5 ⟨rfl, hd7⟩
  have hr3 := fun o => dev_room (Sb := S) { sg0 M 8 with a := 4 } (hd7.below ((Below.refl _ _).alloc (Nat.le_refl _) o)) (by simp) 3 (by show 8 ≤ 1000 ∧ 4 ≤ 1000; decide) true (by show decide ((0:Int) < 3 ∧ (3:Int) < ((8:Nat):Int) - ((4:Nat):Int)) = true; decide)
  have HR3 : Hid _ := hr3
  have HD7 : Hid _ := hd7
  have q1 : ∀ o, (w5.alloc o).cell? ⟨w4.heap.size, 0, none⟩ = some (.int .i64 1) := fun o => by
    have := F.cell_of ((hd7.below ((Below.refl _ _).alloc (Nat.le_refl _) o)).at' (p := (w4.heap.size, .cells #[.int .i64 1] 3)) (by simp)) 0
    exact this
  have q2 : ∀ o, (w5.alloc o).cell? ⟨w2.heap.size, 0, none⟩ = some (.pointer (some ⟨S, 0, none⟩)) := fun o => by
    have := F.cell_of ((hd7.below ((Below.refl _ _).alloc (Nat.le_refl _) o)).at' (p := (w2.heap.size, .cells #[.pointer (some ⟨S, 0, none⟩)] 28)) (by simp)) 0
    exact this
  have q3 : ∀ o, (w5.alloc o).cell? ⟨S, 6, none⟩ = some (.int .i64 4) := fun o => by
    have := F.cell_of ((hd7.below ((Below.refl _ _).alloc (Nat.le_refl _) o)).at' (p := (S, .cells (Sg.cs { sg0 M 8 with a := 4 }) 44)) (by simp)) 6
    exact this
  clear hgd hd7 hr3
  go_wp2_with fail
  go_call (HR3.out _) as e w6 ⟨rfl, hd8⟩
  have q4 : w6.cell? ⟨w2.heap.size, 0, none⟩ = some (.pointer (some ⟨S, 0, none⟩)) := F.cell_of (hd8.at' (p := (w2.heap.size, .cells #[.pointer (some ⟨S, 0, none⟩)] 28)) (by simp)) 0
  have hr4 := dev_room (Sb := S) { sg0 M 8 with a := 4 } hd8 (by simp) 4 (by show 8 ≤ 1000 ∧ 4 ≤ 1000; decide) false (by show decide ((0:Int) < 4 ∧ (4:Int) < ((8:Nat):Int) - ((4:Nat):Int)) = false; decide)
  clear hd8 q1 q2 q3
  go_wp2_with fail
  go_call hr4 as e w7 ⟨rfl, hd9⟩
  have HB9 : Hid _ := hd9.bel
  clear hr4 hd9 q4
  go_wp2
  go_returns
  exact ⟨rfl, HB9.out⟩
end Go.Proofs.YtncfbocbigdhiaaGreat

/- Rows of texts: appended to in any order, and kept. -/
namespace Go.Proofs.YtncfbocbigdhiaaGreat
open Go.RowKit
section
variable {b0 : Nat} {w0 : World} {L : F.Loc} {st : F.St} {lv : Value} {oth : List (Nat × Obj)} {w w' : World}
theorem F.One.grownS {row : Option Nat} (h : F.One b0 w0 L st lv oth w) (hg : w.grownBy w' row) (hr : ∀ g, row = some g → b0 ≤ g ∧ ∃ c, w.heap[g]? = some (.cells c 9)) (ho : ∀ p ∈ oth, row ≠ some p.1) : F.One b0 w0 L st lv oth w' := by
  have tne : ∀ {i : Nat} {d : Array Value} {t : TypeId}, w.heap[i]? = some (.cells d t) → t ≠ 9 → some i ≠ row := fun {i d t} e ht er => by
    obtain ⟨_, c, hc⟩ := hr i er.symm
    rw [e] at hc
    injection hc with hc
    injection hc with _ hc _
    exact ht hc
  have same : ∀ {j : Nat} {o : Obj}, w.heap[j]? = some o → some j ≠ row → w'.heap[j]? = some o := fun e h1 => (hg.block _ (F.getElem?_lt e) h1).trans e
  refine ⟨?_, h.bP, h.bR, h.bD, h.bS, same h.pool (tne h.pool (by decide)), same h.rowb (tne h.rowb (by decide)), h.rc0, same h.dev (tne h.dev (by decide)), same h.sec (tne h.sec (by decide)), ⟨h.own.1, ?_⟩, ?_⟩
  · refine ⟨hg.os.trans h.below.os, hg.tape.trans h.below.tape, hg.output.trans h.below.output, Nat.le_trans h.below.size hg.size, fun j hj => ?_⟩
    rw [hg.block j (Nat.lt_of_lt_of_le hj (Nat.le_trans h.bP (Nat.le_of_lt (F.getElem?_lt h.pool)))) (fun e => by have := (hr j e.symm).1; omega)]
    exact h.below.block j hj
  · rcases h.own.2 with h1 | ⟨g, cap, cur, e, h2, h3, h4⟩
    · exact Or.inl h1
    · exact Or.inr ⟨g, cap, cur, e, h2, same h3 (tne h3 (by decide)), h4⟩
  · intro p hp
    obtain ⟨o1, o2, o3, o4⟩ := h.oth p hp
    exact ⟨same o1 (fun e => ho p hp e.symm), o2, o3, o4⟩
theorem F.One.addS {g : Nat} {c : Array Value} (h : F.One b0 w0 L st lv oth w) (hg : w.heap[g]? = some (.cells c 9)) (hb : b0 ≤ g) : F.One b0 w0 L st lv ((g, .cells c 9) :: oth) w := by
  have tne : ∀ {i : Nat} {d : Array Value} {t : TypeId}, w.heap[i]? = some (.cells d t) → t ≠ 9 → g ≠ i := fun e ht er => by
    subst er
    rw [hg] at e
    injection e with e
    injection e with _ e _
    exact ht e.symm
  refine { h with oth := ?_ }
  intro p hp
  rcases List.mem_cons.1 hp with rfl | hp
  · exact ⟨hg, ⟨tne h.pool (by decide), tne h.rowb (by decide), tne h.dev (by decide), tne h.sec (by decide)⟩, F.apart_of (by decide), hb⟩
  · exact h.oth p hp
end
/-- Texts, as they lie. -/
def Txs (v : Value) (xs : List ByteArray) (ol : List (Nat × Obj)) : Prop :=
  (v = .slice none 0 0 ∧ xs = [] ∧ ol = []) ∨ ∃ g cap cur, v = .slice (some ⟨g, 0, none⟩) xs.length cap ∧ ol = [(g, .cells cur 9)] ∧ xs.length ≤ cap ∧ cap ≤ maxLen ∧ cur.size = cap ∧ cur.toList.take xs.length = xs.map .string
theorem Txs.nil : Txs (.slice none 0 0) [] [] := Or.inl ⟨rfl, rfl, rfl⟩
theorem Txs.cell {v : Value} {xs : List ByteArray} {ol : List (Nat × Obj)} (h : Txs v xs ol) {W : World} (ho : ∀ p ∈ ol, W.heap[p.1]? = some p.2) :
    ∃ ao cp g, v = .slice ao xs.length cp ∧ (0 < xs.length → ao = some ⟨g, 0, none⟩) ∧ ∀ j (hj : j < xs.length), W.cell? ⟨g, j, none⟩ = some (.string xs[j]) := by
  rcases h with ⟨rfl, rfl, rfl⟩ | ⟨g, cap, cur, rfl, rfl, h1, h2, h3, h4⟩
  · exact ⟨none, 0, 0, rfl, fun h => absurd h (Nat.lt_irrefl _), fun j hj => absurd hj (Nat.not_lt_zero _)⟩
  · have o1 := ho (g, .cells cur 9) (List.mem_singleton.2 rfl)
    refine ⟨_, _, g, rfl, fun _ => rfl, fun j hj => ?_⟩
    rw [F.cell_of o1]
    have := congrArg (fun l => l[j]?) h4
    simp only [List.getElem?_take_of_lt hj, List.getElem?_map, Array.getElem?_toList, List.getElem?_eq_getElem hj] at this
    exact this
theorem Plc.cellD {v : Value} {xs : List Nat} {ol : List (Nat × Obj)} (h : Plc v xs ol) {W : World} (ho : ∀ p ∈ ol, W.heap[p.1]? = some p.2) :
    ∃ ao cp g, v = .slice ao xs.length cp ∧ (0 < xs.length → ao = some ⟨g, 0, none⟩) ∧ ∀ W' : World, (∀ p ∈ ol, W'.heap[p.1]? = some p.2) → ∀ j (hj : j < xs.length), W'.cell? ⟨g, j, none⟩ = some (nv xs[j]) := by
  rcases h with ⟨rfl, rfl, rfl⟩ | ⟨g, cap, cur, rfl, rfl, h1, h2, h3, h4⟩
  · exact ⟨none, 0, 0, rfl, fun h => absurd h (Nat.lt_irrefl _), fun W' _ j hj => absurd hj (Nat.not_lt_zero _)⟩
  · refine ⟨_, _, g, rfl, fun _ => rfl, fun W' ho' j hj => ?_⟩
    have o1 := ho' (g, .cells cur 3) (List.mem_singleton.2 rfl)
    rw [F.cell_of o1]
    have := congrArg (fun l => l[j]?) h4
    simp only [List.getElem?_take_of_lt hj, List.getElem?_map, Array.getElem?_toList, List.getElem?_eq_getElem hj] at this
    exact this
/-- A row of texts in a device's world. -/
theorem dev_tx {T : Nat} {w : World} {L : F.Loc} {n : Nat} {rest : List (Nat × Obj)} {now : Nat → ByteArray} {c : Int} {W : World} {T1 Ob : Nat} {u : Obj} (hx : Mx T1 Ob rest) {v : Value} {xs : List ByteArray} {ol : List (Nat × Obj)} (h : Txs v xs ol) (hr : ∀ p ∈ ol, T1 ≤ p.1) (hd : Dev T w L n (ol ++ (Ob, u) :: rest) now c W) :
    W.ownsRow T1 9 1 v xs.length (xs.map .string) ∧ T1 ≤ W.heap.size ∧ ∀ x v' W', W'.ownsRow T1 9 1 v' (xs.length + 1) (xs.map .string ++ [.string x]) → W.grownBy W' v.ownBlock → ∃ ol', Txs v' (xs ++ [x]) ol' ∧ (∀ p ∈ ol', T1 ≤ p.1) ∧ Dev T w L n (ol' ++ (Ob, u) :: rest) now c W' := by
  obtain ⟨st, lv, ats, ho, h2⟩ := hd.ex
  have hle := hx.le ho
  refine ⟨?_, hle.2, ?_⟩
  · rcases h with ⟨rfl, rfl, rfl⟩ | ⟨g, cap, cur, rfl, rfl, h1, h2, h3, h4⟩
    · exact ⟨rfl, Or.inl ⟨rfl, rfl⟩⟩
    · obtain ⟨o1, _, _, o4⟩ := ho.oth (g, .cells cur 9) (List.mem_append_left _ (List.mem_singleton.2 rfl))
      exact ⟨by simp, Or.inr ⟨g, cap, cur, rfl, hr _ (List.mem_singleton.2 rfl), o1, h1, h2, by rw [Nat.mul_one]; exact h3, by rw [Nat.mul_one]; exact h4⟩⟩
  · intro x v' W' hn hg
    have hdj := SI.apart (o := u) hx hr
    have hrow : ∀ g, v.ownBlock = some g → T ≤ g ∧ ∃ c, W.heap[g]? = some (.cells c 9) := by
      intro g e
      rcases h with ⟨rfl, rfl, rfl⟩ | ⟨g', cap, cur, rfl, rfl, _⟩
      · cases e
      · injection e with e
        subst e
        obtain ⟨o1, _, _, o4⟩ := ho.oth (g', .cells cur 9) (by simp)
        exact ⟨o4, cur, o1⟩
    have h1 : F.One T w L st lv ((Ob, u) :: rest) W := ho.forget (fun p hp => List.mem_append_right _ hp)
    have h3 := h1.grownS hg hrow (by
      intro p hp e
      rcases h with ⟨rfl, rfl, rfl⟩ | ⟨g', cap, cur, rfl, rfl, _⟩
      · cases e
      · injection e with e
        exact hdj (g', .cells cur 9) (List.mem_singleton.2 rfl) p hp e)
    rcases hn.2 with ⟨_, e0⟩ | ⟨g, cap, cur, rfl, k1, k2, k3, k4, k5, k6⟩
    · exact absurd e0 (Nat.succ_ne_zero _)
    · rw [Nat.mul_one] at k5 k6
      refine ⟨[(g, .cells cur 9)], Or.inr ⟨g, cap, cur, ?_, rfl, ?_, k4, k5, ?_⟩, fun p hp => by rw [List.mem_singleton.1 hp]; exact k1, st, lv, ats, h3.addS k2 (Nat.le_trans hle.1 k1), h2⟩
      · rw [List.length_append]; rfl
      · rw [List.length_append]; exact k3
      · rw [List.length_append, List.map_append]; exact k6
theorem tinfo : (Tryz.prog.info? 9).map (fun i => (i.zero, i.size, i.bytes)) = some (some (.string ⟨#[]⟩), 1, 16) := by kernel_rfl
/-- One text is appended. -/
theorem tapp {o : Oper} {a : Act} {K : Act → World → Prop} {Q : Exit → Act → World → Prop} {W : World} (s x : Operand) (ho : o.op = .call { callee := .builtin .append, args := #[s, x], argTypes := #[30, 30] }) {T1 : Nat} {v : Value} {xs : List ByteArray} {G : Nat} {y : ByteArray} (hs : a.eval s = v) (hx : a.eval x = .slice (some ⟨G, 0, none⟩) 1 1) (hG : W.heap[G]? = some (.cells #[.string y] 9)) (hown : W.ownsRow T1 9 1 v xs.length (xs.map .string)) (hT : T1 ≤ W.heap.size) (hl : xs.length ≤ 1000)
    (hK : ∀ v' W', W'.ownsRow T1 9 1 v' (xs.length + 1) (xs.map .string ++ [.string y]) → W.grownBy W' v.ownBlock → K (a.put o.dst v') W') : Oper.wp Tryz.prog o a W K Q := by
  obtain ⟨i, hi, hz, hsz, hby⟩ := info_parts tinfo
  obtain ⟨v', W', hr, r2, r3, r4, r5⟩ := run_append_own_at (P := Tryz.prog) W T1 30 o.type 9 i (.string ⟨#[]⟩) 1 16 Tryz.underlying30 hi hz hsz hby (by kernel_rfl) (by decide) v xs.length (xs.map .string) hown ⟨G, 0, none⟩ 1 1 [.string y] rfl (fun j u hj => by
    rcases j with _ | j
    · simp at hj; subst hj
      have : (⟨G, 0, none⟩ : Addr).add 0 = ⟨G, 0, none⟩ := by simp [Addr.add]
      rw [this, F.cell_of hG]; rfl
    · simp at hj) (fun u hu => by simp at hu; rw [hu]; rfl) (by unfold maxLen; omega) (by omega) hT
  unfold Oper.wp execOp
  simp only [ho, resolve, invoke, builtin, Sem.run_bind, Sem.run_pure, Result.andThen_ok, List.map_toArray, List.map_cons, List.map_nil, hs, hx, hr]
  exact hK v' W' r2 r3
end Go.Proofs.YtncfbocbigdhiaaGreat

/- The closure of scanned: Scan, and Read of each. -/
namespace Go.Proofs.YtncfbocbigdhiaaGreat
open Go.RowKit
theorem Chn.at' {now : Nat → ByteArray} {s : Sg} {l : List (Nat × ByteArray)} {e : Nat} (h : Chn now s l e) : ∀ i (hi : i < l.length), ∃ k, 1 ≤ l[i].1 ∧ Grp now s l[i].1 k l[i].2 ∧ (∀ h2 : i + 1 < l.length, l[i+1].1 = l[i].1 + 1 + k) ∧ (i + 1 = l.length → e = l[i].1 + 1 + k) := by
  induction h with
  | nil => intro i hi; exact absurd hi (Nat.not_lt_zero _)
  | next h1 h2 ih =>
    rename_i l t k x
    intro i hi
    rw [List.length_append, List.length_singleton] at hi
    rcases Nat.lt_or_ge i l.length with hl | hl
    · obtain ⟨k', a1, a2, a3, a4⟩ := ih i hl
      have e1 : (l ++ [(t, x)])[i]'(by rw [List.length_append, List.length_singleton]; exact hi) = l[i] := List.getElem_append_left hl
      refine ⟨k', by rw [e1]; exact a1, by rw [e1]; exact a2, fun hj => ?_, fun hj => ?_⟩
      · rw [e1]
        rcases Nat.lt_or_ge (i + 1) l.length with hm | hm
        · rw [List.getElem_append_left hm]; exact a3 hm
        · have e3 : i + 1 = l.length := by omega
          have e2 : (l ++ [(t, x)])[i + 1]'hj = (t, x) := by simp [e3]
          rw [e2]
          show t = _
          exact a4 (by omega)
      · rw [List.length_append, List.length_singleton] at hj; omega
    · have hi' : i = l.length := by omega
      subst hi'
      have e1 : (l ++ [(t, x)])[l.length]'(by rw [List.length_append, List.length_singleton]; exact hi) = (t, x) := by simp
      refine ⟨k, by rw [e1]; exact h1.lt.1, by rw [e1]; exact h2, fun hj => ?_, fun _ => by rw [e1]⟩
      rw [List.length_append, List.length_singleton] at hj; omega
theorem Chn.len {now : Nat → ByteArray} {s : Sg} {l : List (Nat × ByteArray)} {e : Nat} (h : Chn now s l e) : 2 * l.length < e ∧ e ≤ max 1 s.p := by
  induction h with
  | nil => exact ⟨by decide, Nat.le_max_left _ _⟩
  | next h1 h2 ih =>
    have := h2.k1
    have := h2.fit
    refine ⟨by simp; omega, by omega⟩
/-- Five phases: a call, a text alone, a row that grows, a store. -/
structure PhS (A0 A : World → Prop) (B C : Value → World → Prop) (D : World → Prop) (done : Nat → Bool) (f : Nat → Value) (W : World) : Prop where
  a0 : done 7 = false → A0 W
  a : done 7 = true → done 8 = false → A W
  b : done 8 = true → done 9 = false → B (f 8) W
  c : done 9 = true → done 10 = false → C (f 9) W
  d : done 10 = true → D W
  e8 : done 8 = true → done 7 = true
  e9 : done 9 = true → done 8 = true
  e10 : done 10 = true → done 9 = true
  all : done 10 = true → ∀ j, j < 10 → done j = true
section
variable {A0 A : World → Prop} {B C : Value → World → Prop} {D : World → Prop} {done : Nat → Bool} {f : Nat → Value} {W W' : World}
theorem PhS.start (h : A0 W) : PhS A0 A B C D (fun _ => false) f W := by
  refine ⟨fun _ => h, ?_, ?_, ?_, ?_, ?_, ?_, ?_, ?_⟩ <;> intro e <;> cases e
theorem PhS.not10 (h : PhS A0 A B C D done f W) {j : Nat} (hj : j < 10) (hd : done j = false) : done 10 = false := by
  cases e : done 10 with
  | false => rfl
  | true => rw [h.all e j hj] at hd; cases hd
/-- One that only reads. -/
theorem PhS.pure (h : PhS A0 A B C D done f W) (v : Value) {j : Nat} (hj : j < 7) (hd : done j = false) : PhS A0 A B C D (F.updB done j) (F.upd f j v) W := by
  have n10 := h.not10 (by omega) hd
  have e7 : F.updB done j 7 = done 7 := if_neg (by omega)
  have e8 : F.updB done j 8 = done 8 := if_neg (by omega)
  have e9 : F.updB done j 9 = done 9 := if_neg (by omega)
  have e10 : F.updB done j 10 = done 10 := if_neg (by omega)
  have f8 : F.upd f j v 8 = f 8 := if_neg (by omega)
  have f9 : F.upd f j v 9 = f 9 := if_neg (by omega)
  exact ⟨by rw [e7]; exact h.a0, by rw [e7, e8]; exact h.a, by rw [e8, e9, f8]; exact h.b, by rw [e9, e10, f9]; exact h.c, by rw [e10]; exact h.d, by rw [e7, e8]; exact h.e8, by rw [e8, e9]; exact h.e9, by rw [e9, e10]; exact h.e10, (by rw [e10, n10]; intro e; cases e)⟩
theorem PhS.s7 (h : PhS A0 A B C D done f W) (v : Value) (hd : done 7 = false) (hA : A W') : PhS A0 A B C D (F.updB done 7) (F.upd f 7 v) W' := by
  have n10 := h.not10 (by decide) hd
  have n8 : done 8 = false := by
    cases e : done 8 with
    | false => rfl
    | true => rw [h.e8 e] at hd; cases hd
  have n9 : done 9 = false := by
    cases e : done 9 with
    | false => rfl
    | true => rw [h.e9 e] at n8; cases n8
  have e7 : F.updB done 7 7 = true := rfl
  have e8 : F.updB done 7 8 = false := n8
  have e9 : F.updB done 7 9 = false := n9
  have e10 : F.updB done 7 10 = false := n10
  exact ⟨(by rw [e7]; intro e; cases e), fun _ _ => hA, (by rw [e8]; intro e; cases e), (by rw [e9]; intro e; cases e), (by rw [e10]; intro e; cases e), fun _ => e7, (by rw [e9]; intro e; cases e), (by rw [e10]; intro e; cases e), (by rw [e10]; intro e; cases e)⟩
theorem PhS.s8 (h : PhS A0 A B C D done f W) (v : Value) (h7 : done 7 = true) (hd : done 8 = false) (hB : B v W') : PhS A0 A B C D (F.updB done 8) (F.upd f 8 v) W' := by
  have n10 := h.not10 (by decide) hd
  have n9 : done 9 = false := by
    cases e : done 9 with
    | false => rfl
    | true => rw [h.e9 e] at hd; cases hd
  have e7 : F.updB done 8 7 = true := h7
  have e8 : F.updB done 8 8 = true := rfl
  have e9 : F.updB done 8 9 = false := n9
  have e10 : F.updB done 8 10 = false := n10
  exact ⟨(by rw [e7]; intro e; cases e), (by rw [e8]; intro _ e; cases e), fun _ _ => hB, (by rw [e9]; intro e; cases e), (by rw [e10]; intro e; cases e), fun _ => e7, fun _ => e8, (by rw [e10]; intro e; cases e), (by rw [e10]; intro e; cases e)⟩
theorem PhS.s9 (h : PhS A0 A B C D done f W) (v : Value) (h8 : done 8 = true) (hd : done 9 = false) (hC : C v W') : PhS A0 A B C D (F.updB done 9) (F.upd f 9 v) W' := by
  have n10 := h.not10 (by decide) hd
  have e7 : F.updB done 9 7 = true := h.e8 h8
  have e8 : F.updB done 9 8 = true := h8
  have e9 : F.updB done 9 9 = true := rfl
  have e10 : F.updB done 9 10 = false := n10
  exact ⟨(by rw [e7]; intro e; cases e), (by rw [e8]; intro _ e; cases e), (by rw [e9]; intro _ e; cases e), fun _ _ => hC, (by rw [e10]; intro e; cases e), fun _ => e7, fun _ => e8, fun _ => e9, (by rw [e10]; intro e; cases e)⟩
theorem PhS.s10 (h : PhS A0 A B C D done f W) (v : Value) (ha : ∀ j, j < 10 → done j = true) (hD : D W') : PhS A0 A B C D (F.updB done 10) (F.upd f 10 v) W' := by
  have e7 : F.updB done 10 7 = true := ha 7 (by decide)
  have e8 : F.updB done 10 8 = true := ha 8 (by decide)
  have e9 : F.updB done 10 9 = true := ha 9 (by decide)
  have e10 : F.updB done 10 10 = true := rfl
  have _ := h.e8
  exact ⟨(by rw [e7]; intro e; cases e), (by rw [e8]; intro _ e; cases e), (by rw [e9]; intro _ e; cases e), (by rw [e10]; intro _ e; cases e), fun _ => hD, fun _ => e7, fun _ => e8, fun _ => e9, fun _ j hj => by show (if j = 10 then true else done j) = true; rw [if_neg (by omega)]; exact ha j hj⟩
/-- What holds as long as nothing is stored. -/
theorem PhS.any {E : World → Prop} (h : PhS A0 A B C D done f W) (n10 : done 10 = false) (h1 : A0 W → E W) (h2 : A W → E W) (h3 : ∀ v, B v W → E W) (h4 : ∀ v, C v W → E W) : E W := by
  cases e7 : done 7 with
  | false => exact h1 (h.a0 e7)
  | true =>
    cases e8 : done 8 with
    | false => exact h2 (h.a e7 e8)
    | true =>
      cases e9 : done 9 with
      | false => exact h3 _ (h.b e8 e9)
      | true => exact h4 _ (h.c e9 n10)
end
theorem ent58 (args : Array Value) (W : World) : (callFunc 58 args).run Tryz.prog W = .ok (.enter 58 args) W := O.enter_of Tryz.func58 (by kernel_rfl) (by kernel_rfl) args W
/-- The texts that were read so far lie in a row, behind all the rest. -/
def RS (T : Nat) (w : World) (L : F.Loc) (n : Nat) (rest : List (Nat × Obj)) (now : Nat → ByteArray) (T1 Ob : Nat) (xs : List ByteArray) (c : Int) (v : Value) (W : World) : Prop :=
  ∃ ol, Txs v xs ol ∧ (∀ p ∈ ol, T1 ≤ p.1) ∧ Dev T w L n (ol ++ (Ob, .cells #[v] 30) :: rest) now c W
section
variable {T : Nat} {w : World} {L : F.Loc} {n : Nat} {rest : List (Nat × Obj)} {now : Nat → ByteArray} {T1 Ob : Nat} {xs : List ByteArray} {c : Int} {v : Value} {W W' : World}
theorem RS.below (h : RS T w L n rest now T1 Ob xs c v W) (hb : Below W.heap.size W W') : RS T w L n rest now T1 Ob xs c v W' := by
  obtain ⟨ol, h1, h2, h3⟩ := h
  exact ⟨ol, h1, h2, h3.below hb⟩
theorem RS.moreC {d : Int} (h : RS T w L n rest now T1 Ob xs c v W) (hd : c ≤ d) : RS T w L n rest now T1 Ob xs d v W := by
  obtain ⟨ol, h1, h2, h3⟩ := h
  exact ⟨ol, h1, h2, h3.more hd⟩
theorem RS.at' (h : RS T w L n rest now T1 Ob xs c v W) {p : Nat × Obj} (hp : p ∈ rest) : W.heap[p.1]? = some p.2 := by
  obtain ⟨ol, h1, h2, h3⟩ := h
  exact h3.at' (List.mem_append_right _ (List.mem_cons_of_mem _ hp))
theorem RS.out (h : RS T w L n rest now T1 Ob xs c v W) : W.heap[Ob]? = some (.cells #[v] 30) := by
  obtain ⟨ol, h1, h2, h3⟩ := h
  exact h3.at' (p := (Ob, .cells #[v] 30)) (List.mem_append_right _ (List.mem_cons_self ..))
/-- What was read is one text more. -/
def RS2 (T : Nat) (w : World) (L : F.Loc) (n : Nat) (rest : List (Nat × Obj)) (now : Nat → ByteArray) (T1 Ob : Nat) (xs : List ByteArray) (c : Int) (v0 v : Value) (W : World) : Prop :=
  ∃ ol, Txs v xs ol ∧ (∀ p ∈ ol, T1 ≤ p.1) ∧ Dev T w L n (ol ++ (Ob, .cells #[v0] 30) :: rest) now c W
theorem RS2.out {v0 : Value} (h : RS2 T w L n rest now T1 Ob xs c v0 v W) : W.heap[Ob]? = some (.cells #[v0] 30) := by
  obtain ⟨ol, h1, h2, h3⟩ := h
  exact h3.at' (p := (Ob, .cells #[v0] 30)) (List.mem_append_right _ (List.mem_cons_self ..))
theorem RS2.at' {v0 : Value} (h : RS2 T w L n rest now T1 Ob xs c v0 v W) {p : Nat × Obj} (hp : p ∈ rest) : W.heap[p.1]? = some p.2 := by
  obtain ⟨ol, h1, h2, h3⟩ := h
  exact h3.at' (List.mem_append_right _ (List.mem_cons_of_mem _ hp))
theorem RS2.sl {v0 : Value} (h : RS2 T w L n rest now T1 Ob xs c v0 v W) : ∃ ao m cp, v = .slice ao m cp := by
  obtain ⟨ol, h1, h2, h3⟩ := h
  rcases h1 with ⟨rfl, _, _⟩ | ⟨g, cap, cur, rfl, _⟩
  · exact ⟨_, _, _, rfl⟩
  · exact ⟨_, _, _, rfl⟩
theorem RS2.store (hx : Mx T1 Ob rest) (hno : ∀ p ∈ rest, p.1 ≠ Ob) {v0 : Value} (h : RS2 T w L n rest now T1 Ob xs c v0 v W) : W.heap[Ob]? = some (.cells #[v0] 30) ∧ RS T w L n rest now T1 Ob xs c v (W.setCell ⟨Ob, 0, none⟩ v) := by
  obtain ⟨ol, h1, h2, h3⟩ := h
  refine ⟨h3.at' (p := (Ob, .cells #[v0] 30)) (List.mem_append_right _ (List.mem_cons_self ..)), ol, h1, h2, ?_⟩
  have h4 : Dev T w L n ((Ob, .cells #[v0] 30) :: (ol ++ rest)) now c W := h3.forget (by
    intro p hp
    simp only [List.mem_cons, List.mem_append] at hp ⊢
    rcases hp with hp | hp | hp
    · exact Or.inr (Or.inl hp)
    · exact Or.inl hp
    · exact Or.inr (Or.inr hp))
  have h5 := h4.setOther (v := v) (by
    intro p hp
    rcases List.mem_append.1 hp with hp | hp
    · have := h2 p hp; have := hx.sb; omega
    · exact hno p hp) (by decide)
  exact h5.forget (by
    intro p hp
    simp only [List.mem_cons, List.mem_append] at hp ⊢
    rcases hp with hp | hp | hp
    · exact Or.inr (Or.inl hp)
    · exact Or.inl hp
    · exact Or.inr (Or.inr hp))
theorem RS.more (hx : Mx T1 Ob rest) (h : RS T w L n rest now T1 Ob xs c v W) : W.ownsRow T1 9 1 v xs.length (xs.map .string) ∧ T1 ≤ W.heap.size ∧ ∀ x v' W', W'.ownsRow T1 9 1 v' (xs.length + 1) (xs.map .string ++ [.string x]) → W.grownBy W' v.ownBlock → RS2 T w L n rest now T1 Ob (xs ++ [x]) c v v' W' := by
  obtain ⟨ol, h1, h2, h3⟩ := h
  exact dev_tx hx h1 h2 h3
theorem RS.read {Sb : Nat} (s : Sg) (h : RS T w L n rest now T1 Ob xs c v W) (hSb : (Sb, .cells s.cs 44) ∈ rest) (hM : (s.M, F.med L.P 1 1) ∈ rest) (h5 : ∀ p ∈ rest, ∀ c fz, p.2 ≠ .cells c 5 fz)
    (hs : s.b ≤ 10000 ∧ s.p ≤ 64) (hfit : s.b + s.p ≤ n) (hn1 : n ≤ 1000) (hc : c ≤ 90000) {t k : Nat} {x : ByteArray} (ht : 1 ≤ t) (hg : Grp now s t k x) :
    Calls Tryz.prog 60 #[.pointer (some ⟨Sb, 0, none⟩), .int .i64 (t : Nat), .int .i64 (k : Nat)] W fun r W' => r = .returned (.string x) ∧ RS T w L n rest now T1 Ob xs (c + k) v W' := by
  obtain ⟨ol, h1, h2, h3⟩ := h
  refine (dev_read s h3 (List.mem_append_right _ (List.mem_cons_of_mem _ hSb)) (List.mem_append_right _ (List.mem_cons_of_mem _ hM)) ?_ hs hfit hn1 hc ht hg).mono ?_
  · intro p hp cc fz e
    rcases List.mem_append.1 hp with hp | hp
    · rcases h1 with ⟨_, _, rfl⟩ | ⟨g, cap, cur, _, rfl, _⟩
      · cases hp
      · rw [List.mem_singleton.1 hp] at e; injection e with _ e _; exact absurd e (by decide)
    · rcases List.mem_cons.1 hp with rfl | hp
      · injection e with _ e _; exact absurd e (by decide)
      · exact h5 p hp cc fz e
  · rintro e W' ⟨rfl, h4⟩
    exact ⟨rfl, ol, h1, h2, h4⟩
end
def V58 (Sb t k : Nat) (x : ByteArray) (v0 : Value) : Nat → Value → Prop
  | 0, v => v = v0
  | 1, v => v = .pointer (some ⟨Sb, 0, none⟩)
  | 2, v => v = .int .i64 (t : Nat)
  | 3, v => v = .int .i64 ((t : Int) + 1 + (k : Int))
  | 4, v => v = .int .i64 (t : Nat)
  | 5, v => v = .int .i64 ((k : Int) + 1)
  | 6, v => v = .int .i64 (k : Nat)
  | 7, v => v = .string x
  | _, _ => True
set_option maxHeartbeats 4000000 in
set_option maxRecDepth 100000 in
theorem op58 {T : Nat} {w : World} {L : F.Loc} {n : Nat} {oth : List (Nat × Obj)} {now : Nat → ByteArray} {c : Int} {W0 : World} {Pb Ob Sb : Nat} (s : Sg) (h : Dev T w L n ((Ob, .cells #[.slice none 0 0] 30) :: (Sb, .cells s.cs 44) :: oth) now c W0)
    (hP : (Pb, .cells #[.pointer (some ⟨Sb, 0, none⟩)] 28) ∈ oth) (hM : (s.M, F.med L.P 1 1) ∈ oth) (h5 : ∀ p ∈ oth, ∀ c fz, p.2 ≠ .cells c 5 fz) (hOS : Ob ≠ Sb) (hne : ∀ p ∈ oth, p.1 ≠ Sb) (hno : ∀ p ∈ oth, p.1 ≠ Ob)
    (hsb : s.c < 18446744073709551616 ∧ s.j < 18446744073709551616 ∧ s.n < 18446744073709551616) (hs : s.b ≤ 10000 ∧ 1 ≤ s.p ∧ s.p ≤ 64) (hfit : s.b + s.p ≤ n) (hn1 : n ≤ 1000) (hc : c ≤ 40000) (hk : ∀ i, i < n → Ksec (now i)) {l : List (Nat × ByteArray)} {e : Nat} (hch : Chn now s l e) (he : e < s.p → (now (s.b + e))[0]? ≠ some 67) :
    Calls Tryz.prog 58 #[.pointer (some ⟨Pb, 0, none⟩), .pointer (some ⟨Ob, 0, none⟩)] W0 fun r w' => r = .returned (.tuple #[]) ∧ ∃ T1 v rest, Mx T1 Ob rest ∧ (∀ p ∈ (Sb, Obj.cells (Sg.cs { s with a := e }) 44) :: oth, p ∈ rest) ∧ RS T w L n rest now T1 Ob (l.map Prod.snd) (c + 10000) v w' := by
  have hlen := hch.len
  have hl32 : l.length ≤ 32 := by omega
  have hsc := dev_scan (oth := (Ob, .cells #[.slice none 0 0] 30) :: oth) (Sb := Sb) s (h.forget (by
    intro p hp
    simp only [List.mem_cons] at hp ⊢
    rcases hp with rfl | rfl | hp <;> simp [*])) (List.mem_cons_of_mem _ hM) (by
      intro p hp c fz e
      rcases List.mem_cons.1 hp with rfl | hp
      · injection e with _ e _; exact absurd e (by decide)
      · exact h5 p hp c fz e) (by
      intro p hp
      rcases List.mem_cons.1 hp with rfl | hp
      · exact hOS
      · exact hne p hp) hsb hs hfit hn1 hc hk hch he
  have q0 := F.cell_of (h.at' (p := (Pb, .cells #[.pointer (some ⟨Sb, 0, none⟩)] 28)) (by simp [hP])) 0
  simp at q0
  have HAT : Hid _ := hch.at'
  go_enter Tryz.func58, Tryz.ntmps58
  go_wp2_with fail
  go_call hsc as e1 w1 ⟨v1, ol1, rfl, hpl, hd1, hap⟩
  obtain ⟨rest, hrest⟩ : ∃ rest, rest = (Sb, Obj.cells (Sg.cs { s with a := e }) 44) :: (ol1 ++ oth) := ⟨_, rfl⟩
  obtain ⟨T1, hx⟩ := Mx.of Ob rest
  have hR0 : RS T w L n rest now T1 Ob [] (c + 66 * l.length + 66) (.slice none 0 0) w1 := ⟨[], Txs.nil, (fun p hp => by cases hp), hd1.forget (by
    intro p hp
    rw [hrest] at hp
    simp only [List.nil_append, List.mem_cons, List.mem_append] at hp ⊢
    rcases hp with hp | hp | hp | hp
    · exact Or.inr (Or.inr (Or.inl hp))
    · exact Or.inr (Or.inl hp)
    · exact Or.inl hp
    · exact Or.inr (Or.inr (Or.inr hp)))⟩
  obtain ⟨ao, cp, g, rfl, hao, hcl⟩ := hpl.cellD (fun p hp => hd1.at' (p := p) (by simp [hp]))
  rw [List.length_map] at hao
  have hS : (Sb, Obj.cells (Sg.cs { s with a := e }) 44) ∈ rest := by rw [hrest]; exact List.mem_cons_self ..
  have hsub : ∀ p ∈ (Sb, Obj.cells (Sg.cs { s with a := e }) 44) :: oth, p ∈ rest := by
    intro p hp
    rw [hrest]
    rcases List.mem_cons.1 hp with rfl | hp
    · exact List.mem_cons_self ..
    · exact List.mem_cons_of_mem _ (List.mem_append_right _ hp)
  have hol : ∀ p ∈ ol1, p ∈ rest := fun p hp => by rw [hrest]; exact List.mem_cons_of_mem _ (List.mem_append_left _ hp)
  have hnr : ∀ p ∈ rest, p.1 ≠ Ob := by
    intro p hp
    rw [hrest] at hp
    rcases List.mem_cons.1 hp with rfl | hp
    · exact Ne.symm hOS
    · rcases List.mem_append.1 hp with hp | hp
      · exact hap p hp (Ob, .cells #[.slice none 0 0] 30) (by simp)
      · exact hno p hp
  have h5r : ∀ p ∈ rest, ∀ c fz, p.2 ≠ .cells c 5 fz := by
    intro p hp c fz e
    rw [hrest] at hp
    rcases List.mem_cons.1 hp with rfl | hp
    · injection e with _ e _; exact absurd e (by decide)
    · rcases List.mem_append.1 hp with hp | hp
      · obtain ⟨c', e'⟩ := hpl.ty p hp
        rw [e'] at e; injection e with _ e _; exact absurd e (by decide)
      · exact h5 p hp c fz e
  have HF : Hid (Mx T1 Ob rest ∧ (∀ p ∈ rest, p.1 ≠ Ob) ∧ (∀ p ∈ rest, ∀ c fz, p.2 ≠ .cells c 5 fz) ∧ (Sb, Obj.cells (Sg.cs { s with a := e }) 44) ∈ rest ∧ (Pb, Obj.cells #[.pointer (some ⟨Sb, 0, none⟩)] 28) ∈ rest ∧ (s.M, F.med L.P 1 1) ∈ rest) := ⟨hx, hnr, h5r, hS, hsub _ (List.mem_cons_of_mem _ hP), hsub _ (List.mem_cons_of_mem _ hM)⟩
  have HS : Hid _ := hsub
  have HR0 : Hid _ := hR0
  have HAO : Hid _ := hao
  have HCL : Hid (∀ W : World, (∀ p ∈ rest, W.heap[p.1]? = some p.2) → ∀ j (hj : j < l.length), W.cell? ⟨g, j, none⟩ = some (nv l[j].1)) := by
    intro W hW j hj
    have q := hcl W (fun p hp => hW p (hol p hp)) j (by rw [List.length_map]; exact hj)
    rw [q, List.getElem_map]
  have HK : Hid (s.b ≤ 10000 ∧ 1 ≤ s.p ∧ s.p ≤ 64 ∧ s.b + s.p ≤ n ∧ n ≤ 1000 ∧ c ≤ 40000) := ⟨hs.1, hs.2.1, hs.2.2, hfit, hn1, hc⟩
  have hee : e ≤ 64 := by omega
  obtain ⟨N, hN⟩ : ∃ N, N = l.length := ⟨_, rfl⟩
  have HNN : Hid _ := hN
  have hlm : (l.map Prod.fst).length = N := by rw [List.length_map, hN]
  rw [hlm]
  rw [← hN] at hl32
  clear hsc h hP hM h5 hOS hne hno hsb hs hfit hn1 hc hk hch he hlen hap hd1 hrest hx hR0 hao hcl hS hsub hol hnr h5r hpl hN hlm q0
  go_wp2
  go_loopw [10] (fun iv wr => ∃ i : Nat, iv = .int .i64 (i : Nat) ∧ i ≤ N ∧ Hid (∃ v, RS T w L n rest now T1 Ob ((l.map Prod.snd).take i) (c + 66 * l.length + 66 + 64 * i) v wr)) (fun iv _ => N - (intOf iv).toNat)
  case atStart => exact ⟨0, rfl, Nat.zero_le _, _, by
    have q := HR0.out
    have e : c + 66 * (l.length : Int) + 66 + 64 * ((0 : Nat) : Int) = c + 66 * l.length + 66 := by omega
    rw [e, List.take_zero]; exact q⟩
  case round =>
    obtain ⟨i, rfl, hiN, HI⟩ := hrel
    clear HR0
    rcases Nat.eq_or_lt_of_le hiN with rfl | hlt
    · have HE : Hid (∃ v, RS T w L n rest now T1 Ob (l.map Prod.snd) (c + 10000) v wr) := by
        obtain ⟨v, q⟩ := HI.out
        have e : (l.map Prod.snd).take i = l.map Prod.snd := List.take_of_length_le (by rw [List.length_map, HNN.out]; exact Nat.le_refl _)
        rw [e] at q
        have hN := HNN.out
        exact ⟨v, q.moreC (by omega)⟩
      clear HI
      go_wp2
      go_returns
      obtain ⟨v, q⟩ := HE.out
      exact ⟨rfl, T1, v, rest, HF.out.1, HS.out, q⟩
    · have hil : i < l.length := by rw [← HNN.out]; exact hlt
      obtain ⟨k, ht1, hg, hnx, hla⟩ := HAT.out i hil
      have hcell : ∀ j (hj : j < l.length), wr.cell? ⟨g, j, none⟩ = some (nv l[j].1) := by
        obtain ⟨v, q⟩ := HI.out
        exact HCL.out wr (fun p hp => q.at' hp)
      have c1 := hcell i hil
      have c2 : wr.cell? ⟨Sb, 6, none⟩ = some (.int .i64 (e : Nat)) := by
        obtain ⟨v, q⟩ := HI.out
        exact F.cell_of (q.at' (p := (Sb, Obj.cells (Sg.cs { s with a := e }) 44)) HF.out.2.2.2.1) 6
      have c3 : wr.cell? ⟨Pb, 0, none⟩ = some (.pointer (some ⟨Sb, 0, none⟩)) := by
        obtain ⟨v, q⟩ := HI.out
        exact F.cell_of (q.at' (p := (Pb, Obj.cells #[.pointer (some ⟨Sb, 0, none⟩)] 28)) HF.out.2.2.2.2.1) 0
      have c4 : ∀ hj : i + 1 < N, wr.cell? ⟨g, i + 1, none⟩ = some (nv (l[i].1 + 1 + k)) := fun hj => by
        have h2 : i + 1 < l.length := by rw [← HNN.out]; exact hj
        rw [← hnx h2]; exact hcell (i + 1) h2
      have c5 : ¬ i + 1 < N → e = l[i].1 + 1 + k := fun hj => hla (by rw [← HNN.out]; omega)
      have hxs : (l.map Prod.snd).take (i + 1) = (l.map Prod.snd).take i ++ [l[i].2] := by
        rw [← List.take_append_getElem (by rw [List.length_map]; exact hil), List.getElem_map]
      have hlx : ((l.map Prod.snd).take i).length = i := by rw [List.length_take, List.length_map]; omega
      obtain ⟨t, ht⟩ : ∃ t, t = l[i].1 := ⟨_, rfl⟩
      obtain ⟨x, hxx⟩ : ∃ x, x = l[i].2 := ⟨_, rfl⟩
      rw [← ht] at c1 c4 c5 hg ht1
      rw [← hxx] at hg hxs
      clear ht hxx hcell hnx hla
      have hkb : 1 ≤ k ∧ t + k < 64 := ⟨hg.k1, by have := hg.fit; have := HK.out; omega⟩
      obtain ⟨hk1, hkt⟩ := hkb
      have HG : Hid _ := hg
      have HXS : Hid _ := hxs
      have HLX : Hid _ := hlx
      clear hg hxs hlx
      obtain ⟨xs, hxs0⟩ : ∃ xs, xs = (l.map Prod.snd).take i := ⟨_, rfl⟩
      rw [← hxs0] at HI HXS HLX
      obtain rfl := HAO.out (by omega)
      simp only [nv] at c1 c4
      by_cases hj : i + 1 < N
      · have c4' := c4 hj
        clear c4 c5
        go_wp2_with fail
        obtain ⟨v0, hR0⟩ := HI.out
        obtain ⟨cc, hcc⟩ : ∃ cc : Int, cc = c + 66 * l.length + 66 + 64 * (i : Nat) := ⟨_, rfl⟩
        rw [← hcc] at hR0
        have hcb : cc ≤ 90000 := by have := HK.out; have := HNN.out; omega
        have HR1 : Hid (RS T w L n rest now T1 Ob xs cc v0 wr) := hR0
        clear hR0
        refine F.wp_region_pb (fun f => ⟨#[.pointer (some ⟨Pb, 0, none⟩), .pointer (some ⟨Ob, 0, none⟩), .slice (some ⟨g, 0, none⟩) N cp, .int .i64 (i : Nat), .int .i64 (t : Nat), .int .i64 ((t : Int) + 1 + (k : Int)), .pointer (some ⟨Sb, 0, none⟩), .slice (some ⟨g, 0, none⟩) N cp, .slice (some ⟨g, 0, none⟩) N cp, .int .i64 (N : Nat), .int .i64 (i : Nat), .bool true, .int .i64 (i : Nat), .pointer (some ⟨g, i, none⟩), .int .i64 (t : Nat), .pointer (some ⟨Sb, 0, none⟩), .pointer (some ⟨Sb, 0, none⟩), .pointer (some ⟨Sb, 6, none⟩), .int .i64 (e : Nat), .int .i64 (i : Nat), .int .i64 ((i : Int) + 1), .slice (some ⟨g, 0, none⟩) N cp, .int .i64 (N : Nat), .bool true, .slice (some ⟨g, 0, none⟩) N cp, .int .i64 (i : Nat), .int .i64 ((i : Int) + 1), .pointer (some ⟨g, i + 1, none⟩), .int .i64 ((t : Int) + 1 + (k : Int)), f 0, f 1, f 2, f 3, f 4, f 5, f 6, f 7, f 8, f 9, u39], []⟩) (V58 Sb t k x v0) (PhS (fun W => RS T w L n rest now T1 Ob xs cc v0 W) (fun W => RS T w L n rest now T1 Ob xs (cc + k) v0 W) (fun vv W => RS T w L n rest now T1 Ob xs (cc + k) v0 W ∧ ∃ G, vv = .slice (some ⟨G, 0, none⟩) 1 1 ∧ W.heap[G]? = some (.cells #[.string x] 9)) (fun vv W => RS2 T w L n rest now T1 Ob (xs ++ [x]) (cc + k) v0 vv W) (fun W => ∃ vv, RS T w L n rest now T1 Ob (xs ++ [x]) (cc + k) vv W)) (fun i => [u29, u30, u31, u32, u33, u34, u35, u36, u37, u38, undef].getD i undef) (by kernel_rfl) rfl rfl ?hIa ?hputa ?stepa ?fina
        case hIa => exact PhS.start (HR1.out.below (Below.refl _ _).drew)
        case fina =>
          intro f W hP hV
          have w0 : f 0 = v0 := hV 0 (by decide)
          have w1 : f 1 = .pointer (some ⟨Sb, 0, none⟩) := hV 1 (by decide)
          have w2 : f 2 = .int .i64 (t : Nat) := hV 2 (by decide)
          have w3 : f 3 = .int .i64 ((t : Int) + 1 + (k : Int)) := hV 3 (by decide)
          have w4 : f 4 = .int .i64 (t : Nat) := hV 4 (by decide)
          have w5 : f 5 = .int .i64 ((k : Int) + 1) := hV 5 (by decide)
          have w6 : f 6 = .int .i64 (k : Nat) := hV 6 (by decide)
          have w7 : f 7 = .string x := hV 7 (by decide)
          clear hV
          have HD : Hid _ := hP.d rfl
          clear hP
          generalize f 0 = z0 at *
          subst w0
          generalize f 1 = z1 at *
          subst w1
          generalize f 2 = z2 at *
          subst w2
          generalize f 3 = z3 at *
          subst w3
          generalize f 4 = z4 at *
          subst w4
          generalize f 5 = z5 at *
          subst w5
          generalize f 6 = z6 at *
          subst w6
          generalize f 7 = z7 at *
          subst w7
          generalize f 8 = z8 at *
          generalize f 9 = z9 at *
          have HE : Hid (∃ v, RS T w L n rest now T1 Ob ((l.map Prod.snd).take (i + 1)) (c + 66 * l.length + 66 + 64 * (i + 1 : Nat)) v W) := by
            obtain ⟨vv, q⟩ := HD.out
            rw [← HXS.out] at q
            exact ⟨vv, q.moreC (by rw [hcc]; omega)⟩
          clear HD HXS HG HK HF HAO HCL HNN HAT HI
          go_wp2
          go_roundw
          case rel => exact ⟨i + 1, by congr 1, by omega, HE.out⟩
          case measure =>
            show N - ((i : Int) + 1).toNat < N - ((i : Nat) : Int).toNat
            omega
        case hputa =>
          repeat (refine ⟨fun f v => rfl, ?_⟩)
          trivial
        case stepa =>
          refine ⟨?_, ?_⟩
          · intro done f W hP hdn hd K hK
            clear hd
            have q := F.cell_of (hP.any (hP.not10 (by decide) hdn) (E := fun W => W.heap[Ob]? = some (.cells #[v0] 30)) (fun h => h.out) (fun h => h.out) (fun v h => h.1.out) (fun v h => h.out)) 0
            replace q : W.cell? ⟨Ob, 0, none⟩ = some v0 := q
            go_simp
            exact hK _ _ rfl (hP.pure _ (by decide) hdn)
          refine ⟨?_, ?_⟩
          · intro done f W hP hdn hd K hK
            clear hd
            have q := F.cell_of (hP.any (hP.not10 (by decide) hdn) (E := fun W => W.heap[Pb]? = some (.cells #[.pointer (some ⟨Sb, 0, none⟩)] 28)) (fun h => h.at' HF.out.2.2.2.2.1) (fun h => h.at' HF.out.2.2.2.2.1) (fun v h => h.1.at' HF.out.2.2.2.2.1) (fun v h => h.at' HF.out.2.2.2.2.1)) 0
            replace q : W.cell? ⟨Pb, 0, none⟩ = some (.pointer (some ⟨Sb, 0, none⟩)) := q
            go_simp
            exact hK _ _ rfl (hP.pure _ (by decide) hdn)
          refine ⟨?_, ?_⟩
          · intro done f W hP hdn hd K hK
            clear hd
            go_simp
            exact hK _ _ rfl (hP.pure _ (by decide) hdn)
          refine ⟨?_, ?_⟩
          · intro done f W hP hdn hd K hK
            clear hd
            go_simp
            exact hK _ _ rfl (hP.pure _ (by decide) hdn)
          refine ⟨?_, ?_⟩
          · intro done f W hP hdn hd K hK
            clear hd
            go_simp
            exact hK _ _ rfl (hP.pure _ (by decide) hdn)
          refine ⟨?_, ?_⟩
          · intro done f W hP hdn hd K hK
            have d3 := (hd.1 rfl).2
            have e3 : done 3 = true := (hd.1 rfl).1
            have d4 := (hd.2.1 rfl).2
            have e4 : done 4 = true := (hd.2.1 rfl).1
            clear hd
            replace d3 : f 3 = .int .i64 ((t : Int) + 1 + (k : Int)) := d3
            replace d4 : f 4 = .int .i64 (t : Nat) := d4
            generalize f 3 = x3 at *
            subst d3
            clear e3
            generalize f 4 = x4 at *
            subst d4
            clear e4
            go_simp
            refine hK _ _ ?_ (hP.pure _ (by decide) hdn)
            show _ = Value.int _ _
            congr 1
            rw [IntKind.wrap_i64]
            omega
          refine ⟨?_, ?_⟩
          · intro done f W hP hdn hd K hK
            have d5 := (hd.1 rfl).2
            have e5 : done 5 = true := (hd.1 rfl).1
            clear hd
            replace d5 : f 5 = .int .i64 ((k : Int) + 1) := d5
            generalize f 5 = x5 at *
            subst d5
            clear e5
            go_simp
            refine hK _ _ ?_ (hP.pure _ (by decide) hdn)
            show _ = Value.int _ _
            congr 1
            rw [IntKind.wrap_i64]
            omega
          refine ⟨?_, ?_⟩
          · intro done f W hP hdn hd K hK
            have d1 := (hd.1 rfl).2
            have e1 : done 1 = true := (hd.1 rfl).1
            have d2 := (hd.2.1 rfl).2
            have e2 : done 2 = true := (hd.2.1 rfl).1
            have d6 := (hd.2.2.1 rfl).2
            have e6 : done 6 = true := (hd.2.2.1 rfl).1
            clear hd
            replace d1 : f 1 = .pointer (some ⟨Sb, 0, none⟩) := d1
            replace d2 : f 2 = .int .i64 (t : Nat) := d2
            replace d6 : f 6 = .int .i64 (k : Nat) := d6
            generalize f 1 = x1 at *
            subst d1
            clear e1
            generalize f 2 = x2 at *
            subst d2
            clear e2
            generalize f 6 = x6 at *
            subst d6
            clear e6
            have hA := hP.a0 hdn
            have hg := HG.out
            have hkk := HK.out
            have hrd := RS.read (Sb := Sb) { s with a := e } hA HF.out.2.2.2.1 HF.out.2.2.2.2.2 HF.out.2.2.1 ⟨hkk.1, hkk.2.2.1⟩ hkk.2.2.2.1 hkk.2.2.2.2.1 (by omega) ht1 ⟨hg.sz, hg.k1, hg.fit, hg.com, hg.pay⟩
            clear hkk hg
            go_simp
            refine Calls.mono hrd ?_
            rintro er W' ⟨rfl, hB⟩
            exact hK _ _ rfl (hP.s7 _ hdn hB)
          refine ⟨?_, ?_⟩
          · intro done f W hP hdn hd K hK
            have d7 := (hd.1 rfl).2
            have e7 : done 7 = true := (hd.1 rfl).1
            clear hd
            replace d7 : f 7 = .string x := d7
            generalize f 7 = x7 at *
            subst d7
            have hA := hP.a e7 hdn
            go_simp
            exact hK _ _ trivial (hP.s8 _ e7 hdn ⟨hA.below (Below.alloc (Below.refl _ _) (Nat.le_refl _) _), W.heap.size, rfl, F.heap_new _ _⟩)
          refine ⟨?_, ?_⟩
          · intro done f W hP hdn hd K hK
            have d0 := (hd.1 rfl).2
            have e0 : done 0 = true := (hd.1 rfl).1
            have d8 := (hd.2.1 rfl).2
            have e8 : done 8 = true := (hd.2.1 rfl).1
            clear hd
            replace d0 : f 0 = v0 := d0
            obtain ⟨hR, G, hG8, hG⟩ := hP.b e8 hdn
            obtain ⟨m1, m2, m3⟩ := hR.more HF.out.1
            rw [if_pos (by rfl)]
            refine tapp (.tmp 29) (.tmp 37) rfl (v := v0) (xs := xs) (G := G) (y := x) d0 hG8 hG m1 m2 (by rw [HLX.out]; omega) ?_
            intro v' W' r1 r2
            exact hK _ _ trivial (hP.s9 _ e8 hdn (m3 x v' W' r1 r2))
          refine ⟨?_, ?_⟩
          · intro done f W hP hdn hd K hK
            have d9 := (hd.1 rfl).2
            have e9 : done 9 = true := (hd.1 rfl).1
            have e0 : done 0 = true := (hd.2.2.1 rfl).1
            have e1 : done 1 = true := (hd.2.2.2.1 rfl).1
            have e2 : done 2 = true := (hd.2.2.2.2.1 rfl).1
            have e3 : done 3 = true := (hd.2.2.2.2.2.1 rfl).1
            have e4 : done 4 = true := (hd.2.2.2.2.2.2.1 rfl).1
            have e5 : done 5 = true := (hd.2.2.2.2.2.2.2.1 rfl).1
            have e6 : done 6 = true := (hd.2.2.2.2.2.2.2.2.1 rfl).1
            have e7 : done 7 = true := (hd.2.2.2.2.2.2.2.2.2.1 rfl).1
            have e8 : done 8 = true := (hd.2.2.2.2.2.2.2.2.2.2.1 rfl).1
            clear hd
            have hC := hP.c e9 hdn
            obtain ⟨q, hD⟩ := hC.store HF.out.1 HF.out.2.1
            have hall : ∀ j, j < 10 → done j = true := fun j hj => match j, hj with
              | 0, _ => e0 | 1, _ => e1 | 2, _ => e2 | 3, _ => e3 | 4, _ => e4 | 5, _ => e5 | 6, _ => e6 | 7, _ => e7 | 8, _ => e8 | 9, _ => e9
            obtain ⟨ao9, m9, cp9, hv9⟩ := hC.sl
            have q1 := F.cell_of q 0
            replace q1 : W.cell? ⟨Ob, 0, none⟩ = some v0 := q1
            have q2 := F.frz_of q 0
            have HD : Hid _ := hP.s10 (.bool false) hall ⟨_, hD⟩
            clear hall q hD hC hP e0 e1 e2 e3 e4 e5 e6 e7 e8 e9 
            generalize f 9 = y9 at *
            subst hv9
            go_simp
            exact hK (.bool false) _ trivial HD.out
          trivial
      · have c5' := c5 hj
        clear c4 c5
        go_wp2_with fail
        obtain ⟨v0, hR0⟩ := HI.out
        obtain ⟨cc, hcc⟩ : ∃ cc : Int, cc = c + 66 * l.length + 66 + 64 * (i : Nat) := ⟨_, rfl⟩
        rw [← hcc] at hR0
        have hcb : cc ≤ 90000 := by have := HK.out; have := HNN.out; omega
        have HR1 : Hid (RS T w L n rest now T1 Ob xs cc v0 wr) := hR0
        clear hR0
        refine F.wp_region_pb (fun f => ⟨#[.pointer (some ⟨Pb, 0, none⟩), .pointer (some ⟨Ob, 0, none⟩), .slice (some ⟨g, 0, none⟩) N cp, .int .i64 (i : Nat), .int .i64 (t : Nat), .int .i64 ((t : Int) + 1 + (k : Int)), .pointer (some ⟨Sb, 0, none⟩), .slice (some ⟨g, 0, none⟩) N cp, .slice (some ⟨g, 0, none⟩) N cp, .int .i64 (N : Nat), .int .i64 (i : Nat), .bool true, .int .i64 (i : Nat), .pointer (some ⟨g, i, none⟩), .int .i64 (t : Nat), .pointer (some ⟨Sb, 0, none⟩), .pointer (some ⟨Sb, 0, none⟩), .pointer (some ⟨Sb, 6, none⟩), .int .i64 ((t : Int) + 1 + (k : Int)), .int .i64 (i : Nat), .int .i64 ((i : Int) + 1), .slice (some ⟨g, 0, none⟩) N cp, .int .i64 (N : Nat), .bool (decide ((i : Int) + 1 < (N : Int))), u24, u25, u26, u27, u28, f 0, f 1, f 2, f 3, f 4, f 5, f 6, f 7, f 8, f 9, u39], []⟩) (V58 Sb t k x v0) (PhS (fun W => RS T w L n rest now T1 Ob xs cc v0 W) (fun W => RS T w L n rest now T1 Ob xs (cc + k) v0 W) (fun vv W => RS T w L n rest now T1 Ob xs (cc + k) v0 W ∧ ∃ G, vv = .slice (some ⟨G, 0, none⟩) 1 1 ∧ W.heap[G]? = some (.cells #[.string x] 9)) (fun vv W => RS2 T w L n rest now T1 Ob (xs ++ [x]) (cc + k) v0 vv W) (fun W => ∃ vv, RS T w L n rest now T1 Ob (xs ++ [x]) (cc + k) vv W)) (fun i => [u29, u30, u31, u32, u33, u34, u35, u36, u37, u38, undef].getD i undef) (by kernel_rfl) rfl rfl ?hIb ?hputb ?stepb ?finb
        case hIb => exact PhS.start (HR1.out.below (Below.refl _ _).drew)
        case finb =>
          intro f W hP hV
          have w0 : f 0 = v0 := hV 0 (by decide)
          have w1 : f 1 = .pointer (some ⟨Sb, 0, none⟩) := hV 1 (by decide)
          have w2 : f 2 = .int .i64 (t : Nat) := hV 2 (by decide)
          have w3 : f 3 = .int .i64 ((t : Int) + 1 + (k : Int)) := hV 3 (by decide)
          have w4 : f 4 = .int .i64 (t : Nat) := hV 4 (by decide)
          have w5 : f 5 = .int .i64 ((k : Int) + 1) := hV 5 (by decide)
          have w6 : f 6 = .int .i64 (k : Nat) := hV 6 (by decide)
          have w7 : f 7 = .string x := hV 7 (by decide)
          clear hV
          have HD : Hid _ := hP.d rfl
          clear hP
          generalize f 0 = z0 at *
          subst w0
          generalize f 1 = z1 at *
          subst w1
          generalize f 2 = z2 at *
          subst w2
          generalize f 3 = z3 at *
          subst w3
          generalize f 4 = z4 at *
          subst w4
          generalize f 5 = z5 at *
          subst w5
          generalize f 6 = z6 at *
          subst w6
          generalize f 7 = z7 at *
          subst w7
          generalize f 8 = z8 at *
          generalize f 9 = z9 at *
          have HE : Hid (∃ v, RS T w L n rest now T1 Ob ((l.map Prod.snd).take (i + 1)) (c + 66 * l.length + 66 + 64 * (i + 1 : Nat)) v W) := by
            obtain ⟨vv, q⟩ := HD.out
            rw [← HXS.out] at q
            exact ⟨vv, q.moreC (by rw [hcc]; omega)⟩
          clear HD HXS HG HK HF HAO HCL HNN HAT HI
          go_wp2
          go_roundw
          case rel => exact ⟨i + 1, by congr 1, by omega, HE.out⟩
          case measure =>
            show N - ((i : Int) + 1).toNat < N - ((i : Nat) : Int).toNat
            omega
        case hputb =>
          repeat (refine ⟨fun f v => rfl, ?_⟩)
          trivial
        case stepb =>
          refine ⟨?_, ?_⟩
          · intro done f W hP hdn hd K hK
            clear hd
            have q := F.cell_of (hP.any (hP.not10 (by decide) hdn) (E := fun W => W.heap[Ob]? = some (.cells #[v0] 30)) (fun h => h.out) (fun h => h.out) (fun v h => h.1.out) (fun v h => h.out)) 0
            replace q : W.cell? ⟨Ob, 0, none⟩ = some v0 := q
            go_simp
            exact hK _ _ rfl (hP.pure _ (by decide) hdn)
          refine ⟨?_, ?_⟩
          · intro done f W hP hdn hd K hK
            clear hd
            have q := F.cell_of (hP.any (hP.not10 (by decide) hdn) (E := fun W => W.heap[Pb]? = some (.cells #[.pointer (some ⟨Sb, 0, none⟩)] 28)) (fun h => h.at' HF.out.2.2.2.2.1) (fun h => h.at' HF.out.2.2.2.2.1) (fun v h => h.1.at' HF.out.2.2.2.2.1) (fun v h => h.at' HF.out.2.2.2.2.1)) 0
            replace q : W.cell? ⟨Pb, 0, none⟩ = some (.pointer (some ⟨Sb, 0, none⟩)) := q
            go_simp
            exact hK _ _ rfl (hP.pure _ (by decide) hdn)
          refine ⟨?_, ?_⟩
          · intro done f W hP hdn hd K hK
            clear hd
            go_simp
            exact hK _ _ rfl (hP.pure _ (by decide) hdn)
          refine ⟨?_, ?_⟩
          · intro done f W hP hdn hd K hK
            clear hd
            go_simp
            exact hK _ _ rfl (hP.pure _ (by decide) hdn)
          refine ⟨?_, ?_⟩
          · intro done f W hP hdn hd K hK
            clear hd
            go_simp
            exact hK _ _ rfl (hP.pure _ (by decide) hdn)
          refine ⟨?_, ?_⟩
          · intro done f W hP hdn hd K hK
            have d3 := (hd.1 rfl).2
            have e3 : done 3 = true := (hd.1 rfl).1
            have d4 := (hd.2.1 rfl).2
            have e4 : done 4 = true := (hd.2.1 rfl).1
            clear hd
            replace d3 : f 3 = .int .i64 ((t : Int) + 1 + (k : Int)) := d3
            replace d4 : f 4 = .int .i64 (t : Nat) := d4
            generalize f 3 = x3 at *
            subst d3
            clear e3
            generalize f 4 = x4 at *
            subst d4
            clear e4
            go_simp
            refine hK _ _ ?_ (hP.pure _ (by decide) hdn)
            show _ = Value.int _ _
            congr 1
            rw [IntKind.wrap_i64]
            omega
          refine ⟨?_, ?_⟩
          · intro done f W hP hdn hd K hK
            have d5 := (hd.1 rfl).2
            have e5 : done 5 = true := (hd.1 rfl).1
            clear hd
            replace d5 : f 5 = .int .i64 ((k : Int) + 1) := d5
            generalize f 5 = x5 at *
            subst d5
            clear e5
            go_simp
            refine hK _ _ ?_ (hP.pure _ (by decide) hdn)
            show _ = Value.int _ _
            congr 1
            rw [IntKind.wrap_i64]
            omega
          refine ⟨?_, ?_⟩
          · intro done f W hP hdn hd K hK
            have d1 := (hd.1 rfl).2
            have e1 : done 1 = true := (hd.1 rfl).1
            have d2 := (hd.2.1 rfl).2
            have e2 : done 2 = true := (hd.2.1 rfl).1
            have d6 := (hd.2.2.1 rfl).2
            have e6 : done 6 = true := (hd.2.2.1 rfl).1
            clear hd
            replace d1 : f 1 = .pointer (some ⟨Sb, 0, none⟩) := d1
            replace d2 : f 2 = .int .i64 (t : Nat) := d2
            replace d6 : f 6 = .int .i64 (k : Nat) := d6
            generalize f 1 = x1 at *
            subst d1
            clear e1
            generalize f 2 = x2 at *
            subst d2
            clear e2
            generalize f 6 = x6 at *
            subst d6
            clear e6
            have hA := hP.a0 hdn
            have hg := HG.out
            have hkk := HK.out
            have hrd := RS.read (Sb := Sb) { s with a := e } hA HF.out.2.2.2.1 HF.out.2.2.2.2.2 HF.out.2.2.1 ⟨hkk.1, hkk.2.2.1⟩ hkk.2.2.2.1 hkk.2.2.2.2.1 (by omega) ht1 ⟨hg.sz, hg.k1, hg.fit, hg.com, hg.pay⟩
            clear hkk hg
            go_simp
            refine Calls.mono hrd ?_
            rintro er W' ⟨rfl, hB⟩
            exact hK _ _ rfl (hP.s7 _ hdn hB)
          refine ⟨?_, ?_⟩
          · intro done f W hP hdn hd K hK
            have d7 := (hd.1 rfl).2
            have e7 : done 7 = true := (hd.1 rfl).1
            clear hd
            replace d7 : f 7 = .string x := d7
            generalize f 7 = x7 at *
            subst d7
            have hA := hP.a e7 hdn
            go_simp
            exact hK _ _ trivial (hP.s8 _ e7 hdn ⟨hA.below (Below.alloc (Below.refl _ _) (Nat.le_refl _) _), W.heap.size, rfl, F.heap_new _ _⟩)
          refine ⟨?_, ?_⟩
          · intro done f W hP hdn hd K hK
            have d0 := (hd.1 rfl).2
            have e0 : done 0 = true := (hd.1 rfl).1
            have d8 := (hd.2.1 rfl).2
            have e8 : done 8 = true := (hd.2.1 rfl).1
            clear hd
            replace d0 : f 0 = v0 := d0
            obtain ⟨hR, G, hG8, hG⟩ := hP.b e8 hdn
            obtain ⟨m1, m2, m3⟩ := hR.more HF.out.1
            rw [if_pos (by rfl)]
            refine tapp (.tmp 29) (.tmp 37) rfl (v := v0) (xs := xs) (G := G) (y := x) d0 hG8 hG m1 m2 (by rw [HLX.out]; omega) ?_
            intro v' W' r1 r2
            exact hK _ _ trivial (hP.s9 _ e8 hdn (m3 x v' W' r1 r2))
          refine ⟨?_, ?_⟩
          · intro done f W hP hdn hd K hK
            have d9 := (hd.1 rfl).2
            have e9 : done 9 = true := (hd.1 rfl).1
            have e0 : done 0 = true := (hd.2.2.1 rfl).1
            have e1 : done 1 = true := (hd.2.2.2.1 rfl).1
            have e2 : done 2 = true := (hd.2.2.2.2.1 rfl).1
            have e3 : done 3 = true := (hd.2.2.2.2.2.1 rfl).1
            have e4 : done 4 = true := (hd.2.2.2.2.2.2.1 rfl).1
            have e5 : done 5 = true := (hd.2.2.2.2.2.2.2.1 rfl).1
            have e6 : done 6 = true := (hd.2.2.2.2.2.2.2.2.1 rfl).1
            have e7 : done 7 = true := (hd.2.2.2.2.2.2.2.2.2.1 rfl).1
            have e8 : done 8 = true := (hd.2.2.2.2.2.2.2.2.2.2.1 rfl).1
            clear hd
            have hC := hP.c e9 hdn
            obtain ⟨q, hD⟩ := hC.store HF.out.1 HF.out.2.1
            have hall : ∀ j, j < 10 → done j = true := fun j hj => match j, hj with
              | 0, _ => e0 | 1, _ => e1 | 2, _ => e2 | 3, _ => e3 | 4, _ => e4 | 5, _ => e5 | 6, _ => e6 | 7, _ => e7 | 8, _ => e8 | 9, _ => e9
            obtain ⟨ao9, m9, cp9, hv9⟩ := hC.sl
            have q1 := F.cell_of q 0
            replace q1 : W.cell? ⟨Ob, 0, none⟩ = some v0 := q1
            have q2 := F.frz_of q 0
            have HD : Hid _ := hP.s10 (.bool false) hall ⟨_, hD⟩
            clear hall q hD hC hP e0 e1 e2 e3 e4 e5 e6 e7 e8 e9 
            generalize f 9 = y9 at *
            subst hv9
            go_simp
            exact hK (.bool false) _ trivial HD.out
          trivial
end Go.Proofs.YtncfbocbigdhiaaGreat

/- scanned: the texts of the groups that lie there. -/
namespace Go.Proofs.YtncfbocbigdhiaaGreat
open Go.RowKit
/-- As dev_guard, where it is not known ahead what is left. -/
theorem dev_guardE {X : Type} (O O3 : X → List (Nat × Obj)) (P : X → Prop) {T : Nat} {w : World} {L : F.Loc} {n : Nat} {oth : List (Nat × Obj)} {now now2 : Nat → ByteArray} {c c2 : Int} {W : World} (f : Nat) (cap : Array Value) (hent : ∀ args W, (callFunc f args).run Tryz.prog W = .ok (.enter f args) W) (h : Dev T w L n oth now c W)
    (hop : Dev T w L n (F.gob W.heap.size oth) now c (F.G0 W) → Calls Tryz.prog f cap (F.G0 W) fun e W' => e = .returned (.tuple #[]) ∧ ∃ x, P x ∧ Dev T w L n (O x) now2 c2 W') (hs : ∀ x, P x → ∀ p ∈ F.gob W.heap.size (O3 x), p ∈ O x) (hne : ∀ x, P x → ∀ p ∈ O3 x, p.1 ≠ W.heap.size ∧ p.1 ≠ W.heap.size + 1) :
    Calls Tryz.prog 15 #[.func (.func f) #[] cap] W fun e w' => e = .returned (.tuple #[.agg #[.int .i64 0, .int .i64 0], .bool false]) ∧ ∃ x, P x ∧ Dev T w L n (O3 x) now2 c2 w' := by
  refine (F.guard_ok f cap (fun W' => ∃ x, P x ∧ Dev T w L n (O x) now2 c2 W') W hent ((hop h.guarded).mono ?_)).mono ?_
  · rintro e W' ⟨rfl, x, hP, hd⟩
    exact ⟨rfl, hd.at' (p := (W.heap.size, F.bob)) (hs x hP _ (by simp [F.gob])), hd.at' (p := (W.heap.size + 1, F.iob)) (hs x hP _ (by simp [F.gob])), x, hP, hd⟩
  · rintro e w' ⟨rfl, W2, ⟨x, hP, hd⟩, hk⟩
    exact ⟨rfl, x, hP, (hd.forget (hs x hP)).kt (hne x hP) hk⟩
set_option maxHeartbeats 2000000 in
set_option maxRecDepth 100000 in
theorem scanned_all {T : Nat} {w : World} {L : F.Loc} {n : Nat} {oth : List (Nat × Obj)} {now : Nat → ByteArray} {c : Int} {W : World} {Sb : Nat} (s : Sg) (h : Dev T w L n ((Sb, .cells s.cs 44) :: oth) now c W)
    (hM : (s.M, F.med L.P 1 1) ∈ oth) (h5 : ∀ p ∈ oth, ∀ c fz, p.2 ≠ .cells c 5 fz) (hne : ∀ p ∈ oth, p.1 ≠ Sb)
    (hsb : s.c < 18446744073709551616 ∧ s.j < 18446744073709551616 ∧ s.n < 18446744073709551616) (hs : s.b ≤ 10000 ∧ 1 ≤ s.p ∧ s.p ≤ 64) (hfit : s.b + s.p ≤ n) (hn1 : n ≤ 1000) (hc : c ≤ 40000) (hk : ∀ i, i < n → Ksec (now i)) {l : List (Nat × ByteArray)} {e : Nat} (hch : Chn now s l e) (he : e < s.p → (now (s.b + e))[0]? ≠ some 67) :
    Calls Tryz.prog 20 #[.pointer (some ⟨Sb, 0, none⟩)] W fun r w' => ∃ v ol, r = .returned (.tuple #[v, .bool true]) ∧ Txs v (l.map Prod.snd) ol ∧ (∀ p ∈ ol, ∀ q ∈ (Sb, Obj.cells (Sg.cs { s with a := e }) 44) :: oth, p.1 ≠ q.1) ∧ Dev T w L n (ol ++ (Sb, .cells (Sg.cs { s with a := e }) 44) :: oth) now (c + 10000) w' := by
  obtain ⟨B, hB⟩ : ∃ B, B = W.heap.size := ⟨_, rfl⟩
  have d1 := h.alloc (.cells #[.pointer (some ⟨Sb, 0, none⟩)] 28) (F.apart_of (by decide))
  have d2 := d1.alloc (.cells #[.slice none 0 0] 30) (F.apart_of (by decide))
  have e1 : (W.alloc (.cells #[.pointer (some ⟨Sb, 0, none⟩)] 28)).heap.size = W.heap.size + 1 := by simp
  have e2 : ((W.alloc (.cells #[.pointer (some ⟨Sb, 0, none⟩)] 28)).alloc (.cells #[.slice none 0 0] 30)).heap.size = W.heap.size + 2 := by simp
  have hlt := h.lts
  have hSlt := hlt (Sb, .cells s.cs 44) (by simp)
  replace hSlt : Sb < W.heap.size := hSlt
  have hgd := dev_guardE (X := Value × List (Nat × Obj)) (now2 := now) (c2 := c + 10000)
    (fun x => x.2 ++ (W.heap.size + 1, .cells #[x.1] 30) :: (Sb, .cells (Sg.cs { s with a := e }) 44) :: F.gob (W.heap.size + 2) ((W.heap.size, .cells #[.pointer (some ⟨Sb, 0, none⟩)] 28) :: oth))
    (fun x => x.2 ++ (W.heap.size + 1, .cells #[x.1] 30) :: (Sb, .cells (Sg.cs { s with a := e }) 44) :: (W.heap.size, .cells #[.pointer (some ⟨Sb, 0, none⟩)] 28) :: oth)
    (fun x => Txs x.1 (l.map Prod.snd) x.2 ∧ ∀ p ∈ x.2, ∀ q ∈ (Sb, Obj.cells (Sg.cs { s with a := e }) 44) :: F.gob (W.heap.size + 2) ((W.heap.size, .cells #[.pointer (some ⟨Sb, 0, none⟩)] 28) :: oth), p.1 ≠ q.1)
    58 #[.pointer (some ⟨W.heap.size, 0, none⟩), .pointer (some ⟨W.heap.size + 1, 0, none⟩)] ent58 d2 (fun hg => by
      rw [e1, e2] at hg
      refine (op58 (Pb := W.heap.size) (Ob := W.heap.size + 1) (Sb := Sb) (oth := F.gob (W.heap.size + 2) ((W.heap.size, .cells #[.pointer (some ⟨Sb, 0, none⟩)] 28) :: oth)) s (hg.forget ?_) (by simp [F.gob]) (by simp [F.gob, hM]) ?_ (by omega) ?_ ?_ hsb hs hfit hn1 hc hk hch he).mono ?_
      · intro p hp
        simp only [F.gob, List.mem_cons] at hp ⊢
        rcases hp with rfl | rfl | rfl | rfl | rfl | hp <;> simp [*]
      · intro p hp cc fz e
        simp only [F.gob, List.mem_cons] at hp
        rcases hp with rfl | rfl | rfl | hp
        · injection e with _ e _; exact absurd e (by decide)
        · injection e with _ e _; exact absurd e (by decide)
        · injection e with _ e _; exact absurd e (by decide)
        · exact h5 p hp cc fz e
      · intro p hp
        simp only [F.gob, List.mem_cons] at hp
        rcases hp with rfl | rfl | rfl | hp
        · show W.heap.size + 2 + 1 ≠ Sb; omega
        · show W.heap.size + 2 ≠ Sb; omega
        · show W.heap.size ≠ Sb; omega
        · exact hne p hp
      · intro p hp
        simp only [F.gob, List.mem_cons] at hp
        rcases hp with rfl | rfl | rfl | hp
        · show W.heap.size + 2 + 1 ≠ W.heap.size + 1; omega
        · show W.heap.size + 2 ≠ W.heap.size + 1; omega
        · show W.heap.size ≠ W.heap.size + 1; omega
        · have := hlt p (List.mem_cons_of_mem _ hp); omega
      · rintro r W' ⟨rfl, T1, v, rest, hx, hsub, ol, t1, t2, t3⟩
        refine ⟨rfl, (v, ol), ⟨t1, fun p hp q hq => ?_⟩, t3.forget ?_⟩
        · have := hx.lt q (hsub q hq); have := t2 p hp; omega
        · intro p hp
          simp only [List.mem_append, List.mem_cons] at hp ⊢
          rcases hp with hp | hp | hp | hp
          · exact Or.inl hp
          · exact Or.inr (Or.inl hp)
          · exact Or.inr (Or.inr (hsub p (by rw [hp]; exact List.mem_cons_self ..)))
          · exact Or.inr (Or.inr (hsub p (List.mem_cons_of_mem _ hp)))) (by
    rintro ⟨v, ol⟩ hP p hp
    rw [e2] at hp
    simp only [F.gob, List.mem_append, List.mem_cons] at hp ⊢
    rcases hp with hp | hp | hp | hp | hp | hp | hp <;> simp [hp]) (by
    rintro ⟨v, ol⟩ ⟨hP1, hP2⟩ p hp
    rw [e2]
    rcases List.mem_append.1 hp with hp | hp
    · exact ⟨hP2 p hp (W.heap.size + 2, F.bob) (by simp [F.gob]), hP2 p hp (W.heap.size + 2 + 1, F.iob) (by simp [F.gob])⟩
    · simp only [List.mem_cons] at hp
      rcases hp with rfl | rfl | rfl | hp
      · exact ⟨by show W.heap.size + 1 ≠ _; omega, by show W.heap.size + 1 ≠ _; omega⟩
      · exact ⟨by show Sb ≠ _; omega, by show Sb ≠ _; omega⟩
      · exact ⟨by show W.heap.size ≠ _; omega, by show W.heap.size ≠ _; omega⟩
      · have := hlt p (List.mem_cons_of_mem _ hp); exact ⟨by omega, by omega⟩)
  have hmf : ∀ (fn : Fn) (first cap : Array Value) (w : World), (Instr.makeFunc fn first cap).run Tryz.prog w = .ok (.func fn first cap) w := fun _ _ _ _ => rfl
  clear d1 d2 hlt hB h hM h5 hne hk hch he
  go_enter Tryz.func20, Tryz.ntmps20
  go_wp2_with fail
  go_call hgd as er w3 ⟨rfl, ⟨v, ol⟩, ⟨t1, t2⟩, d3⟩
  have d4 := d3.alloc (.cells #[.int .i64 0, .int .i64 0] 37) (F.apart_of (by decide))
  have q1 := F.cell_of (d4.at' (p := (W.heap.size + 1, .cells #[v] 30)) (by simp)) 0
  replace q1 : (w3.alloc (.cells #[.int .i64 0, .int .i64 0] 37)).cell? ⟨W.heap.size + 1, 0, none⟩ = some v := q1
  obtain ⟨ao, m, cp, hv⟩ : ∃ ao m cp, v = .slice ao m cp := by
    rcases t1 with ⟨rfl, _, _⟩ | ⟨g, cap, cur, rfl, _⟩
    · exact ⟨_, _, _, rfl⟩
    · exact ⟨_, _, _, rfl⟩
  have HD4 : Hid _ := d4
  have HT1 : Hid (Txs v (l.map Prod.snd) ol) := t1
  have HT2 : Hid (∀ p ∈ ol, ∀ q ∈ (Sb, Obj.cells (Sg.cs { s with a := e }) 44) :: oth, p.1 ≠ q.1) := fun p hp q hq => t2 p hp q (by
    simp only [F.gob, List.mem_cons] at hq ⊢
    rcases hq with hq | hq
    · exact Or.inl hq
    · exact Or.inr (Or.inr (Or.inr (Or.inr hq))))
  clear hgd d4 d3 t1 t2
  subst hv
  go_wp2
  go_returns
  refine ⟨_, ol, rfl, HT1.out, HT2.out, HD4.out.forget ?_⟩
  intro p hp
  simp only [List.mem_append, List.mem_cons] at hp ⊢
  rcases hp with hp | hp | hp
  · exact Or.inr (Or.inl hp)
  · exact Or.inr (Or.inr (Or.inr (Or.inl hp)))
  · exact Or.inr (Or.inr (Or.inr (Or.inr (Or.inr hp))))
end Go.Proofs.YtncfbocbigdhiaaGreat

/- GroupFull's closure: groups, till there is no room. -/
namespace Go.Proofs.YtncfbocbigdhiaaGreat
open Go.RowKit
/-- So many groups of n sectors each. -/
def FS (T : Nat) (w : World) (L : F.Loc) (rest : List (Nat × Obj)) (per n M Cb Sb i : Nat) (W : World) : Prop :=
  1 + i * (n + 1) ≤ per ∧ ∃ now l, Chn now ⟨M, 3, 2, 5, 4, per, 1 + i * (n + 1)⟩ l (1 + i * (n + 1)) ∧ l.length = i ∧ (∀ j, j < 4 + per → Ksec (now j)) ∧ (∀ j, 4 + (1 + i * (n + 1)) ≤ j → now j = F.pad ⟨#[]⟩) ∧ Dev T w L (4 + per) ((Cb, .cells #[.int .i64 (i : Nat)] 3) :: (Sb, .cells (Sg.cs ⟨M, 3, 2, 5, 4, per, 1 + i * (n + 1)⟩) 44) :: rest) now (100 * i) W
/-- Where one more was written, and not counted yet. -/
def FS2 (T : Nat) (w : World) (L : F.Loc) (rest : List (Nat × Obj)) (per n M Cb Sb i : Nat) (W : World) : Prop :=
  1 + (i + 1) * (n + 1) ≤ per ∧ ∃ now l, Chn now ⟨M, 3, 2, 5, 4, per, 1 + (i + 1) * (n + 1)⟩ l (1 + (i + 1) * (n + 1)) ∧ l.length = i + 1 ∧ (∀ j, j < 4 + per → Ksec (now j)) ∧ (∀ j, 4 + (1 + (i + 1) * (n + 1)) ≤ j → now j = F.pad ⟨#[]⟩) ∧ Dev T w L (4 + per) ((Cb, .cells #[.int .i64 (i : Nat)] 3) :: (Sb, .cells (Sg.cs ⟨M, 3, 2, 5, 4, per, 1 + (i + 1) * (n + 1)⟩) 44) :: rest) now (100 * (i + 1 : Nat)) W
section
variable {T : Nat} {w : World} {L : F.Loc} {rest : List (Nat × Obj)} {per n M Cb Sb i : Nat} {W W' : World}
theorem FS.below (h : FS T w L rest per n M Cb Sb i W) (hb : Below W.heap.size W W') : FS T w L rest per n M Cb Sb i W' := by
  obtain ⟨h0, now, l, h1, h2, h3, h4, h5⟩ := h
  exact ⟨h0, now, l, h1, h2, h3, h4, h5.below hb⟩
theorem FS.at' (h : FS T w L rest per n M Cb Sb i W) {p : Nat × Obj} (hp : p ∈ rest) : W.heap[p.1]? = some p.2 := by
  obtain ⟨h0, now, l, h1, h2, h3, h4, h5⟩ := h
  exact h5.at' (List.mem_cons_of_mem _ (List.mem_cons_of_mem _ hp))
theorem FS.cnt (h : FS T w L rest per n M Cb Sb i W) : W.heap[Cb]? = some (.cells #[.int .i64 (i : Nat)] 3) := by
  obtain ⟨h0, now, l, h1, h2, h3, h4, h5⟩ := h
  exact h5.at' (p := (Cb, .cells #[.int .i64 (i : Nat)] 3)) (by simp)
theorem FS.small (hn : 1 ≤ n) (hp : per ≤ 64) (h : FS T w L rest per n M Cb Sb i W) : i ≤ 32 := by
  have h0 := h.1
  have h1 : i * 2 ≤ i * (n + 1) := Nat.mul_le_mul_left i (by omega)
  omega
theorem FS2.at' (h : FS2 T w L rest per n M Cb Sb i W) {p : Nat × Obj} (hp : p ∈ rest) : W.heap[p.1]? = some p.2 := by
  obtain ⟨h0, now, l, h1, h2, h3, h4, h5⟩ := h
  exact h5.at' (List.mem_cons_of_mem _ (List.mem_cons_of_mem _ hp))
theorem FS2.cnt (h : FS2 T w L rest per n M Cb Sb i W) : W.heap[Cb]? = some (.cells #[.int .i64 (i : Nat)] 3) := by
  obtain ⟨h0, now, l, h1, h2, h3, h4, h5⟩ := h
  exact h5.at' (p := (Cb, .cells #[.int .i64 (i : Nat)] 3)) (by simp)
theorem FS2.below (h : FS2 T w L rest per n M Cb Sb i W) (hb : Below W.heap.size W W') : FS2 T w L rest per n M Cb Sb i W' := by
  obtain ⟨h0, now, l, h1, h2, h3, h4, h5⟩ := h
  exact ⟨h0, now, l, h1, h2, h3, h4, h5.below hb⟩
/-- One more is counted. -/
theorem FS2.count (hnc : ∀ p ∈ rest, p.1 ≠ Cb) (hCS : Cb ≠ Sb) (h : FS2 T w L rest per n M Cb Sb i W) : FS T w L rest per n M Cb Sb (i + 1) (W.setCell ⟨Cb, 0, none⟩ (.int .i64 ((i : Int) + 1))) := by
  obtain ⟨h0, now, l, h1, h2, h3, h4, h5⟩ := h
  refine ⟨h0, now, l, h1, h2, h3, h4, ?_⟩
  have := h5.setOther (v := .int .i64 ((i : Int) + 1)) (by
    intro p hp
    rcases List.mem_cons.1 hp with rfl | hp
    · exact Ne.symm hCS
    · exact hnc p hp) (by decide)
  exact this
theorem FS.room (hper : 8 ≤ per ∧ per ≤ 64) (h : FS T w L rest per n M Cb Sb i W) (b : Bool) (hb : decide ((0 : Int) < (n : Nat) ∧ ((n : Nat) : Int) < (per : Nat) - ((1 + i * (n + 1) : Nat) : Int)) = b) : Calls Tryz.prog 14 #[.pointer (some ⟨Sb, 0, none⟩), .int .i64 (n : Nat)] W fun e w' => e = .returned (.bool b) ∧ FS T w L rest per n M Cb Sb i w' := by
  have h0 := h.1
  have hS : W.heap[Sb]? = some (.cells (Sg.cs ⟨M, 3, 2, 5, 4, per, 1 + i * (n + 1)⟩) 44) := by
    obtain ⟨h0, now, l, h1, h2, h3, h4, h5⟩ := h
    exact h5.at' (p := (Sb, _)) (by simp)
  refine (room_any _ Sb (n : Nat) W hS ⟨by show per ≤ 1000; omega, by show 1 + i * (n + 1) ≤ 1000; omega⟩).mono ?_
  rintro e W' ⟨rfl, hbl⟩
  exact ⟨by rw [← hb], h.below hbl⟩
/-- One more is written. -/
theorem FS.app (hper : 8 ≤ per ∧ per ≤ 64) (hn : 1 ≤ n ∧ n ≤ 20) (hM : (M, F.med L.P 1 1) ∈ rest) (hCS : Cb ≠ Sb) (hne : ∀ p ∈ rest, p.1 ≠ Sb) (hr : 1 + i * (n + 1) + n < per) (x : ByteArray) (hx : x.size = 63 * n) (h : FS T w L rest per n M Cb Sb i W) :
    Calls Tryz.prog 17 #[.pointer (some ⟨Sb, 0, none⟩), .string x] W fun e w' => e = .returned (.int .i64 (1 + i * (n + 1) : Nat)) ∧ FS2 T w L rest per n M Cb Sb i w' := by
  have hi := h.small hn.1 hper.2
  obtain ⟨h0, now, l, h1, h2, h3, h4, h5⟩ := h
  have hmul : (i + 1) * (n + 1) = i * (n + 1) + (n + 1) := Nat.succ_mul _ _
  have e1 : 1 + (i + 1) * (n + 1) = 1 + i * (n + 1) + 1 + n := by omega
  let s : Sg := ⟨M, 3, 2, 5, 4, per, 1 + i * (n + 1)⟩
  have hs : s.Ok := ⟨(by decide : (3 : Nat) < _), (by decide : (2 : Nat) < _), (by decide : (5 : Nat) < _), (by decide : (4 : Nat) ≤ _), hper.1, hper.2, (by show 1 ≤ 1 + i * (n + 1); omega), h0⟩
  have h6 : Dev T w L (4 + per) ((Sb, .cells s.cs 44) :: (Cb, .cells #[.int .i64 (i : Nat)] 3) :: rest) now (100 * i) W := h5.forget (by
    intro p hp
    simp only [List.mem_cons] at hp ⊢
    rcases hp with hp | hp | hp
    · exact Or.inr (Or.inl hp)
    · exact Or.inl hp
    · exact Or.inr (Or.inr hp))
  refine (dev_append s h6 (List.mem_cons_of_mem _ hM) (by
    intro p hp
    rcases List.mem_cons.1 hp with rfl | hp
    · exact hCS
    · exact hne p hp) hs x n hn.1 hr hx (Nat.le_refl _) (by omega) (by omega)).mono ?_
  rintro e W' ⟨rfl, hd⟩
  refine ⟨rfl, by rw [e1]; omega, layC now s x n, l ++ [(1 + i * (n + 1), x)], ?_, by rw [List.length_append, h2]; rfl, ?_, ?_, ?_⟩
  · rw [e1]; exact Chn.more (s := s) h1 hx hn.1 hr
  · exact layC_ksec (s := s) hs hx hn.1 hr h3
  · intro j hj
    have hj2 : 4 + (1 + i * (n + 1)) + 1 + n ≤ j := by omega
    have := layC_ge (now := now) (s := s) (x := x) (k := n) j hj2
    rw [this]; exact h4 j (by omega)
  · rw [e1]
    refine (hd.more (d := 100 * (i + 1 : Nat)) (by omega)).forget ?_
    intro p hp
    simp only [List.mem_cons] at hp ⊢
    rcases hp with hp | hp | hp
    · exact Or.inr (Or.inl hp)
    · exact Or.inl hp
    · exact Or.inr (Or.inr hp)
end
theorem ent32 (args : Array Value) (W : World) : (callFunc 32 args).run Tryz.prog W = .ok (.enter 32 args) W := O.enter_of Tryz.func32 (by kernel_rfl) (by kernel_rfl) args W
/-- What is counted. -/
def cnt32 (Cb : Nat) (W : World) : Nat := match W.cell? ⟨Cb, 0, none⟩ with
  | some v => (intOf v).toNat
  | none => 0
theorem FS.cnt32 {T : Nat} {w : World} {L : F.Loc} {rest : List (Nat × Obj)} {per n M Cb Sb i : Nat} {W : World} (h : FS T w L rest per n M Cb Sb i W) : cnt32 Cb W = i := by
  unfold YtncfbocbigdhiaaGreat.cnt32
  have q : W.cell? ⟨Cb, 0, none⟩ = some (.int .i64 (i : Nat)) := F.cell_of h.cnt 0
  rw [q]
  show ((i : Nat) : Int).toNat = i
  omega
def V32 (Sb n i : Nat) : Nat → Value → Prop
  | 0, v => v = .pointer (some ⟨Sb, 0, none⟩)
  | 1, v => v = .int .i64 (n : Nat)
  | 2, v => v = .string (payN ⟨#[103]⟩ n)
  | 3, v => v = .int .i64 (1 + i * (n + 1) : Nat)
  | _, _ => True
theorem F_two_start {i : Nat} {X0 X1 : World → Prop} {f : Nat → Value} {W : World} (h : X0 W) : F.Two i X0 X1 (fun _ => false) f W := ⟨fun _ => h, (fun e => by cases e)⟩
set_option maxHeartbeats 4000000 in
set_option maxRecDepth 100000 in
theorem op32 {T : Nat} {w : World} {L : F.Loc} {rest : List (Nat × Obj)} {per n M Cb Sb Pb Nb : Nat} {W0 : World} (hper : 8 ≤ per ∧ per ≤ 64) (hn : 1 ≤ n ∧ n ≤ 20) (h : FS T w L rest per n M Cb Sb 0 W0)
    (hP : (Pb, .cells #[.pointer (some ⟨Sb, 0, none⟩)] 28) ∈ rest) (hN : (Nb, .cells #[.int .i64 (n : Nat)] 3) ∈ rest) (hM : (M, F.med L.P 1 1) ∈ rest) (hCS : Cb ≠ Sb) (hne : ∀ p ∈ rest, p.1 ≠ Sb) (hnc : ∀ p ∈ rest, p.1 ≠ Cb) :
    Calls Tryz.prog 32 #[.pointer (some ⟨Pb, 0, none⟩), .pointer (some ⟨Nb, 0, none⟩), .pointer (some ⟨Cb, 0, none⟩)] W0 fun e w' => e = .returned (.tuple #[]) ∧ ∃ i, ¬ (1 + i * (n + 1) + n < per) ∧ FS T w L rest per n M Cb Sb i w' := by
  have HF : Hid ((8 ≤ per ∧ per ≤ 64) ∧ (1 ≤ n ∧ n ≤ 20) ∧ (Pb, Obj.cells #[.pointer (some ⟨Sb, 0, none⟩)] 28) ∈ rest ∧ (Nb, Obj.cells #[.int .i64 (n : Nat)] 3) ∈ rest ∧ (M, F.med L.P 1 1) ∈ rest ∧ Cb ≠ Sb ∧ (∀ p ∈ rest, p.1 ≠ Sb) ∧ (∀ p ∈ rest, p.1 ≠ Cb)) := ⟨hper, hn, hP, hN, hM, hCS, hne, hnc⟩
  have H0 : Hid _ := h
  have hn2 : n ≤ 20 := hn.2
  clear h hP hN hM hCS hne hnc hper hn
  go_enter Tryz.func32, Tryz.ntmps32
  go_wp2
  go_loopw [] (fun wr => ∃ i, Hid (FS T w L rest per n M Cb Sb i wr)) (fun wr => 64 - cnt32 Cb wr)
  case atStart => exact ⟨0, H0.out⟩
  case round =>
    obtain ⟨i, HI⟩ := hrel
    clear H0
    have hi : i ≤ 32 := HI.out.small HF.out.2.1.1 HF.out.1.2
    have c1 : wr.cell? ⟨Pb, 0, none⟩ = some (.pointer (some ⟨Sb, 0, none⟩)) := F.cell_of (HI.out.at' (p := (Pb, Obj.cells #[.pointer (some ⟨Sb, 0, none⟩)] 28)) HF.out.2.2.1) 0
    have c2 : wr.cell? ⟨Nb, 0, none⟩ = some (.int .i64 (n : Nat)) := F.cell_of (HI.out.at' (p := (Nb, Obj.cells #[.int .i64 (n : Nat)] 3)) HF.out.2.2.2.1) 0
    by_cases hr : 1 + i * (n + 1) + n < per
    · have hrm := HI.out.room HF.out.1 true (by
        have := HF.out.2.1.1
        exact decide_eq_true ⟨by omega, by omega⟩)
      have HR : Hid _ := hr
      clear hr
      go_wp2_with fail
      go_call hrm as er w1 ⟨rfl, hI1⟩
      have HI1 : Hid (FS T w L rest per n M Cb Sb i w1) := hI1
      clear hrm hI1 c1 c2
      go_wp2_with fail
      refine F.wp_region_pb (fun f => ⟨#[.pointer (some ⟨Pb, 0, none⟩), .pointer (some ⟨Nb, 0, none⟩), .pointer (some ⟨Cb, 0, none⟩), .pointer (some ⟨Sb, 0, none⟩), .int .i64 (n : Nat), .bool true, f 0, f 1, f 2, f 3, u10, u11], []⟩) (V32 Sb n i) (F.Two 3 (FS T w L rest per n M Cb Sb i) (FS2 T w L rest per n M Cb Sb i)) (fun i => [u6, u7, u8, u9].getD i undef) (by kernel_rfl) rfl rfl ?hIq ?hputq ?stepq ?finq
      case hIq => exact F_two_start (HI1.out.below (Below.refl _ _).drew)
      case finq =>
        intro f W hP hV
        have w0 : f 0 = .pointer (some ⟨Sb, 0, none⟩) := hV 0 (by decide)
        have w1 : f 1 = .int .i64 (n : Nat) := hV 1 (by decide)
        have w2 : f 2 = .string (payN ⟨#[103]⟩ n) := hV 2 (by decide)
        have w3 : f 3 = .int .i64 (1 + i * (n + 1) : Nat) := hV 3 (by decide)
        clear hV
        have h2 : FS2 T w L rest per n M Cb Sb i W := hP.b rfl
        clear hP
        generalize f 0 = z0 at *
        subst w0
        generalize f 1 = z1 at *
        subst w1
        generalize f 2 = z2 at *
        subst w2
        generalize f 3 = z3 at *
        subst w3
        have q1 : W.cell? ⟨Cb, 0, none⟩ = some (.int .i64 (i : Nat)) := F.cell_of h2.cnt 0
        have q2 := F.frz_of h2.cnt 0
        have H3 : Hid (FS T w L rest per n M Cb Sb (i + 1) (W.setCell ⟨Cb, 0, none⟩ (.int .i64 ((i : Int) + 1)))) := h2.count HF.out.2.2.2.2.2.2.2 HF.out.2.2.2.2.2.1
        have hc0 : cnt32 Cb wr = i := HI.out.cnt32
        clear h2 HI1
        go_wp2
        go_roundw
        case rel => exact ⟨i + 1, H3.out⟩
        case measure =>
          rw [hc0, H3.out.cnt32]
          omega
      case hputq =>
        repeat (refine ⟨fun f v => rfl, ?_⟩)
        trivial
      case stepq =>
        refine ⟨?_, ?_⟩
        · intro done f W hP hdn hd K hK
          clear hd
          have q : W.cell? ⟨Pb, 0, none⟩ = some (.pointer (some ⟨Sb, 0, none⟩)) := F.cell_of (F.Two.any (R := fun W => W.heap[Pb]? = some (Obj.cells #[.pointer (some ⟨Sb, 0, none⟩)] 28)) (fun W h => h.at' (p := (Pb, Obj.cells #[.pointer (some ⟨Sb, 0, none⟩)] 28)) HF.out.2.2.1) (fun W h => h.at' (p := (Pb, Obj.cells #[.pointer (some ⟨Sb, 0, none⟩)] 28)) HF.out.2.2.1) hP) 0
          go_simp
          exact hK _ _ rfl (hP.pure _ (by decide) _)
        refine ⟨?_, ?_⟩
        · intro done f W hP hdn hd K hK
          clear hd
          have q : W.cell? ⟨Nb, 0, none⟩ = some (.int .i64 (n : Nat)) := F.cell_of (F.Two.any (R := fun W => W.heap[Nb]? = some (Obj.cells #[.int .i64 (n : Nat)] 3)) (fun W h => h.at' (p := (Nb, Obj.cells #[.int .i64 (n : Nat)] 3)) HF.out.2.2.2.1) (fun W h => h.at' (p := (Nb, Obj.cells #[.int .i64 (n : Nat)] 3)) HF.out.2.2.2.1) hP) 0
          go_simp
          exact hK _ _ rfl (hP.pure _ (by decide) _)
        refine ⟨?_, ?_⟩
        · intro done f W hP hdn hd K hK
          have d1 := (hd.1 rfl).2
          have e1 : done 1 = true := (hd.1 rfl).1
          clear hd
          replace d1 : f 1 = .int .i64 (n : Nat) := d1
          generalize f 1 = x1 at *
          subst d1
          clear e1
          have hpy := pay_any ⟨#[103]⟩ n HF.out.2.1.1 (by omega) W
          go_simp
          refine Calls.mono hpy ?_
          rintro er W' ⟨rfl, hb⟩
          exact hK _ _ rfl (hP.below (by decide) (fun h => h.below hb) (fun h => h.below hb) _)
        refine ⟨?_, ?_⟩
        · intro done f W hP hdn hd K hK
          have d0 := (hd.1 rfl).2
          have e0 : done 0 = true := (hd.1 rfl).1
          have d2 := (hd.2.1 rfl).2
          have e2 : done 2 = true := (hd.2.1 rfl).1
          clear hd
          replace d0 : f 0 = .pointer (some ⟨Sb, 0, none⟩) := d0
          replace d2 : f 2 = .string (payN ⟨#[103]⟩ n) := d2
          generalize f 0 = x0 at *
          subst d0
          clear e0
          generalize f 2 = x2 at *
          subst d2
          clear e2
          have hA := hP.a hdn
          have hap := hA.app HF.out.1 HF.out.2.1 HF.out.2.2.2.2.1 HF.out.2.2.2.2.2.1 HF.out.2.2.2.2.2.2.1 HR.out (payN ⟨#[103]⟩ n) (payN_size _ _)
          go_simp
          refine Calls.mono hap ?_
          rintro er W' ⟨rfl, hB⟩
          exact hK _ _ rfl (hP.turn hB _)
        trivial
    · have hrm := HI.out.room HF.out.1 false (by
        exact decide_eq_false (fun hh => hr (by omega)))
      have HR : Hid _ := hr
      clear hr
      go_wp2_with fail
      go_call hrm as er w1 ⟨rfl, hI1⟩
      have HI1 : Hid (FS T w L rest per n M Cb Sb i w1) := hI1
      clear hrm hI1 c1 c2
      go_wp2
      go_returns
      exact ⟨rfl, i, HR.out, HI1.out⟩
end Go.Proofs.YtncfbocbigdhiaaGreat

/- GroupFull as a call: of any numbers it returns true, and nothing that was there has turned. -/
namespace Go.Proofs.YtncfbocbigdhiaaGreat
open Go.RowKit
section
variable {T : Nat} {w : World} {L : F.Loc} {rest : List (Nat × Obj)} {per n M Cb Sb i : Nat} {W W' : World}
theorem FS.guarded (h : FS T w L rest per n M Cb Sb i W) : FS T w L (F.gob W.heap.size rest) per n M Cb Sb i (F.G0 W) := by
  obtain ⟨h0, now, l, h1, h2, h3, h4, h5⟩ := h
  refine ⟨h0, now, l, h1, h2, h3, h4, h5.guarded.forget ?_⟩
  intro p hp
  simp only [F.gob, List.mem_cons] at hp ⊢
  rcases hp with hp | hp | hp | hp | hp
  · exact Or.inr (Or.inr (Or.inl hp))
  · exact Or.inr (Or.inr (Or.inr (Or.inl hp)))
  · exact Or.inl hp
  · exact Or.inr (Or.inl hp)
  · exact Or.inr (Or.inr (Or.inr (Or.inr hp)))
theorem FS.kt {B : Nat} (h : FS T w L (F.gob B rest) per n M Cb Sb i W) (hc : Cb ≠ B ∧ Cb ≠ B + 1) (hs : Sb ≠ B ∧ Sb ≠ B + 1) (hr : ∀ p ∈ rest, p.1 ≠ B ∧ p.1 ≠ B + 1) (k : F.KT B W W') : FS T w L rest per n M Cb Sb i W' := by
  obtain ⟨h0, now, l, h1, h2, h3, h4, h5⟩ := h
  have h6 : Dev T w L (4 + per) (F.gob B ((Cb, .cells #[.int .i64 (i : Nat)] 3) :: (Sb, .cells (Sg.cs ⟨M, 3, 2, 5, 4, per, 1 + i * (n + 1)⟩) 44) :: rest)) now (100 * i) W := h5.forget (by
    intro p hp
    simp only [F.gob, List.mem_cons] at hp ⊢
    rcases hp with hp | hp | hp | hp | hp
    · exact Or.inr (Or.inr (Or.inl hp))
    · exact Or.inr (Or.inr (Or.inr (Or.inl hp)))
    · exact Or.inl hp
    · exact Or.inr (Or.inl hp)
    · exact Or.inr (Or.inr (Or.inr (Or.inr hp))))
  refine ⟨h0, now, l, h1, h2, h3, h4, h6.kt ?_ k⟩
  intro p hp
  rcases List.mem_cons.1 hp with rfl | hp
  · exact hc
  · rcases List.mem_cons.1 hp with rfl | hp
    · exact hs
    · exact hr p hp
theorem FS.lts (h : FS T w L rest per n M Cb Sb i W) : Cb < W.heap.size ∧ Sb < W.heap.size ∧ ∀ p ∈ rest, p.1 < W.heap.size := by
  obtain ⟨h0, now, l, h1, h2, h3, h4, h5⟩ := h
  have := h5.lts
  exact ⟨this (Cb, .cells #[.int .i64 (i : Nat)] 3) (by simp), this (Sb, .cells (Sg.cs ⟨M, 3, 2, 5, 4, per, 1 + i * (n + 1)⟩) 44) (by simp), fun p hp => this p (by simp [hp])⟩
theorem FS.guard {Pb Nb : Nat} (hper : 8 ≤ per ∧ per ≤ 64) (hn : 1 ≤ n ∧ n ≤ 20) (h : FS T w L rest per n M Cb Sb 0 W)
    (hP : (Pb, .cells #[.pointer (some ⟨Sb, 0, none⟩)] 28) ∈ rest) (hN : (Nb, .cells #[.int .i64 (n : Nat)] 3) ∈ rest) (hM : (M, F.med L.P 1 1) ∈ rest) (hCS : Cb ≠ Sb) (hne : ∀ p ∈ rest, p.1 ≠ Sb) (hnc : ∀ p ∈ rest, p.1 ≠ Cb) :
    Calls Tryz.prog 15 #[.func (.func 32) #[] #[.pointer (some ⟨Pb, 0, none⟩), .pointer (some ⟨Nb, 0, none⟩), .pointer (some ⟨Cb, 0, none⟩)]] W fun e w' => e = .returned (.tuple #[.agg #[.int .i64 0, .int .i64 0], .bool false]) ∧ ∃ i, ¬ (1 + i * (n + 1) + n < per) ∧ FS T w L rest per n M Cb Sb i w' := by
  obtain ⟨l1, l2, l3⟩ := h.lts
  have hg := h.guarded
  have ho := op32 (Pb := Pb) (Nb := Nb) hper hn hg (by simp [F.gob, hP]) (by simp [F.gob, hN]) (by simp [F.gob, hM]) hCS (by
    intro p hp
    simp only [F.gob, List.mem_cons] at hp
    rcases hp with rfl | rfl | hp
    · show W.heap.size + 1 ≠ Sb; omega
    · show W.heap.size ≠ Sb; omega
    · exact hne p hp) (by
    intro p hp
    simp only [F.gob, List.mem_cons] at hp
    rcases hp with rfl | rfl | hp
    · show W.heap.size + 1 ≠ Cb; omega
    · show W.heap.size ≠ Cb; omega
    · exact hnc p hp)
  refine (F.guard_ok 32 _ (fun W' => ∃ i, ¬ (1 + i * (n + 1) + n < per) ∧ FS T w L (F.gob W.heap.size rest) per n M Cb Sb i W') W ent32 (ho.mono ?_)).mono ?_
  · rintro e W' ⟨rfl, i, h1, h2⟩
    exact ⟨rfl, h2.at' (p := (W.heap.size, F.bob)) (by simp [F.gob]), h2.at' (p := (W.heap.size + 1, F.iob)) (by simp [F.gob]), i, h1, h2⟩
  · rintro e w' ⟨rfl, W2, ⟨i, h1, h2⟩, hk⟩
    exact ⟨rfl, i, h1, h2.kt ⟨by omega, by omega⟩ ⟨by omega, by omega⟩ (fun p hp => by have := l3 p hp; exact ⟨by omega, by omega⟩) hk⟩
end
theorem Chn.med {now : Nat → ByteArray} {M M2 c j nm b p a a2 : Nat} {l : List (Nat × ByteArray)} {e : Nat} (h : Chn now ⟨M, c, j, nm, b, p, a⟩ l e) : Chn now ⟨M2, c, j, nm, b, p, a2⟩ l e := by
  induction h with
  | nil => exact Chn.nil
  | next h1 h2 ih => exact Chn.next ih ⟨h2.sz, h2.k1, h2.fit, h2.com, h2.pay⟩
theorem full_quo (per n i : Nat) (h1 : 1 + i * (n + 1) ≤ per) (h2 : ¬ (1 + i * (n + 1) + n < per)) : ((per : Int) - 1).tdiv ((n : Int) + 1) = (i : Int) := by
  have e1 : (per : Int) - 1 = ((per - 1 : Nat) : Int) := by omega
  have e2 : (n : Int) + 1 = ((n + 1 : Nat) : Int) := by omega
  rw [e1, e2, ← Int.ofNat_tdiv]
  congr 1
  refine Nat.div_eq_of_lt_le (by omega) ?_
  rw [Nat.succ_mul]; omega
/-- Two cuts: the first waits for what reads its own; the last is a store. -/
structure PhC (v : Value) (X0 X1 : World → Prop) (done : Nat → Bool) (f : Nat → Value) (W : World) : Prop where
  tw : F.Two 7 X0 X1 done f W
  v6 : done 6 = false → f 6 = v
  o6 : done 6 = true → done 0 = true
  o7 : done 7 = true → ∀ j, j < 7 → done j = true
section
variable {v : Value} {X0 X1 : World → Prop} {done : Nat → Bool} {f : Nat → Value} {W W' : World}
theorem PhC.start {f : Nat → Value} (h : X0 W) (hf : f 6 = v) : PhC v X0 X1 (fun _ => false) f W := ⟨F_two_start h, fun _ => hf, (fun e => by cases e), (fun e => by cases e)⟩
theorem PhC.v6' (h : PhC v X0 X1 done f W) (hd : done 0 = false) : f 6 = v := h.v6 (by
  cases e : done 6 with
  | false => rfl
  | true => rw [h.o6 e] at hd; cases hd)
theorem PhC.n7' (h : PhC v X0 X1 done f W) {j : Nat} (hj : j < 7) (hd : done j = false) : done 7 = false := by
  cases e : done 7 with
  | false => rfl
  | true => rw [h.o7 e j hj] at hd; cases hd
theorem upd_le (done : Nat → Bool) (k j : Nat) (h : done j = true) : F.updB done k j = true := by
  unfold F.updB
  split
  · rfl
  · exact h
theorem PhC.pure (h : PhC v X0 X1 done f W) {k : Nat} (u : Value) (hk : k ≠ 6) (hk7 : k ≠ 7) : PhC v X0 X1 (F.updB done k) (F.upd f k u) W := by
  have e6 : F.updB done k 6 = done 6 := if_neg (Ne.symm hk)
  have e7 : F.updB done k 7 = done 7 := if_neg (Ne.symm hk7)
  have f6 : F.upd f k u 6 = f 6 := if_neg (Ne.symm hk)
  exact ⟨h.tw.pure k hk7 u, by rw [e6, f6]; exact h.v6, by rw [e6]; exact fun e => upd_le _ _ _ (h.o6 e), by rw [e7]; exact fun e j hj => upd_le _ _ _ (h.o7 e j hj)⟩
theorem PhC.six (h : PhC v X0 X1 done f W) (h0 : done 0 = true) (u : Value) : PhC v X0 X1 (F.updB done 6) (F.upd f 6 u) W := by
  have e6 : F.updB done 6 6 = true := rfl
  have e7 : F.updB done 6 7 = done 7 := rfl
  exact ⟨h.tw.pure 6 (by decide) u, by rw [e6]; exact (fun e => by cases e), fun _ => h0, by rw [e7]; exact fun e j hj => upd_le _ _ _ (h.o7 e j hj)⟩
theorem PhC.seven (h : PhC v X0 X1 done f W) (ha : ∀ j, j < 7 → done j = true) (hX : X1 W') (u : Value) : PhC v X0 X1 (F.updB done 7) (F.upd f 7 u) W' := by
  have e6 : F.updB done 7 6 = true := ha 6 (by decide)
  exact ⟨h.tw.turn hX u, by rw [e6]; exact (fun e => by cases e), fun _ => ha 0 (by decide), fun _ j hj => upd_le _ _ _ (ha j hj)⟩
end
def V7 (p0 n0 : Int) (per n : Nat) : Nat → Value → Prop
  | 0, v => v = .int .i64 p0
  | 1, v => v = .int .i64 (min p0 64)
  | 2, v => v = .int .i64 (per : Nat)
  | 3, v => v = .int .i64 n0
  | 4, v => v = .int .i64 (min n0 20)
  | 5, v => v = .int .i64 (n : Nat)
  | 6, v => v = .int .i64 (per : Nat)
  | _, _ => True
set_option maxHeartbeats 4000000 in
set_option maxRecDepth 100000 in
theorem gfull_walk (p0 n0 : Int) (w : World) : Calls Tryz.prog 7 #[.int .i64 p0, .int .i64 n0] w fun e w' => e = .returned (.bool true) ∧ Below w.heap.size w w' := by
  have haw := awake11 (w.alloc (.cells #[.int .i64 n0] 3))
  obtain ⟨per, hper⟩ : ∃ m : Nat, max 8 (min p0 64) = (m : Int) := ⟨(max 8 (min p0 64)).toNat, by omega⟩
  obtain ⟨n, hn⟩ : ∃ m : Nat, max 1 (min n0 20) = (m : Int) := ⟨(max 1 (min n0 20)).toNat, by omega⟩
  have HP : Hid (8 ≤ per ∧ per ≤ 64) := ⟨by omega, by omega⟩
  have HN : Hid (1 ≤ n ∧ n ≤ 20) := ⟨by omega, by omega⟩
  have c0 : (w.alloc (.cells #[.int .i64 n0] 3)).heap[w.heap.size]? = some (.cells #[.int .i64 n0] 3) := F.heap_new _ _
  go_enter Tryz.func7, Tryz.ntmps7
  go_wp2_with fail
  go_call haw as e w1 ⟨rfl, hb1⟩
  have hlt0 : w.heap.size < (w.alloc (.cells #[.int .i64 n0] 3)).heap.size := F.getElem?_lt c0
  have c1 : w1.heap[w.heap.size]? = some (.cells #[.int .i64 n0] 3) := (hb1.block _ hlt0).trans c0
  have HB1 : Hid (Below w.heap.size w w1) := ((Below.refl _ _).alloc (Nat.le_refl _) _).trans (hb1.mono (Nat.le_of_lt hlt0))
  clear haw hb1 c0 hlt0
  go_wp2
  refine F.wp_region_pb (fun f => ⟨#[f 6, .int .i64 n0, undef, .pointer (some ⟨w.heap.size, 0, none⟩), .bool false, undef, undef, undef, undef, undef, undef, undef, undef, .bool true, .bool false, f 0, f 1, f 2, f 3, f 4, f 5, undef, undef, undef, undef, undef, undef, undef, undef, undef, undef, undef, undef, undef, undef, undef, undef, undef, undef, undef, undef, undef, undef, undef, undef, undef, undef, undef, undef, undef, undef, undef, undef, undef, undef, undef, undef, undef, undef, undef, undef, undef, undef, undef, undef, undef, undef, undef, undef, undef, undef, undef, undef, undef], []⟩) (V7 p0 n0 per n) (PhC (.int .i64 p0) (fun W => W.heap[w.heap.size]? = some (.cells #[.int .i64 n0] 3) ∧ Below w.heap.size w W) (fun W => W.heap[w.heap.size]? = some (.cells #[.int .i64 (n : Nat)] 3) ∧ Below w.heap.size w W)) (fun i => [undef, undef, undef, undef, undef, undef, .int .i64 p0, undef].getD i undef) (by kernel_rfl) rfl rfl ?hIq ?hputq ?stepq ?finq
  case hIq => exact PhC.start ⟨c1, HB1.out.drew⟩ rfl
  case finq =>
    intro f W hP hV
    have w0 : f 0 = .int .i64 p0 := hV 0 (by decide)
    have w1 : f 1 = .int .i64 (min p0 64) := hV 1 (by decide)
    have w2 : f 2 = .int .i64 (per : Nat) := hV 2 (by decide)
    have w3 : f 3 = .int .i64 n0 := hV 3 (by decide)
    have w4 : f 4 = .int .i64 (min n0 20) := hV 4 (by decide)
    have w5 : f 5 = .int .i64 (n : Nat) := hV 5 (by decide)
    have w6 : f 6 = .int .i64 (per : Nat) := hV 6 (by decide)
    clear hV
    obtain ⟨hB3, hB4⟩ := hP.tw.b rfl
    clear hP
    generalize f 0 = z0 at *
    subst w0
    generalize f 1 = z1 at *
    subst w1
    generalize f 2 = z2 at *
    subst w2
    generalize f 3 = z3 at *
    subst w3
    generalize f 4 = z4 at *
    subst w4
    generalize f 5 = z5 at *
    subst w5
    generalize f 6 = z6 at *
    subst w6
    have HBX : Hid (W.heap[w.heap.size]? = some (.cells #[.int .i64 (n : Nat)] 3) ∧ Below w.heap.size w W) := ⟨hB3, hB4⟩
    clear hB3 hB4 HB1
    clear c1 hper hn
    have hmk := F.made_any w.heap.size w W [(w.heap.size, .cells #[.int .i64 (n : Nat)] 3)] HBX.out.2 HBX.out.2.size (by
      intro p hp
      rw [List.mem_singleton.1 hp]
      exact ⟨HBX.out.1, F.apart_of (by decide), Nat.le_refl _⟩) 1 (by decide) (by decide) (4 + per) (by omega) (by have := HP.out; omega)
    have e4 : (4 : Int) + (per : Int) = ((4 + per : Nat) : Int) := by omega
    obtain ⟨hp8, hp64⟩ := HP.out
    rw [← e4] at hmk
    clear e4
    go_wp2_with fail
    go_call hmk as e w2 ⟨L, M0, rfl, o1⟩
    have hd1 := dev0 o1
    have hof := dev_of hd1 per
    clear hmk o1 hd1
    go_wp2_with fail
    go_call hof as e w3 ⟨S, M, rfl, hd2, hSM, hne2⟩
    have hl2 := hd2.lts
    have lS : S < w3.heap.size := hl2 (S, .cells (sg0 M per).cs 44) (by simp)
    have lM : M < w3.heap.size := hl2 (M, F.med L.P 1 1) (by simp)
    have lM0 : M0 < w3.heap.size := hl2 (M0, F.med L.P 1 1) (by simp)
    have lN : w.heap.size < w3.heap.size := hl2 (w.heap.size, .cells #[.int .i64 (n : Nat)] 3) (by simp)
    have nM0 : M0 ≠ S := hne2 (M0, F.med L.P 1 1) (by simp)
    have nN : w.heap.size ≠ S := hne2 (w.heap.size, .cells #[.int .i64 (n : Nat)] 3) (by simp)
    have hd3 := (hd2.alloc (.cells #[.pointer (some ⟨S, 0, none⟩)] 28) (F.apart_of (by decide))).alloc (.cells #[.int .i64 0] 3) (F.apart_of (by decide))
    have e5 : (w3.alloc (.cells #[.pointer (some ⟨S, 0, none⟩)] 28)).heap.size = w3.heap.size + 1 := by simp
    rw [e5] at hd3
    have hfs : FS w.heap.size w L [(w3.heap.size, .cells #[.pointer (some ⟨S, 0, none⟩)] 28), (M, F.med L.P 1 1), (M0, F.med L.P 1 1), (w.heap.size, .cells #[.int .i64 (n : Nat)] 3)] per n M (w3.heap.size + 1) S 0 ((w3.alloc (.cells #[.pointer (some ⟨S, 0, none⟩)] 28)).alloc (.cells #[.int .i64 0] 3)) := by
      have ez : 1 + 0 * (n + 1) = 1 := by omega
      refine ⟨by omega, fun _ => F.pad ⟨#[]⟩, [], by rw [ez]; exact Chn.nil, rfl, fun j _ => ksec0, fun j _ => rfl, ?_⟩
      rw [ez]
      refine hd3.forget ?_
      intro p hp
      simp only [List.mem_cons, List.not_mem_nil, or_false] at hp ⊢
      rcases hp with hp | hp | hp | hp | hp | hp
      · exact Or.inl hp
      · exact Or.inr (Or.inr (Or.inl hp))
      · exact Or.inr (Or.inl hp)
      · exact Or.inr (Or.inr (Or.inr (Or.inl hp)))
      · exact Or.inr (Or.inr (Or.inr (Or.inr (Or.inl hp))))
      · exact Or.inr (Or.inr (Or.inr (Or.inr (Or.inr hp))))
    have hgd := FS.guard (Pb := w3.heap.size) (Nb := w.heap.size) HP.out HN.out hfs (by simp) (by simp) (by simp) (by omega) (by
      intro p hp
      simp only [List.mem_cons, List.not_mem_nil, or_false] at hp
      rcases hp with rfl | rfl | rfl | rfl
      · show w3.heap.size ≠ S; omega
      · exact Ne.symm hSM
      · exact nM0
      · exact nN) (by
      intro p hp
      simp only [List.mem_cons, List.not_mem_nil, or_false] at hp
      rcases hp with rfl | rfl | rfl | rfl
      · show w3.heap.size ≠ w3.heap.size + 1; omega
      · show M ≠ w3.heap.size + 1; omega
      · show M0 ≠ w3.heap.size + 1; omega
      · show w.heap.size ≠ w3.heap.size + 1; omega)
    have hmf : ∀ (fn : Fn) (first cap : Array Value) (w : World), (Instr.makeFunc fn first cap).run Tryz.prog w = .ok (.func fn first cap) w := fun _ _ _ _ => rfl
    clear hof hd2 hl2 hne2 hd3 hfs hSM lM lM0 nM0 nN
    go_wp2_with fail
    go_call hgd as e w5 ⟨rfl, i, hfull, hF⟩
    obtain ⟨hle, now, l, hch, hlen, hks, hfr, hd5⟩ := hF
    have hd6 := hd5.alloc (.cells #[.int .i64 0, .int .i64 0] 37) (F.apart_of (by decide))
    have hof2 := dev_of hd6 per
    have HIQ : Hid (((per : Int) - 1).tdiv ((n : Int) + 1) = (i : Int)) := full_quo per n i hle hfull
    have HLE : Hid (1 + i * (n + 1) ≤ per) := hle
    have hi32 : i ≤ 32 := by
      have h1 : i * 2 ≤ i * (n + 1) := Nat.mul_le_mul_left i (by have := HN.out; omega)
      omega
    clear hgd hd5 hd6 e5 lS lN
    go_wp2_with fail
    go_call hof2 as e w6 ⟨S2, M2, rfl, hd7, hSM2, hne7⟩
    have hsc := scanned_all (Sb := S2) (sg0 M2 per) hd7 (by simp [sg0]) (by
      intro p hp cc fz e
      simp only [List.mem_cons, List.not_mem_nil, or_false] at hp
      rcases hp with rfl | rfl | rfl | rfl | rfl | rfl | rfl | rfl <;> (injection e with _ e _; exact absurd e (by decide))) (by
      intro p hp
      rcases List.mem_cons.1 hp with rfl | hp
      · exact Ne.symm hSM2
      · exact hne7 p hp) ⟨(by decide : (3 : Nat) < _), (by decide : (2 : Nat) < _), (by decide : (5 : Nat) < _)⟩ ⟨(by decide : (4 : Nat) ≤ _), (by show 1 ≤ per; omega), hp64⟩ (Nat.le_refl _) (by omega) (by omega) hks (hch.med) (fun _ => by
      have := hfr (4 + (1 + i * (n + 1))) (Nat.le_refl _)
      show (now (4 + (1 + i * (n + 1))))[0]? ≠ some 67
      rw [this, pad0]; decide)
    clear hof2 hd7 hSM2 hne7 hks hch hfr hle hfull
    go_wp2_with fail
    go_call hsc as e w8 ⟨v, ol, rfl, htx, -, hd8⟩
    obtain ⟨a, ha⟩ : ∃ a, a = 1 + i * (n + 1) := ⟨_, rfl⟩
    rw [← ha] at hd8
    have hal : a ≤ per := by rw [ha]; exact HLE.out
    clear ha
    have q1 : ∀ k, (w8.drewN k).cell? ⟨w3.heap.size + 1, 0, none⟩ = some (.int .i64 (i : Nat)) := fun k => F.cell_of (w := w8.drewN k) (hd8.at' (p := (w3.heap.size + 1, .cells #[.int .i64 (i : Nat)] 3)) (by simp)) 0
    have q2 : ∀ k, (w8.drewN k).cell? ⟨w.heap.size, 0, none⟩ = some (.int .i64 (n : Nat)) := fun k => F.cell_of (w := w8.drewN k) (hd8.at' (p := (w.heap.size, .cells #[.int .i64 (n : Nat)] 3)) (by simp)) 0
    have q3 : ∀ k, (w8.drewN k).cell? ⟨w3.heap.size, 0, none⟩ = some (.pointer (some ⟨S, 0, none⟩)) := fun k => F.cell_of (w := w8.drewN k) (hd8.at' (p := (w3.heap.size, .cells #[.pointer (some ⟨S, 0, none⟩)] 28)) (by simp)) 0
    have q4 : ∀ k, (w8.drewN k).cell? ⟨S, 6, none⟩ = some (.int .i64 (a : Nat)) := fun k => F.cell_of (w := w8.drewN k) (hd8.at' (p := (S, .cells (Sg.cs ⟨M, 3, 2, 5, 4, per, a⟩) 44)) (by simp)) 6
    have HB8 : Hid (Below w.heap.size w w8) := hd8.bel
    obtain ⟨ao, cp, hv⟩ : ∃ ao cp, v = .slice ao i cp := by
      have e : (l.map Prod.snd).length = i := by rw [List.length_map]; exact hlen
      rcases htx with ⟨rfl, h2, _⟩ | ⟨g, cap, cur, rfl, _⟩
      · rw [h2] at e
        have : i = 0 := e.symm
        rw [this]
        exact ⟨_, _, rfl⟩
      · rw [e]; exact ⟨_, _, rfl⟩
    have hq := HIQ.out
    obtain ⟨hn1, hn20⟩ := HN.out
    clear hsc hd8 htx hlen
    subst hv
    have hal2 : (a : Int) ≤ (per : Int) := by omega
    have d1 : decide ((a : Int) ≤ (per : Int)) = true := decide_eq_true hal2
    go_wp2_with fail
    go_quiet (fail)
    have hb := HB8.out
    go_wp2
    go_returns
    exact ⟨rfl, ⟨hb.os, hb.tape, hb.output, hb.size, hb.block⟩⟩
  case hputq =>
    repeat (refine ⟨fun f v => rfl, ?_⟩)
    trivial
  case stepq =>
    refine ⟨?_, ?_⟩
    · intro done f W hP hdn hd K hK
      clear hd
      have q := hP.v6' hdn
      generalize f 6 = y6 at *
      subst q
      go_simp
      exact hK _ _ rfl (hP.pure _ (by decide) (by decide))
    refine ⟨?_, ?_⟩
    · intro done f W hP hdn hd K hK
      have d0 := (hd.1 rfl).2
      have e0 : done 0 = true := (hd.1 rfl).1
      clear hd
      replace d0 : f 0 = .int .i64 p0 := d0
      generalize f 0 = x0 at *
      subst d0
      clear e0
      go_simp
      exact hK _ _ rfl (hP.pure _ (by decide) (by decide))
    refine ⟨?_, ?_⟩
    · intro done f W hP hdn hd K hK
      have d1 := (hd.1 rfl).2
      have e1 : done 1 = true := (hd.1 rfl).1
      clear hd
      replace d1 : f 1 = .int .i64 (min p0 64) := d1
      generalize f 1 = x1 at *
      subst d1
      clear e1
      go_simp
      exact hK _ _ rfl (hP.pure _ (by decide) (by decide))
    refine ⟨?_, ?_⟩
    · intro done f W hP hdn hd K hK
      clear hd
      have n7 : done 7 = false := hP.n7' (by decide) hdn
      have q : W.cell? ⟨w.heap.size, 0, none⟩ = some (.int .i64 n0) := F.cell_of (hP.tw.a n7).1 0
      go_simp
      exact hK _ _ rfl (hP.pure _ (by decide) (by decide))
    refine ⟨?_, ?_⟩
    · intro done f W hP hdn hd K hK
      have d3 := (hd.1 rfl).2
      have e3 : done 3 = true := (hd.1 rfl).1
      clear hd
      replace d3 : f 3 = .int .i64 n0 := d3
      generalize f 3 = x3 at *
      subst d3
      clear e3
      go_simp
      exact hK _ _ rfl (hP.pure _ (by decide) (by decide))
    refine ⟨?_, ?_⟩
    · intro done f W hP hdn hd K hK
      have d4 := (hd.1 rfl).2
      have e4 : done 4 = true := (hd.1 rfl).1
      clear hd
      replace d4 : f 4 = .int .i64 (min n0 20) := d4
      generalize f 4 = x4 at *
      subst d4
      clear e4
      go_simp
      exact hK _ _ rfl (hP.pure _ (by decide) (by decide))
    refine ⟨?_, ?_⟩
    · intro done f W hP hdn hd K hK
      have d2 := (hd.1 rfl).2
      have e2 : done 2 = true := (hd.1 rfl).1
      have e0 : done 0 = true := (hd.2.1 rfl).1
      clear hd
      replace d2 : f 2 = .int .i64 (per : Nat) := d2
      generalize f 2 = x2 at *
      subst d2
      clear e2
      go_simp
      exact hK _ _ rfl (hP.six e0 _)
    refine ⟨?_, ?_⟩
    · intro done f W hP hdn hd K hK
      have d5 := (hd.1 rfl).2
      have e5 : done 5 = true := (hd.1 rfl).1
      have e6 : done 6 = true := (hd.2.1 rfl).1
      have e0 : done 0 = true := (hd.2.2.1 rfl).1
      have e1 : done 1 = true := (hd.2.2.2.1 rfl).1
      have e2 : done 2 = true := (hd.2.2.2.2.1 rfl).1
      have e3 : done 3 = true := (hd.2.2.2.2.2.1 rfl).1
      have e4 : done 4 = true := (hd.2.2.2.2.2.2.1 rfl).1
      clear hd
      replace d5 : f 5 = .int .i64 (n : Nat) := d5
      generalize f 5 = x5 at *
      subst d5
      have hA := hP.tw.a hdn
      have q : W.cell? ⟨w.heap.size, 0, none⟩ = some (.int .i64 n0) := F.cell_of hA.1 0
      have q2 := F.frz_of hA.1 0
      have hX : (W.setCell ⟨w.heap.size, 0, none⟩ (.int .i64 (n : Nat))).heap[w.heap.size]? = some (.cells #[.int .i64 (n : Nat)] 3) ∧ Below w.heap.size w (W.setCell ⟨w.heap.size, 0, none⟩ (.int .i64 (n : Nat))) := ⟨by rw [F.block_set hA.1]; rfl, hA.2.setCell (Nat.le_refl _) _⟩
      have HX : Hid _ := hX
      have hall : ∀ j, j < 7 → done j = true := fun j hj => match j, hj with
        | 0, _ => e0 | 1, _ => e1 | 2, _ => e2 | 3, _ => e3 | 4, _ => e4 | 5, _ => e5 | 6, _ => e6
      clear hX hA
      go_simp
      exact hK (.bool false) _ trivial (hP.seven hall HX.out _)
    trivial
end Go.Proofs.YtncfbocbigdhiaaGreat
