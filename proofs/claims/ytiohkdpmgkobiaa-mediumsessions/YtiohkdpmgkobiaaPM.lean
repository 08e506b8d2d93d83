/- What a device writes into any sector, as a call: one that isn't loose yet comes among those that are; one that is stays there. -/
import Derived.Test.YtiohkdpmgkobiaaPI
import Derived.Test.YtiohkdpmgkobiaaP3
namespace Go.Proofs.Ytiohkdpmgkobiaa
open Go.RowKit
theorem pinsert_any (b0 : Nat) (w : World) (v : Value) (n p : Nat) (xs c : List Value) (hown : w.ownsRow b0 149 65 v n xs) (hp : p ≤ n) (hn : n ≤ 5000) (vb : Nat) (hc : c.length = 65) (h1x : ∀ u ∈ xs, u.oneCell' = true) (h1 : ∀ u ∈ c, u.oneCell' = true)
    (hvb : w.heap[vb]? = some (.cells c.toArray 149)) (hne : v.ownBlock ≠ some vb) (hb : b0 ≤ w.heap.size) :
    Calls Try.prog 109 #[v, .int .i64 (p : Nat), .slice (some ⟨vb, 0, none⟩) 1 1] w fun e w' => ∃ v', e = .returned v' ∧ w'.ownsRow b0 149 65 v' (n + 1) (xs.take (p * 65) ++ c ++ xs.drop (p * 65)) ∧ w.grownBy w' v.ownBlock := by
  rcases Nat.eq_or_lt_of_le hp with rfl | hlt
  · have e : xs.take (p * 65) ++ c ++ xs.drop (p * 65) = xs ++ c := by
      rw [List.take_of_length_le (by rw [hown.1]; exact Nat.le_refl _), List.drop_eq_nil_of_le (by rw [hown.1]; exact Nat.le_refl _), List.append_nil]
    rw [e]
    exact pinsert_end b0 w v p xs c hown hn vb hc h1 (fun j u hj => by rw [cell_of hvb, Nat.zero_add]; simpa using hj) hb
  · rcases hown.2 with ⟨_, h0⟩ | ⟨g, cap, cur, rfl, hbg, hg, hnc, hm, hsz, htk⟩
    · omega
    · rcases Nat.eq_or_lt_of_le hnc with rfl | hr
      · exact pbins_grow b0 w g n n p vb cur xs c hb hg hsz htk hlt hn rfl hc h1x h1 hvb
      · exact pbins_room b0 w g cap n p vb cur xs c hbg hg hm hsz htk hlt hr hc h1x h1 hvb (fun e => hne (by rw [e]; rfl))
def insL (st : St) (p i : Nat) : List Value := st.loose.take (p * 65) ++ ent st i ++ st.loose.drop (p * 65)
def lsdM (st : St) (p i : Nat) : St := { st with ln := st.ln + 1, loose := insL st p i }
def wroteF (st : St) (i : Nat) (s : ByteArray) : St := { st with secs := setSec st.secs i s }
def wroteM (st : St) (p i : Nat) (s : ByteArray) : St := { lsdM st p i with secs := setSec st.secs i s }
theorem ent_heap {st : St} {i : Nat} {w W : World} (h : Sm (w.alloc (.cells (ent st i).toArray 149)) W) : W.heap[w.heap.size]? = some (.cells (ent st i).toArray 149) := by rw [h.heap]; exact heap_new _ _
theorem own_fresh {b0 : Nat} {w0 : World} {L : Loc} {st : St} {lv : Value} {oth : List (Nat × Obj)} {w : World} (h : One b0 w0 L st lv oth w) : lv.ownBlock ≠ some w.heap.size := fun e => by have := (h.own.lt _ e).2; omega
section
variable {b0 : Nat} {w0 : World} {L : Loc} {st : St} {lv : Value} {oth : List (Nat × Obj)} {w : World} {p i : Nat}
structure WPhM (b0 : Nat) (w0 : World) (L : Loc) (st : St) (lv : Value) (oth : List (Nat × Obj)) (p i : Nat) (w : World) (done : Nat → Bool) (f : Nat → Value) (W : World) : Prop where
  c3 : W.cell? ⟨L.D, 3, none⟩ = some (.slice (some ⟨L.S, 0, none⟩) st.n st.n)
  cS : W.heap[L.S]? = some (.cells st.secs 147)
  c4 : done 19 = false → W.cell? ⟨L.D, 4, none⟩ = some lv ∧ W.frozen? ⟨L.D, 4, none⟩ = false
  o4 : done 4 = false → done 16 = false
  o16 : done 16 = false → done 19 = false
  o15 : done 15 = false → done 16 = false
  a : done 15 = false → Sm w W
  b : done 15 = true → done 16 = false → Sm (w.alloc (.cells (ent st i).toArray 149)) W
  c : done 16 = true → done 19 = false → W.ownsRow b0 149 65 (f 16) (st.ln + 1) (insL st p i) ∧ KO L lv w W ∧ W.heap[L.P]? = w.heap[L.P]? ∧ W.heap[L.D]? = w.heap[L.D]?
  d : done 19 = true → ∃ v', One b0 w0 L (lsdM st p i) v' oth W
theorem WPhM.start {f : Nat → Value} (h : One b0 w0 L st lv oth w) : WPhM b0 w0 L st lv oth p i w (fun _ => false) f w.drew :=
  ⟨h.dc.2.2.2.1, h.sec, fun _ => ⟨h.dc.2.2.2.2.1, h.df 4⟩, fun _ => rfl, fun _ => rfl, fun _ => rfl, fun _ => ⟨rfl, rfl, rfl, rfl⟩, (fun e => by cases e), (fun e => by cases e), (fun e => by cases e)⟩
variable {done : Nat → Bool} {f : Nat → Value} {W : World}
theorem WPhM.pure (h : WPhM b0 w0 L st lv oth p i w done f W) (k : Nat) (hk : k ≠ 4 ∧ k ≠ 15 ∧ k ≠ 16 ∧ k ≠ 19) (v : Value) : WPhM b0 w0 L st lv oth p i w (updB done k) (upd f k v) W := by
  have a4 : updB done k 4 = done 4 := if_neg (Ne.symm hk.1)
  have a15 : updB done k 15 = done 15 := if_neg (Ne.symm hk.2.1)
  have a16 : updB done k 16 = done 16 := if_neg (Ne.symm hk.2.2.1)
  have a19 : updB done k 19 = done 19 := if_neg (Ne.symm hk.2.2.2)
  have f16 : upd f k v 16 = f 16 := if_neg (Ne.symm hk.2.2.1)
  exact ⟨h.c3, h.cS, by rw [a19]; exact h.c4, by rw [a4, a16]; exact h.o4, by rw [a16, a19]; exact h.o16, by rw [a15, a16]; exact h.o15, by rw [a15]; exact h.a, by rw [a15, a16]; exact h.b, by rw [a16, a19, f16]; exact h.c, by rw [a19]; exact h.d⟩
theorem WPhM.pure4 (h : WPhM b0 w0 L st lv oth p i w done f W) (v : Value) : WPhM b0 w0 L st lv oth p i w (updB done 4) (upd f 4 v) W := by
  have a4 : updB done 4 4 = true := if_pos rfl
  have a15 : updB done 4 15 = done 15 := if_neg (by decide)
  have a16 : updB done 4 16 = done 16 := if_neg (by decide)
  have a19 : updB done 4 19 = done 19 := if_neg (by decide)
  have f16 : upd f 4 v 16 = f 16 := if_neg (by decide)
  exact ⟨h.c3, h.cS, by rw [a19]; exact h.c4, by rw [a4]; exact (fun e => by cases e), by rw [a16, a19]; exact h.o16, by rw [a15, a16]; exact h.o15, by rw [a15]; exact h.a, by rw [a15, a16]; exact h.b, by rw [a16, a19, f16]; exact h.c, by rw [a19]; exact h.d⟩
theorem WPhM.laid (h : WPhM b0 w0 L st lv oth p i w done f W) (h15 : done 15 = false) (v : Value) : WPhM b0 w0 L st lv oth p i w (updB done 15) (upd f 15 v) (W.alloc (.cells (ent st i).toArray 149)) := by
  have a4 : updB done 15 4 = done 4 := if_neg (by decide)
  have a15 : updB done 15 15 = true := if_pos rfl
  have a16 : updB done 15 16 = done 16 := if_neg (by decide)
  have a19 : updB done 15 19 = done 19 := if_neg (by decide)
  have h16 := h.o15 h15
  have hsm := h.a h15
  have hD : L.D < W.heap.size := World.block_lt_of_cell? W _ h.c3
  refine ⟨?_, ?_, ?_, by rw [a4, a16]; exact h.o4, by rw [a16, a19]; exact h.o16, by rw [a15]; exact (fun e => by cases e), by rw [a15]; exact (fun e => by cases e), ?_, by rw [a16, h16]; exact (fun e => by cases e), by rw [a19, h.o16 h16]; exact (fun e => by cases e)⟩
  · rw [World.cell?_alloc_past _ _ _ hD]; exact h.c3
  · rw [Below.heap_alloc _ _ _ (getElem?_lt h.cS)]; exact h.cS
  · rw [a19]
    intro e
    rw [World.cell?_alloc_past _ _ _ hD, World.frozen?_alloc_past _ _ _ hD]
    exact h.c4 e
  · intro _ _
    exact ⟨by show W.heap.push _ = w.heap.push _; rw [hsm.heap], hsm.os, hsm.tape, hsm.output⟩
theorem WPhM.grown {W' : World} {v' : Value} (h : WPhM b0 w0 L st lv oth p i w done f W) (h0 : One b0 w0 L st lv oth w) (hsm : Sm (w.alloc (.cells (ent st i).toArray 149)) W) (h16 : done 16 = false) (h15 : done 15 = true) (h4 : done 4 = true)
    (ho : W'.ownsRow b0 149 65 v' (st.ln + 1) (insL st p i)) (hg : W.grownBy W' lv.ownBlock) : WPhM b0 w0 L st lv oth p i w (updB done 16) (upd f 16 v') W' := by
  have a4 : updB done 16 4 = done 4 := if_neg (by decide)
  have a15 : updB done 16 15 = done 15 := if_neg (by decide)
  have a16 : updB done 16 16 = true := if_pos rfl
  have a19 : updB done 16 19 = done 19 := if_neg (by decide)
  have f16 : upd f 16 v' 16 = v' := if_pos rfl
  have h1 := h0.ofBelow hsm.below
  have kD : W'.heap[L.D]? = W.heap[L.D]? := hg.block _ (getElem?_lt h1.dev) (fun e => h1.lne h1.dev (apart_of (by decide)) e.symm)
  have kS : W'.heap[L.S]? = W.heap[L.S]? := hg.block _ (getElem?_lt h1.sec) (fun e => h1.lne h1.sec (apart_of (by decide)) e.symm)
  have kP : W'.heap[L.P]? = W.heap[L.P]? := hg.block _ (getElem?_lt h1.pool) (fun e => h1.lne h1.pool (apart_of (by decide)) e.symm)
  refine ⟨(World.cell?_of_block kD).trans h.c3, kS.trans h.cS, ?_, by rw [a4, h4]; exact (fun e => by cases e), by rw [a16]; exact (fun e => by cases e), by rw [a15, h15]; exact (fun e => by cases e), by rw [a15, h15]; exact (fun e => by cases e), by rw [a16]; exact (fun _ e => by cases e), ?_, by rw [a19, h.o16 h16]; exact (fun e => by cases e)⟩
  · rw [a19]
    intro e
    exact ⟨(World.cell?_of_block kD).trans (h.c4 e).1, (World.frozen?_of_block kD).trans (h.c4 e).2⟩
  · intro _ _
    rw [f16]
    have hb := hsm.below
    refine ⟨ho, ⟨hg.os.trans hb.os, hg.tape.trans hb.tape, hg.output.trans hb.output, Nat.le_trans hb.size hg.size, fun k hk _ _ _ hl => ?_⟩, ?_, ?_⟩
    · rw [hg.block k (Nat.lt_of_lt_of_le hk hb.size) (fun e => hl e.symm)]; exact hb.block k hk
    · rw [kP, h1.pool, h0.pool]
    · rw [kD, h1.dev, h0.dev]
theorem WPhM.stored (h : WPhM b0 w0 L st lv oth p i w done f W) (h0 : One b0 w0 L st lv oth w) (hm : W.ownsRow b0 149 65 (f 16) (st.ln + 1) (insL st p i) ∧ KO L lv w W ∧ W.heap[L.P]? = w.heap[L.P]? ∧ W.heap[L.D]? = w.heap[L.D]?) (h16 : done 16 = true) {v16 : Value} (hv16 : f 16 = v16) (v : Value) :
    WPhM b0 w0 L st lv oth p i w (updB done 19) (upd f 19 v) (W.setCell ⟨L.D, 4, none⟩ v16) := by
  subst hv16
  have a4 : updB done 19 4 = done 4 := if_neg (by decide)
  have a15 : updB done 19 15 = done 15 := if_neg (by decide)
  have a16 : updB done 19 16 = done 16 := if_neg (by decide)
  have a19 : updB done 19 19 = true := if_pos rfl
  have h15 : done 15 = true := by
    cases hq : done 15 with
    | true => rfl
    | false => rw [h.o15 hq] at h16; cases h16
  have h4 : done 4 = true := by
    cases hq : done 4 with
    | true => rfl
    | false => rw [h.o4 hq] at h16; cases h16
  obtain ⟨m1, m2, m3, m4⟩ := hm
  obtain ⟨t1, t2, t3⟩ := h0.tne
  have hdv : W.heap[L.D]? = some (.cells #[.int .i64 st.serial, .int .i64 st.session, .bool st.there, .slice (some ⟨L.S, 0, none⟩) st.n st.n, lv, .bool st.aw, .int .i64 st.al, .bool st.ad] 102) := m4.trans h0.dev
  have hds : (W.setCell ⟨L.D, 4, none⟩ (f 16)).heap[L.D]? = some (.cells #[.int .i64 st.serial, .int .i64 st.session, .bool st.there, .slice (some ⟨L.S, 0, none⟩) st.n st.n, f 16, .bool st.aw, .int .i64 st.al, .bool st.ad] 102) := by rw [block_set hdv]; rfl
  refine ⟨cell_of hds 3, ?_, by rw [a19]; exact (fun e => by cases e), by rw [a4, h4]; exact (fun e => by cases e), by rw [a16, h16]; exact (fun e => by cases e), by rw [a15, h15]; exact (fun e => by cases e), by rw [a15, h15]; exact (fun e => by cases e), by rw [a16, h16]; exact (fun _ e => by cases e), by rw [a19]; exact (fun _ e => by cases e), ?_⟩
  · rw [Below.heap_setCell _ _ _ _ (by exact Ne.symm t2)]; exact h.cS
  · intro _
    refine ⟨f 16, h0.upd (m2.trans (KO.set (Or.inr (Or.inl rfl)) _)) ?_ hds ?_ ?_⟩
    · rw [Below.heap_setCell _ _ _ _ (by exact Ne.symm t1), m3]; exact h0.pool
    · rw [Below.heap_setCell _ _ _ _ (by exact Ne.symm t2)]; exact h.cS
    · refine ⟨m1.1, ?_⟩
      rcases m1.2 with h1 | ⟨g, cap, cur, e, h2, h3, h4⟩
      · exact Or.inl h1
      · refine Or.inr ⟨g, cap, cur, e, h2, ?_, h4⟩
        rw [Below.heap_setCell _ _ _ _ (by show g ≠ L.D; intro e2; rw [← e2, h3] at hdv; injection hdv with hdv; injection hdv with _ t _; exact absurd t (by decide))]
        exact h3
def WVM (L : Loc) (st : St) (lv : Value) (p i : Nat) (w : World) : Nat → Value → Prop
  | 0, v => v = .pointer (some ⟨L.D, 0, none⟩)
  | 1, v => v = .pointer (some ⟨L.D, 0, none⟩)
  | 2, v => v = .pointer (some ⟨L.D, 0, none⟩)
  | 3, v => v = .pointer (some ⟨L.D, 4, none⟩)
  | 4, v => v = lv
  | 5, v => v = .int .i64 (p : Nat)
  | 6, v => v = .int .i64 (i : Nat)
  | 7, v => v = .pointer (some ⟨L.D, 0, none⟩)
  | 8, v => v = .pointer (some ⟨L.D, 0, none⟩)
  | 9, v => v = .pointer (some ⟨L.D, 3, none⟩)
  | 10, v => v = .slice (some ⟨L.S, 0, none⟩) st.n st.n
  | 11, v => v = .int .i64 (i : Nat)
  | 12, v => v = .pointer (some ⟨L.S, i * 64, none⟩)
  | 13, v => v = .agg (secl st i).toArray
  | 14, v => v = .agg (ent st i).toArray
  | 15, v => v = .slice (some ⟨w.heap.size, 0, none⟩) 1 1
  | 17, v => v = .pointer (some ⟨L.D, 0, none⟩)
  | 18, v => v = .pointer (some ⟨L.D, 4, none⟩)
  | _, _ => True
set_option maxHeartbeats 1000000 in
set_option maxRecDepth 100000 in
theorem One.dwriteM (h0 : One b0 w0 L st lv oth w) (i : Nat) (hi : i < st.n) (hs8 : SecOk st) (hln : st.ln ≤ 5000) (hp : p ≤ st.ln) (h1x : ∀ u ∈ st.loose, u.oneCell' = true) (hnb : st.n ≤ 9223372036854775807) (s : ByteArray) (hs : s.size = 64) (hse : Calls Try.prog 107 #[lv, .int .i64 (i : Nat), .func (.func 108) #[] #[]] w fun e w' => e = .returned (.tuple #[.int .i64 (p : Nat), .bool false]) ∧ Below w.heap.size w w') :
    Calls Try.prog 70 #[.pointer (some ⟨L.D, 0, none⟩), .int .i64 (i : Nat), .string s] w fun e w' => e = .returned (.tuple #[]) ∧ ∃ v', One b0 w0 L (wroteM st p i s) v' oth w' := by
  have d4 := h0.dc.2.2.2.2.1
  have hsl := sec_length hs8 hi
  have hel : (ent st i).length = 65 := by unfold ent; rw [List.length_cons, hsl]
  go_enter Try.func70, Try.ntmps70
  go_wp2_with fail
  go_call hse as e w1 ⟨rfl, hb⟩
  have h := h0.ofBelow hb
  clear hse hb h0 d4
  go_wp2_with fail
  refine wp_region_ph (fun f => ⟨#[.pointer (some ⟨L.D, 0, none⟩), .int .i64 (i : Nat), .string s, undef, undef, undef, .int .i64 (p : Nat), .bool false, .tuple #[.int .i64 (p : Nat), .bool false], .pointer (some ⟨L.D, 0, none⟩), .pointer (some ⟨L.D, 0, none⟩), .pointer (some ⟨L.D, 4, none⟩), lv, .int .i64 (i : Nat), .tuple #[.int .i64 (p : Nat), .bool false], .int .i64 (p : Nat), .bool false, .bool false, .bool true, f 0, f 1, f 2, f 3, f 4, f 5, f 6, f 7, f 8, f 9, f 10, f 11, f 12, f 13, f 14, f 15, f 16, f 17, f 18, undef, undef, undef, undef, undef, undef, undef, undef, undef], []⟩) (WVM L st lv p i w1) (WPhM b0 w0 L st lv oth p i w1) (fun _ => undef) (by kernel_rfl) rfl rfl ?hI ?hput ?step ?fin
  case hI => exact WPhM.start h
  case fin =>
    intro f W hP hV
    obtain ⟨v', h2⟩ := hP.d rfl
    have hfit : i * 64 + s.size ≤ st.secs.size := by
      rw [hs8.size, hs]
      have : (i + 1) * 64 ≤ st.n * 64 := Nat.mul_le_mul_right _ hi
      omega
    have hcp := Lib.run_copy_row_string (P := Try.prog) W 75 9 3 5 L.S (i * 64) 64 64 s st.secs 147 Try.underlying75 size5 h2.sec (by omega) hfit
    have HF : Hid (One b0 w0 L (wroteM st p i s) v' oth (W.setRow L.S (setSec st.secs i s))) := h2.setS (setSec st.secs i s)
    have c3 := h2.dc.2.2.2.1
    have hns : st.n ≤ 9223372036854775807 := hnb
    clear hP hV h2
    rw [hs] at hcp
    change _ = Result.ok _ (W.setRow L.S (setSec st.secs i s)) at hcp
    generalize setSec st.secs i s = SS at *
    go_wp2
    go_returns
    exact ⟨rfl, v', HF.out⟩
  case hput =>
    repeat (refine ⟨fun f v => rfl, ?_⟩)
    trivial
  case step =>
    refine ⟨?_, ?_⟩
    · intro done f W hP hdn hd K hK
      clear hd
      go_simp
      exact hK _ _ rfl (hP.pure _ (by decide) _)
    refine ⟨?_, ?_⟩
    · intro done f W hP hdn hd K hK
      clear hd
      go_simp
      exact hK _ _ rfl (hP.pure _ (by decide) _)
    refine ⟨?_, ?_⟩
    · intro done f W hP hdn hd K hK
      have d1 := (hd.1 rfl).2
      have e1 := (hd.1 rfl).1
      clear hd
      replace d1 : f 1 = .pointer (some ⟨L.D, 0, none⟩) := d1
      generalize f 1 = x1 at *
      subst d1
      clear e1
      go_simp
      exact hK _ _ rfl (hP.pure _ (by decide) _)
    refine ⟨?_, ?_⟩
    · intro done f W hP hdn hd K hK
      have d2 := (hd.1 rfl).2
      have e2 := (hd.1 rfl).1
      clear hd
      replace d2 : f 2 = .pointer (some ⟨L.D, 0, none⟩) := d2
      generalize f 2 = x2 at *
      subst d2
      clear e2
      go_simp
      exact hK _ _ rfl (hP.pure _ (by decide) _)
    refine ⟨?_, ?_⟩
    · intro done f W hP hdn hd K hK
      have d3 := (hd.1 rfl).2
      have e3 := (hd.1 rfl).1
      clear hd
      replace d3 : f 3 = .pointer (some ⟨L.D, 4, none⟩) := d3
      generalize f 3 = x3 at *
      subst d3
      clear e3
      have hdn4 : done 4 = false := hdn
      have hc4 := (hP.c4 (hP.o16 (hP.o4 hdn4))).1
      go_simp
      exact hK _ _ rfl (hP.pure4 _)
    refine ⟨?_, ?_⟩
    · intro done f W hP hdn hd K hK
      clear hd
      go_simp
      exact hK _ _ rfl (hP.pure _ (by decide) _)
    refine ⟨?_, ?_⟩
    · intro done f W hP hdn hd K hK
      clear hd
      go_simp
      exact hK _ _ rfl (hP.pure _ (by decide) _)
    refine ⟨?_, ?_⟩
    · intro done f W hP hdn hd K hK
      clear hd
      go_simp
      exact hK _ _ rfl (hP.pure _ (by decide) _)
    refine ⟨?_, ?_⟩
    · intro done f W hP hdn hd K hK
      have d7 := (hd.1 rfl).2
      have e7 := (hd.1 rfl).1
      clear hd
      replace d7 : f 7 = .pointer (some ⟨L.D, 0, none⟩) := d7
      generalize f 7 = x7 at *
      subst d7
      clear e7
      go_simp
      exact hK _ _ rfl (hP.pure _ (by decide) _)
    refine ⟨?_, ?_⟩
    · intro done f W hP hdn hd K hK
      have d8 := (hd.1 rfl).2
      have e8 := (hd.1 rfl).1
      clear hd
      replace d8 : f 8 = .pointer (some ⟨L.D, 0, none⟩) := d8
      generalize f 8 = x8 at *
      subst d8
      clear e8
      go_simp
      exact hK _ _ rfl (hP.pure _ (by decide) _)
    refine ⟨?_, ?_⟩
    · intro done f W hP hdn hd K hK
      have d9 := (hd.1 rfl).2
      have e9 := (hd.1 rfl).1
      clear hd
      replace d9 : f 9 = .pointer (some ⟨L.D, 3, none⟩) := d9
      generalize f 9 = x9 at *
      subst d9
      clear e9
      have hc3 := hP.c3
      go_simp
      exact hK _ _ rfl (hP.pure _ (by decide) _)
    refine ⟨?_, ?_⟩
    · intro done f W hP hdn hd K hK
      clear hd
      go_simp
      exact hK _ _ rfl (hP.pure _ (by decide) _)
    refine ⟨?_, ?_⟩
    · intro done f W hP hdn hd K hK
      have d10 := (hd.1 rfl).2
      have d11 := (hd.2.1 rfl).2
      have e10 := (hd.1 rfl).1
      have e11 := (hd.2.1 rfl).1
      clear hd
      replace d10 : f 10 = .slice (some ⟨L.S, 0, none⟩) st.n st.n := d10
      replace d11 : f 11 = .int .i64 (i : Nat) := d11
      generalize f 10 = x10 at *
      subst d10
      clear e10
      generalize f 11 = x11 at *
      subst d11
      clear e11
      go_simp
      exact hK _ _ rfl (hP.pure _ (by decide) _)
    refine ⟨?_, ?_⟩
    · intro done f W hP hdn hd K hK
      have d12 := (hd.1 rfl).2
      have e12 := (hd.1 rfl).1
      clear hd
      replace d12 : f 12 = .pointer (some ⟨L.S, i * 64, none⟩) := d12
      generalize f 12 = x12 at *
      subst d12
      clear e12
      rw [if_pos (by rfl)]
      refine wp_load_mid 147 (.tmp 31) rfl L.S (i * 64) rfl (secl st i) _ (sec_range hP.cS) Try.underlying147 rfl (by rw [size147, hsl]) ?_
      exact hK _ _ rfl (hP.pure _ (by decide) _)
    refine ⟨?_, ?_⟩
    · intro done f W hP hdn hd K hK
      have d6 := (hd.1 rfl).2
      have d13 := (hd.2.1 rfl).2
      have e6 := (hd.1 rfl).1
      have e13 := (hd.2.1 rfl).1
      clear hd
      replace d6 : f 6 = .int .i64 (i : Nat) := d6
      replace d13 : f 13 = .agg (secl st i).toArray := d13
      generalize f 6 = x6 at *
      subst d6
      clear e6
      generalize f 13 = x13 at *
      subst d13
      clear e13
      rw [if_pos (by rfl)]
      refine wp_build_run 149 #[(0, .tmp 25), (1, .tmp 32)] rfl _ (by simp [Act.eval]) (past_built (i : Nat) (secl st i).toArray (by simpa using hsl) W) ?_
      exact hK _ _ (by show Value.agg _ = Value.agg _; simp [ent]) (hP.pure _ (by decide) _)
    refine ⟨?_, ?_⟩
    · intro done f W hP hdn hd K hK
      have d14 := (hd.1 rfl).2
      have e14 := (hd.1 rfl).1
      clear hd
      replace d14 : f 14 = .agg (ent st i).toArray := d14
      have hdn15 : done 15 = false := hdn
      have hsm := hP.a hdn15
      generalize f 14 = x14 at *
      subst d14
      clear e14
      rw [if_pos (by rfl)]
      refine wp_buildSlice_run 100 1 #[(0, .tmp 33)] rfl _ (by simp [Act.eval]) (past_slice (ent st i) hel W) ?_
      exact hK _ _ (by show Value.slice _ _ _ = _; rw [hsm.heap]) (hP.laid hdn15 _)
    refine ⟨?_, ?_⟩
    · intro done f W hP hdn hd K hK
      have d4 := (hd.1 rfl).2
      have d5 := (hd.2.1 rfl).2
      have d15 := (hd.2.2.1 rfl).2
      have e4 := (hd.1 rfl).1
      have e5 := (hd.2.1 rfl).1
      have e15 := (hd.2.2.1 rfl).1
      clear hd
      replace d4 : f 4 = lv := d4
      replace d5 : f 5 = .int .i64 (p : Nat) := d5
      replace d15 : f 15 = .slice (some ⟨w1.heap.size, 0, none⟩) 1 1 := d15
      have hdn16 : done 16 = false := hdn
      have hsm := hP.b e15 hdn16
      have q4 := e4
      generalize f 4 = x4 at *
      subst x4
      clear e4
      generalize f 5 = x5 at *
      subst d5
      clear e5
      generalize f 15 = x15 at *
      subst d15
      go_simp
      refine Calls.mono (pinsert_any b0 W lv st.ln p st.loose (ent st i) (own_same h hsm) hp hln w1.heap.size hel h1x (ent_one hs8) (ent_heap hsm) (own_fresh h) (ent_base h hsm)) ?_
      rintro e W' ⟨v', rfl, ho', hg'⟩
      exact hK _ _ trivial (hP.grown h hsm hdn16 e15 q4 ho' hg')
    refine ⟨?_, ?_⟩
    · intro done f W hP hdn hd K hK
      have d0 := (hd.1 rfl).2
      have e0 := (hd.1 rfl).1
      clear hd
      replace d0 : f 0 = .pointer (some ⟨L.D, 0, none⟩) := d0
      generalize f 0 = x0 at *
      subst d0
      clear e0
      go_simp
      exact hK _ _ rfl (hP.pure _ (by decide) _)
    refine ⟨?_, ?_⟩
    · intro done f W hP hdn hd K hK
      have d17 := (hd.1 rfl).2
      have e17 := (hd.1 rfl).1
      clear hd
      replace d17 : f 17 = .pointer (some ⟨L.D, 0, none⟩) := d17
      generalize f 17 = x17 at *
      subst d17
      clear e17
      go_simp
      exact hK _ _ rfl (hP.pure _ (by decide) _)
    refine ⟨?_, ?_⟩
    · intro done f W hP hdn hd K hK
      have d18 := (hd.1 rfl).2
      have d16 := (hd.2.1 rfl).2
      have e18 := (hd.1 rfl).1
      have e16 := (hd.2.1 rfl).1
      clear hd
      replace d18 : f 18 = .pointer (some ⟨L.D, 4, none⟩) := d18
      have hdn19 : done 19 = false := hdn
      have hmid := hP.c e16 hdn19
      obtain ⟨hc4, hf4⟩ := hP.c4 hdn19
      obtain ⟨ao, cp, hv16⟩ : ∃ ao cp, f 16 = .slice ao (st.ln + 1) cp := by
        rcases hmid.1.2 with ⟨_, hq⟩ | ⟨g, cp, _, hq, _⟩
        · omega
        · exact ⟨_, cp, hq⟩
      have hst := hP.stored h hmid e16 hv16
      generalize f 18 = x18 at *
      subst d18
      clear e18
      have hK2 := hK
      generalize f 16 = x16 at hv16 hK2 ⊢
      subst hv16
      go_simp
      exact hK2 undef _ trivial (hst undef)
    trivial
set_option maxRecDepth 100000 in
theorem One.dwriteF (h0 : One b0 w0 L st lv oth w) (p i : Nat) (hi : i < st.n) (hs8 : SecOk st) (hnb : st.n ≤ 9223372036854775807) (s : ByteArray) (hs : s.size = 64) (hse : Calls Try.prog 107 #[lv, .int .i64 (i : Nat), .func (.func 108) #[] #[]] w fun e w' => e = .returned (.tuple #[.int .i64 (p : Nat), .bool true]) ∧ Below w.heap.size w w') :
    Calls Try.prog 70 #[.pointer (some ⟨L.D, 0, none⟩), .int .i64 (i : Nat), .string s] w fun e w' => e = .returned (.tuple #[]) ∧ One b0 w0 L (wroteF st i s) lv oth w' := by
  have d4 := h0.dc.2.2.2.2.1
  go_enter Try.func70, Try.ntmps70
  go_wp2_with fail
  go_call hse as e W ⟨rfl, hb⟩
  have h2 := h0.ofBelow hb
  clear hse hb h0 d4
  have hfit : i * 64 + s.size ≤ st.secs.size := by
    rw [hs8.size, hs]
    have : (i + 1) * 64 ≤ st.n * 64 := Nat.mul_le_mul_right _ hi
    omega
  have hcp := Lib.run_copy_row_string (P := Try.prog) W 75 9 3 5 L.S (i * 64) 64 64 s st.secs 147 Try.underlying75 size5 h2.sec (by omega) hfit
  have HF : Hid (One b0 w0 L (wroteF st i s) lv oth (W.setRow L.S (setSec st.secs i s))) := h2.setS (setSec st.secs i s)
  have c3 := h2.dc.2.2.2.1
  have hns : st.n ≤ 9223372036854775807 := hnb
  clear h2
  rw [hs] at hcp
  change _ = Result.ok _ (W.setRow L.S (setSec st.secs i s)) at hcp
  generalize setSec st.secs i s = SS at *
  go_wp2
  go_returns
  exact ⟨rfl, HF.out⟩
end
end Go.Proofs.Ytiohkdpmgkobiaa
