/- Pack, as a call. -/
import Derived.Test.YtknmipbjkkeebaaRO
import Derived.Test.YtknmipbjkkeebaaOQ
namespace Go.Proofs.Ytknmipbjkkeebaa
open Go.RowKit
/-- Where a chain of writings into an Out stands. -/
structure NPh (T : Nat) (w : World) (B : Nat) (oths : List (Nat × Obj)) (idx : Nat → Nat) (m : Nat) (pre : List UInt8) (bs : List (List UInt8)) (done : Nat → Bool) (f : Nat → Value) (W : World) : Prop where
  bel : Below T w W
  oth : ∀ p ∈ oths, W.heap[p.1]? = some p.2
  ex : ∃ v n, O.OutIs W B v (pre ++ (bs.take n).flatten) ∧ n ≤ m ∧ ∀ k, k < m → done (idx k) = decide (k < n)
def Oth (B : Nat) (oths : List (Nat × Obj)) : Prop := ∀ p ∈ oths, p.1 ≠ B ∧ ∃ c t, p.2 = Obj.cells c t ∧ t ≠ 5
section
variable {T : Nat} {w : World} {B : Nat} {oths : List (Nat × Obj)} {idx : Nat → Nat} {m : Nat} {pre : List UInt8} {bs : List (List UInt8)} {done : Nat → Bool} {f : Nat → Value} {W : World}
theorem NPh.pure (h : NPh T w B oths idx m pre bs done f W) (i : Nat) (hi : ∀ k, k < m → idx k ≠ i) (v : Value) : NPh T w B oths idx m pre bs (O.updB done i) (O.upd f i v) W := by
  obtain ⟨x, n, h1, h2, h3⟩ := h.ex
  refine ⟨h.bel, h.oth, x, n, h1, h2, fun k hk => ?_⟩
  rw [show O.updB done i (idx k) = done (idx k) from if_neg (hi k hk)]; exact h3 k hk
theorem NPh.now (h : NPh T w B oths idx m pre bs done f W) (k : Nat) (hk : k < m) (hdn : done (idx k) = false) (hp : k = 0 ∨ done (idx (k - 1)) = true) : ∃ v, O.OutIs W B v (pre ++ (bs.take k).flatten) := by
  obtain ⟨x, n, h1, h2, h3⟩ := h.ex
  have e : n = k := by
    have a := h3 k hk
    rw [hdn] at a
    have a' : ¬ k < n := fun hh => by rw [decide_eq_true hh] at a; cases a
    rcases hp with rfl | hp
    · omega
    · have b := h3 (k - 1) (by omega)
      rw [hp] at b
      have b' := of_decide_eq_true b.symm
      omega
  subst e
  exact ⟨x, h1⟩
theorem NPh.num (h : NPh T w B oths idx m pre bs done f W) (hTB : T ≤ B) (ho : Oth B oths) (hinj : ∀ a b, a < m → b < m → idx a = idx b → a = b) (hbs : bs.length = m) (k : Nat) (hk : k < m) (hdn : done (idx k) = false) (hp : k = 0 ∨ done (idx (k - 1)) = true) {v v' : Value} {W' : World} {y : List UInt8} (hy : bs[k]? = some y)
    (hO : O.OutIs W B v (pre ++ (bs.take k).flatten)) (hw : O.Wr B v (pre ++ (bs.take k).flatten) y W v' W') (x : Value) : NPh T w B oths idx m pre bs (O.updB done (idx k)) (O.upd f (idx k) x) W' := by
  obtain ⟨x0, n, h1, h2, h3⟩ := h.ex
  have e : n = k := by
    have a := h3 k hk
    rw [hdn] at a
    have a' : ¬ k < n := fun hh => by rw [decide_eq_true hh] at a; cases a
    rcases hp with rfl | hp
    · omega
    · have b := h3 (k - 1) (by omega)
      rw [hp] at b
      have b' := of_decide_eq_true b.symm
      omega
  subst e
  refine ⟨h.bel.trans ((hw.below hO).mono hTB), fun p hp => ?_, v', n + 1, ?_, by omega, fun j hj => ?_⟩
  · obtain ⟨q1, c, t, q2, q3⟩ := ho p hp
    have hpk := h.oth p hp
    rw [hw.kp.block p.1 (getElem?_lt hpk) q1 ?_]
    · exact hpk
    · intro e2
      rcases hO.own.2 with ⟨e3, _⟩ | ⟨g, cap, cur, e3, _, hg, _⟩
      · rw [e3] at e2; cases e2
      · rw [e3] at e2
        injection e2 with e2
        have e2' : g = p.1 := e2
        rw [e2', hpk, q2] at hg
        injection hg with hg; injection hg with _ hg _
        exact q3 hg
  · have e4 : bs.take (n + 1) = bs.take n ++ [y] := by
      rw [List.take_add_one, hy]; rfl
    rw [e4, List.flatten_append, ← List.append_assoc]
    simpa using hw.out
  · by_cases hjn : j = n
    · subst hjn
      rw [show O.updB done (idx j) (idx j) = true from if_pos rfl, decide_eq_true (by omega)]
    · rw [show O.updB done (idx n) (idx j) = done (idx j) from if_neg (fun e => hjn (hinj j n hj hk e)), h3 j hj]
      by_cases hl : j < n
      · rw [decide_eq_true hl, decide_eq_true (by omega)]
      · rw [decide_eq_false hl, decide_eq_false (by omega)]
end
theorem outis0 (w : World) (o1 : Obj) (bs : List (List UInt8)) : O.OutIs (((w.alloc o1).alloc (.cells #[.slice none 0 0] 135)).drew) (w.heap.size + 1) (.slice none 0 0) ([] ++ (bs.take 0).flatten) := by
  have h := heap_alloc2_new w o1 (.cells #[.slice none 0 0] 135)
  have h' : (((w.alloc o1).alloc (.cells #[.slice none 0 0] 135)).drew).heap[w.heap.size + 1]? = some (.cells #[.slice none 0 0] 135) := h
  refine ⟨cell_of h' 0, frz_of h' 0, ?_⟩
  simp only [List.take_zero, List.flatten_nil, List.append_nil]
  exact World.ownsRow_nil _ _ _ _
/-- An Out is being written, beside a roster. -/
structure QS (T : Nat) (w : World) (B BX : Nat) (bx : Array Value) (l : List UInt8) (W : World) : Prop where
  bel : Below T w W
  box : W.heap[BX]? = some (.cells bx 72)
  out : ∃ v, O.OutIs W B v l
theorem QS.below {T : Nat} {w : World} {B BX : Nat} {bx : Array Value} {l : List UInt8} {W W' : World} (h : QS T w B BX bx l W) (hb : Below W.heap.size W W') (hT : T ≤ B) : QS T w B BX bx l W' := by
  obtain ⟨v, ho⟩ := h.out
  have hlt := ho.lt
  refine ⟨h.bel.trans (hb.mono (by omega)), (hb.block _ (getElem?_lt h.box)).trans h.box, v, (hb.cell hlt).trans ho.cell, (hb.frozen hlt).trans ho.frz, O.ownsRow_below ho.own hb⟩
theorem QS.num {T : Nat} {w : World} {B BX : Nat} {bx : Array Value} {l : List UInt8} {W : World} (h : QS T w B BX bx l W) (hT : T ≤ B) (hB : BX ≠ B) (x : Nat) (hx : x < 18446744073709551616) (n : Int) (hl : l.length ≤ 100000) :
    Calls Try.prog 85 #[.pointer (some ⟨B, 0, none⟩), .int .u64 (x : Int), .int .i64 n] W fun e w' => e = .returned (.pointer (some ⟨B, 0, none⟩)) ∧ QS T w B BX bx (l ++ O.numB x (O.wd n)) w' := by
  obtain ⟨v, ho⟩ := h.out
  refine (O.num_any B v l x n W ho hx hl).mono ?_
  rintro e W' ⟨rfl, v', hw⟩
  refine ⟨rfl, h.bel.trans ((hw.below ho).mono hT), ?_, v', hw.out⟩
  rw [hw.kp.block BX (getElem?_lt h.box) hB ?_]
  · exact h.box
  · intro e2
    rcases ho.own.2 with ⟨e3, _⟩ | ⟨g, cap, cur, e3, _, hg, _⟩
    · rw [e3] at e2; cases e2
    · rw [e3] at e2
      injection e2 with e2
      have e2' : g = BX := e2
      rw [e2', h.box] at hg
      injection hg with hg; injection hg with _ hg _
      exact absurd hg (by decide)
def mbytes (m : Mb) : List UInt8 := O.numB m.s.toNat 2 ++ O.numB m.j 8 ++ O.numB m.t.toNat 1
def mbs : List Mb → List UInt8
  | [] => []
  | m :: l => mbytes m ++ mbs l
def rhead (r : Ro) : List UInt8 := O.numB r.c 8 ++ O.numB r.e 8 ++ O.numB r.l 8 ++ O.numB r.j 8
def rbytes (r : Ro) : List UInt8 := rhead r ++ O.numB r.ms.length 1 ++ mbs r.ms
theorem mbs_append : ∀ a b, mbs (a ++ b) = mbs a ++ mbs b
  | [], _ => rfl
  | m :: l, b => by rw [List.cons_append, mbs, mbs, mbs_append l b, List.append_assoc]
theorem mbs_length : ∀ l, (mbs l).length = l.length * 11
  | [] => rfl
  | m :: l => by rw [mbs, List.length_append, mbs_length l, List.length_cons]; simp [mbytes, O.numB_length]; omega
theorem mbs_succ (l : List Mb) (k : Nat) (hk : k < l.length) : mbs (l.take (k + 1)) = mbs (l.take k) ++ mbytes (mbAt l k) := by
  rw [List.take_add_one, mbs_append, List.getElem?_eq_getElem hk]
  unfold mbAt
  rw [show l.getD k ⟨0, 0, 0⟩ = l[k] by simp [hk]]
  simp [mbs]
theorem oth_two {B0 BM : Nat} (c d : Array Value) (h : B0 + 1 < BM) : Oth (B0 + 1) [(B0, .cells c 72), (BM, .cells d 85)] := fun p hp => by
  simp at hp
  rcases hp with rfl | rfl
  · exact ⟨by show B0 ≠ B0 + 1; omega, c, 72, rfl, by decide⟩
  · exact ⟨by show BM ≠ B0 + 1; omega, d, 85, rfl, by decide⟩
def ix7 (k : Nat) : Nat := if k = 0 then 3 else if k = 1 then 6 else 10
theorem ix7_inj : ∀ a b, a < 3 → b < 3 → ix7 a = ix7 b → a = b := by
  intro a b ha hb e
  unfold ix7 at e
  (repeat' split at e) <;> omega
theorem rbytes_length (r : Ro) : (rbytes r).length = 33 + 11 * r.ms.length := by
  simp [rbytes, rhead, O.numB_length, mbs_length]; omega
def PV1 (r : Ro) (w : World) : Nat → Value → Prop
  | 0, v => v = .pointer (some ⟨w.heap.size, 0, none⟩)
  | 1, v => v = .int .u64 (r.c : Nat)
  | 2, v => v = .pointer (some ⟨w.heap.size + 1, 0, none⟩)
  | 3, v => v = .pointer (some ⟨w.heap.size, 1, none⟩)
  | 4, v => v = .int .u64 (r.e : Nat)
  | 5, v => v = .pointer (some ⟨w.heap.size + 1, 0, none⟩)
  | 6, v => v = .pointer (some ⟨w.heap.size, 2, none⟩)
  | 7, v => v = .int .u64 (r.l : Nat)
  | 8, v => v = .pointer (some ⟨w.heap.size + 1, 0, none⟩)
  | 9, v => v = .pointer (some ⟨w.heap.size, 3, none⟩)
  | 10, v => v = .int .u64 (r.j : Nat)
  | 11, v => v = .pointer (some ⟨w.heap.size + 1, 0, none⟩)
  | _, _ => True
theorem oth_one {B0 : Nat} (c : Array Value) : Oth (B0 + 1) [(B0, .cells c 72)] := fun p hp => by
  rw [List.mem_singleton.1 hp]
  exact ⟨by show B0 ≠ B0 + 1; omega, c, 72, rfl, by decide⟩
def PV2 (w wr : World) (sN jN tN : Nat) : Nat → Value → Prop
  | 0, v => v = .pointer (some ⟨wr.heap.size, 0, none⟩)
  | 1, v => v = .int .i64 (sN : Nat)
  | 2, v => v = .int .u64 (sN : Nat)
  | 3, v => v = .pointer (some ⟨w.heap.size + 1, 0, none⟩)
  | 4, v => v = .pointer (some ⟨wr.heap.size, 1, none⟩)
  | 5, v => v = .int .u64 (jN : Nat)
  | 6, v => v = .pointer (some ⟨w.heap.size + 1, 0, none⟩)
  | 7, v => v = .pointer (some ⟨wr.heap.size, 2, none⟩)
  | 8, v => v = .int .i64 (tN : Nat)
  | 9, v => v = .int .u64 (tN : Nat)
  | 10, v => v = .pointer (some ⟨w.heap.size + 1, 0, none⟩)
  | _, _ => True
set_option maxHeartbeats 4000000 in
set_option maxRecDepth 100000 in
theorem rpack_any (r : Ro) (v : Value) (w : World) (h : MIs w 0 v r.ms) (hn : r.ms.length ≤ 16) (hc : r.c < 18446744073709551616) (he : r.e < 18446744073709551616) (hl : r.l < 18446744073709551616) (hj : r.j < 18446744073709551616)
    (hm : ∀ k, k < r.ms.length → 0 ≤ (mbAt r.ms k).s ∧ (mbAt r.ms k).s ≤ 1000 ∧ (mbAt r.ms k).j < 18446744073709551616 ∧ 0 ≤ (mbAt r.ms k).t ∧ (mbAt r.ms k).t ≤ 2) :
    Calls Try.prog 45 #[r.val v] w fun e w' => e = .returned (.string ⟨(rbytes r).toArray⟩) ∧ Below w.heap.size w w' := by
  obtain ⟨ao, cp, hv⟩ := own_slice h
  have HM : Hid _ := h
  have HMM : Hid _ := hm
  subst hv
  clear h hm
  obtain ⟨n, hnn⟩ : ∃ n, n = r.ms.length := ⟨_, rfl⟩
  have HN : Hid _ := hnn
  unfold Ro.val Ro.arr
  rw [← hnn] at hn ⊢
  clear hnn
  go_enter Try.func45, Try.ntmps45
  go_wp2
  refine O.wp_region_ph (fun f => ⟨#[.agg #[.int .u64 (r.c : Int), .int .u64 (r.e : Int), .int .u64 (r.l : Int), .int .u64 (r.j : Int), .slice ao n cp], .pointer (some ⟨w.heap.size, 0, none⟩), .string ⟨#[]⟩, .pointer (some ⟨w.heap.size + 1, 0, none⟩), undef, undef, f 0, f 1, f 2, f 3, f 4, f 5, f 6, f 7, f 8, f 9, f 10, f 11, undef, undef, undef, undef, undef, undef, undef, undef, undef, undef, undef, undef, undef, undef, undef, undef, undef, undef, undef, undef, undef, undef, undef, undef, undef], []⟩) (PV1 r w) (NPh w.heap.size w (w.heap.size + 1) [(w.heap.size, .cells #[.int .u64 (r.c : Nat), .int .u64 (r.e : Nat), .int .u64 (r.l : Nat), .int .u64 (r.j : Nat), .slice ao n cp] 72)] (fun k => 3 * k + 2) 4 [] [O.numB r.c 8, O.numB r.e 8, O.numB r.l 8, O.numB r.j 8]) (fun i => [undef, undef, undef, undef, undef, undef, undef, undef, undef, undef, undef, undef].getD i undef) (by kernel_rfl) rfl rfl ?hIp ?hputp ?stepp ?finp
  case hIp => exact ⟨((Below.refl _ w).alloc (Nat.le_refl _) _).alloc (by simp) _ |>.drew, fun p hp => by rw [List.mem_singleton.1 hp]; exact (Below.heap_alloc _ _ _ (by simp)).trans (heap_new _ _), _, 0, outis0 _ _ _, by omega, fun k hk => rfl⟩
  case finp =>
    intro f W hP hV
    have v0 : f 0 = .pointer (some ⟨w.heap.size, 0, none⟩) := hV 0 (by decide)
    have v1 : f 1 = .int .u64 (r.c : Nat) := hV 1 (by decide)
    have v2 : f 2 = .pointer (some ⟨w.heap.size + 1, 0, none⟩) := hV 2 (by decide)
    have v3 : f 3 = .pointer (some ⟨w.heap.size, 1, none⟩) := hV 3 (by decide)
    have v4 : f 4 = .int .u64 (r.e : Nat) := hV 4 (by decide)
    have v5 : f 5 = .pointer (some ⟨w.heap.size + 1, 0, none⟩) := hV 5 (by decide)
    have v6 : f 6 = .pointer (some ⟨w.heap.size, 2, none⟩) := hV 6 (by decide)
    have v7 : f 7 = .int .u64 (r.l : Nat) := hV 7 (by decide)
    have v8 : f 8 = .pointer (some ⟨w.heap.size + 1, 0, none⟩) := hV 8 (by decide)
    have v9 : f 9 = .pointer (some ⟨w.heap.size, 3, none⟩) := hV 9 (by decide)
    have v10 : f 10 = .int .u64 (r.j : Nat) := hV 10 (by decide)
    have v11 : f 11 = .pointer (some ⟨w.heap.size + 1, 0, none⟩) := hV 11 (by decide)
    have hQ : QS w.heap.size w (w.heap.size + 1) w.heap.size #[.int .u64 (r.c : Nat), .int .u64 (r.e : Nat), .int .u64 (r.l : Nat), .int .u64 (r.j : Nat), .slice ao n cp] (rhead r) W := by
      obtain ⟨x, n1, h1, h2, h3⟩ := hP.ex
      have h4 := h3 3 (by decide)
      have h5 : (3 : Nat) < n1 := of_decide_eq_true (h4.symm.trans (by decide))
      obtain rfl : n1 = 4 := by omega
      exact ⟨hP.bel, hP.oth _ (List.mem_singleton.2 rfl), x, by simpa [rhead] using h1⟩
    clear hP hV
    generalize f 0 = x0 at *
    subst v0
    generalize f 1 = x1 at *
    subst v1
    generalize f 2 = x2 at *
    subst v2
    generalize f 3 = x3 at *
    subst v3
    generalize f 4 = x4 at *
    subst v4
    generalize f 5 = x5 at *
    subst v5
    generalize f 6 = x6 at *
    subst v6
    generalize f 7 = x7 at *
    subst v7
    generalize f 8 = x8 at *
    subst v8
    generalize f 9 = x9 at *
    subst v9
    generalize f 10 = x10 at *
    subst v10
    generalize f 11 = x11 at *
    subst v11
    have q4 := cell_of hQ.box 4
    simp at q4
    have hnum := hQ.num (by omega) (by omega) n (by omega) 1 (by simp [rhead, O.numB_length])
    clear hQ
    go_wp2_with fail
    go_call hnum as e w2 ⟨rfl, hQ2⟩
    have q4 := cell_of hQ2.box 4
    simp at q4
    have H0 : Hid (QS w.heap.size w (w.heap.size + 1) w.heap.size #[.int .u64 (r.c : Nat), .int .u64 (r.e : Nat), .int .u64 (r.l : Nat), .int .u64 (r.j : Nat), .slice ao n cp] (rhead r ++ O.numB n 1 ++ mbs (r.ms.take 0)) w2) := by
      rw [show rhead r ++ O.numB n 1 ++ mbs (r.ms.take 0) = rhead r ++ O.numB n 1 by simp only [List.take_zero, mbs, List.append_nil]]
      exact hQ2
    clear hnum hQ2
    go_wp2
    go_loopw [26] (fun i wr => ∃ k : Nat, k ≤ n ∧ i = .int .i64 (k : Nat) ∧ Hid (QS w.heap.size w (w.heap.size + 1) w.heap.size #[.int .u64 (r.c : Nat), .int .u64 (r.e : Nat), .int .u64 (r.l : Nat), .int .u64 (r.j : Nat), .slice ao n cp] (rhead r ++ O.numB n 1 ++ mbs (r.ms.take k)) wr)) (fun i _ => n - (intOf i).toNat)
    case atStart => exact ⟨0, by omega, rfl, H0⟩
    case round =>
      clear H0
      obtain ⟨k, hk, rfl, HR⟩ := hrel
      rcases Nat.lt_or_ge k n with hkn | hkn
      · obtain ⟨g, hg⟩ : ∃ g, ao = some ⟨g, 0, none⟩ := by
          rcases HM.out.2 with ⟨_, h0⟩ | ⟨g, cap, cur, e0, _⟩
          · have := HN.out; omega
          · injection e0 with e0 _ _; exact ⟨g, e0⟩
        subst hg
        have hmem : k < r.ms.length := by rw [← HN.out]; exact hkn
        have hgT : g < w.heap.size := (HM.out.lt g rfl).2
        have hrng := (MIs.mems HM.out).lies k hmem
        have c0 : wr.cell? ⟨g, k * 3, none⟩ = some (.int .i64 (mbAt r.ms k).s) := (HR.out.bel.cell (by exact hgT)).trans (hrng 0 _ rfl)
        have c1 : wr.cell? ⟨g, k * 3 + 1, none⟩ = some (.int .u64 ((mbAt r.ms k).j : Nat)) := (HR.out.bel.cell (by exact hgT)).trans (hrng 1 _ rfl)
        have c2 : wr.cell? ⟨g, k * 3 + 2, none⟩ = some (.int .i64 (mbAt r.ms k).t) := (HR.out.bel.cell (by exact hgT)).trans (hrng 2 _ rfl)
        clear hrng
        have hBlt : w.heap.size + 1 < wr.heap.size := by obtain ⟨x, hx⟩ := HR.out.out; exact hx.lt
        obtain ⟨hs0, hs1, hj0, ht0, ht1⟩ := HMM.out k hmem
        obtain ⟨sN, hsN⟩ : ∃ sN : Nat, sN = (mbAt r.ms k).s.toNat := ⟨_, rfl⟩
        obtain ⟨tN, htN⟩ : ∃ tN : Nat, tN = (mbAt r.ms k).t.toNat := ⟨_, rfl⟩
        obtain ⟨jN, hjN⟩ : ∃ jN : Nat, jN = (mbAt r.ms k).j := ⟨_, rfl⟩
        rw [show (mbAt r.ms k).s = (sN : Nat) by omega] at c0
        rw [show (mbAt r.ms k).t = (tN : Nat) by omega] at c2
        rw [← hjN] at c1 hj0
        have hsB : sN ≤ 1000 := by omega
        have htB : tN ≤ 2 := by omega
        have HE : Hid (mbytes (mbAt r.ms k) = O.numB sN 2 ++ O.numB jN 8 ++ O.numB tN 1) := by rw [hsN, htN, hjN]; rfl
        clear hsN htN hjN hs0 hs1 ht0 ht1
        have hbnd : (rhead r ++ O.numB n 1 ++ mbs (r.ms.take k)).length ≤ 1000 := by simp [rhead, O.numB_length, mbs_length]; omega
        go_wp2
        refine O.wp_region_ph (fun f => ⟨#[.agg #[.int .u64 (r.c : Int), .int .u64 (r.e : Int), .int .u64 (r.l : Int), .int .u64 (r.j : Int), .slice (some ⟨g, 0, none⟩) n cp], .pointer (some ⟨w.heap.size, 0, none⟩), .string ⟨#[]⟩, .pointer (some ⟨w.heap.size + 1, 0, none⟩), undef, .pointer (some ⟨wr.heap.size, 0, none⟩), .pointer (some ⟨w.heap.size, 0, none⟩), .int .u64 (r.c : Int), .pointer (some ⟨w.heap.size + 1, 0, none⟩), .pointer (some ⟨w.heap.size, 1, none⟩), .int .u64 (r.e : Int), .pointer (some ⟨w.heap.size + 1, 0, none⟩), .pointer (some ⟨w.heap.size, 2, none⟩), .int .u64 (r.l : Int), .pointer (some ⟨w.heap.size + 1, 0, none⟩), .pointer (some ⟨w.heap.size, 3, none⟩), .int .u64 (r.j : Int), .pointer (some ⟨w.heap.size + 1, 0, none⟩), .pointer (some ⟨w.heap.size, 4, none⟩), .slice (some ⟨g, 0, none⟩) n cp, .int .i64 (n : Int), .int .u64 (n : Int), .pointer (some ⟨w.heap.size + 1, 0, none⟩), .pointer (some ⟨w.heap.size, 4, none⟩), .slice (some ⟨g, 0, none⟩) n cp, .int .i64 (n : Int), .int .i64 (k : Int), .bool true, .pointer (some ⟨g, k * 3, none⟩), .agg #[.int .i64 (sN : Int), .int .u64 (jN : Int), .int .i64 (tN : Int)], f 0, f 1, f 2, f 3, f 4, f 5, f 6, f 7, f 8, f 9, f 10, u41, undef], []⟩) (PV2 w wr sN jN tN) (NPh w.heap.size w (w.heap.size + 1) [(w.heap.size, .cells #[.int .u64 (r.c : Nat), .int .u64 (r.e : Nat), .int .u64 (r.l : Nat), .int .u64 (r.j : Nat), .slice (some ⟨g, 0, none⟩) n cp] 72), (wr.heap.size, .cells #[.int .i64 (sN : Nat), .int .u64 (jN : Nat), .int .i64 (tN : Nat)] 85)] ix7 3 (rhead r ++ O.numB n 1 ++ mbs (r.ms.take k)) [O.numB sN 2, O.numB jN 8, O.numB tN 1]) (fun i => [u30, u31, u32, u33, u34, u35, u36, u37, u38, u39, u40].getD i undef) (by kernel_rfl) rfl rfl ?hIq ?hputq ?stepq ?finq
        case hIq => (
            have h1 := HR.out.below (((Below.refl _ wr).alloc (Nat.le_refl _) (.cells #[.int .i64 (sN : Nat), .int .u64 (jN : Nat), .int .i64 (tN : Nat)] 85)).drew) (by omega)
            refine ⟨h1.bel, fun p hp => ?_, ?_⟩
            · simp at hp
              rcases hp with rfl | rfl
              · exact h1.box
              · exact heap_new wr _
            · obtain ⟨x, hx⟩ := h1.out
              exact ⟨x, 0, by simpa using hx, by omega, fun k hk => rfl⟩)
        case finq =>
          intro f W hP hV
          have v0 : f 0 = .pointer (some ⟨wr.heap.size, 0, none⟩) := hV 0 (by decide)
          have v1 : f 1 = .int .i64 (sN : Nat) := hV 1 (by decide)
          have v2 : f 2 = .int .u64 (sN : Nat) := hV 2 (by decide)
          have v3 : f 3 = .pointer (some ⟨w.heap.size + 1, 0, none⟩) := hV 3 (by decide)
          have v4 : f 4 = .pointer (some ⟨wr.heap.size, 1, none⟩) := hV 4 (by decide)
          have v5 : f 5 = .int .u64 (jN : Nat) := hV 5 (by decide)
          have v6 : f 6 = .pointer (some ⟨w.heap.size + 1, 0, none⟩) := hV 6 (by decide)
          have v7 : f 7 = .pointer (some ⟨wr.heap.size, 2, none⟩) := hV 7 (by decide)
          have v8 : f 8 = .int .i64 (tN : Nat) := hV 8 (by decide)
          have v9 : f 9 = .int .u64 (tN : Nat) := hV 9 (by decide)
          have v10 : f 10 = .pointer (some ⟨w.heap.size + 1, 0, none⟩) := hV 10 (by decide)
          have hQ : Hid (QS w.heap.size w (w.heap.size + 1) w.heap.size #[.int .u64 (r.c : Nat), .int .u64 (r.e : Nat), .int .u64 (r.l : Nat), .int .u64 (r.j : Nat), .slice (some ⟨g, 0, none⟩) n cp] (rhead r ++ O.numB n 1 ++ mbs (r.ms.take (k + 1))) W) := by
            obtain ⟨x, n1, h1, h2, h3⟩ := hP.ex
            have h4 := h3 2 (by decide)
            have h5 : (2 : Nat) < n1 := of_decide_eq_true (h4.symm.trans (by decide))
            obtain rfl : n1 = 3 := by omega
            refine ⟨hP.bel, hP.oth _ (List.mem_cons_self ..), x, ?_⟩
            rw [mbs_succ _ _ hmem, HE.out]
            simpa using h1
          clear hP hV
          generalize f 0 = x0 at *
          subst v0
          generalize f 1 = x1 at *
          subst v1
          generalize f 2 = x2 at *
          subst v2
          generalize f 3 = x3 at *
          subst v3
          generalize f 4 = x4 at *
          subst v4
          generalize f 5 = x5 at *
          subst v5
          generalize f 6 = x6 at *
          subst v6
          generalize f 7 = x7 at *
          subst v7
          generalize f 8 = x8 at *
          subst v8
          generalize f 9 = x9 at *
          subst v9
          generalize f 10 = x10 at *
          subst v10
          go_wp2
          go_roundw
          case rel => exact ⟨k + 1, by omega, rfl, hQ⟩
          case measure => simp only [intOf]; omega
        case hputq =>
          repeat (refine ⟨fun f v => rfl, ?_⟩)
          trivial
        case stepq =>
          refine ⟨?_, ?_⟩
          · intro done f W hP hdn hd K hK
            clear hd
            go_simp
            exact hK _ _ rfl (hP.pure _ (by decide) _)
          refine ⟨?_, ?_⟩
          · intro done f W hP hdn hd K hK
            have d0 := (hd.1 rfl).2
            have e0 : done 0 = true := (hd.1 rfl).1
            clear hd
            replace d0 : f 0 = .pointer (some ⟨wr.heap.size, 0, none⟩) := d0
            generalize f 0 = x0 at *
            subst d0
            clear e0
            have q := cell_of (hP.oth _ (List.mem_cons_of_mem _ (List.mem_singleton.2 rfl))) 0
            simp at q
            go_simp
            exact hK _ _ rfl (hP.pure _ (by decide) _)
          refine ⟨?_, ?_⟩
          · intro done f W hP hdn hd K hK
            have d1 := (hd.1 rfl).2
            have e1 : done 1 = true := (hd.1 rfl).1
            clear hd
            replace d1 : f 1 = .int .i64 (sN : Nat) := d1
            generalize f 1 = x1 at *
            subst d1
            clear e1
            have q : IntKind.u64.wrap (sN : Int) = (sN : Int) := by rw [IntKind.wrap_u64]; omega
            go_simp
            exact hK _ _ rfl (hP.pure _ (by decide) _)
          refine ⟨?_, ?_⟩
          · intro done f W hP hdn hd K hK
            have d2 := (hd.1 rfl).2
            have e2 : done 2 = true := (hd.1 rfl).1
            clear hd
            replace d2 : f 2 = .int .u64 (sN : Nat) := d2
            generalize f 2 = x2 at *
            subst d2
            clear e2
            have hdn2 : done 3 = false := hdn
            obtain ⟨x0, hO⟩ := hP.now 0 (by decide) hdn2 (Or.inl rfl)
            go_simp
            refine Calls.mono (O.num_any (w.heap.size + 1) x0 _ sN 2 W hO (by omega) (by have hq := hbnd; simp [O.numB_length] at hq ⊢; omega)) ?_
            rintro e W' ⟨rfl, x1, hw⟩
            exact hK _ _ rfl (hP.num (by omega) (oth_two _ _ hBlt) ix7_inj rfl 0 (by decide) hdn2 (Or.inl rfl) rfl hO hw _)
          refine ⟨?_, ?_⟩
          · intro done f W hP hdn hd K hK
            clear hd
            go_simp
            exact hK _ _ rfl (hP.pure _ (by decide) _)
          refine ⟨?_, ?_⟩
          · intro done f W hP hdn hd K hK
            have d4 := (hd.1 rfl).2
            have e4 : done 4 = true := (hd.1 rfl).1
            clear hd
            replace d4 : f 4 = .pointer (some ⟨wr.heap.size, 1, none⟩) := d4
            generalize f 4 = x4 at *
            subst d4
            clear e4
            have q := cell_of (hP.oth _ (List.mem_cons_of_mem _ (List.mem_singleton.2 rfl))) 1
            simp at q
            go_simp
            exact hK _ _ rfl (hP.pure _ (by decide) _)
          refine ⟨?_, ?_⟩
          · intro done f W hP hdn hd K hK
            have d3 := (hd.1 rfl).2
            have e3 : done 3 = true := (hd.1 rfl).1
            have d5 := (hd.2.1 rfl).2
            have e5 : done 5 = true := (hd.2.1 rfl).1
            clear hd
            replace d3 : f 3 = .pointer (some ⟨w.heap.size + 1, 0, none⟩) := d3
            replace d5 : f 5 = .int .u64 (jN : Nat) := d5
            generalize f 3 = x3 at *
            subst d3
            generalize f 5 = x5 at *
            subst d5
            clear e5
            have hdn2 : done 6 = false := hdn
            obtain ⟨x0, hO⟩ := hP.now 1 (by decide) hdn2 (Or.inr e3)
            go_simp
            refine Calls.mono (O.num_any (w.heap.size + 1) x0 _ jN 8 W hO hj0 (by have hq := hbnd; simp [O.numB_length] at hq ⊢; omega)) ?_
            rintro e W' ⟨rfl, x1, hw⟩
            exact hK _ _ rfl (hP.num (by omega) (oth_two _ _ hBlt) ix7_inj rfl 1 (by decide) hdn2 (Or.inr e3) rfl hO hw _)
            -- e3
          refine ⟨?_, ?_⟩
          · intro done f W hP hdn hd K hK
            clear hd
            go_simp
            exact hK _ _ rfl (hP.pure _ (by decide) _)
          refine ⟨?_, ?_⟩
          · intro done f W hP hdn hd K hK
            have d7 := (hd.1 rfl).2
            have e7 : done 7 = true := (hd.1 rfl).1
            clear hd
            replace d7 : f 7 = .pointer (some ⟨wr.heap.size, 2, none⟩) := d7
            generalize f 7 = x7 at *
            subst d7
            clear e7
            have q := cell_of (hP.oth _ (List.mem_cons_of_mem _ (List.mem_singleton.2 rfl))) 2
            simp at q
            go_simp
            exact hK _ _ rfl (hP.pure _ (by decide) _)
          refine ⟨?_, ?_⟩
          · intro done f W hP hdn hd K hK
            have d8 := (hd.1 rfl).2
            have e8 : done 8 = true := (hd.1 rfl).1
            clear hd
            replace d8 : f 8 = .int .i64 (tN : Nat) := d8
            generalize f 8 = x8 at *
            subst d8
            clear e8
            have q : IntKind.u64.wrap (tN : Int) = (tN : Int) := by rw [IntKind.wrap_u64]; omega
            go_simp
            exact hK _ _ rfl (hP.pure _ (by decide) _)
          refine ⟨?_, ?_⟩
          · intro done f W hP hdn hd K hK
            have d6 := (hd.1 rfl).2
            have e6 : done 6 = true := (hd.1 rfl).1
            have d9 := (hd.2.1 rfl).2
            have e9 : done 9 = true := (hd.2.1 rfl).1
            clear hd
            replace d6 : f 6 = .pointer (some ⟨w.heap.size + 1, 0, none⟩) := d6
            replace d9 : f 9 = .int .u64 (tN : Nat) := d9
            generalize f 6 = x6 at *
            subst d6
            generalize f 9 = x9 at *
            subst d9
            clear e9
            have hdn2 : done 10 = false := hdn
            obtain ⟨x0, hO⟩ := hP.now 2 (by decide) hdn2 (Or.inr e6)
            go_simp
            refine Calls.mono (O.num_any (w.heap.size + 1) x0 _ tN 1 W hO (by omega) (by have hq := hbnd; simp [O.numB_length] at hq ⊢; omega)) ?_
            rintro e W' ⟨rfl, x1, hw⟩
            exact hK _ _ rfl (hP.num (by omega) (oth_two _ _ hBlt) ix7_inj rfl 2 (by decide) hdn2 (Or.inr e6) rfl hO hw _)
            -- e6
          trivial
      · obtain rfl : k = n := by omega
        obtain ⟨x, hx⟩ := HR.out.out
        have hby := O.bytes_any (w.heap.size + 1) x _ wr hx
        have HB : Hid (Below w.heap.size w wr) := HR.out.bel
        have e : rhead r ++ O.numB k 1 ++ mbs (r.ms.take k) = rbytes r := by
          unfold rbytes
          rw [List.take_of_length_le (by rw [← HN.out]; exact Nat.le_refl _), ← HN.out]
        rw [e] at hby
        clear HR hx e
        go_wp2_with fail
        go_call hby as e w3 ⟨rfl, rfl⟩
        go_wp2
        go_returns
        exact ⟨rfl, HB.out⟩
  case hputp =>
    repeat (refine ⟨fun f v => rfl, ?_⟩)
    trivial
  case stepp =>
    refine ⟨?_, ?_⟩
    · intro done f W hP hdn hd K hK
      clear hd
      go_simp
      exact hK _ _ rfl (hP.pure _ (by decide) _)
    refine ⟨?_, ?_⟩
    · intro done f W hP hdn hd K hK
      have d0 := (hd.1 rfl).2
      have e0 : done 0 = true := (hd.1 rfl).1
      clear hd
      replace d0 : f 0 = .pointer (some ⟨w.heap.size, 0, none⟩) := d0
      generalize f 0 = x0 at *
      subst d0
      clear e0
      have q := cell_of (hP.oth _ (List.mem_singleton.2 rfl)) 0
      simp at q
      go_simp
      exact hK _ _ rfl (hP.pure _ (by decide) _)
    refine ⟨?_, ?_⟩
    · intro done f W hP hdn hd K hK
      have d1 := (hd.1 rfl).2
      have e1 : done 1 = true := (hd.1 rfl).1
      clear hd
      replace d1 : f 1 = .int .u64 (r.c : Nat) := d1
      generalize f 1 = x1 at *
      subst d1
      clear e1
      have hdn2 : done 2 = false := hdn
      
      obtain ⟨x0, hO⟩ := hP.now 0 (by decide) hdn2 (Or.inl rfl)
      go_simp
      refine Calls.mono (O.num_any (w.heap.size + 1) x0 _ r.c 8 W hO hc (by simp [O.numB_length])) ?_
      rintro e W' ⟨rfl, x1, hw⟩
      exact hK _ _ rfl (hP.num (by omega) (oth_one _) (fun a b _ _ e => by have e' : 3 * a + 2 = 3 * b + 2 := e; omega) rfl 0 (by decide) hdn2 (Or.inl rfl) rfl hO hw _)
    refine ⟨?_, ?_⟩
    · intro done f W hP hdn hd K hK
      clear hd
      go_simp
      exact hK _ _ rfl (hP.pure _ (by decide) _)
    refine ⟨?_, ?_⟩
    · intro done f W hP hdn hd K hK
      have d3 := (hd.1 rfl).2
      have e3 : done 3 = true := (hd.1 rfl).1
      clear hd
      replace d3 : f 3 = .pointer (some ⟨w.heap.size, 1, none⟩) := d3
      generalize f 3 = x3 at *
      subst d3
      clear e3
      have q := cell_of (hP.oth _ (List.mem_singleton.2 rfl)) 1
      simp at q
      go_simp
      exact hK _ _ rfl (hP.pure _ (by decide) _)
    refine ⟨?_, ?_⟩
    · intro done f W hP hdn hd K hK
      have d2 := (hd.1 rfl).2
      have e2 : done 2 = true := (hd.1 rfl).1
      have d4 := (hd.2.1 rfl).2
      have e4 : done 4 = true := (hd.2.1 rfl).1
      clear hd
      replace d2 : f 2 = .pointer (some ⟨w.heap.size + 1, 0, none⟩) := d2
      replace d4 : f 4 = .int .u64 (r.e : Nat) := d4
      generalize f 2 = x2 at *
      subst d2
      generalize f 4 = x4 at *
      subst d4
      clear e4
      have hdn2 : done 5 = false := hdn
      have u2 := e2
      obtain ⟨x0, hO⟩ := hP.now 1 (by decide) hdn2 (Or.inr e2)
      go_simp
      refine Calls.mono (O.num_any (w.heap.size + 1) x0 _ r.e 8 W hO he (by simp [O.numB_length])) ?_
      rintro e W' ⟨rfl, x1, hw⟩
      exact hK _ _ rfl (hP.num (by omega) (oth_one _) (fun a b _ _ e => by have e' : 3 * a + 2 = 3 * b + 2 := e; omega) rfl 1 (by decide) hdn2 (Or.inr e2) rfl hO hw _)
    refine ⟨?_, ?_⟩
    · intro done f W hP hdn hd K hK
      clear hd
      go_simp
      exact hK _ _ rfl (hP.pure _ (by decide) _)
    refine ⟨?_, ?_⟩
    · intro done f W hP hdn hd K hK
      have d6 := (hd.1 rfl).2
      have e6 : done 6 = true := (hd.1 rfl).1
      clear hd
      replace d6 : f 6 = .pointer (some ⟨w.heap.size, 2, none⟩) := d6
      generalize f 6 = x6 at *
      subst d6
      clear e6
      have q := cell_of (hP.oth _ (List.mem_singleton.2 rfl)) 2
      simp at q
      go_simp
      exact hK _ _ rfl (hP.pure _ (by decide) _)
    refine ⟨?_, ?_⟩
    · intro done f W hP hdn hd K hK
      have d5 := (hd.1 rfl).2
      have e5 : done 5 = true := (hd.1 rfl).1
      have d7 := (hd.2.1 rfl).2
      have e7 : done 7 = true := (hd.2.1 rfl).1
      clear hd
      replace d5 : f 5 = .pointer (some ⟨w.heap.size + 1, 0, none⟩) := d5
      replace d7 : f 7 = .int .u64 (r.l : Nat) := d7
      generalize f 5 = x5 at *
      subst d5
      generalize f 7 = x7 at *
      subst d7
      clear e7
      have hdn2 : done 8 = false := hdn
      have u5 := e5
      obtain ⟨x0, hO⟩ := hP.now 2 (by decide) hdn2 (Or.inr e5)
      go_simp
      refine Calls.mono (O.num_any (w.heap.size + 1) x0 _ r.l 8 W hO hl (by simp [O.numB_length])) ?_
      rintro e W' ⟨rfl, x1, hw⟩
      exact hK _ _ rfl (hP.num (by omega) (oth_one _) (fun a b _ _ e => by have e' : 3 * a + 2 = 3 * b + 2 := e; omega) rfl 2 (by decide) hdn2 (Or.inr e5) rfl hO hw _)
    refine ⟨?_, ?_⟩
    · intro done f W hP hdn hd K hK
      clear hd
      go_simp
      exact hK _ _ rfl (hP.pure _ (by decide) _)
    refine ⟨?_, ?_⟩
    · intro done f W hP hdn hd K hK
      have d9 := (hd.1 rfl).2
      have e9 : done 9 = true := (hd.1 rfl).1
      clear hd
      replace d9 : f 9 = .pointer (some ⟨w.heap.size, 3, none⟩) := d9
      generalize f 9 = x9 at *
      subst d9
      clear e9
      have q := cell_of (hP.oth _ (List.mem_singleton.2 rfl)) 3
      simp at q
      go_simp
      exact hK _ _ rfl (hP.pure _ (by decide) _)
    refine ⟨?_, ?_⟩
    · intro done f W hP hdn hd K hK
      have d8 := (hd.1 rfl).2
      have e8 : done 8 = true := (hd.1 rfl).1
      have d10 := (hd.2.1 rfl).2
      have e10 : done 10 = true := (hd.2.1 rfl).1
      clear hd
      replace d8 : f 8 = .pointer (some ⟨w.heap.size + 1, 0, none⟩) := d8
      replace d10 : f 10 = .int .u64 (r.j : Nat) := d10
      generalize f 8 = x8 at *
      subst d8
      generalize f 10 = x10 at *
      subst d10
      clear e10
      have hdn2 : done 11 = false := hdn
      have u8 := e8
      obtain ⟨x0, hO⟩ := hP.now 3 (by decide) hdn2 (Or.inr e8)
      go_simp
      refine Calls.mono (O.num_any (w.heap.size + 1) x0 _ r.j 8 W hO hj (by simp [O.numB_length])) ?_
      rintro e W' ⟨rfl, x1, hw⟩
      exact hK _ _ rfl (hP.num (by omega) (oth_one _) (fun a b _ _ e => by have e' : 3 * a + 2 = 3 * b + 2 := e; omega) rfl 3 (by decide) hdn2 (Or.inr e8) rfl hO hw _)
    trivial
end Go.Proofs.Ytknmipbjkkeebaa
