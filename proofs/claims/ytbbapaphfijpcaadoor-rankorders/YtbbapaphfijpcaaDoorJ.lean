/- RankOrders' walk. -/
import Derived.Test.YtbbapaphfijpcaaDoorI
import Derived.Test.YtbbapaphfijpcaaDoorPB
namespace Go.Proofs.YtbbapaphfijpcaaDoor
open Go.RowKit Go.Sort Go.Lib
theorem comp_congr {a b : List Int} (h : ∀ z, z ∈ a ↔ z ∈ b) : compact (asc a) = compact (asc b) := by
  have h1 := comp_asc a
  have h2 := comp_asc b
  have e : ∀ {l : List Int}, l.Pairwise (· < ·) → l.Pairwise (bt fun _ => 0) := fun h => h.imp (by intro x y hxy; exact Or.inr ⟨rfl, hxy⟩)
  exact pw_uniq (e h1.1) (e h2.1) fun z => by rw [h1.2, h2.2]; exact h z
/-- The last i numbers, the last one first, each twice. -/
def backL (l : List Int) : Nat → List Int
  | 0 => []
  | i + 1 => backL l i ++ [l.getD (l.length - 1 - i) 0, l.getD (l.length - 1 - i) 0]
theorem backL_len (l : List Int) : ∀ i, (backL l i).length = 2 * i
  | 0 => rfl
  | i + 1 => by rw [backL, List.length_append, backL_len l i]; simp; omega
theorem mem_backL {l : List Int} {z : Int} : ∀ i, i ≤ l.length → (z ∈ backL l i ↔ z ∈ l.drop (l.length - i))
  | 0, _ => by simp [backL]
  | i + 1, h => by
    have hlt : l.length - 1 - i < l.length := by omega
    have e : l.drop (l.length - (i + 1)) = l[l.length - 1 - i] :: l.drop (l.length - i) := by
      have e1 := List.drop_eq_getElem_cons (l := l) (i := l.length - 1 - i) hlt
      rw [show l.length - (i + 1) = l.length - 1 - i by omega, e1, show l.length - 1 - i + 1 = l.length - i by omega]
    have eg : l.getD (l.length - 1 - i) 0 = l[l.length - 1 - i] := by simp [List.getD, hlt]
    rw [backL, e, eg, List.mem_append, mem_backL i (by omega)]
    simp only [List.mem_cons, List.not_mem_nil, or_false, or_self]
    exact Or.comm
theorem mem_back {l : List Int} {z : Int} : z ∈ backL l l.length ↔ z ∈ l := by
  rw [mem_backL _ (Nat.le_refl _), Nat.sub_self, List.drop_zero]
/-- What each operation yields. -/
def OV (u8 : Value) (ba oa n cl p : Nat) (x : Int) (g : Nat) : Nat → Value → Prop
  | 0, v => v = u8
  | 1, v => v = .slice (some ⟨ba, oa, none⟩) n cl
  | 2, v => v = .int .i64 (p : Nat)
  | 3, v => v = .pointer (some ⟨ba, oa + p, none⟩)
  | 4, v => v = .int .i64 x
  | 5, v => v = .slice (some ⟨ba, oa, none⟩) n cl
  | 6, v => v = .int .i64 (p : Nat)
  | 7, v => v = .pointer (some ⟨ba, oa + p, none⟩)
  | 8, v => v = .int .i64 x
  | 9, v => v = .slice (some ⟨g, 0, none⟩) 2 2
  | _, _ => True
structure RPh (u8 : Value) (T : Nat) (w0 W0 : World) (x : Int) (ls : List Int) (done : Nat → Bool) (f : Nat → Value) (W : World) : Prop where
  a : done 9 = false → W = W0
  b : done 9 = true → done 10 = false → W = W0.alloc (.cells #[.int .i64 x, .int .i64 x] 3)
  c : done 10 = true → Own T (f 10) ls W ∧ Below T w0 W
  d : done 11 = true → f 11 = f 10
  e : done 11 = true → done 10 = true
  g : done 10 = true → done 9 = true
  u : done 11 = false → f 11 = u8
  all : done 11 = true → ∀ j, j < 11 → done j = true
theorem RPh.start {u8 : Value} {T : Nat} {w0 W0 : World} {x : Int} {ls : List Int} {f : Nat → Value} (hu : f 11 = u8) : RPh u8 T w0 W0 x ls (fun _ => false) f W0 := ⟨fun _ => rfl, (fun e => by cases e), (fun e => by cases e), (fun e => by cases e), (fun e => by cases e), (fun e => by cases e), fun _ => hu, (fun e => by cases e)⟩
theorem RPh.pure {u8 : Value} {T : Nat} {w0 W0 : World} {x : Int} {ls : List Int} {done : Nat → Bool} {f : Nat → Value} {W : World} (h : RPh u8 T w0 W0 x ls done f W) (j : Nat) (hj : j < 9) (v : Value) : RPh u8 T w0 W0 x ls (O.updB done j) (O.upd f j v) W := by
  have e9 : O.updB done j 9 = done 9 := if_neg (by omega)
  have e10 : O.updB done j 10 = done 10 := if_neg (by omega)
  have e11 : O.updB done j 11 = done 11 := if_neg (by omega)
  have f10 : O.upd f j v 10 = f 10 := if_neg (by omega)
  have f11 : O.upd f j v 11 = f 11 := if_neg (by omega)
  obtain ⟨h1, h2, h3, h4, h5, h6, h7, h8⟩ := h
  exact ⟨by rw [e9]; exact h1, by rw [e9, e10]; exact h2, by rw [e10, f10]; exact h3, by rw [e11, f11, f10]; exact h4, by rw [e11, e10]; exact h5, by rw [e10, e9]; exact h6, by rw [e11, f11]; exact h7, by
    rw [e11]; intro q k hk
    unfold O.updB; split
    · rfl
    · exact h8 q k hk⟩
theorem RPh.s9 {u8 : Value} {T : Nat} {w0 W0 : World} {x : Int} {ls : List Int} {done : Nat → Bool} {f : Nat → Value} {W : World} (h : RPh u8 T w0 W0 x ls done f W) (hd : done 9 = false) (v : Value) : RPh u8 T w0 W0 x ls (O.updB done 9) (O.upd f 9 v) (W0.alloc (.cells #[.int .i64 x, .int .i64 x] 3)) := by
  have d10 : done 10 = false := by
    cases e : done 10 with
    | false => rfl
    | true => have := h.g e; rw [hd] at this; cases this
  have d11 : done 11 = false := by
    cases e : done 11 with
    | false => rfl
    | true => have := h.e e; rw [d10] at this; cases this
  have e10 : O.updB done 9 10 = false := (if_neg (by omega)).trans d10
  have e11 : O.updB done 9 11 = false := (if_neg (by omega)).trans d11
  have e9 : O.updB done 9 9 = true := if_pos rfl
  exact ⟨(fun e => by rw [e9] at e; cases e), fun _ _ => rfl, (fun e => by rw [e10] at e; cases e), (fun e => by rw [e11] at e; cases e), (fun e => by rw [e11] at e; cases e), (fun e => by rw [e10] at e; cases e), fun _ => (if_neg (by omega) : O.upd f 9 v 11 = f 11).trans (h.u d11), (fun e => by rw [e11] at e; cases e)⟩
theorem RPh.s10 {u8 : Value} {T : Nat} {w0 W0 : World} {x : Int} {ls : List Int} {done : Nat → Bool} {f : Nat → Value} {W W' : World} (h : RPh u8 T w0 W0 x ls done f W) (h9 : done 9 = true) (hd : done 10 = false) {v : Value} (hO : Own T v ls W') (hB : Below T w0 W') : RPh u8 T w0 W0 x ls (O.updB done 10) (O.upd f 10 v) W' := by
  have d11 : done 11 = false := by
    cases e : done 11 with
    | false => rfl
    | true => have := h.e e; rw [hd] at this; cases this
  have e9 : O.updB done 10 9 = true := (if_neg (by omega)).trans h9
  have e11 : O.updB done 10 11 = false := (if_neg (by omega)).trans d11
  have e10 : O.updB done 10 10 = true := if_pos rfl
  have f10 : O.upd f 10 v 10 = v := if_pos rfl
  exact ⟨(fun e => by rw [e9] at e; cases e), (fun _ e => by rw [e10] at e; cases e), fun _ => by rw [f10]; exact ⟨hO, hB⟩, (fun e => by rw [e11] at e; cases e), (fun e => by rw [e11] at e; cases e), fun _ => e9, fun _ => (if_neg (by omega) : O.upd f 10 v 11 = f 11).trans (h.u d11), (fun e => by rw [e11] at e; cases e)⟩
theorem RPh.s11 {u8 : Value} {T : Nat} {w0 W0 : World} {x : Int} {ls : List Int} {done : Nat → Bool} {f : Nat → Value} {W : World} (h : RPh u8 T w0 W0 x ls done f W) (h10 : done 10 = true) (ha : ∀ j, j < 11 → done j = true) : RPh u8 T w0 W0 x ls (O.updB done 11) (O.upd f 11 (f 10)) W := by
  have h9 := h.g h10
  have e9 : O.updB done 11 9 = true := (if_neg (by omega)).trans h9
  have e10 : O.updB done 11 10 = true := (if_neg (by omega)).trans h10
  have f10 : O.upd f 11 (f 10) 10 = f 10 := if_neg (by omega)
  have f11 : O.upd f 11 (f 10) 11 = f 10 := if_pos rfl
  exact ⟨(fun e => by rw [e9] at e; cases e), (fun _ e => by rw [e10] at e; cases e), fun _ => by rw [f10]; exact h.c h10, fun _ => by rw [f11, f10], fun _ => e10, fun _ => e9, (fun e => by rw [show O.updB done 11 11 = true from if_pos rfl] at e; cases e), fun _ j hj => (if_neg (by omega)).trans (ha j hj)⟩
/-- iappend in a statement that draws its order. -/
theorem iappend_wp {o : Oper} {a : Act} {w : World} {K : Act → World → Prop} {Q : Exit → Act → World → Prop} (s x : Operand) (ho : o.op = .call { callee := .builtin .append, args := #[s, x], argTypes := #[22, 22] })
    (base : Nat) (v : Value) (l : List Int) (hs : a.eval s = v) (hown : Own base v l w) (ad : Addr) (c : Nat) (ms : List Int) (hx : a.eval x = .slice (some ad) ms.length c) (hG : ∀ j, j < ms.length → w.cell? (ad.add j) = some (.int .i64 (ms.getD j 0))) (hl : l.length ≤ 1000) (hm : ms.length ≤ 1000) (hb : base ≤ w.heap.size)
    (k : ∀ v' w', Own base v' (l ++ ms) w' → Below base w w' → K (a.put o.dst v') w') : o.wp Tryd.prog a w K Q := by
  obtain ⟨i0, hi0, hz0, hs0, hby0⟩ := info_parts info3
  refine wp_append_own w s x 22 ho base 3 i0 (.int .i64 0) 1 8 Tryd.underlying22 hi0 hz0 hs0 hby0 (by kernel_rfl) (by decide) v l.length (l.map (Value.int .i64)) hs hown ad ms.length c (ms.map (Value.int .i64)) hx (by simp) ?_ ?_ (by unfold maxLen; omega) (by omega) hb ?_
  · intro j u hj
    have hlt : j < ms.length := by
      have := (List.getElem?_eq_some_iff.1 hj).1
      simpa using this
    rw [hG j hlt]
    rw [← hj]
    simp [hlt]
  · intro u hu
    obtain ⟨y, _, rfl⟩ := List.mem_map.1 hu
    rfl
  · intro v' w' h1 h2 h3
    refine k v' w' ?_ ((Below.refl _ w).grown h2 hb (fun q hq => (World.ownsRow.lt hown q hq).1))
    show w'.ownsRow _ _ _ _ _ _
    rw [List.length_append, List.map_append]
    exact h1
theorem two_at {w : World} {x : Int} {g : Nat} (h : w.heap[g]? = some (.cells #[.int .i64 x, .int .i64 x] 3)) : ∀ j, j < [x, x].length → w.cell? ((⟨g, 0, none⟩ : Addr).add j) = some (.int .i64 ([x, x].getD j 0)) := by
  intro j hj
  rw [Addr.add_lit, Nat.zero_add, cell_of h j]
  match j, hj with
  | 0, _ => rfl
  | 1, _ => rfl
theorem go_if_pos {c : Prop} [Decidable c] {a b : Prop} (h : c) (k : a) : (if c then a else b) := by rw [if_pos h]; exact k
set_option maxHeartbeats 2000000 in
theorem orders_walk {v : Value} {l0 : List Int} (s : ByteArray) (r : Int) (hs : s.size ≤ 9223372036854775807) (w : World) (ht : Tab w) (h : Rd v l0 w) (hz : l0.length ≤ 9223372036854775807) :
    Calls Tryd.prog 3 #[.string s, v, .int .i64 r] w fun e w' => e = .returned (.bool true) ∧ Below w.heap.size w w' := by
  have ha := awake7 w ht
  have HT : Hid (Tab w) := ht
  have HR : Hid (Rd v l0 w) := h
  obtain ⟨ao, cp, rfl, -⟩ := id h
  have hK := cut_size s
  have hcut := cut24 s hs
  obtain ⟨k, hk⟩ : ∃ k, s.extract 0 24 = k := ⟨_, rfl⟩
  rw [hk] at hK hcut
  obtain ⟨l, hl⟩ : ∃ l, fewL l0 = l := ⟨_, rfl⟩
  have hl16 : l.length ≤ 16 := by rw [← hl]; exact fewL_len _
  have HM : Hid (∀ x ∈ l, 0 ≤ x ∧ x ≤ 1000) := by rw [← hl]; exact fun x hx => fewL_mem hx
  have HL : Hid (fewL l0 = l) := hl
  have HC : Hid ((compact (asc l)).length ≤ 19) := comp_le (by omega)
  obtain ⟨o, ho⟩ : ∃ o, ord (wt k) l = o := ⟨_, rfl⟩
  have HO : Hid (ord (wt k) l = o) := ho
  have hol : o.length ≤ 16 := by rw [← ho]; have := ord_len (wt k) l; omega
  clear ht h hk hl ho
  go_enter Tryd.func3, Tryd.ntmps3
  go_wp2_with fail
  go_call ha as e w1 ⟨rfl, b1⟩
  have hcut1 := hcut w1
  have hfew := few9 (HR.out.below b1) hz
  rw [HL.out] at hfew
  have B1 : Hid (Below w.heap.size w w1) := b1
  clear ha b1 hcut
  go_wp2_with fail
  go_call hcut1 as e w1 ⟨rfl, rfl⟩
  go_wp2_with fail
  go_call hfew as e w2 ⟨vl, rfl, ol, b2⟩
  have B2 : Hid (Below w.heap.size w w2) := B1.out.trans (b2.mono B1.out.size)
  have OL : Hid (Rd vl l w2) := ol.rd
  have OLB : Hid (∀ g, vl.ownBlock = some g → g < w2.heap.size) := fun g e => (World.ownsRow.lt ol g e).2
  have hro := refOrder10 (k := k) hK ol.rd (by omega) HM.out
  rw [HO.out] at hro
  obtain ⟨al, cl, rfl⟩ := ol.len
  clear ol b2 hcut1 hfew B1
  go_wp2_with fail
  go_call hro as e w3 ⟨vo, rfl, oo, b3⟩
  have B3 : Hid (Below w.heap.size w w3) := B2.out.trans (b3.mono B2.out.size)
  have OL3 : Hid (Rd (.slice al l.length cl) l w3) := OL.out.below b3
  have OO : Hid (Own w2.heap.size vo o w3) := oo
  clear oo b3 hro OL B2 OLB
  go_wp2_with fail
  go_loopw [8, 9] (fun x y wr => ∃ (i : Nat) (n : Int), y = .int .i64 n ∧ Hid (n + 1 + i = l.length) ∧ i ≤ l.length ∧ Hid (Own w3.heap.size x (backL l i) wr) ∧ Hid (Below w3.heap.size w3 wr)) (fun _ y _ => (intOf y + 1).toNat)
  case atStart => exact ⟨0, _, rfl, by show _ = _; omega, Nat.zero_le _, World.ownsRow_nil _ _ _ _, Below.refl _ _⟩
  case round =>
    obtain ⟨i, n, rfl, hn, hi, hOB, hB⟩ := hrel
    by_cases hlt : i < l.length
    · obtain ⟨p, hp⟩ : ∃ p, l.length - 1 - i = p := ⟨_, rfl⟩
      have hni := hn.out
      obtain rfl : n = (p : Nat) := by omega
      have hpl : p < l.length := by omega
      obtain ⟨a1, c1, e1, -, h5⟩ := OL3.out
      obtain ⟨ba, oa, e2, h6, h7⟩ := h5 (by omega)
      injection e1 with e1 _ e3
      subst e3
      rw [← e1] at e2
      subst e2
      have HX : Hid (backL l (i + 1) = backL l i ++ [l.getD p 0, l.getD p 0]) := by
        show _ = _
        rw [← hp]; rfl
      have hc3 := h7 p hpl
      have c0 : wr.cell? ⟨ba, oa + p, none⟩ = some (.int .i64 (l.getD p 0)) := (hB.out.cell h6).trans hc3
      have HBL : Hid ((backL l i).length ≤ 1000) := by show _ ≤ _; rw [backL_len]; omega
      generalize l.getD p 0 = x at *
      clear h5 h7 e1 hp
      go_wp2_with fail
      have BW0 : Hid (Below w3.heap.size w3 wr.drew) := hB.out.trans (((Below.refl _ _).drew).mono hB.out.size)
      have BW1 : Hid (Below w3.heap.size w3 (wr.drew.alloc (.cells #[.int .i64 x, .int .i64 x] 3))) := hB.out.trans ((((Below.refl _ _).drew).alloc (Nat.le_refl _) _).mono hB.out.size)
      have O2 : Hid (Own w3.heap.size u8 (backL l i) (wr.drew.alloc (.cells #[.int .i64 x, .int .i64 x] 3))) := hOB.out.below (((Below.refl _ _).drew).alloc (Nat.le_refl _) _)
      have HG : Hid ((wr.drew.alloc (.cells #[.int .i64 x, .int .i64 x] 3)).heap[wr.heap.size]? = some (.cells #[.int .i64 x, .int .i64 x] 3)) := heap_new wr.drew _
      have HCL : Hid (∀ W, Below w3.heap.size w3 W → W.cell? ⟨ba, oa + p, none⟩ = some (.int .i64 x)) := fun W hb => (hb.cell h6).trans hc3
      have HOB : Hid _ := hOB
      clear c0 hc3
      refine O.wp_region_pb (fun f => ⟨#[.string k, .slice (some ⟨ba, oa, none⟩) l.length cl, .int .i64 r, undef, undef, undef, .bool false, vo, f 11, .int .i64 (p : Int), undef, undef, undef, undef, undef, .bool true, .bool false, .string s, .string k, .slice ao l0.length cp, .slice (some ⟨ba, oa, none⟩) l.length cl, .string k, .slice (some ⟨ba, oa, none⟩) l.length cl, vo, .slice (some ⟨ba, oa, none⟩) l.length cl, .int .i64 (l.length : Int), .int .i64 ((l.length : Int) - 1), .int .i64 (p : Int), .bool true, u29, u30, f 0, f 1, f 2, f 3, f 4, f 5, f 6, f 7, f 8, f 9, f 10, undef, undef, undef, undef, undef, undef, undef, undef, undef, undef, undef, undef, undef, undef, undef, undef, undef, undef, undef, undef, undef, undef, undef, undef, undef, undef, undef, undef, undef, undef, undef, undef, undef, undef, undef, undef, undef, undef, undef, undef, undef, undef, undef], []⟩) (OV u8 ba oa l.length cl p x wr.heap.size) (RPh u8 w3.heap.size w3 wr.drew x (backL l i ++ [x, x])) (fun i => [u31, u32, u33, u34, u35, u36, u37, u38, u39, u40, u41, u8].getD i undef) (by kernel_rfl) rfl rfl ?hIq ?hputq ?stepq ?finq
      case hIq => exact RPh.start rfl
      case finq =>
        intro f W hP hV
        have v0 : f 0 = u8 := hV 0 (by decide)
        have v1 : f 1 = .slice (some ⟨ba, oa, none⟩) l.length cl := hV 1 (by decide)
        have v2 : f 2 = .int .i64 (p : Nat) := hV 2 (by decide)
        have v3 : f 3 = .pointer (some ⟨ba, oa + p, none⟩) := hV 3 (by decide)
        have v4 : f 4 = .int .i64 x := hV 4 (by decide)
        have v5 : f 5 = .slice (some ⟨ba, oa, none⟩) l.length cl := hV 5 (by decide)
        have v6 : f 6 = .int .i64 (p : Nat) := hV 6 (by decide)
        have v7 : f 7 = .pointer (some ⟨ba, oa + p, none⟩) := hV 7 (by decide)
        have v8 : f 8 = .int .i64 x := hV 8 (by decide)
        have v9 : f 9 = .slice (some ⟨wr.heap.size, 0, none⟩) 2 2 := hV 9 (by decide)
        have h11 := hP.d rfl
        have hc := hP.c rfl
        rw [← h11] at hc
        have H1 : Hid (Own w3.heap.size (f 11) (backL l i ++ [x, x]) W) := hc.1
        have H2 : Hid (Below w3.heap.size w3 W) := hc.2
        clear hc h11 hP hV
        generalize f 0 = z0 at *
        subst v0
        generalize f 1 = z1 at *
        subst v1
        generalize f 2 = z2 at *
        subst v2
        generalize f 3 = z3 at *
        subst v3
        generalize f 4 = z4 at *
        subst v4
        generalize f 5 = z5 at *
        subst v5
        generalize f 6 = z6 at *
        subst v6
        generalize f 7 = z7 at *
        subst v7
        generalize f 8 = z8 at *
        subst v8
        generalize f 9 = z9 at *
        subst v9
        generalize f 10 = z10 at *
        generalize f 11 = z11 at *
        go_wp2
        go_roundw
        case rel => exact ⟨i + 1, (p : Int) - 1, by go_num, by show _ = _; omega, by omega, by rw [HX.out]; exact H1.out, H2.out⟩
        case measure => simp only [intOf]; omega
      case hputq =>
        repeat (refine ⟨fun f v => rfl, ?_⟩)
        trivial
      case stepq =>
        refine ⟨?_, ?_⟩
        · intro done f W hP hdn hd K hK
          clear hd
          go_simp
          have q : f 11 = u8 := hP.u (by
            cases q : done 11 with
            | false => rfl
            | true => have := hP.all q 0 (by decide); rw [hdn] at this; cases this)
          exact hK _ _ q (hP.pure _ (by decide) _)
        refine ⟨?_, ?_⟩
        · intro done f W hP hdn hd K hK
          clear hd
          go_simp
          exact hK _ _ rfl (hP.pure _ (by decide) _)
        refine ⟨?_, ?_⟩
        · intro done f W hP hdn hd K hK
          clear hd
          go_simp
          exact hK _ _ rfl (hP.pure _ (by decide) _)
        refine ⟨?_, ?_⟩
        · intro done f W hP hdn hd K hK
          have d1 := (hd.1 rfl).2
          have e1 : done 1 = true := (hd.1 rfl).1
          have d2 := (hd.2.1 rfl).2
          have e2 : done 2 = true := (hd.2.1 rfl).1
          clear hd
          replace d1 : f 1 = .slice (some ⟨ba, oa, none⟩) l.length cl := d1
          replace d2 : f 2 = .int .i64 (p : Nat) := d2
          generalize f 1 = x1 at *
          subst d1
          clear e1
          generalize f 2 = x2 at *
          subst d2
          clear e2
          go_simp
          exact hK _ _ rfl (hP.pure _ (by decide) _)
        refine ⟨?_, ?_⟩
        · intro done f W hP hdn hd K hK
          have d3 := (hd.1 rfl).2
          have e3 : done 3 = true := (hd.1 rfl).1
          clear hd
          replace d3 : f 3 = .pointer (some ⟨ba, oa + p, none⟩) := d3
          generalize f 3 = x3 at *
          subst d3
          clear e3
          have q := HCL.out W (by
            cases q9 : done 9 with
            | false => rw [hP.a q9]; exact BW0.out
            | true =>
              cases q10 : done 10 with
              | false => rw [hP.b q9 q10]; exact BW1.out
              | true => exact (hP.c q10).2)
          go_simp
          exact hK _ _ rfl (hP.pure _ (by decide) _)
        refine ⟨?_, ?_⟩
        · intro done f W hP hdn hd K hK
          clear hd
          go_simp
          exact hK _ _ rfl (hP.pure _ (by decide) _)
        refine ⟨?_, ?_⟩
        · intro done f W hP hdn hd K hK
          clear hd
          go_simp
          exact hK _ _ rfl (hP.pure _ (by decide) _)
        refine ⟨?_, ?_⟩
        · intro done f W hP hdn hd K hK
          have d5 := (hd.1 rfl).2
          have e5 : done 5 = true := (hd.1 rfl).1
          have d6 := (hd.2.1 rfl).2
          have e6 : done 6 = true := (hd.2.1 rfl).1
          clear hd
          replace d5 : f 5 = .slice (some ⟨ba, oa, none⟩) l.length cl := d5
          replace d6 : f 6 = .int .i64 (p : Nat) := d6
          generalize f 5 = x5 at *
          subst d5
          clear e5
          generalize f 6 = x6 at *
          subst d6
          clear e6
          go_simp
          exact hK _ _ rfl (hP.pure _ (by decide) _)
        refine ⟨?_, ?_⟩
        · intro done f W hP hdn hd K hK
          have d7 := (hd.1 rfl).2
          have e7 : done 7 = true := (hd.1 rfl).1
          clear hd
          replace d7 : f 7 = .pointer (some ⟨ba, oa + p, none⟩) := d7
          generalize f 7 = x7 at *
          subst d7
          clear e7
          have q := HCL.out W (by
            cases q9 : done 9 with
            | false => rw [hP.a q9]; exact BW0.out
            | true =>
              cases q10 : done 10 with
              | false => rw [hP.b q9 q10]; exact BW1.out
              | true => exact (hP.c q10).2)
          go_simp
          exact hK _ _ rfl (hP.pure _ (by decide) _)
        refine ⟨?_, ?_⟩
        · intro done f W hP hdn hd K hK
          have d4 := (hd.1 rfl).2
          have e4 : done 4 = true := (hd.1 rfl).1
          have d8 := (hd.2.1 rfl).2
          have e8 : done 8 = true := (hd.2.1 rfl).1
          clear hd
          replace d4 : f 4 = .int .i64 x := d4
          replace d8 : f 8 = .int .i64 x := d8
          generalize f 4 = x4 at *
          subst d4
          clear e4
          generalize f 8 = x8 at *
          subst d8
          clear e8
          obtain rfl : W = wr.drew := hP.a hdn
          go_simp
          exact hK _ _ rfl (hP.s9 hdn _)
        refine ⟨?_, ?_⟩
        · intro done f W hP hdn hd K hK
          have d0 := (hd.1 rfl).2
          have e0 : done 0 = true := (hd.1 rfl).1
          have d9 := (hd.2.1 rfl).2
          have e9 : done 9 = true := (hd.2.1 rfl).1
          clear hd
          replace d0 : f 0 = u8 := d0
          replace d9 : f 9 = .slice (some ⟨wr.heap.size, 0, none⟩) 2 2 := d9
          generalize f 0 = x0 at *
          subst d0
          clear e0
          generalize f 9 = x9 at *
          subst d9
          have hO2 := O2.out
          obtain rfl : W = wr.drew.alloc (.cells #[.int .i64 x, .int .i64 x] 3) := hP.b e9 hdn
          refine go_if_pos (by rfl) ?_
          refine iappend_wp _ _ rfl w3.heap.size _ (backL l i) rfl hO2 ⟨wr.heap.size, 0, none⟩ 2 [x, x] rfl (two_at HG.out) HBL.out (by simp) BW1.out.size ?_
          intro v' w' h1 h2
          exact hK _ _ trivial (hP.s10 e9 hdn h1 (BW1.out.trans h2))
        refine ⟨?_, ?_⟩
        · intro done f W hP hdn hd K hK
          have d10 := (hd.1 rfl).2
          have e10 : done 10 = true := (hd.1 rfl).1
          have e0 : done 0 = true := (hd.2.2.1 rfl).1
          have e1 : done 1 = true := (hd.2.2.2.1 rfl).1
          have e2 : done 2 = true := (hd.2.2.2.2.1 rfl).1
          have e3 : done 3 = true := (hd.2.2.2.2.2.1 rfl).1
          have e4 : done 4 = true := (hd.2.2.2.2.2.2.1 rfl).1
          have e5 : done 5 = true := (hd.2.2.2.2.2.2.2.1 rfl).1
          have e6 : done 6 = true := (hd.2.2.2.2.2.2.2.2.1 rfl).1
          have e7 : done 7 = true := (hd.2.2.2.2.2.2.2.2.2.1 rfl).1
          have e8 : done 8 = true := (hd.2.2.2.2.2.2.2.2.2.2.1 rfl).1
          have e9 : done 9 = true := (hd.2.2.2.2.2.2.2.2.2.2.2.1 rfl).1
          clear hd
          go_simp
          exact hK _ _ trivial (hP.s11 e10 (by
            intro j hj
            match j, hj with
            | 0, _ => exact e0
            | 1, _ => exact e1
            | 2, _ => exact e2
            | 3, _ => exact e3
            | 4, _ => exact e4
            | 5, _ => exact e5
            | 6, _ => exact e6
            | 7, _ => exact e7
            | 8, _ => exact e8
            | 9, _ => exact e9
            | 10, _ => exact e10))
        trivial
    · have hn1 : n = -1 := by have := hn.out; omega
      have hil : i = l.length := by omega
      subst hn1
      rw [hil] at hOB
      clear hil hlt hi hn
      obtain ⟨bk, hbk⟩ : ∃ x, backL l l.length = x := ⟨_, rfl⟩
      have hbl : bk.length ≤ 64 := by rw [← hbk, backL_len]; omega
      have hbm : ∀ z, z ∈ bk ↔ z ∈ l := fun z => by rw [← hbk]; exact mem_back
      rw [hbk] at hOB
      clear hbk
      have BR : Hid (Below w.heap.size w wr) := B3.out.trans (hB.out.mono B3.out.size)
      have hod := order11 (k := k) hK hOB.out.rd hbl (HT.out.below HT.out.size BR.out) (fun x hx => HM.out x ((hbm x).1 hx)) (by rw [comp_congr hbm]; exact HC.out)
      rw [ord_congr hbm, HO.out] at hod
      obtain ⟨a8, c8, rfl⟩ := hOB.out.len
      have OLr : Hid (Rd (.slice al l.length cl) l wr) := OL3.out.below (hB.out.mono (Nat.le_refl _))
      have OOr : Hid (Own w2.heap.size vo o wr) := OO.out.below hB.out
      clear hB hOB hbm OL3 OO B3
      go_wp2_with fail
      go_call hod as e w4 ⟨vg, rfl, og, b4⟩
      have B4 : Hid (Below w.heap.size w w4) := BR.out.trans (b4.mono BR.out.size)
      have OL4 : Hid (Rd (.slice al l.length cl) l w4) := OLr.out.below b4
      have OO4 : Hid (Own w2.heap.size vo o w4) := OOr.out.below b4
      have OG : Hid (Rd vg o w4) := og.rd
      obtain ⟨ag, cg, rfl⟩ := og.len
      have htp := top12 (k := k) r hK OL4.out (by omega) (HT.out.below HT.out.size B4.out) HM.out HC.out
      rw [HO.out] at htp
      clear og b4 hod BR OLr OOr
      go_wp2_with fail
      go_call htp as e w5 ⟨vt, rfl, ot, b5⟩
      have B5 : Hid (Below w.heap.size w w5) := B4.out.trans (b5.mono B4.out.size)
      have OL5 : Hid (Rd (.slice al l.length cl) l w5) := OL4.out.below b5
      have OO5 : Hid (Own w2.heap.size vo o w5) := OO4.out.below b5
      have OG5 : Hid (Rd (.slice ag o.length cg) o w5) := OG.out.below b5
      obtain ⟨m, hm⟩ : ∃ m : Nat, max 0 (min r (o.length : Int)) = (m : Int) := ⟨(max 0 (min r (o.length : Int))).toNat, by omega⟩
      have hmo : m ≤ o.length := by omega
      have HTK : Hid (o.take r.toNat = o.take m) := by
        show _ = _
        rcases Nat.le_total r.toNat o.length with h | h
        · rw [show m = r.toNat by omega]
        · rw [List.take_of_length_le h, show m = o.length by omega, List.take_length]
      rw [HTK.out] at ot
      have OT : Hid (Rd vt (o.take m) w5) := ot.rd
      have hmz : (o.take m).length = m := by rw [List.length_take]; omega
      obtain ⟨at5, ct, e5⟩ := ot.len
      rw [hmz] at e5
      subst e5
      clear ot b5 htp B4 OL4 OO4 OG HTK hmz
      have hfin : ∀ wr2, Below w5.heap.size w5 wr2 → ∀ vo2 : Value, Rd vo2 (o.take m) wr2 → Calls Tryd.prog 15 #[.slice at5 m ct, vo2] wr2 fun e w' => e = .returned (.bool true) ∧ Below wr2.heap.size wr2 w' := by
        intro wr2 hb vo2 hv
        have := same15 (OT.out.below hb) hv (by rw [List.length_take]; omega) (by rw [List.length_take]; omega)
        rw [decide_eq_true rfl] at this
        exact this
      have HFIN : Hid (∀ wr2, Below w5.heap.size w5 wr2 → ∀ vo2 : Value, Rd vo2 (o.take m) wr2 → Calls Tryd.prog 15 #[.slice at5 m ct, vo2] wr2 fun e w' => e = .returned (.bool true) ∧ Below wr2.heap.size wr2 w') := hfin
      clear hfin OT
      -- the weights
      have HW13 : Hid (∀ x ∈ l, ∀ W, Below w5.heap.size w5 W → Calls Tryd.prog 13 #[.string k, .int .i64 x] W fun e w' => e = .returned (.int .u64 (wt k x)) ∧ Below W.heap.size W w') := fun x _ W hb => weight13 (k := k) hK x W (HT.out.below HT.out.size (B5.out.trans (hb.mono B5.out.size)))
      have HW14 : Hid (∀ x ∈ l, ∀ W, Calls Tryd.prog 14 #[.string k, .int .i64 x] W fun e w' => e = .returned (.int .u64 (wt k x)) ∧ w' = W) := fun x hx W => refWeight_any k hK x (HM.out x hx) W
      have HSM : Hid (∀ v1 v2 wr2, Rd v1 o wr2 → Rd v2 o wr2 → Calls Tryd.prog 15 #[v1, v2] wr2 fun e w' => e = .returned (.bool true) ∧ Below wr2.heap.size wr2 w') := by
        intro v1 v2 wr2 h1 h2
        have := same15 h1 h2 (by omega) (by omega)
        rw [decide_eq_true rfl] at this
        exact this
      have HOR : Hid (∀ W, Below w5.heap.size w5 W → Calls Tryd.prog 11 #[.string k, .slice al l.length cl] W fun e w' => ∃ v', e = .returned v' ∧ Rd v' o w' ∧ (∃ a c, v' = .slice a o.length c) ∧ Below W.heap.size W w') := by
        intro W hb
        have := order11 (k := k) hK (OL5.out.below hb) (by omega) (HT.out.below HT.out.size (B5.out.trans (hb.mono B5.out.size))) HM.out HC.out
        rw [HO.out] at this
        refine this.mono ?_
        rintro e w' ⟨v', rfl, o', hb2⟩
        exact ⟨v', rfl, o'.rd, o'.len, hb2⟩
      clear HT HM HC HO
      rcases OO5.out.cases with ⟨rfl, e0⟩ | ⟨g, cap, cur, rfl, e2, e3, e4, _, _, _⟩
      · subst e0
        obtain rfl : m = 0 := by simpa using hmo
        have hm0 : max (0 : Int) (min r 0) = 0 := by omega
        clear hmo hm
        go_wp2_with fail
        go_loopw [56] (fun y wr2 => ∃ (j : Nat), y = .int .i64 (j : Nat) ∧ j ≤ l.length ∧ Hid (Below w5.heap.size w5 wr2)) (fun y _ => l.length - (intOf y).toNat)
        case atStart => exact ⟨0, rfl, Nat.zero_le _, Below.refl _ _⟩
        case round =>
          obtain ⟨j, rfl, hj, hb2⟩ := hrel
          by_cases hjl : j < l.length
          · obtain ⟨a1, c1, e1, -, h5⟩ := OL5.out
            obtain ⟨ba, oa, e2, h6, h7⟩ := h5 (by omega)
            injection e1 with e1 _ e3
            subst e3
            rw [← e1] at e2
            subst e2
            have cj : wr.cell? ⟨ba, oa + j, none⟩ = some (.int .i64 (l.getD j 0)) := (hb2.out.cell h6).trans (h7 j hjl)
            have hel : l.getD j 0 ∈ l := by
              have e : l.getD j 0 = l[j] := by simp [List.getD, hjl]
              rw [e]; exact List.getElem_mem hjl
            have hw13 := HW13.out _ hel wr hb2.out
            have hw14 := HW14.out _ hel
            generalize l.getD j 0 = x at *
            generalize wt k x = q at *
            clear h5 h7 hel e1
            go_wp2_with fail
            go_call hw13 as e w6 ⟨rfl, b6⟩
            have hw15 := hw14 w6
            have B6 : Hid (Below w5.heap.size w5 w6) := hb2.out.trans (b6.mono hb2.out.size)
            clear hw13 hw14 b6 cj
            go_wp2_with fail
            go_call hw15 as e w7 ⟨rfl, rfl⟩
            go_wp2
            go_roundw
            case rel => exact ⟨j + 1, by go_num, by omega, B6.out⟩
            case measure => simp only [intOf]; omega
          · have h1 := HSM.out _ _ wr (OG5.out.below hb2.out) (OO5.out.below hb2.out).rd
            clear hj
            go_wp2_with fail
            go_call h1 as e w6 ⟨rfl, b6⟩
            have B6 : Hid (Below w5.heap.size w5 w6) := hb2.out.trans (b6.mono hb2.out.size)
            have h2 := HOR.out w6 B6.out
            clear h1 b6 hb2
            go_wp2_with fail
            go_call h2 as e w7 ⟨v7, rfl, r7, ⟨a7, c7, rfl⟩, b7⟩
            have B7 : Hid (Below w5.heap.size w5 w7) := B6.out.trans (b7.mono B6.out.size)
            have h3 := HSM.out _ _ w7 r7 (OO5.out.below B7.out).rd
            clear h2 b7 r7 B6
            go_wp2_with fail
            go_call h3 as e w8 ⟨rfl, b8⟩
            have B8 : Hid (Below w5.heap.size w5 w8) := B7.out.trans (b8.mono B7.out.size)
            have h4 := HFIN.out w8 B8.out (.slice none 0 0) (by rw [List.take_nil]; exact ⟨none, 0, rfl, Nat.le_refl _, fun h => absurd h (Nat.lt_irrefl _)⟩)
            clear h3 b8 B7
            go_wp2_with fail
            go_call h4 as e w9 ⟨rfl, b9⟩
            go_wp2
            go_ret
            exact ⟨rfl, B5.out.trans ((B8.out.trans (b9.mono B8.out.size)).mono B5.out.size)⟩
      · have hcap : (m : Int) ≤ (cap : Int) := by omega
        clear e2 e3 e4
        go_wp2_with fail
        go_loopw [56] (fun y wr2 => ∃ (j : Nat), y = .int .i64 (j : Nat) ∧ j ≤ l.length ∧ Hid (Below w5.heap.size w5 wr2)) (fun y _ => l.length - (intOf y).toNat)
        case atStart => exact ⟨0, rfl, Nat.zero_le _, Below.refl _ _⟩
        case round =>
          obtain ⟨j, rfl, hj, hb2⟩ := hrel
          by_cases hjl : j < l.length
          · obtain ⟨a1, c1, e1, -, h5⟩ := OL5.out
            obtain ⟨ba, oa, e2, h6, h7⟩ := h5 (by omega)
            injection e1 with e1 _ e3
            subst e3
            rw [← e1] at e2
            subst e2
            have cj : wr.cell? ⟨ba, oa + j, none⟩ = some (.int .i64 (l.getD j 0)) := (hb2.out.cell h6).trans (h7 j hjl)
            have hel : l.getD j 0 ∈ l := by
              have e : l.getD j 0 = l[j] := by simp [List.getD, hjl]
              rw [e]; exact List.getElem_mem hjl
            have hw13 := HW13.out _ hel wr hb2.out
            have hw14 := HW14.out _ hel
            generalize l.getD j 0 = x at *
            generalize wt k x = q at *
            clear h5 h7 hel e1
            go_wp2_with fail
            go_call hw13 as e w6 ⟨rfl, b6⟩
            have hw15 := hw14 w6
            have B6 : Hid (Below w5.heap.size w5 w6) := hb2.out.trans (b6.mono hb2.out.size)
            clear hw13 hw14 b6 cj
            go_wp2_with fail
            go_call hw15 as e w7 ⟨rfl, rfl⟩
            go_wp2
            go_roundw
            case rel => exact ⟨j + 1, by go_num, by omega, B6.out⟩
            case measure => simp only [intOf]; omega
          · have h1 := HSM.out _ _ wr (OG5.out.below hb2.out) (OO5.out.below hb2.out).rd
            clear hj
            go_wp2_with fail
            go_call h1 as e w6 ⟨rfl, b6⟩
            have B6 : Hid (Below w5.heap.size w5 w6) := hb2.out.trans (b6.mono hb2.out.size)
            have h2 := HOR.out w6 B6.out
            clear h1 b6 hb2
            go_wp2_with fail
            go_call h2 as e w7 ⟨v7, rfl, r7, ⟨a7, c7, rfl⟩, b7⟩
            have B7 : Hid (Below w5.heap.size w5 w7) := B6.out.trans (b7.mono B6.out.size)
            have h3 := HSM.out _ _ w7 r7 (OO5.out.below B7.out).rd
            clear h2 b7 r7 B6
            go_wp2_with fail
            go_call h3 as e w8 ⟨rfl, b8⟩
            have B8 : Hid (Below w5.heap.size w5 w8) := B7.out.trans (b8.mono B7.out.size)
            have h4 := HFIN.out w8 B8.out (.slice (some ⟨g, 0, none⟩) m cap) ((OO5.out.below B8.out).take hmo).rd
            clear h3 b8 B7
            go_wp2_with fail
            go_call h4 as e w9 ⟨rfl, b9⟩
            go_wp2
            go_ret
            exact ⟨rfl, B5.out.trans ((B8.out.trans (b9.mono B8.out.size)).mono B5.out.size)⟩
end Go.Proofs.YtbbapaphfijpcaaDoor
