/- SlotsWhole: the walk. -/
import Derived.Test.YtknmipbjkkeebaaGreatKG
import Derived.Test.YtknmipbjkkeebaaGreatJL
namespace Go.Proofs.YtknmipbjkkeebaaGreat
open Go.RowKit
/-- A Try, whole. -/
structure TryBt (w : World) (LK a : Nat) (tx : ByteArray) (sz af : Int) (dn dd : Bool) (ca : Option Addr) (cn cc CK cO : Nat) (ch : Nat → Int) : Prop where
  t : TryAt w LK a tx sz af ca cn cc CK cO ch
  dn : w.cell? ⟨LK, a + 3, none⟩ = some (.bool dn)
  dd : w.cell? ⟨LK, a + 4, none⟩ = some (.bool dd)
/-- Where the rounds stand. -/
def WsI (b0 : Nat) (w : World) (L : F.Loc) (ol : List (Nat × Obj)) (mays : List ByteArray) (ns : Bool) (k : Nat) (W : World) : Prop :=
  ∃ st lv, F.One b0 w L st lv ol W ∧ Rs k st ∧ WI mays ns k st
theorem tl_ne {a b : ByteArray} (h : ¬ a = b) : (a.toList == b.toList) = false := by
  rw [Lib.toList_data, Lib.toList_data]
  exact beq_false_of_ne (fun e => h (ByteArray.ext (Array.ext' e)))
theorem may_ne5 {v : Value} {mays : List ByteArray} {ol : List (Nat × Obj)} (h : May v mays ol) : ∀ p ∈ ol, ∃ c, p.2 = .cells c 9 := by
  rcases h with ⟨rfl, rfl, rfl⟩ | ⟨g, cap, cur, rfl, rfl, _⟩
  · intro p hp; cases hp
  · intro p hp; rw [List.mem_singleton.1 hp]; exact ⟨cur, rfl⟩
/-- Behind a round's Write, whatever a crash leaves: the texts stand as they should. -/
def Pst (T : Nat) (w : World) (L : F.Loc) (k : Nat) (mays : List ByteArray) (ns : Bool) (oth : List (Nat × Obj)) (W : World) : Prop :=
  ∃ st lv ats now sure, F.One T w L st lv oth W ∧ st.serial = 1 ∧ st.there = true ∧ st.n = 32 ∧ 0 ≤ st.session ∧ st.session ≤ 1 + (k : Int) ∧ 0 ≤ st.count ∧ st.count ≤ 60 * (k : Int) + 50 ∧ F.Dv st ats now sure ∧
    ∀ st2 ats2 now', st2.n = 32 → F.Dv st2 ats2 now' now' → (∀ i, i < 32 → now' i = now i ∨ now' i = sure i) → WI mays ns (k + 1) st2
theorem Pst.mono {T : Nat} {w : World} {L : F.Loc} {k : Nat} {mays : List ByteArray} {ns : Bool} {oth oth2 : List (Nat × Obj)} {W W2 : World} (h : Pst T w L k mays ns oth W) (ho : ∀ st lv, F.One T w L st lv oth W → F.One T w L st lv oth2 W2) : Pst T w L k mays ns oth2 W2 := by
  obtain ⟨st, lv, ats, now, sure, o, r⟩ := h
  exact ⟨st, lv, ats, now, sure, ho st lv o, r⟩
theorem Pst.ones {T : Nat} {w : World} {L : F.Loc} {k : Nat} {mays : List ByteArray} {ns : Bool} {oth : List (Nat × Obj)} {W : World} (h : Pst T w L k mays ns oth W) : ∃ st lv, F.One T w L st lv oth W := by
  obtain ⟨st, lv, ats, now, sure, o, r⟩ := h
  exact ⟨st, lv, o⟩
theorem pst_end {T : Nat} {w : World} {L : F.Loc} {k S M : Nat} {st : F.St} {Tt : Nat → Nat → ByteArray} {G : Nat → Nat → Pg} {ats : Nat → Nat} {now : Nat → ByteArray} {x : ByteArray} {oth : List (Nat × Obj)} {W : World} (hE : WEnd T w L st S M (fnd G) oth now x W) (hx : x.size ≤ 640) (hr : Rt k st) (hk : k ≤ 1000) (hl : Lies k Tt G st) (hd : F.Dv st ats now now) : Pst T w L k [x] false oth W := by
  obtain ⟨st', lv', o1, kp, c0, c1, ats1, hd1⟩ := hE
  have s0 := hr.s0; have s1 := hr.s1; have e0 := hr.c0; have e1 := hr.c1; have hn := hr.n
  refine ⟨st', lv', ats1, _, _, o1.forget (fun p hp => List.mem_cons_of_mem _ hp), by rw [kp.serial]; exact hr.serial, by rw [kp.there]; exact hr.there, by rw [kp.n]; exact hn, by rw [kp.session]; omega, by rw [kp.session]; omega, by omega, by omega, hd1, fun st2 ats2 now' n2 d2 he => ?_⟩
  obtain ⟨T', G', a, b, c, d, e⟩ := hl.wrote (by omega) hd x hx rfl (by rw [n2, hn]) d2 (fun i hi => he i (by omega))
  exact wi_end hl a b c d e
theorem pst_brk {T : Nat} {w : World} {L : F.Loc} {k : Nat} {st : F.St} {Tt : Nat → Nat → ByteArray} {G : Nat → Nat → Pg} {ats : Nat → Nat} {now : Nat → ByteArray} {x : ByteArray} {oth : List (Nat × Obj)} {W : World} {mays : List ByteArray} {ns : Bool} (hE : WBrk T w L st (fnd G) oth now x W) (hx : x.size ≤ 640) (hr : Rt k st) (hk : k ≤ 1000) (hl : Lies k Tt G st) (hd : F.Dv st ats now now)
    (h1 : ∀ c, c < 2 → Whl (G c) → (G c 0).q = (scan G 2).sl.seq → Tt c (G c 0).q ∈ mays) (h2 : ns = true ∨ (scan G 2).sl.seq ≠ 0) : Pst T w L k (mays ++ [x]) ns oth W := by
  obtain ⟨st', lv', o1, kp, c0, c1, ats1, now2, sure2, hd1, hfr⟩ := hE
  have s0 := hr.s0; have s1 := hr.s1; have e0 := hr.c0; have e1 := hr.c1; have hn := hr.n
  refine ⟨st', lv', ats1, _, _, o1, by rw [kp.serial]; exact hr.serial, by rw [kp.there]; exact hr.there, by rw [kp.n]; exact hn, by rw [kp.session]; omega, by rw [kp.session]; omega, by omega, by omega, hd1, fun st2 ats2 now' n2 d2 he => ?_⟩
  obtain ⟨T', G', a, d, e, f⟩ := hl.broke2 (by omega) hd x hx hfr (by rw [n2, hn]) d2 (fun i hi => he i (by omega))
  exact wi_brk hl h1 h2 a d e f
theorem Pst.crash {T : Nat} {w : World} {L : F.Loc} {k : Nat} {mays : List ByteArray} {ns : Bool} {oth : List (Nat × Obj)} {W : World} (h : Pst T w L k mays ns oth W) (hk : k ≤ 1000) (K o N : Nat) (c : Value) (ch : Nat → Int) (hc : F.ChL K o N 0 c) (hch : ∀ W, Below T w W → ∀ j, j < N → W.cell? ⟨K, o + j, none⟩ = some (.int .i64 (ch j))) :
    Calls Tryz.prog 21 #[.pointer (some ⟨L.P, 0, none⟩), c] W fun e w' => e = .returned (.tuple #[]) ∧ WsI T w L oth mays ns (k + 1) w' := by
  obtain ⟨st, lv, ats, now, sure, o1, q1, q2, q3, q4, q5, q6, q7, hd1, hf⟩ := h
  refine (o1.crash_dv hd1 q2 (by omega) ⟨q4, by omega⟩ K o N c ch hc hch).mono ?_
  rintro e w' ⟨rfl, st2, now', o2, hd2, he, p1, p2, p3, p4, p5, p6, p7, p8, p9⟩
  refine ⟨rfl, st2, _, o2, ⟨p7, p5, p6, by rw [p1]; exact q1, p3, by rw [p4]; exact q3, by rw [p2]; omega, by rw [p2]; omega, by rw [p8]; exact q6, by rw [p8]; omega, ats, now', hd2⟩, ?_⟩
  rw [q3] at he
  exact hf st2 ats now' (by rw [p4]; exact q3) hd2 he
/-- Phases of 'next := long(..)': the place is made, and filled. -/
structure AP (w8 : World) (x : ByteArray) (done : Nat → Bool) (f : Nat → Value) (W : World) : Prop where
  a : done 6 = false → W = w8
  b : done 6 = true → done 7 = false → W = w8.alloc (.cells #[.string ⟨#[]⟩] 9)
  c : done 7 = true → W = w8.alloc (.cells #[.string x] 9)
  o : done 6 = false → done 7 = false
theorem AP.pure {w8 : World} {x : ByteArray} {done : Nat → Bool} {f : Nat → Value} {W : World} (h : AP w8 x done f W) (i : Nat) (hi : i ≠ 6 ∧ i ≠ 7) (v : Value) : AP w8 x (F.updB done i) (F.upd f i v) W := by
  have e6 : F.updB done i 6 = done 6 := if_neg (Ne.symm hi.1)
  have e7 : F.updB done i 7 = done 7 := if_neg (Ne.symm hi.2)
  exact ⟨by rw [e6]; exact h.a, by rw [e6, e7]; exact h.b, by rw [e7]; exact h.c, by rw [e6, e7]; exact h.o⟩
theorem AP.made {w8 : World} {x : ByteArray} {done : Nat → Bool} {f : Nat → Value} {W : World} (h : AP w8 x done f W) (h6 : done 6 = false) (v : Value) : AP w8 x (F.updB done 6) (F.upd f 6 v) (W.alloc (.cells #[.string ⟨#[]⟩] 9)) := by
  have e6 : F.updB done 6 6 = true := if_pos rfl
  have e7 : F.updB done 6 7 = done 7 := if_neg (by decide)
  have h7 := h.o h6
  have hw := h.a h6
  subst hw
  exact ⟨by rw [e6]; exact (fun e => by cases e), fun _ _ => rfl, by rw [e7, h7]; exact (fun e => by cases e), by rw [e6]; exact (fun e => by cases e)⟩
theorem AP.filled {w8 : World} {x : ByteArray} {done : Nat → Bool} {f : Nat → Value} {W : World} (_ : AP w8 x done f W) (h6 : done 6 = true) (_ : done 7 = false) (v : Value) : AP w8 x (F.updB done 7) (F.upd f 7 v) (w8.alloc (.cells #[.string x] 9)) := by
  have e6 : F.updB done 7 6 = done 6 := if_neg (by decide)
  have e7 : F.updB done 7 7 = true := if_pos rfl
  exact ⟨by rw [e6, h6]; exact (fun e => by cases e), by rw [e7]; exact (fun _ e => by cases e), fun _ => rfl, by rw [e6, h6]; exact (fun e => by cases e)⟩
theorem AP.cell {w8 : World} {x : ByteArray} {done : Nat → Bool} {f : Nat → Value} {W : World} (h : AP w8 x done f W) {b o : Nat} {v : Value} (hv : w8.cell? ⟨b, o, none⟩ = some v) : W.cell? ⟨b, o, none⟩ = some v := by
  have hlt := World.block_lt_of_cell? w8 _ hv
  cases h6 : done 6 with
  | false => rw [h.a h6]; exact hv
  | true =>
    cases h7 : done 7 with
    | false => rw [h.b h6 h7, World.cell?_alloc_past _ _ _ hlt]; exact hv
    | true => rw [h.c h7, World.cell?_alloc_past _ _ _ hlt]; exact hv
def V23 (X : Nat) (w8 : World) (tx : ByteArray) (sz : Int) (x : ByteArray) : Nat → Value → Prop
  | 0, v => v = .pointer (some ⟨X, 0, none⟩)
  | 1, v => v = .string tx
  | 2, v => v = .string (tx.extract 0 9)
  | 3, v => v = .pointer (some ⟨X, 1, none⟩)
  | 4, v => v = .int .i64 (sz)
  | 5, v => v = .string x
  | 6, v => v = .pointer (some ⟨w8.heap.size, 0, none⟩)
  | _, _ => True
/-- Within a block, what comes behind it is a name. -/
theorem wp_block_hide {P : Program} {id : Nat} {c : Code} {K : Act → World → Prop} {Q : Exit → Act → World → Prop} {a : Act} {w : World}
    (h : ∀ Q0 : Exit → Act → World → Prop, (∀ a w, K a w → Q0 .normal a w) → (∀ a w, K a w → Q0 (.exit id) a w) → c.wp P Q0 a w) : (Code.block id c).wp P (Exit.then K Q) a w :=
  wp_block (h _ (fun _ _ hk => hk) (fun a w hk => by
    show (if id = id then Exit.then K Q .normal a w else _)
    rw [if_pos rfl]; exact hk))
set_option maxHeartbeats 16000000 in
set_option maxRecDepth 100000 in
theorem whole_walk (la : Option Addr) (ln lc LK lO : Nat) (txs : Nat → ByteArray) (szs afs : Nat → Int) (dns dds : Nat → Bool) (cas : Nat → Option Addr) (cns ccs CKs cOs : Nat → Nat) (chs : Nat → Nat → Int) (w : World) (hla : 0 < ln → la = some ⟨LK, lO, none⟩)
    (hrow : ∀ j, j < ln → TryBt w LK (lO + j * 6) (txs j) (szs j) (afs j) (dns j) (dds j) (cas j) (cns j) (ccs j) (CKs j) (cOs j) (chs j)) :
    Calls Tryz.prog 4 #[.slice la ln lc] w fun e w' => e = .returned (.bool true) ∧ Below w.heap.size w w' := by
  have HLA : Hid _ := hla
  have HROW : Hid _ := hrow
  clear hla hrow
  go_enter Tryz.func4, Tryz.ntmps4
  go_wp2_with fail
  go_call (awake9 _) as e w1 ⟨rfl, hb1⟩
  have hmk := F.made_any w.heap.size w w1 [] hb1 hb1.size (by intro p hp; cases hp) 1 (by decide) (by decide) 32 (by decide) (by decide)
  clear hb1
  obtain ⟨T, hT⟩ : ∃ T, T = w.heap.size := ⟨_, rfl⟩
  rw [← hT] at hmk
  have HT : Hid _ := hT
  clear hT
  go_wp2_with fail
  go_call hmk as e w2 ⟨L, M0, rfl, o2⟩
  have H0 : Hid (WsI T w L [] [] true 0 w2) :=
    ⟨_, _, o2.forget (fun p hp => by cases hp), ⟨rfl, rfl, rfl, rfl, rfl, rfl, by decide, by decide, by decide, by decide, _, _, F.dv0 1 32⟩, wi0 1⟩
  clear hmk o2
  go_wp2
  go_loopw [5, 6, 7] (fun mv nv iv wr => ∃ (k : Nat) (mays : List ByteArray) (ns : Bool) (ol : List (Nat × Obj)), k ≤ ln ∧ k ≤ 12 ∧ mays.length ≤ k ∧ Hid (May mv mays ol) ∧ nv = .bool ns ∧ iv = .int .i64 (k : Nat) ∧ Hid (WsI T w L ol mays ns k wr)) (fun _ _ iv _ => 12 - (intOf iv).toNat)
  case atStart => exact ⟨0, [], true, [], by omega, by omega, Nat.le_refl _, Or.inl ⟨rfl, rfl, rfl⟩, rfl, rfl, H0⟩
  case round =>
    clear H0
    obtain ⟨k, mays, ns, ol, hk1, hk2, hml, HM, rfl, rfl, HI⟩ := hrel
    obtain ⟨st, lv, hO, hR, hWI⟩ := HI.out
    clear HI
    by_cases hkt : k < ln ∧ k < 12
    · obtain ⟨hk3, hk4⟩ := hkt
      obtain rfl := HLA.out (by omega)
      obtain ⟨Tt, Gg, hL, hw1, hw2⟩ := hWI
      obtain ⟨ats, now, hd⟩ := hR.dv
      have hkT : T = w.heap.size := HT.out
      have hin := HROW.out k hk3
      have HTR : Hid (∀ W, Below T w W → TryBt W LK (lO + k * 6) (txs k) (szs k) (afs k) (dns k) (dds k) (cas k) (cns k) (ccs k) (CKs k) (cOs k) (chs k)) := fun W hb => by
        have cl : ∀ a v, w.cell? a = some v → W.cell? a = some v := fun a v q => (hb.cell (by rw [hkT]; exact World.block_lt_of_cell? w _ q)).trans q
        exact ⟨⟨cl _ _ hin.t.tx, cl _ _ hin.t.sz, cl _ _ hin.t.af, cl _ _ hin.t.cs, hin.t.le, hin.t.mx, hin.t.at0, fun j hj => cl _ _ (hin.t.row j hj)⟩, cl _ _ hin.dn, cl _ _ hin.dd⟩
      have ht0 := HTR.out wr hO.below
      have z0 := ht0.t.tx
      have z1 := ht0.t.sz
      have z2 := ht0.t.af
      have z3 := ht0.dn
      have z4 := ht0.dd
      have z5 := ht0.t.cs
      have o1 := hO.alloc (.cells #[.string (txs k), .int .i64 (szs k), .int .i64 (afs k), .bool (dns k), .bool (dds k), .slice (cas k) (cns k) (ccs k)] 45) (F.apart_of (by decide))
      have hop := opened_one o1 hR.serial (by
        intro p hp c fz
        rcases List.mem_cons.1 hp with rfl | hp
        · intro e; injection e with _ e _; exact absurd e (by decide)
        · obtain ⟨c', e'⟩ := may_ne5 HM.out p hp
          rw [e']; intro e; injection e with _ e _; exact absurd e (by decide)) Gg hL.anc hR.down hR.there hR.aw hR.hw ⟨hR.c0, by have := hR.c1; omega⟩
      have hwo := wi_open hL hw1 hw2
      have lol : ∀ p ∈ ol, p.1 < wr.heap.size := hO.lts
      have HL : Hid _ := hL
      have HD : Hid _ := hd
      have HR : Hid _ := hR
      have HW1 : Hid _ := hw1
      have HW2 : Hid _ := hw2
      have HLO : Hid _ := lol
      obtain ⟨isb, hisb⟩ : ∃ isb, isb = decide (0 < (scan Gg 2).found) := ⟨_, rfl⟩
      obtain ⟨tt, htt⟩ : ∃ tt, tt = (scan Gg 2).text := ⟨_, rfl⟩
      rw [← hisb, ← htt] at hop hwo
      have HWO : Hid _ := hwo
      clear hin hO hd hR hL hkT hw1 hw2 lol hwo hisb htt ht0 o1
      have hki : (k : Int) < (ln : Int) := by omega
      refine wp_seq_k (fun K0 hK0 => ?_)
      have HK0 : Hid _ := hK0
      clear hK0
      go_wp2
      refine HK0.out _ _ ?_
      clear HK0
      refine wp_seq_k (fun K1 hK1 => ?_)
      have HEND : Hid (∀ (mv2 : Value) (mays2 : List ByteArray) (ns2 : Bool) (ol2 : List (Nat × Obj)) (x2 x8 x9 x10 x11 x12 x13 x15 x16 x17 x18 x38 x39 x40 x41 x42 x43 x44 x45 x46 x47 x48 x49 x50 x51 x52 x53 x54 x55 x56 x57 x58 x59 x60 x61 x62 x63 x64 x65 x66 x67 x68 x69 x70 x71 x72 x73 x74 x75 x76 x77 x78 x79 x80 x81 x82 x83 x84 x85 x86 x87 x88 x89 x90 x91 x92 x93 x94 x95 x96 x97 x98 x99 x100 x101 x102 x103 x104 x105 x106 x107 x108 x109 x110 x111 x112 x113 x114 x115 x116 x117 x118 x119 x120 x121 x122 x123 x124 x125 x126 x127 x128 x129 x130 x131 x132 x133 x134 x135 : Value) (W : World), mays2.length ≤ k + 1 → May mv2 mays2 ol2 → WsI T w L ol2 mays2 ns2 (k + 1) W → K1 ⟨#[.slice (some ⟨LK, lO, none⟩) ln lc, undef, x2, .pointer (some ⟨L.P, 0, none⟩), .pointer (some ⟨M0, 0, none⟩), mv2, .bool ns2, .int .i64 (k : Nat), x8, x9, x10, x11, x12, x13, undef, x15, x16, x17, x18, undef, undef, undef, undef, undef, undef, undef, .bool true, .bool false, .tuple #[.pointer (some ⟨L.P, 0, none⟩), .pointer (some ⟨M0, 0, none⟩)], .tuple #[.pointer (some ⟨L.P, 0, none⟩), .pointer (some ⟨M0, 0, none⟩)], .pointer (some ⟨L.P, 0, none⟩), .pointer (some ⟨M0, 0, none⟩), .pointer (some ⟨L.P, 0, none⟩), .bool false, .bool false, .pointer (some ⟨M0, 0, none⟩), .bool false, .bool false, x38, x39, x40, x41, x42, x43, x44, x45, x46, x47, x48, x49, x50, x51, x52, x53, x54, x55, x56, x57, x58, x59, x60, x61, x62, x63, x64, x65, x66, x67, x68, x69, x70, x71, x72, x73, x74, x75, x76, x77, x78, x79, x80, x81, x82, x83, x84, x85, x86, x87, x88, x89, x90, x91, x92, x93, x94, x95, x96, x97, x98, x99, x100, x101, x102, x103, x104, x105, x106, x107, x108, x109, x110, x111, x112, x113, x114, x115, x116, x117, x118, x119, x120, x121, x122, x123, x124, x125, x126, x127, x128, x129, x130, x131, x132, x133, x134, x135, undef, undef, undef, undef, undef, undef, undef, undef, undef, undef, undef, undef, undef, undef, undef, undef, undef, undef, undef, undef, undef, undef, undef, undef, undef, undef, undef, undef, undef, undef, undef, undef], []⟩ W) := by
        intro mv2 mays2 ns2 ol2 x2 x8 x9 x10 x11 x12 x13 x15 x16 x17 x18 x38 x39 x40 x41 x42 x43 x44 x45 x46 x47 x48 x49 x50 x51 x52 x53 x54 x55 x56 x57 x58 x59 x60 x61 x62 x63 x64 x65 x66 x67 x68 x69 x70 x71 x72 x73 x74 x75 x76 x77 x78 x79 x80 x81 x82 x83 x84 x85 x86 x87 x88 x89 x90 x91 x92 x93 x94 x95 x96 x97 x98 x99 x100 x101 x102 x103 x104 x105 x106 x107 x108 x109 x110 x111 x112 x113 x114 x115 x116 x117 x118 x119 x120 x121 x122 x123 x124 x125 x126 x127 x128 x129 x130 x131 x132 x133 x134 x135 W g1 g2 g3
        have G2 : Hid _ := g2
        have G3 : Hid _ := g3
        clear g2 g3
        refine hK1 _ _ ?_
        go_wp2
        go_roundw
        case rel => exact ⟨k + 1, mays2, ns2, ol2, by omega, by omega, g1, G2, rfl, rfl, G3⟩
        case measure => simp only [intOf]; omega
      clear hK1
      refine wp_block_hide (fun Q0 hQn hQx => ?_)
      have HQN : Hid _ := hQn
      clear hQn hQx
      refine wp_seq_k (fun K11 hK11 => ?_)
      have HK11 : Hid _ := hK11
      clear hK11
      go_wp2_with (first | refine wpList_load_mid rfl 45 _ rfl LK (lO + k * 6) rfl [.string (txs k), .int .i64 (szs k), .int .i64 (afs k), .bool (dns k), .bool (dds k), .slice (cas k) (cns k) (ccs k)] _ (by intro j u hj; rcases j with _ | _ | _ | _ | _ | _ | j <;> simp at hj <;> subst hj <;> first | exact z0 | exact z1 | exact z2 | exact z3 | exact z4 | exact z5) Tryz.underlying45 rfl (by kernel_rfl) ?_ | fail)
      refine HK11.out _ _ ?_
      clear HK11 z0 z1 z2 z3 z4 z5
      refine wp_seq_k (fun K12 hK12 => ?_)
      have HK12 : Hid _ := hK12
      clear hK12
      go_wp2_with fail
      go_call hop as e w3 ⟨S, M, lv3, rfl, hS, hMS, o3⟩
      clear hop
      obtain ⟨X, hX⟩ : ∃ X, X = wr.heap.size := ⟨_, rfl⟩
      have e1 : (wr.alloc (.cells #[.string (txs k), .int .i64 (szs k), .int .i64 (afs k), .bool (dns k), .bool (dds k), .slice (cas k) (cns k) (ccs k)] 45)).heap.size = X + 1 := by rw [hX]; simp
      rw [e1] at hS
      rw [← hX] at o3 ⊢
      have lS := o3.lts (S, .cells (Sl.cs (fnd Gg) M) 72) (List.mem_cons_self ..)
      have lM := o3.lts (M, F.med L.P st.serial st.session) (by simp)
      simp only at lS lM
      have o4 := (o3.alloc (.cells #[.pointer (some ⟨S, 0, none⟩)] 29) (F.apart_of (by decide))).forget (oth' := (S, .cells (Sl.cs (fnd Gg) M) 72) :: (w3.heap.size, .cells #[.pointer (some ⟨S, 0, none⟩)] 29) :: (M, F.med L.P st.serial st.session) :: (X, .cells #[.string (txs k), .int .i64 (szs k), .int .i64 (afs k), .bool (dns k), .bool (dds k), .slice (cas k) (cns k) (ccs k)] 45) :: ol) (by
        intro p hp
        simp only [List.mem_cons] at hp ⊢
        rcases hp with rfl | rfl | rfl | rfl | hp
        · right; left; rfl
        · left; rfl
        · simp
        · simp
        · simp [hp])
      have HLS : Hid (X < S ∧ M ≠ S ∧ S < w3.heap.size ∧ M < w3.heap.size ∧ ∀ p ∈ ol, p.1 < X) := ⟨by omega, hMS, lS, lM, by rw [hX]; exact HLO.out⟩
      have O4 : Hid _ := o4
      have hw4 : (w3.alloc (.cells #[.pointer (some ⟨S, 0, none⟩)] 29)).heap.size = w3.heap.size + 1 := by simp
      have HW4 : Hid _ := hw4
      clear o3 hS hMS lS lM e1 hX HLO o4 hw4
      go_wp2
      refine HK12.out _ _ ?_
      clear HK12
      generalize w3.alloc (.cells #[.pointer (some ⟨S, 0, none⟩)] 29) = W4 at *
      generalize w3.heap.size = Sb at *
      refine wp_seq_k (fun K13 hK13 => ?_)
      have HK13 : Hid _ := hK13
      clear hK13
      go_wp2
      refine HK13.out _ _ ?_
      clear HK13
      refine wp_seq_k (fun K15 hK15 => ?_)
      have HR15 : Hid (∀ (b : Bool) (x2 x12 x15 x16 x17 x18 x38 x39 x40 x41 x42 x43 x44 x45 x46 x47 x48 x49 x50 x51 x52 x53 x54 x55 x56 x57 x58 x59 x60 x61 x62 x63 x64 x65 x66 x67 x68 x69 x70 x71 x72 x73 x74 x75 x76 x77 x78 x79 x80 x81 x82 x83 x84 x85 x86 x87 x88 x89 x90 x91 x92 x93 x94 x95 x96 x97 x98 x99 x100 x101 x102 x103 x104 x105 x106 x107 x108 x109 x110 x111 x112 x113 x114 x115 x116 x117 x118 x119 x120 x121 x122 x123 x124 x125 x126 x127 x128 x129 x130 x131 x132 x133 x134 x135 : Value), (b = true ∨ (isb = true ∧ tt ∈ mays)) → K15 ⟨#[.slice (some ⟨LK, lO, none⟩) ln lc, undef, x2, .pointer (some ⟨L.P, 0, none⟩), .pointer (some ⟨M0, 0, none⟩), u5, .bool ns, .int .i64 (k : Nat), .pointer (some ⟨X, 0, none⟩), .pointer (some ⟨Sb, 0, none⟩), .string tt, .bool isb, x12, .bool b, undef, x15, x16, x17, x18, undef, undef, undef, undef, undef, undef, undef, .bool true, .bool false, .tuple #[.pointer (some ⟨L.P, 0, none⟩), .pointer (some ⟨M0, 0, none⟩)], .tuple #[.pointer (some ⟨L.P, 0, none⟩), .pointer (some ⟨M0, 0, none⟩)], .pointer (some ⟨L.P, 0, none⟩), .pointer (some ⟨M0, 0, none⟩), .pointer (some ⟨L.P, 0, none⟩), .bool false, .bool false, .pointer (some ⟨M0, 0, none⟩), .bool false, .bool false, x38, x39, x40, x41, x42, x43, x44, x45, x46, x47, x48, x49, x50, x51, x52, x53, x54, x55, x56, x57, x58, x59, x60, x61, x62, x63, x64, x65, x66, x67, x68, x69, x70, x71, x72, x73, x74, x75, x76, x77, x78, x79, x80, x81, x82, x83, x84, x85, x86, x87, x88, x89, x90, x91, x92, x93, x94, x95, x96, x97, x98, x99, x100, x101, x102, x103, x104, x105, x106, x107, x108, x109, x110, x111, x112, x113, x114, x115, x116, x117, x118, x119, x120, x121, x122, x123, x124, x125, x126, x127, x128, x129, x130, x131, x132, x133, x134, x135, undef, undef, undef, undef, undef, undef, undef, undef, undef, undef, undef, undef, undef, undef, undef, undef, undef, undef, undef, undef, undef, undef, undef, undef, undef, undef, undef, undef, undef, undef, undef, undef], []⟩ W4) := by
        intro b x2 x12 x15 x16 x17 x18 x38 x39 x40 x41 x42 x43 x44 x45 x46 x47 x48 x49 x50 x51 x52 x53 x54 x55 x56 x57 x58 x59 x60 x61 x62 x63 x64 x65 x66 x67 x68 x69 x70 x71 x72 x73 x74 x75 x76 x77 x78 x79 x80 x81 x82 x83 x84 x85 x86 x87 x88 x89 x90 x91 x92 x93 x94 x95 x96 x97 x98 x99 x100 x101 x102 x103 x104 x105 x106 x107 x108 x109 x110 x111 x112 x113 x114 x115 x116 x117 x118 x119 x120 x121 x122 x123 x124 x125 x126 x127 x128 x129 x130 x131 x132 x133 x134 x135 hb
        refine hK15 _ _ ?_
        clear hK15
        obtain ⟨ao, cp, mg, hmv, hao, hcell⟩ := HM.out.cell O4.out (fun p hp => by simp [hp])
        have HMV : Hid _ := hmv
        refine wp_seq_k (fun K16 hK16 => ?_)
        have HR16 : Hid (∀ (x2 x12 x15 x16 x17 x18 x38 x39 x40 x41 x42 x43 x44 x45 x46 x47 x48 x49 x50 x51 x52 x53 x54 x55 x56 x57 x58 x59 x60 x61 x62 x63 x64 x65 x66 x67 x68 x69 x70 x71 x72 x73 x74 x75 x76 x77 x78 x79 x80 x81 x82 x83 x84 x85 x86 x87 x88 x89 x90 x91 x92 x93 x94 x95 x96 x97 x98 x99 x100 x101 x102 x103 x104 x105 x106 x107 x108 x109 x110 x111 x112 x113 x114 x115 x116 x117 x118 x119 x120 x121 x122 x123 x124 x125 x126 x127 x128 x129 x130 x131 x132 x133 x134 x135 : Value), K16 ⟨#[.slice (some ⟨LK, lO, none⟩) ln lc, undef, x2, .pointer (some ⟨L.P, 0, none⟩), .pointer (some ⟨M0, 0, none⟩), u5, .bool ns, .int .i64 (k : Nat), .pointer (some ⟨X, 0, none⟩), .pointer (some ⟨Sb, 0, none⟩), .string tt, .bool isb, x12, .bool true, undef, x15, x16, x17, x18, undef, undef, undef, undef, undef, undef, undef, .bool true, .bool false, .tuple #[.pointer (some ⟨L.P, 0, none⟩), .pointer (some ⟨M0, 0, none⟩)], .tuple #[.pointer (some ⟨L.P, 0, none⟩), .pointer (some ⟨M0, 0, none⟩)], .pointer (some ⟨L.P, 0, none⟩), .pointer (some ⟨M0, 0, none⟩), .pointer (some ⟨L.P, 0, none⟩), .bool false, .bool false, .pointer (some ⟨M0, 0, none⟩), .bool false, .bool false, x38, x39, x40, x41, x42, x43, x44, x45, x46, x47, x48, x49, x50, x51, x52, x53, x54, x55, x56, x57, x58, x59, x60, x61, x62, x63, x64, x65, x66, x67, x68, x69, x70, x71, x72, x73, x74, x75, x76, x77, x78, x79, x80, x81, x82, x83, x84, x85, x86, x87, x88, x89, x90, x91, x92, x93, x94, x95, x96, x97, x98, x99, x100, x101, x102, x103, x104, x105, x106, x107, x108, x109, x110, x111, x112, x113, x114, x115, x116, x117, x118, x119, x120, x121, x122, x123, x124, x125, x126, x127, x128, x129, x130, x131, x132, x133, x134, x135, undef, undef, undef, undef, undef, undef, undef, undef, undef, undef, undef, undef, undef, undef, undef, undef, undef, undef, undef, undef, undef, undef, undef, undef, undef, undef, undef, undef, undef, undef, undef, undef], []⟩ W4) := by
          intro x2 x12 x15 x16 x17 x18 x38 x39 x40 x41 x42 x43 x44 x45 x46 x47 x48 x49 x50 x51 x52 x53 x54 x55 x56 x57 x58 x59 x60 x61 x62 x63 x64 x65 x66 x67 x68 x69 x70 x71 x72 x73 x74 x75 x76 x77 x78 x79 x80 x81 x82 x83 x84 x85 x86 x87 x88 x89 x90 x91 x92 x93 x94 x95 x96 x97 x98 x99 x100 x101 x102 x103 x104 x105 x106 x107 x108 x109 x110 x111 x112 x113 x114 x115 x116 x117 x118 x119 x120 x121 x122 x123 x124 x125 x126 x127 x128 x129 x130 x131 x132 x133 x134 x135
          refine hK16 _ _ ?_
          clear hK16 hcell hao hmv
          refine wp_seq_k (fun K21 hK21 => ?_)
          have HK21 : Hid _ := hK21
          clear hK21
          go_wp2
          refine HK21.out _ _ ?_
          clear HK21
          have ox := O4.out.ofBelow (Below.refl _ _).drew
          have c0 : W4.drew.cell? ⟨X, 0, none⟩ = some (.string (txs k)) := F.cell_of (ox.oth (X, .cells #[.string (txs k), .int .i64 (szs k), .int .i64 (afs k), .bool (dns k), .bool (dds k), .slice (cas k) (cns k) (ccs k)] 45) (by simp)).1 0
          have c1 : W4.drew.cell? ⟨X, 1, none⟩ = some (.int .i64 (szs k)) := F.cell_of (ox.oth (X, .cells #[.string (txs k), .int .i64 (szs k), .int .i64 (afs k), .bool (dns k), .bool (dds k), .slice (cas k) (cns k) (ccs k)] 45) (by simp)).1 1
          obtain ⟨x, hx, hlg⟩ := long_is ((txs k).extract 0 9) (by rw [ByteArray.size_extract]; omega) (szs k)
          refine wp_seq_k (fun K23 hK23 => ?_)
          have HK23 : Hid _ := hK23
          clear hK23
          obtain ⟨w8, hw8⟩ : ∃ w8, w8 = W4.drew := ⟨_, rfl⟩
          rw [← hw8] at c0 c1 ox
          have HW8 : Hid _ := hw8
          clear hw8
          refine F.wp_region_pb (fun f => ⟨#[.slice (some ⟨LK, lO, none⟩) ln lc, undef, x2, .pointer (some ⟨L.P, 0, none⟩), .pointer (some ⟨M0, 0, none⟩), u5, .bool ns, .int .i64 (k : Nat), .pointer (some ⟨X, 0, none⟩), .pointer (some ⟨Sb, 0, none⟩), .string tt, .bool isb, x12, .bool true, undef, x15, f 6, x17, x18, undef, undef, undef, undef, undef, undef, undef, .bool true, .bool false, .tuple #[.pointer (some ⟨L.P, 0, none⟩), .pointer (some ⟨M0, 0, none⟩)], .tuple #[.pointer (some ⟨L.P, 0, none⟩), .pointer (some ⟨M0, 0, none⟩)], .pointer (some ⟨L.P, 0, none⟩), .pointer (some ⟨M0, 0, none⟩), .pointer (some ⟨L.P, 0, none⟩), .bool false, .bool false, .pointer (some ⟨M0, 0, none⟩), .bool false, .bool false, x38, x39, x40, x41, x42, x43, x44, x45, x46, x47, x48, x49, x50, x51, x52, x53, x54, x55, x56, x57, x58, x59, x60, x61, x62, x63, x64, x65, x66, x67, x68, x69, x70, x71, x72, x73, x74, x75, x76, x77, x78, x79, x80, x81, .bool true, .bool false, f 0, f 1, f 2, f 3, f 4, f 5, x90, x91, x92, x93, x94, x95, x96, x97, x98, x99, x100, x101, x102, x103, x104, x105, x106, x107, x108, x109, x110, x111, x112, x113, x114, x115, x116, x117, x118, x119, x120, x121, x122, x123, x124, x125, x126, x127, x128, x129, x130, x131, x132, x133, x134, x135, undef, undef, undef, undef, undef, undef, undef, undef, undef, undef, undef, undef, undef, undef, undef, undef, undef, undef, undef, undef, undef, undef, undef, undef, undef, undef, undef, undef, undef, undef, undef, undef], []⟩) (V23 X w8 (txs k) (szs k) x) (AP w8 x) (fun i => [x84, x85, x86, x87, x88, x89, x16, undef].getD i undef) (by kernel_rfl) rfl rfl ?hI23 ?hput23 ?step23 ?fin23
          case hI23 => exact ⟨fun _ => HW8.out.symm, (fun e => by cases e), (fun e => by cases e), fun _ => rfl⟩
          case fin23 =>
            intro f W hP hV
            have u0 : f 0 = .pointer (some ⟨X, 0, none⟩) := hV 0 (by decide)
            have u1 : f 1 = .string (txs k) := hV 1 (by decide)
            have u2 : f 2 = .string ((txs k).extract 0 9) := hV 2 (by decide)
            have u3 : f 3 = .pointer (some ⟨X, 1, none⟩) := hV 3 (by decide)
            have u4 : f 4 = .int .i64 (szs k) := hV 4 (by decide)
            have u5 : f 5 = .string x := hV 5 (by decide)
            have u6 : f 6 = .pointer (some ⟨w8.heap.size, 0, none⟩) := hV 6 (by decide)
            clear hV
            generalize f 0 = z0 at *
            subst u0
            generalize f 1 = z1 at *
            subst u1
            generalize f 2 = z2 at *
            subst u2
            generalize f 3 = z3 at *
            subst u3
            generalize f 4 = z4 at *
            subst u4
            generalize f 5 = z5 at *
            subst u5
            generalize f 6 = z6 at *
            subst u6
            obtain rfl := hP.c rfl
            clear hP
            have hls := HLS.out
            have hw4 := HW4.out
            have hw8s : w8.heap.size = Sb + 1 := by rw [HW8.out]; exact hw4
            have o5 := (ox.alloc (.cells #[.string x] 9) (F.apart_of (by decide))).forget (oth' := (S, .cells (Sl.cs (fnd Gg) M) 72) :: (Sb, .cells #[.pointer (some ⟨S, 0, none⟩)] 29) :: (M, F.med L.P st.serial st.session) :: (X, .cells #[.string (txs k), .int .i64 (szs k), .int .i64 (afs k), .bool (dns k), .bool (dds k), .slice (cas k) (cns k) (ccs k)] 45) :: (w8.heap.size, .cells #[.string x] 9) :: ol) (by
              intro p hp
              simp only [List.mem_cons] at hp ⊢
              rcases hp with rfl | rfl | rfl | rfl | rfl | hp
              · simp
              · simp
              · simp
              · simp
              · simp
              · simp [hp])
            have HL3 : Hid (X < S ∧ M ≠ S ∧ S < Sb ∧ M < Sb ∧ w8.heap.size = Sb + 1 ∧ ∀ p ∈ ol, p.1 < X) := ⟨hls.1, hls.2.1, hls.2.2.1, hls.2.2.2.1, hw8s, hls.2.2.2.2⟩
            have O5 : Hid _ := o5
            clear o5 ox c0 c1 hls hw4 hw8s HW8 HLS HW4 hlg O4
            refine HK23.out _ _ ?_
            clear HK23
            generalize w8.alloc (.cells #[.string x] 9) = W5 at *
            generalize w8.heap.size = Nb at *
            refine wp_seq_k (fun K24 hK24 => ?_)
            have HR24 : Hid (∀ (W : World) (st1 : F.St) (lv1 : Value) (m : F.Mode) (x2 x12 x13 x15 x17 x18 x38 x39 x40 x41 x42 x43 x44 x45 x46 x47 x48 x49 x50 x51 x52 x53 x54 x55 x56 x57 x58 x59 x60 x61 x62 x63 x64 x65 x66 x67 x68 x69 x70 x71 x72 x73 x74 x75 x76 x77 x78 x79 x80 x81 x82 x83 x84 x85 x86 x87 x88 x89 x90 x91 x92 x93 x94 x95 x96 x97 x98 x99 x100 x101 x102 x103 x104 x105 x106 x107 x108 x109 x110 x111 x112 x113 x114 x115 x116 x117 x118 x119 x120 x121 x122 x123 x124 x125 x126 x127 x128 x129 x130 x131 x132 x133 x134 x135 : Value), F.One T w L st1 lv1 ((S, .cells (Sl.cs (fnd Gg) M) 72) :: (Sb, .cells #[.pointer (some ⟨S, 0, none⟩)] 29) :: (M, F.med L.P st.serial st.session) :: (X, .cells #[.string (txs k), .int .i64 (szs k), .int .i64 (afs k), .bool (dns k), .bool (dds k), .slice (cas k) (cns k) (ccs k)] 45) :: (Nb, .cells #[.string x] 9) :: ol) W → Rt k st1 → Lies k Tt Gg st1 → F.Dv st1 ats now now → st1.serial = st.serial ∧ st1.session = st.session → m.is st1 → m ≠ .over → K24 ⟨#[.slice (some ⟨LK, lO, none⟩) ln lc, undef, x2, .pointer (some ⟨L.P, 0, none⟩), .pointer (some ⟨M0, 0, none⟩), u5, .bool ns, .int .i64 (k : Nat), .pointer (some ⟨X, 0, none⟩), .pointer (some ⟨Sb, 0, none⟩), .string tt, .bool isb, x12, x13, undef, x15, .pointer (some ⟨Nb, 0, none⟩), x17, x18, undef, undef, undef, undef, undef, undef, undef, .bool true, .bool false, .tuple #[.pointer (some ⟨L.P, 0, none⟩), .pointer (some ⟨M0, 0, none⟩)], .tuple #[.pointer (some ⟨L.P, 0, none⟩), .pointer (some ⟨M0, 0, none⟩)], .pointer (some ⟨L.P, 0, none⟩), .pointer (some ⟨M0, 0, none⟩), .pointer (some ⟨L.P, 0, none⟩), .bool false, .bool false, .pointer (some ⟨M0, 0, none⟩), .bool false, .bool false, x38, x39, x40, x41, x42, x43, x44, x45, x46, x47, x48, x49, x50, x51, x52, x53, x54, x55, x56, x57, x58, x59, x60, x61, x62, x63, x64, x65, x66, x67, x68, x69, x70, x71, x72, x73, x74, x75, x76, x77, x78, x79, x80, x81, x82, x83, x84, x85, x86, x87, x88, x89, x90, x91, x92, x93, x94, x95, x96, x97, x98, x99, x100, x101, x102, x103, x104, x105, x106, x107, x108, x109, x110, x111, x112, x113, x114, x115, x116, x117, x118, x119, x120, x121, x122, x123, x124, x125, x126, x127, x128, x129, x130, x131, x132, x133, x134, x135, undef, undef, undef, undef, undef, undef, undef, undef, undef, undef, undef, undef, undef, undef, undef, undef, undef, undef, undef, undef, undef, undef, undef, undef, undef, undef, undef, undef, undef, undef, undef, undef], []⟩ W) := by
              intro W st1 lv1 m x2 x12 x13 x15 x17 x18 x38 x39 x40 x41 x42 x43 x44 x45 x46 x47 x48 x49 x50 x51 x52 x53 x54 x55 x56 x57 x58 x59 x60 x61 x62 x63 x64 x65 x66 x67 x68 x69 x70 x71 x72 x73 x74 x75 x76 x77 x78 x79 x80 x81 x82 x83 x84 x85 x86 x87 x88 x89 x90 x91 x92 x93 x94 x95 x96 x97 x98 x99 x100 x101 x102 x103 x104 x105 x106 x107 x108 x109 x110 x111 x112 x113 x114 x115 x116 x117 x118 x119 x120 x121 x122 x123 x124 x125 x126 x127 x128 x129 x130 x131 x132 x133 x134 x135 o5 r1 l1 d1 hse hmd hmo
              refine hK24 _ _ ?_
              clear hK24 O5
              have hl3 := HL3.out
              have lW : Nb < W.heap.size := o5.lts (Nb, .cells #[.string x] 9) (by simp)
              have hg := wguard2 (now := now) (x := x) 20 #[.pointer (some ⟨Sb, 0, none⟩), .pointer (some ⟨Nb, 0, none⟩)] ent20 o5 (fun W' oth2 hsub hsup hW => op20 (fnd Gg) hW (by rw [hse.1, hse.2]; exact hsub _ (by simp)) (by
                  intro p hp
                  rcases hsup p hp with hq | hq
                  · simp only [List.mem_cons] at hq
                    rcases hq with rfl | rfl | rfl | rfl | hq
                    · show Sb ≠ S; omega
                    · show M ≠ S; omega
                    · show X ≠ S; omega
                    · show Nb ≠ S; omega
                    · have := hl3.2.2.2.2.2 p hq; omega
                  · omega) (hsub _ (by simp)) (hsub _ (by simp)) hx HL.out.found.slot (by have : (fnd Gg).most ≤ k := HL.out.most; omega) d1 (by have := r1.n; omega) (by have := r1.n; omega) r1.there m hmd hmo ⟨r1.c0, by have := r1.c1; omega⟩)
              have R1 : Hid _ := r1
              have L1 : Hid _ := l1
              have D1 : Hid _ := d1
              clear o5 r1 l1 d1 hse hmd hmo hl3 lW
              refine wp_seq_k (fun K28 hK28 => ?_)
              have HR28 : Hid (∀ (mv2 : Value) (mays2 : List ByteArray) (ns2 : Bool) (ol2 : List (Nat × Obj)) (W2 : World) (x2 x12 x13 x15 x17 x18 x38 x39 x40 x41 x42 x43 x44 x45 x46 x47 x48 x49 x50 x51 x52 x53 x54 x55 x56 x57 x58 x59 x60 x61 x62 x63 x64 x65 x66 x67 x68 x69 x70 x71 x72 x73 x74 x75 x76 x77 x78 x79 x80 x81 x82 x83 x84 x85 x86 x87 x88 x89 x90 x91 x92 x93 x94 x95 x96 x97 x98 x99 x100 x101 x102 x103 x104 x105 x106 x107 x108 x109 x110 x111 x112 x113 x114 x115 x116 x117 x118 x119 x120 x121 x122 x123 x124 x125 x126 x127 x128 x129 x130 x131 x132 x133 x134 x135 : Value), mays2.length ≤ k + 1 → May mv2 mays2 ol2 → (∀ p ∈ ol2, p.1 ≠ X) → Pst T w L k mays2 ns2 ((X, .cells #[.string (txs k), .int .i64 (szs k), .int .i64 (afs k), .bool (dns k), .bool (dds k), .slice (cas k) (cns k) (ccs k)] 45) :: ol2) W2 → K28 ⟨#[.slice (some ⟨LK, lO, none⟩) ln lc, undef, x2, .pointer (some ⟨L.P, 0, none⟩), .pointer (some ⟨M0, 0, none⟩), mv2, .bool ns2, .int .i64 (k : Nat), .pointer (some ⟨X, 0, none⟩), .pointer (some ⟨Sb, 0, none⟩), .string tt, .bool isb, x12, x13, undef, x15, .pointer (some ⟨Nb, 0, none⟩), x17, x18, undef, undef, undef, undef, undef, undef, undef, .bool true, .bool false, .tuple #[.pointer (some ⟨L.P, 0, none⟩), .pointer (some ⟨M0, 0, none⟩)], .tuple #[.pointer (some ⟨L.P, 0, none⟩), .pointer (some ⟨M0, 0, none⟩)], .pointer (some ⟨L.P, 0, none⟩), .pointer (some ⟨M0, 0, none⟩), .pointer (some ⟨L.P, 0, none⟩), .bool false, .bool false, .pointer (some ⟨M0, 0, none⟩), .bool false, .bool false, x38, x39, x40, x41, x42, x43, x44, x45, x46, x47, x48, x49, x50, x51, x52, x53, x54, x55, x56, x57, x58, x59, x60, x61, x62, x63, x64, x65, x66, x67, x68, x69, x70, x71, x72, x73, x74, x75, x76, x77, x78, x79, x80, x81, x82, x83, x84, x85, x86, x87, x88, x89, x90, x91, x92, x93, x94, x95, x96, x97, x98, x99, x100, x101, x102, x103, x104, x105, x106, x107, x108, x109, x110, x111, x112, x113, x114, x115, x116, x117, x118, x119, x120, x121, x122, x123, x124, x125, x126, x127, x128, x129, x130, x131, x132, x133, x134, x135, undef, undef, undef, undef, undef, undef, undef, undef, undef, undef, undef, undef, undef, undef, undef, undef, undef, undef, undef, undef, undef, undef, undef, undef, undef, undef, undef, undef, undef, undef, undef, undef], []⟩ W2) := by
                intro mv2 mays2 ns2 ol2 W2 x2 x12 x13 x15 x17 x18 x38 x39 x40 x41 x42 x43 x44 x45 x46 x47 x48 x49 x50 x51 x52 x53 x54 x55 x56 x57 x58 x59 x60 x61 x62 x63 x64 x65 x66 x67 x68 x69 x70 x71 x72 x73 x74 x75 x76 x77 x78 x79 x80 x81 x82 x83 x84 x85 x86 x87 x88 x89 x90 x91 x92 x93 x94 x95 x96 x97 x98 x99 x100 x101 x102 x103 x104 x105 x106 x107 x108 x109 x110 x111 x112 x113 x114 x115 x116 x117 x118 x119 x120 x121 x122 x123 x124 x125 x126 x127 x128 x129 x130 x131 x132 x133 x134 x135 g1 g2 g4 g3
                refine hK28 _ _ ?_
                clear hK28 hg
                obtain ⟨sty, lvy, oy⟩ := g3.ones
                have c5 : W2.cell? ⟨X, 5, none⟩ = some (.slice (cas k) (cns k) (ccs k)) := F.cell_of (oy.oth (X, .cells #[.string (txs k), .int .i64 (szs k), .int .i64 (afs k), .bool (dns k), .bool (dds k), .slice (cas k) (cns k) (ccs k)] 45) (by simp)).1 5
                have f5 : W2.frozen? ⟨X, 5, none⟩ = false := F.frz_of (oy.oth (X, .cells #[.string (txs k), .int .i64 (szs k), .int .i64 (afs k), .bool (dns k), .bool (dds k), .slice (cas k) (cns k) (ccs k)] 45) (by simp)).1 5
                have htr := (HTR.out W2 oy.below).t
                have HE : Hid (∀ (x2 x12 x13 x15 x17 x18 x38 x39 x40 x41 x42 x43 x44 x45 x46 x47 x48 x49 x50 x51 x52 x53 x54 x55 x56 x57 x58 x59 x60 x61 x62 x63 x64 x65 x66 x67 x68 x69 x70 x71 x72 x73 x74 x75 x76 x77 x78 x79 x80 x81 x82 x83 x84 x85 x86 x87 x88 x89 x90 x91 x92 x93 x94 x95 x96 x97 x98 x99 x100 x101 x102 x103 x104 x105 x106 x107 x108 x109 x110 x111 x112 x113 x114 x115 x116 x117 x118 x119 x120 x121 x122 x123 x124 x125 x126 x127 x128 x129 x130 x131 x132 x133 x134 x135 : Value) (w9 : World), WsI T w L ((X, .cells #[.string (txs k), .int .i64 (szs k), .int .i64 (afs k), .bool (dns k), .bool (dds k), .slice (cas k) (cns k) (ccs k)] 45) :: ol2) mays2 ns2 (k + 1) w9 ∨ WsI T w L ol2 mays2 ns2 (k + 1) w9 → K1 ⟨#[.slice (some ⟨LK, lO, none⟩) ln lc, undef, x2, .pointer (some ⟨L.P, 0, none⟩), .pointer (some ⟨M0, 0, none⟩), mv2, .bool ns2, .int .i64 (k : Nat), .pointer (some ⟨X, 0, none⟩), .pointer (some ⟨Sb, 0, none⟩), .string tt, .bool isb, x12, x13, undef, x15, .pointer (some ⟨Nb, 0, none⟩), x17, x18, undef, undef, undef, undef, undef, undef, undef, .bool true, .bool false, .tuple #[.pointer (some ⟨L.P, 0, none⟩), .pointer (some ⟨M0, 0, none⟩)], .tuple #[.pointer (some ⟨L.P, 0, none⟩), .pointer (some ⟨M0, 0, none⟩)], .pointer (some ⟨L.P, 0, none⟩), .pointer (some ⟨M0, 0, none⟩), .pointer (some ⟨L.P, 0, none⟩), .bool false, .bool false, .pointer (some ⟨M0, 0, none⟩), .bool false, .bool false, x38, x39, x40, x41, x42, x43, x44, x45, x46, x47, x48, x49, x50, x51, x52, x53, x54, x55, x56, x57, x58, x59, x60, x61, x62, x63, x64, x65, x66, x67, x68, x69, x70, x71, x72, x73, x74, x75, x76, x77, x78, x79, x80, x81, x82, x83, x84, x85, x86, x87, x88, x89, x90, x91, x92, x93, x94, x95, x96, x97, x98, x99, x100, x101, x102, x103, x104, x105, x106, x107, x108, x109, x110, x111, x112, x113, x114, x115, x116, x117, x118, x119, x120, x121, x122, x123, x124, x125, x126, x127, x128, x129, x130, x131, x132, x133, x134, x135, undef, undef, undef, undef, undef, undef, undef, undef, undef, undef, undef, undef, undef, undef, undef, undef, undef, undef, undef, undef, undef, undef, undef, undef, undef, undef, undef, undef, undef, undef, undef, undef], []⟩ w9) := fun x2 x12 x13 x15 x17 x18 x38 x39 x40 x41 x42 x43 x44 x45 x46 x47 x48 x49 x50 x51 x52 x53 x54 x55 x56 x57 x58 x59 x60 x61 x62 x63 x64 x65 x66 x67 x68 x69 x70 x71 x72 x73 x74 x75 x76 x77 x78 x79 x80 x81 x82 x83 x84 x85 x86 x87 x88 x89 x90 x91 x92 x93 x94 x95 x96 x97 x98 x99 x100 x101 x102 x103 x104 x105 x106 x107 x108 x109 x110 x111 x112 x113 x114 x115 x116 x117 x118 x119 x120 x121 x122 x123 x124 x125 x126 x127 x128 x129 x130 x131 x132 x133 x134 x135 w9 h => HEND.out mv2 mays2 ns2 ol2 (x2) (.pointer (some ⟨X, 0, none⟩)) (.pointer (some ⟨Sb, 0, none⟩)) (.string tt) (.bool isb) (x12) (x13) (x15) (.pointer (some ⟨Nb, 0, none⟩)) (x17) (x18) (x38) (x39) (x40) (x41) (x42) (x43) (x44) (x45) (x46) (x47) (x48) (x49) (x50) (x51) (x52) (x53) (x54) (x55) (x56) (x57) (x58) (x59) (x60) (x61) (x62) (x63) (x64) (x65) (x66) (x67) (x68) (x69) (x70) (x71) (x72) (x73) (x74) (x75) (x76) (x77) (x78) (x79) (x80) (x81) (x82) (x83) (x84) (x85) (x86) (x87) (x88) (x89) (x90) (x91) (x92) (x93) (x94) (x95) (x96) (x97) (x98) (x99) (x100) (x101) (x102) (x103) (x104) (x105) (x106) (x107) (x108) (x109) (x110) (x111) (x112) (x113) (x114) (x115) (x116) (x117) (x118) (x119) (x120) (x121) (x122) (x123) (x124) (x125) (x126) (x127) (x128) (x129) (x130) (x131) (x132) (x133) (x134) (x135) w9 g1 g2 (by
                  rcases h with ⟨sta, lva, oa, ra⟩ | h
                  · exact ⟨sta, lva, oa.forget (fun p hp => List.mem_cons_of_mem _ hp), ra⟩
                  · exact h)
                by_cases hcn : 20 < cns k
                · obtain ⟨cv, hcv, hcr⟩ := cut_choice (cas k) (cns k) (ccs k) (CKs k) (cOs k) htr.le htr.mx htr.at0
                  obtain ⟨ao5, cp5, hcve, hc1, hc2, hc3⟩ := hcv
                  have hcv : F.ChL (CKs k) (cOs k) (min (cns k) 20) 0 cv := ⟨ao5, cp5, hcve, hc1, hc2, hc3⟩
                  subst hcve
                  have hm20 : min ((cns k : Nat) : Int) 20 = 20 := by omega
                  rw [hm20] at hcr
                  have g5 : Pst T w L k mays2 ns2 ((X, .cells #[.string (txs k), .int .i64 (szs k), .int .i64 (afs k), .bool (dns k), .bool (dds k), (.slice ao5 (min (cns k) 20 - 0) cp5)] 45) :: ol2) (W2.setCell ⟨X, 5, none⟩ (.slice ao5 (min (cns k) 20 - 0) cp5)) := g3.mono (fun sta lva o => o.other g4 rfl rfl rfl (by simp [World.setCell]) (fun j _ hj => Below.heap_setCell _ _ _ _ (by exact hj)) (by rw [F.block_set (o.oth _ (List.mem_cons_self ..)).1]; rfl) (F.apart_of (by decide)))
                  obtain ⟨stz, lvz, oz⟩ := g5.ones
                  have c6 : (W2.setCell ⟨X, 5, none⟩ (.slice ao5 (min (cns k) 20 - 0) cp5)).cell? ⟨X, 5, none⟩ = some (.slice ao5 (min (cns k) 20 - 0) cp5) := F.cell_of (oz.oth (X, .cells #[.string (txs k), .int .i64 (szs k), .int .i64 (afs k), .bool (dns k), .bool (dds k), (.slice ao5 (min (cns k) 20 - 0) cp5)] 45) (by simp)).1 5
                  have hcr2 := g5.crash (by omega) (CKs k) (cOs k) (min (cns k) 20) (.slice ao5 (min (cns k) 20 - 0) cp5) (chs k) hcv (fun W hb j hj => (HTR.out W hb).t.row j (by omega))
                  have hcn2 : (20 : Int) < (cns k : Int) := by omega
                  have HX2 : Hid (∀ w9, WsI T w L ((X, .cells #[.string (txs k), .int .i64 (szs k), .int .i64 (afs k), .bool (dns k), .bool (dds k), (.slice ao5 (min (cns k) 20 - 0) cp5)] 45) :: ol2) mays2 ns2 (k + 1) w9 → WsI T w L ol2 mays2 ns2 (k + 1) w9) := fun w9 ⟨sta, lva, oa, ra⟩ => ⟨sta, lva, oa.forget (fun p hp => List.mem_cons_of_mem _ hp), ra⟩
                  clear g3 oy htr g5 oz hcv hm20 hc1 hc2 hc3
                  generalize cas k = cak at *
                  generalize cns k = cnk at *
                  generalize ccs k = cck at *
                  go_wp2_with fail
                  go_call hcr2 as e w9 ⟨rfl, hws⟩
                  have HWS : Hid _ := HX2.out _ hws
                  clear hws hcr2 HX2
                  go_wp2
                  exact HQN.out _ _ (HE.out _ _ _ _ _ _ _ _ _ _ _ _ _ _ _ _ _ _ _ _ _ _ _ _ _ _ _ _ _ _ _ _ _ _ _ _ _ _ _ _ _ _ _ _ _ _ _ _ _ _ _ _ _ _ _ _ _ _ _ _ _ _ _ _ _ _ _ _ _ _ _ _ _ _ _ _ _ _ _ _ _ _ _ _ _ _ _ _ _ _ _ _ _ _ _ _ _ _ _ _ _ _ _ _ w9 (Or.inr HWS.out))
                · have hcr2 := g3.crash (by omega) (CKs k) (cOs k) (cns k) (.slice (cas k) (cns k) (ccs k)) (chs k) ⟨cas k, ccs k, rfl, by have := htr.le; omega, htr.mx, fun h => by have := htr.at0 (by omega); simpa using this⟩ (fun W hb j hj => (HTR.out W hb).t.row j hj)
                  have hcn2 : ¬ (20 : Int) < (cns k : Int) := by omega
                  clear g3 oy htr
                  generalize cas k = cak at *
                  generalize cns k = cnk at *
                  generalize ccs k = cck at *
                  go_wp2_with fail
                  go_call hcr2 as e w9 ⟨rfl, hws⟩
                  have HWS : Hid _ := hws
                  clear hws hcr2
                  go_wp2
                  exact HQN.out _ _ (HE.out _ _ _ _ _ _ _ _ _ _ _ _ _ _ _ _ _ _ _ _ _ _ _ _ _ _ _ _ _ _ _ _ _ _ _ _ _ _ _ _ _ _ _ _ _ _ _ _ _ _ _ _ _ _ _ _ _ _ _ _ _ _ _ _ _ _ _ _ _ _ _ _ _ _ _ _ _ _ _ _ _ _ _ _ _ _ _ _ _ _ _ _ _ _ _ _ _ _ _ _ _ _ _ _ w9 (Or.inl HWS.out))
              clear hK28
              go_wp2_with fail
              go_call hg as e w7 (⟨rfl, hE⟩ | ⟨ea, eb, rfl, hE⟩)
              · have p7 := pst_end hE hx R1.out (by omega) L1.out D1.out
                obtain ⟨sty, lvy, oy⟩ := p7.ones
                have cN : (w7.alloc (.cells #[.int .i64 0, .int .i64 0] 35)).cell? ⟨Nb, 0, none⟩ = some (.string x) := F.cell_of ((oy.alloc (.cells #[.int .i64 0, .int .i64 0] 35) (F.apart_of (by decide))).oth (Nb, .cells #[.string x] 9) (by simp)).1 0
                have lX : X < w7.heap.size := oy.lts (X, .cells #[.string (txs k), .int .i64 (szs k), .int .i64 (afs k), .bool (dns k), .bool (dds k), .slice (cas k) (cns k) (ccs k)] 45) (by simp)
                have ez : (w7.alloc (.cells #[.int .i64 0, .int .i64 0] 35)).heap.size = w7.heap.size + 1 := by simp
                have P8 : Hid (Pst T w L k [x] false ((X, .cells #[.string (txs k), .int .i64 (szs k), .int .i64 (afs k), .bool (dns k), .bool (dds k), .slice (cas k) (cns k) (ccs k)] 45) :: [(w7.heap.size + 1, .cells #[.string x] 9)]) ((w7.alloc (.cells #[.int .i64 0, .int .i64 0] 35)).alloc (.cells #[.string x] 9))) := p7.mono (fun sta lva o => by
                  have q := (o.alloc (.cells #[.int .i64 0, .int .i64 0] 35) (F.apart_of (by decide))).alloc (.cells #[.string x] 9) (F.apart_of (by decide))
                  rw [ez] at q
                  exact q.forget (by
                    intro p hp
                    simp only [List.mem_cons, List.not_mem_nil, or_false] at hp ⊢
                    rcases hp with rfl | rfl <;> simp))
                clear p7 oy hE hg ez
                go_wp2
                exact HR28.out _ [x] false [(w7.heap.size + 1, .cells #[.string x] 9)] _ _ _ _ _ _ _ _ _ _ _ _ _ _ _ _ _ _ _ _ _ _ _ _ _ _ _ _ _ _ _ _ _ _ _ _ _ _ _ _ _ _ _ _ _ _ _ _ _ _ _ _ _ _ _ _ _ _ _ _ _ _ _ _ _ _ _ _ _ _ _ _ _ _ _ _ _ _ _ _ _ _ _ _ _ _ _ _ _ _ _ _ _ _ _ _ _ _ _ _ _ _ _ _ _ (by simp) (May.one x) (by
                  intro p hp
                  rw [List.mem_singleton.1 hp]
                  show w7.heap.size + 1 ≠ X; omega) P8.out
              · have p7 := pst_brk hE hx R1.out (by omega) L1.out D1.out HW1.out HW2.out
                obtain ⟨sty, lvy, oy⟩ := p7.ones
                have cN : (w7.alloc (.cells #[.int .i64 ea, .int .i64 eb] 35)).cell? ⟨Nb, 0, none⟩ = some (.string x) := F.cell_of ((oy.alloc (.cells #[.int .i64 ea, .int .i64 eb] 35) (F.apart_of (by decide))).oth (Nb, .cells #[.string x] 9) (by simp)).1 0
                have ez : (w7.alloc (.cells #[.int .i64 ea, .int .i64 eb] 35)).heap.size = w7.heap.size + 1 := by simp
                have oB : ∀ sta lva, F.One T w L sta lva ((Sb, .cells #[.pointer (some ⟨S, 0, none⟩)] 29) :: (M, F.med L.P st.serial st.session) :: (X, .cells #[.string (txs k), .int .i64 (szs k), .int .i64 (afs k), .bool (dns k), .bool (dds k), .slice (cas k) (cns k) (ccs k)] 45) :: (Nb, .cells #[.string x] 9) :: ol) w7 → F.One T w L sta lva ((w7.heap.size + 1, .cells #[.string x] 9) :: (ol ++ [(X, .cells #[.string (txs k), .int .i64 (szs k), .int .i64 (afs k), .bool (dns k), .bool (dds k), .slice (cas k) (cns k) (ccs k)] 45)])) ((w7.alloc (.cells #[.int .i64 ea, .int .i64 eb] 35)).alloc (.cells #[.string x] 9)) := fun sta lva o => by
                  have q := (o.alloc (.cells #[.int .i64 ea, .int .i64 eb] 35) (F.apart_of (by decide))).alloc (.cells #[.string x] 9) (F.apart_of (by decide))
                  rw [ez] at q
                  exact q.forget (by
                    intro p hp
                    simp only [List.mem_cons, List.mem_append, List.not_mem_nil, or_false] at hp ⊢
                    rcases hp with rfl | hp | rfl
                    · simp
                    · simp [hp]
                    · simp)
                have oy2 := oB _ _ oy
                have hown := HM.out.own oy2 (fun p hp => by simp [hp])
                have hG : ((w7.alloc (.cells #[.int .i64 ea, .int .i64 eb] 35)).alloc (.cells #[.string x] 9)).heap[w7.heap.size + 1]? = some (.cells #[.string x] 9) := (oy2.oth (w7.heap.size + 1, .cells #[.string x] 9) (by simp)).1
                have hbw : T ≤ ((w7.alloc (.cells #[.int .i64 ea, .int .i64 eb] 35)).alloc (.cells #[.string x] 9)).heap.size := Nat.le_trans oy2.bP (Nat.le_of_lt (F.getElem?_lt oy2.pool))
                have hlX : ∀ p ∈ ol, p.1 ≠ X := fun p hp => by have := HL3.out.2.2.2.2.2 p hp; omega
                have HGR : Hid (∀ v' w', w'.ownsRow T 9 1 v' (mays ++ [x]).length ((mays ++ [x]).map .string) → ((w7.alloc (.cells #[.int .i64 ea, .int .i64 eb] 35)).alloc (.cells #[.string x] 9)).grownBy w' (Value.ownBlock u5) → ∃ ol2, May v' (mays ++ [x]) ol2 ∧ (∀ p ∈ ol2, p.1 ≠ X) ∧ Pst T w L k (mays ++ [x]) ns ((X, .cells #[.string (txs k), .int .i64 (szs k), .int .i64 (afs k), .bool (dns k), .bool (dds k), .slice (cas k) (cns k) (ccs k)] 45) :: ol2) w') := fun v' w' q1 q2 => by
                  obtain ⟨ol2, m2, hs2⟩ := HM.out.grown2 (w' := w') (v' := v') (mays' := mays ++ [x]) hown q2 q1 (by simp)
                  have hone := fun sta lva (o : F.One T w L sta lva ((Sb, .cells #[.pointer (some ⟨S, 0, none⟩)] 29) :: (M, F.med L.P st.serial st.session) :: (X, .cells #[.string (txs k), .int .i64 (szs k), .int .i64 (afs k), .bool (dns k), .bool (dds k), .slice (cas k) (cns k) (ccs k)] 45) :: (Nb, .cells #[.string x] 9) :: ol) w7) => hs2 w L sta lva [(X, .cells #[.string (txs k), .int .i64 (szs k), .int .i64 (afs k), .bool (dns k), .bool (dds k), .slice (cas k) (cns k) (ccs k)] 45)] (by
                      intro p hp q hq
                      rw [List.mem_singleton.1 hq]
                      exact hlX p hp) ((oB sta lva o).forget (fun p hp => List.mem_cons_of_mem _ hp))
                  refine ⟨ol2, m2, fun p hp e => ?_, p7.mono (fun sta lva o => (hone sta lva o).forget (fun p hp => by
                    simp only [List.mem_cons, List.mem_append, List.not_mem_nil, or_false] at hp ⊢
                    rcases hp with rfl | hp
                    · simp
                    · simp [hp]))⟩
                  obtain ⟨c, hc⟩ := may_ne5 m2 p hp
                  have o1 := ((hone _ _ oy).oth p (List.mem_append_left _ hp)).1
                  have o2 := ((hone _ _ oy).oth (X, .cells #[.string (txs k), .int .i64 (szs k), .int .i64 (afs k), .bool (dns k), .bool (dds k), .slice (cas k) (cns k) (ccs k)] 45) (by simp)).1
                  rw [e, hc] at o1
                  rw [o1] at o2
                  injection o2 with o2
                  injection o2 with _ o2 _
                  exact absurd o2 (by decide)
                have HOWN : Hid _ := hown
                clear p7 oy hE hg ez oB oy2 hown hlX
                go_wp2_with (first | refine tappend rfl _ _ rfl T u5 mays rfl HOWN.out (w7.heap.size + 1) rfl x hG (by omega) hbw (fun v' w' q1 q2 => ?_) | fail)
                obtain ⟨ol2, m2, n2, P2⟩ := HGR.out v' w' q1 q2
                have M2 : Hid _ := m2
                have N2 : Hid _ := n2
                have PP : Hid _ := P2
                clear m2 n2 P2 q1 q2 HGR HOWN hG hbw
                go_wp2
                exact HR28.out v' (mays ++ [x]) ns ol2 w' _ _ _ _ _ _ _ _ _ _ _ _ _ _ _ _ _ _ _ _ _ _ _ _ _ _ _ _ _ _ _ _ _ _ _ _ _ _ _ _ _ _ _ _ _ _ _ _ _ _ _ _ _ _ _ _ _ _ _ _ _ _ _ _ _ _ _ _ _ _ _ _ _ _ _ _ _ _ _ _ _ _ _ _ _ _ _ _ _ _ _ _ _ _ _ _ _ _ _ _ _ _ _ _ (by simp; omega) M2.out N2.out PP.out
            clear hK24
            have o5 := O5.out
            have c2 : W5.cell? ⟨X, 2, none⟩ = some (.int .i64 (afs k)) := F.cell_of (o5.oth (X, .cells #[.string (txs k), .int .i64 (szs k), .int .i64 (afs k), .bool (dns k), .bool (dds k), .slice (cas k) (cns k) (ccs k)] 45) (by simp)).1 2
            have c3 : W5.cell? ⟨X, 3, none⟩ = some (.bool (dns k)) := F.cell_of (o5.oth (X, .cells #[.string (txs k), .int .i64 (szs k), .int .i64 (afs k), .bool (dns k), .bool (dds k), .slice (cas k) (cns k) (ccs k)] 45) (by simp)).1 3
            have c4 : W5.cell? ⟨X, 4, none⟩ = some (.bool (dds k)) := F.cell_of (o5.oth (X, .cells #[.string (txs k), .int .i64 (szs k), .int .i64 (afs k), .bool (dns k), .bool (dds k), .slice (cas k) (cns k) (ccs k)] 45) (by simp)).1 4
            have RR : ∀ hw hl aw al ad, Rt k { st with count := st.count + 32, hw := hw, hl := hl, aw := aw, al := al, ad := ad } := fun _ _ _ _ _ => ⟨HR.out.serial, HR.out.there, HR.out.n, HR.out.s0, HR.out.s1, by have := HR.out.c0; show 0 ≤ st.count + 32; omega, by have := HR.out.c1; show st.count + 32 ≤ _; omega⟩
            have LL : ∀ hw hl aw al ad, Lies k Tt Gg { st with count := st.count + 32, hw := hw, hl := hl, aw := aw, al := al, ad := ad } := fun _ _ _ _ _ => HL.out.same rfl ⟨HL.out.ok.size, HL.out.ok.bytes⟩ (fun _ _ => rfl)
            have DD : ∀ hw hl aw al ad, F.Dv { st with count := st.count + 32, hw := hw, hl := hl, aw := aw, al := al, ad := ad } ats now now := fun _ _ _ _ _ => HD.out.same rfl rfl rfl rfl
            have HRR : Hid _ := RR
            have HLL : Hid _ := LL
            have HDD : Hid _ := DD
            clear RR LL DD
            by_cases haf : 0 ≤ afs k
            · have haf2 : afs k ≥ 0 := haf
              cases hdn : dns k with
              | true =>
                rw [hdn] at c3
                have hhl := o5.halt (min (afs k) 40) (by omega)
                clear o5 O5
                go_wp2_with fail
                go_call hhl as e w6 ⟨rfl, o6⟩
                have O6 : Hid _ := o6
                clear hhl o6 c2 c3 c4
                go_wp2
                exact HR24.out w6 _ _ (F.Mode.halt (min (afs k) 40).toNat) _ _ _ _ _ _ _ _ _ _ _ _ _ _ _ _ _ _ _ _ _ _ _ _ _ _ _ _ _ _ _ _ _ _ _ _ _ _ _ _ _ _ _ _ _ _ _ _ _ _ _ _ _ _ _ _ _ _ _ _ _ _ _ _ _ _ _ _ _ _ _ _ _ _ _ _ _ _ _ _ _ _ _ _ _ _ _ _ _ _ _ _ _ _ _ _ _ _ _ _ _ _ _ _ O6.out (HRR.out _ _ _ _ _) (HLL.out _ _ _ _ _) (HDD.out _ _ _ _ _) ⟨rfl, rfl⟩ ⟨HR.out.down, HR.out.aw, rfl, by show min (afs k) 40 = _; omega, by omega⟩ (fun e => by cases e)
              | false =>
                rw [hdn] at c3
                have har := o5.arm (min (afs k) 40) (by omega) (dds k)
                change Calls Tryz.prog 19 #[.pointer (some ⟨L.P, 0, none⟩), .int .i64 st.serial, .int .i64 (min (afs k) 40), .bool (dds k)] W5 _ at har
                have ear : (#[.pointer (some ⟨L.P, 0, none⟩), .int .i64 st.serial, .int .i64 (min (afs k) 40), .bool (dds k)] : Array Value) = #[.pointer (some ⟨L.P, 0, none⟩), .int .i64 1, .int .i64 (min (afs k) 40), .bool (dds k)] := by rw [HR.out.serial]
                rw [ear] at har
                clear ear
                clear o5 O5
                go_wp2_with fail
                go_call har as e w6 ⟨rfl, o6⟩
                have O6 : Hid _ := o6
                clear har o6 c2 c3 c4
                go_wp2
                exact HR24.out w6 _ _ (F.Mode.arm (min (afs k) 40).toNat (dds k)) _ _ _ _ _ _ _ _ _ _ _ _ _ _ _ _ _ _ _ _ _ _ _ _ _ _ _ _ _ _ _ _ _ _ _ _ _ _ _ _ _ _ _ _ _ _ _ _ _ _ _ _ _ _ _ _ _ _ _ _ _ _ _ _ _ _ _ _ _ _ _ _ _ _ _ _ _ _ _ _ _ _ _ _ _ _ _ _ _ _ _ _ _ _ _ _ _ _ _ _ _ _ _ _ O6.out (HRR.out _ _ _ _ _) (HLL.out _ _ _ _ _) (HDD.out _ _ _ _ _) ⟨rfl, rfl⟩ ⟨HR.out.down, rfl, by show min (afs k) 40 = _; omega, rfl, HR.out.hw, by omega⟩ (fun e => by cases e)
            · have haf2 : ¬ afs k ≥ 0 := haf
              clear o5
              go_wp2
              exact HR24.out W5 _ _ F.Mode.idle _ _ _ _ _ _ _ _ _ _ _ _ _ _ _ _ _ _ _ _ _ _ _ _ _ _ _ _ _ _ _ _ _ _ _ _ _ _ _ _ _ _ _ _ _ _ _ _ _ _ _ _ _ _ _ _ _ _ _ _ _ _ _ _ _ _ _ _ _ _ _ _ _ _ _ _ _ _ _ _ _ _ _ _ _ _ _ _ _ _ _ _ _ _ _ _ _ _ _ _ _ _ _ _ O5.out (HRR.out _ _ _ _ _) (HLL.out _ _ _ _ _) (HDD.out _ _ _ _ _) ⟨rfl, rfl⟩ ⟨HR.out.down, HR.out.aw, HR.out.hw⟩ (fun e => by cases e)
          case hput23 =>
            repeat (refine ⟨fun f v => rfl, ?_⟩)
            trivial
          case step23 =>
            refine ⟨?_, ?_⟩
            · intro done f W hP hdn hd K hK
              clear hd
              go_simp
              exact hK _ _ rfl (hP.pure _ (by decide) _)
            refine ⟨?_, ?_⟩
            · intro done f W hP hdn hd K hK
              have d0 := (hd.1 rfl).2
              have e0 : done 0 = true := (hd.1 rfl).1
              clear hd
              replace d0 : f 0 = .pointer (some ⟨X, 0, none⟩) := d0
              generalize f 0 = x0 at *
              subst d0
              clear e0
              have q0 := hP.cell c0
              have q1 := hP.cell c1
              go_simp
              exact hK _ _ rfl (hP.pure _ (by decide) _)
            refine ⟨?_, ?_⟩
            · intro done f W hP hdn hd K hK
              have d1 := (hd.1 rfl).2
              have e1 : done 1 = true := (hd.1 rfl).1
              clear hd
              replace d1 : f 1 = .string (txs k) := d1
              generalize f 1 = x1 at *
              subst d1
              clear e1
              go_simp
              refine (F.cut_any (txs k) 9 (by decide) W).mono ?_
              rintro e W' ⟨rfl, rfl⟩
              exact hK _ _ rfl (hP.pure _ (by decide) _)
            refine ⟨?_, ?_⟩
            · intro done f W hP hdn hd K hK
              clear hd
              go_simp
              exact hK _ _ rfl (hP.pure _ (by decide) _)
            refine ⟨?_, ?_⟩
            · intro done f W hP hdn hd K hK
              have d3 := (hd.1 rfl).2
              have e3 : done 3 = true := (hd.1 rfl).1
              clear hd
              replace d3 : f 3 = .pointer (some ⟨X, 1, none⟩) := d3
              generalize f 3 = x3 at *
              subst d3
              clear e3
              have q0 := hP.cell c0
              have q1 := hP.cell c1
              go_simp
              exact hK _ _ rfl (hP.pure _ (by decide) _)
            refine ⟨?_, ?_⟩
            · intro done f W hP hdn hd K hK
              have d2 := (hd.1 rfl).2
              have e2 : done 2 = true := (hd.1 rfl).1
              have d4 := (hd.2.1 rfl).2
              have e4 : done 4 = true := (hd.2.1 rfl).1
              clear hd
              replace d2 : f 2 = .string ((txs k).extract 0 9) := d2
              replace d4 : f 4 = .int .i64 (szs k) := d4
              generalize f 2 = x2 at *
              subst d2
              clear e2
              generalize f 4 = x4 at *
              subst d4
              clear e4
              go_simp
              refine (hlg W).mono ?_
              rintro e W' ⟨rfl, rfl⟩
              exact hK _ _ rfl (hP.pure _ (by decide) _)
            refine ⟨?_, ?_⟩
            · intro done f W hP hdn hd K hK
              clear hd
              have hw := hP.a hdn
              have hm := hP.made hdn (.pointer (some ⟨w8.heap.size, 0, none⟩))
              subst hw
              go_simp
              exact hK _ _ rfl hm
            refine ⟨?_, ?_⟩
            · intro done f W hP hdn hd K hK
              have d6 := (hd.1 rfl).2
              have e6 : done 6 = true := (hd.1 rfl).1
              have d5 := (hd.2.1 rfl).2
              have e5 : done 5 = true := (hd.2.1 rfl).1
              clear hd
              replace d6 : f 6 = .pointer (some ⟨w8.heap.size, 0, none⟩) := d6
              replace d5 : f 5 = .string x := d5
              generalize f 6 = x6 at *
              subst d6
              generalize f 5 = x5 at *
              subst d5
              clear e5
              have e6' : done 6 = true := e6
              have hw := hP.b e6' hdn
              have hm := hP.filled e6' hdn undef
              subst hw
              go_simp
              exact hK _ _ trivial hm
            trivial
        clear hK16
        rw [hmv]
        have HCELL : Hid _ := hcell
        have HR16' : Hid (∀ (x2 x12 x15 x16 x17 x18 x38 x39 x40 x41 x42 x43 x44 x45 x46 x47 x48 x49 x50 x51 x52 x53 x54 x55 x56 x57 x58 x59 x60 x61 x62 x63 x64 x65 x66 x67 x68 x69 x70 x71 x72 x73 x74 x75 x76 x77 x78 x79 x80 x81 x82 x83 x84 x85 x86 x87 x88 x89 x90 x91 x92 x93 x94 x95 x96 x97 x98 x99 x100 x101 x102 x103 x104 x105 x106 x107 x108 x109 x110 x111 x112 x113 x114 x115 x116 x117 x118 x119 x120 x121 x122 x123 x124 x125 x126 x127 x128 x129 x130 x131 x132 x133 x134 x135 : Value), K16 ⟨#[.slice (some ⟨LK, lO, none⟩) ln lc, undef, x2, .pointer (some ⟨L.P, 0, none⟩), .pointer (some ⟨M0, 0, none⟩), .slice ao mays.length cp, .bool ns, .int .i64 (k : Nat), .pointer (some ⟨X, 0, none⟩), .pointer (some ⟨Sb, 0, none⟩), .string tt, .bool isb, x12, .bool true, undef, x15, x16, x17, x18, undef, undef, undef, undef, undef, undef, undef, .bool true, .bool false, .tuple #[.pointer (some ⟨L.P, 0, none⟩), .pointer (some ⟨M0, 0, none⟩)], .tuple #[.pointer (some ⟨L.P, 0, none⟩), .pointer (some ⟨M0, 0, none⟩)], .pointer (some ⟨L.P, 0, none⟩), .pointer (some ⟨M0, 0, none⟩), .pointer (some ⟨L.P, 0, none⟩), .bool false, .bool false, .pointer (some ⟨M0, 0, none⟩), .bool false, .bool false, x38, x39, x40, x41, x42, x43, x44, x45, x46, x47, x48, x49, x50, x51, x52, x53, x54, x55, x56, x57, x58, x59, x60, x61, x62, x63, x64, x65, x66, x67, x68, x69, x70, x71, x72, x73, x74, x75, x76, x77, x78, x79, x80, x81, x82, x83, x84, x85, x86, x87, x88, x89, x90, x91, x92, x93, x94, x95, x96, x97, x98, x99, x100, x101, x102, x103, x104, x105, x106, x107, x108, x109, x110, x111, x112, x113, x114, x115, x116, x117, x118, x119, x120, x121, x122, x123, x124, x125, x126, x127, x128, x129, x130, x131, x132, x133, x134, x135, undef, undef, undef, undef, undef, undef, undef, undef, undef, undef, undef, undef, undef, undef, undef, undef, undef, undef, undef, undef, undef, undef, undef, undef, undef, undef, undef, undef, undef, undef, undef, undef], []⟩ W4) := by rw [hmv] at HR16; exact HR16
        clear hcell hmv HR16
        go_wp2
        go_loopw [13, 68] (fun fv jv wr2 => ∃ (j : Nat) (b : Bool), j ≤ mays.length ∧ jv = .int .i64 (j : Nat) ∧ fv = .bool b ∧ Hid (b = true ∨ (isb = true ∧ ∃ i, j ≤ i ∧ ∃ h : i < mays.length, mays[i] = tt)) ∧ wr2 = W4) (fun _ jv _ => mays.length - (intOf jv).toNat)
        case atStart =>
          refine ⟨0, b, Nat.zero_le _, rfl, rfl, ?_, rfl⟩
          refine (show b = true ∨ (isb = true ∧ ∃ i, 0 ≤ i ∧ ∃ h : i < mays.length, mays[i] = tt) from ?_)
          rcases hb with hb | ⟨hb, hm⟩
          · exact Or.inl hb
          · obtain ⟨i, hi, e⟩ := List.mem_iff_getElem.1 hm
            exact Or.inr ⟨hb, i, Nat.zero_le _, hi, e⟩
        case round =>
          obtain ⟨j, b2, hj, rfl, rfl, HB, rfl⟩ := hrel
          clear hb
          rcases Nat.lt_or_ge j mays.length with hjl | hjl
          · obtain rfl := hao (by omega)
            have hc : wr.cell? ⟨mg, j, none⟩ = some (.string mays[j]) := HCELL.out j hjl
            obtain ⟨y, hy⟩ : ∃ y, y = mays[j] := ⟨_, rfl⟩
            rw [← hy] at hc
            have HY : Hid _ := hy
            clear hy
            have hji : (j : Int) < (mays.length : Int) := by omega
            have hj9 : mays.length ≤ 1000 := by omega
            cases b2 with
            | true =>
              go_wp2
              go_roundw
              case rel => exact ⟨j + 1, true, by omega, rfl, rfl, (Or.inl rfl : true = true ∨ _), trivial⟩
              case measure => simp only [intOf]; omega
            | false =>
              rcases HB.out with h | ⟨h, i, hji2, hi, e⟩
              · cases h
              · subst h
                by_cases hyt : y = tt
                · subst hyt
                  go_wp2
                  go_roundw
                  case rel => exact ⟨j + 1, true, by omega, rfl, rfl, (Or.inl rfl : true = true ∨ _), trivial⟩
                  case measure => simp only [intOf]; omega
                · have hne : i ≠ j := fun h => hyt (by rw [HY.out, ← e]; simp [h])
                  have hbq := tl_ne hyt
                  have HN : Hid (∃ i, j + 1 ≤ i ∧ ∃ h : i < mays.length, mays[i] = tt) := ⟨i, by omega, hi, e⟩
                  go_wp2
                  go_roundw
                  case rel => exact ⟨j + 1, false, by omega, rfl, by first | rfl | simp [hbq], Or.inr ⟨trivial, HN.out⟩, trivial⟩
                  case measure => simp only [intOf]; omega
          · obtain rfl : j = mays.length := by omega
            have hb2 : b2 = true := by
              rcases HB.out with h | ⟨_, i, h1, h2, _⟩
              · exact h
              · omega
            subst hb2
            go_wp2
            exact HR16'.out _ _ _ _ _ _ _ _ _ _ _ _ _ _ _ _ _ _ _ _ _ _ _ _ _ _ _ _ _ _ _ _ _ _ _ _ _ _ _ _ _ _ _ _ _ _ _ _ _ _ _ _ _ _ _ _ _ _ _ _ _ _ _ _ _ _ _ _ _ _ _ _ _ _ _ _ _ _ _ _ _ _ _ _ _ _ _ _ _ _ _ _ _ _ _ _ _ _ _ _ _ _ _ _
      clear hK15
      rcases HWO.out with ⟨h1, h2⟩ | ⟨h1, h2⟩
      · subst h1 h2
        go_wp2
        exact HR15.out true _ _ _ _ _ _ _ _ _ _ _ _ _ _ _ _ _ _ _ _ _ _ _ _ _ _ _ _ _ _ _ _ _ _ _ _ _ _ _ _ _ _ _ _ _ _ _ _ _ _ _ _ _ _ _ _ _ _ _ _ _ _ _ _ _ _ _ _ _ _ _ _ _ _ _ _ _ _ _ _ _ _ _ _ _ _ _ _ _ _ _ _ _ _ _ _ _ _ _ _ _ _ _ _ (Or.inl rfl)
      · subst h1
        cases ns with
        | true =>
          go_wp2
          exact HR15.out false _ _ _ _ _ _ _ _ _ _ _ _ _ _ _ _ _ _ _ _ _ _ _ _ _ _ _ _ _ _ _ _ _ _ _ _ _ _ _ _ _ _ _ _ _ _ _ _ _ _ _ _ _ _ _ _ _ _ _ _ _ _ _ _ _ _ _ _ _ _ _ _ _ _ _ _ _ _ _ _ _ _ _ _ _ _ _ _ _ _ _ _ _ _ _ _ _ _ _ _ _ _ _ _ (Or.inr ⟨trivial, h2⟩)
        | false =>
          go_wp2
          exact HR15.out false _ _ _ _ _ _ _ _ _ _ _ _ _ _ _ _ _ _ _ _ _ _ _ _ _ _ _ _ _ _ _ _ _ _ _ _ _ _ _ _ _ _ _ _ _ _ _ _ _ _ _ _ _ _ _ _ _ _ _ _ _ _ _ _ _ _ _ _ _ _ _ _ _ _ _ _ _ _ _ _ _ _ _ _ _ _ _ _ _ _ _ _ _ _ _ _ _ _ _ _ _ _ _ _ (Or.inr ⟨trivial, h2⟩)
    · have hbl : Below T w wr := hO.below
      obtain ⟨Tt, Gg, hL, hw1, hw2⟩ := hWI
      have hop := opened_one hO hR.serial (by
        intro p hp c fz
        obtain ⟨c', e'⟩ := may_ne5 HM.out p hp
        rw [e']; intro e; injection e with _ e _; exact absurd e (by decide)) Gg hL.anc hR.down hR.there hR.aw hR.hw ⟨hR.c0, by have := hR.c1; omega⟩
      have hwo := wi_open hL hw1 hw2
      obtain ⟨isb, hisb⟩ : ∃ isb, isb = decide (0 < (scan Gg 2).found) := ⟨_, rfl⟩
      obtain ⟨tt, htt⟩ : ∃ tt, tt = (scan Gg 2).text := ⟨_, rfl⟩
      rw [← hisb, ← htt] at hop hwo
      have HWO : Hid _ := hwo
      clear hbl hwo hisb htt hL hw1 hw2 hR hO
      have HTL : Hid (∀ (w3 : World) (sta : F.St) (lva : Value) (oth : List (Nat × Obj)), F.One T w L sta lva oth w3 → (∀ p ∈ ol, p ∈ oth) → ∃ ao cp g, u5 = .slice ao mays.length cp ∧ (0 < mays.length → ao = some ⟨g, 0, none⟩) ∧ (∀ j (hj : j < mays.length), w3.cell? ⟨g, j, none⟩ = some (.string mays[j]))) := fun w3 sta lva oth ho hs => HM.out.cell ho hs
      have hsp : k = ln ∨ (k < ln ∧ k = 12) := by omega
      have hkn : ¬ (k < ln ∧ k < 12) := hkt
      clear hkt
      rcases hsp with hsp | ⟨hsp, hsp2⟩
      · subst hsp
        go_wp2_with fail
        go_call hop as e w3 ⟨S, M, lv3, rfl, hS, hMS, o3⟩
        obtain ⟨ao, cp, mg, hmv, hao, hcell⟩ := HTL.out w3 _ _ _ o3 (fun p hp => by simp [hp])
        have HBL : Hid (Below T w w3) := o3.below
        have HCELL : Hid _ := hcell
        clear hop HTL o3 hS hMS hcell
        obtain ⟨b0, hb0, hb⟩ : ∃ b0 : Bool, (ns && !isb) = b0 ∧ (b0 = true ∨ (isb = true ∧ tt ∈ mays)) := by
          rcases HWO.out with ⟨h1, h2⟩ | ⟨h1, h2⟩
          · exact ⟨true, by rw [h1, h2]; rfl, Or.inl rfl⟩
          · exact ⟨(ns && !isb), rfl, Or.inr ⟨h1, h2⟩⟩
        subst hmv
        cases ns with
        | true =>
          cases isb with
          | true =>
            simp at hb0
            subst hb0
            go_wp2
            go_loopw [23, 150] (fun fv jv wr2 => ∃ (j : Nat) (b : Bool), j ≤ mays.length ∧ jv = .int .i64 (j : Nat) ∧ fv = .bool b ∧ Hid (b = true ∨ (true = true ∧ ∃ i, j ≤ i ∧ ∃ h : i < mays.length, mays[i] = tt)) ∧ wr2 = w3) (fun _ jv _ => mays.length - (intOf jv).toNat)
            case atStart =>
              refine ⟨0, false, Nat.zero_le _, rfl, rfl, ?_, rfl⟩
              refine (show false = true ∨ (true = true ∧ ∃ i, 0 ≤ i ∧ ∃ h : i < mays.length, mays[i] = tt) from ?_)
              rcases hb with hb | ⟨hb, hm⟩
              · first
                  | exact Or.inl rfl
                  | exact absurd hb (by simp)
              · first
                  | (obtain ⟨i, hi, e⟩ := List.mem_iff_getElem.1 hm; exact Or.inr ⟨rfl, i, Nat.zero_le _, hi, e⟩)
                  | exact absurd hb (by simp)
            case round =>
              obtain ⟨j, b2, hj, rfl, rfl, HB, rfl⟩ := hrel
              clear hb
              rcases Nat.lt_or_ge j mays.length with hjl | hjl
              · obtain rfl := hao (by omega)
                have hc : wr.cell? ⟨mg, j, none⟩ = some (.string mays[j]) := HCELL.out j hjl
                obtain ⟨y, hy⟩ : ∃ y, y = mays[j] := ⟨_, rfl⟩
                rw [← hy] at hc
                have HY : Hid _ := hy
                clear hy
                have hji : (j : Int) < (mays.length : Int) := by omega
                have hj9 : mays.length ≤ 1000 := by omega
                cases b2 with
                | true =>
                  go_wp2
                  go_roundw
                  case rel => exact ⟨j + 1, true, by omega, rfl, rfl, (Or.inl rfl : true = true ∨ _), trivial⟩
                  case measure => simp only [intOf]; omega
                | false =>
                  rcases HB.out with h | ⟨h, i, hji2, hi, e⟩
                  · cases h
                  · by_cases hyt : y = tt
                    · subst hyt
                      go_wp2
                      go_roundw
                      case rel => exact ⟨j + 1, true, by omega, rfl, rfl, (Or.inl rfl : true = true ∨ _), trivial⟩
                      case measure => simp only [intOf]; omega
                    · have hne : i ≠ j := fun h => hyt (by rw [HY.out, ← e]; simp [h])
                      have hbq := tl_ne hyt
                      have HN : Hid (∃ i, j + 1 ≤ i ∧ ∃ h : i < mays.length, mays[i] = tt) := ⟨i, by omega, hi, e⟩
                      go_wp2
                      go_roundw
                      case rel => exact ⟨j + 1, false, by omega, rfl, by first | rfl | simp [hbq], Or.inr ⟨trivial, HN.out⟩, trivial⟩
                      case measure => simp only [intOf]; omega
              · obtain rfl : j = mays.length := by omega
                have hb2 : b2 = true := by
                  rcases HB.out with h | ⟨_, i, h1, h2, _⟩
                  · exact h
                  · omega
                subst hb2
                go_wp2
                go_returns
                exact ⟨rfl, by rw [← HT.out]; exact HBL.out⟩
          | false =>
            simp at hb0
            subst hb0
            go_wp2
            go_loopw [23, 150] (fun fv jv wr2 => ∃ (j : Nat) (b : Bool), j ≤ mays.length ∧ jv = .int .i64 (j : Nat) ∧ fv = .bool b ∧ Hid (b = true ∨ (false = true ∧ ∃ i, j ≤ i ∧ ∃ h : i < mays.length, mays[i] = tt)) ∧ wr2 = w3) (fun _ jv _ => mays.length - (intOf jv).toNat)
            case atStart =>
              refine ⟨0, true, Nat.zero_le _, rfl, rfl, ?_, rfl⟩
              refine (show true = true ∨ (false = true ∧ ∃ i, 0 ≤ i ∧ ∃ h : i < mays.length, mays[i] = tt) from ?_)
              rcases hb with hb | ⟨hb, hm⟩
              · first
                  | exact Or.inl rfl
                  | exact absurd hb (by simp)
              · first
                  | (obtain ⟨i, hi, e⟩ := List.mem_iff_getElem.1 hm; exact Or.inr ⟨rfl, i, Nat.zero_le _, hi, e⟩)
                  | exact absurd hb (by simp)
            case round =>
              obtain ⟨j, b2, hj, rfl, rfl, HB, rfl⟩ := hrel
              clear hb
              rcases Nat.lt_or_ge j mays.length with hjl | hjl
              · obtain rfl := hao (by omega)
                have hc : wr.cell? ⟨mg, j, none⟩ = some (.string mays[j]) := HCELL.out j hjl
                obtain ⟨y, hy⟩ : ∃ y, y = mays[j] := ⟨_, rfl⟩
                rw [← hy] at hc
                have HY : Hid _ := hy
                clear hy
                have hji : (j : Int) < (mays.length : Int) := by omega
                have hj9 : mays.length ≤ 1000 := by omega
                cases b2 with
                | true =>
                  go_wp2
                  go_roundw
                  case rel => exact ⟨j + 1, true, by omega, rfl, rfl, (Or.inl rfl : true = true ∨ _), trivial⟩
                  case measure => simp only [intOf]; omega
                | false =>
                  rcases HB.out with h | ⟨h, i, hji2, hi, e⟩
                  · cases h
                  · cases h
              · obtain rfl : j = mays.length := by omega
                have hb2 : b2 = true := by
                  rcases HB.out with h | ⟨_, i, h1, h2, _⟩
                  · exact h
                  · omega
                subst hb2
                go_wp2
                go_returns
                exact ⟨rfl, by rw [← HT.out]; exact HBL.out⟩
        | false =>
          cases isb with
          | true =>
            simp at hb0
            subst hb0
            go_wp2
            go_loopw [23, 150] (fun fv jv wr2 => ∃ (j : Nat) (b : Bool), j ≤ mays.length ∧ jv = .int .i64 (j : Nat) ∧ fv = .bool b ∧ Hid (b = true ∨ (true = true ∧ ∃ i, j ≤ i ∧ ∃ h : i < mays.length, mays[i] = tt)) ∧ wr2 = w3) (fun _ jv _ => mays.length - (intOf jv).toNat)
            case atStart =>
              refine ⟨0, false, Nat.zero_le _, rfl, rfl, ?_, rfl⟩
              refine (show false = true ∨ (true = true ∧ ∃ i, 0 ≤ i ∧ ∃ h : i < mays.length, mays[i] = tt) from ?_)
              rcases hb with hb | ⟨hb, hm⟩
              · first
                  | exact Or.inl rfl
                  | exact absurd hb (by simp)
              · first
                  | (obtain ⟨i, hi, e⟩ := List.mem_iff_getElem.1 hm; exact Or.inr ⟨rfl, i, Nat.zero_le _, hi, e⟩)
                  | exact absurd hb (by simp)
            case round =>
              obtain ⟨j, b2, hj, rfl, rfl, HB, rfl⟩ := hrel
              clear hb
              rcases Nat.lt_or_ge j mays.length with hjl | hjl
              · obtain rfl := hao (by omega)
                have hc : wr.cell? ⟨mg, j, none⟩ = some (.string mays[j]) := HCELL.out j hjl
                obtain ⟨y, hy⟩ : ∃ y, y = mays[j] := ⟨_, rfl⟩
                rw [← hy] at hc
                have HY : Hid _ := hy
                clear hy
                have hji : (j : Int) < (mays.length : Int) := by omega
                have hj9 : mays.length ≤ 1000 := by omega
                cases b2 with
                | true =>
                  go_wp2
                  go_roundw
                  case rel => exact ⟨j + 1, true, by omega, rfl, rfl, (Or.inl rfl : true = true ∨ _), trivial⟩
                  case measure => simp only [intOf]; omega
                | false =>
                  rcases HB.out with h | ⟨h, i, hji2, hi, e⟩
                  · cases h
                  · by_cases hyt : y = tt
                    · subst hyt
                      go_wp2
                      go_roundw
                      case rel => exact ⟨j + 1, true, by omega, rfl, rfl, (Or.inl rfl : true = true ∨ _), trivial⟩
                      case measure => simp only [intOf]; omega
                    · have hne : i ≠ j := fun h => hyt (by rw [HY.out, ← e]; simp [h])
                      have hbq := tl_ne hyt
                      have HN : Hid (∃ i, j + 1 ≤ i ∧ ∃ h : i < mays.length, mays[i] = tt) := ⟨i, by omega, hi, e⟩
                      go_wp2
                      go_roundw
                      case rel => exact ⟨j + 1, false, by omega, rfl, by first | rfl | simp [hbq], Or.inr ⟨trivial, HN.out⟩, trivial⟩
                      case measure => simp only [intOf]; omega
              · obtain rfl : j = mays.length := by omega
                have hb2 : b2 = true := by
                  rcases HB.out with h | ⟨_, i, h1, h2, _⟩
                  · exact h
                  · omega
                subst hb2
                go_wp2
                go_returns
                exact ⟨rfl, by rw [← HT.out]; exact HBL.out⟩
          | false => simp at hb0; subst hb0; simp at hb
      · subst hsp2
        go_wp2_with fail
        go_call hop as e w3 ⟨S, M, lv3, rfl, hS, hMS, o3⟩
        obtain ⟨ao, cp, mg, hmv, hao, hcell⟩ := HTL.out w3 _ _ _ o3 (fun p hp => by simp [hp])
        have HBL : Hid (Below T w w3) := o3.below
        have HCELL : Hid _ := hcell
        clear hop HTL o3 hS hMS hcell
        obtain ⟨b0, hb0, hb⟩ : ∃ b0 : Bool, (ns && !isb) = b0 ∧ (b0 = true ∨ (isb = true ∧ tt ∈ mays)) := by
          rcases HWO.out with ⟨h1, h2⟩ | ⟨h1, h2⟩
          · exact ⟨true, by rw [h1, h2]; rfl, Or.inl rfl⟩
          · exact ⟨(ns && !isb), rfl, Or.inr ⟨h1, h2⟩⟩
        subst hmv
        cases ns with
        | true =>
          cases isb with
          | true =>
            simp at hb0
            subst hb0
            go_wp2
            go_loopw [23, 150] (fun fv jv wr2 => ∃ (j : Nat) (b : Bool), j ≤ mays.length ∧ jv = .int .i64 (j : Nat) ∧ fv = .bool b ∧ Hid (b = true ∨ (true = true ∧ ∃ i, j ≤ i ∧ ∃ h : i < mays.length, mays[i] = tt)) ∧ wr2 = w3) (fun _ jv _ => mays.length - (intOf jv).toNat)
            case atStart =>
              refine ⟨0, false, Nat.zero_le _, rfl, rfl, ?_, rfl⟩
              refine (show false = true ∨ (true = true ∧ ∃ i, 0 ≤ i ∧ ∃ h : i < mays.length, mays[i] = tt) from ?_)
              rcases hb with hb | ⟨hb, hm⟩
              · first
                  | exact Or.inl rfl
                  | exact absurd hb (by simp)
              · first
                  | (obtain ⟨i, hi, e⟩ := List.mem_iff_getElem.1 hm; exact Or.inr ⟨rfl, i, Nat.zero_le _, hi, e⟩)
                  | exact absurd hb (by simp)
            case round =>
              obtain ⟨j, b2, hj, rfl, rfl, HB, rfl⟩ := hrel
              clear hb
              rcases Nat.lt_or_ge j mays.length with hjl | hjl
              · obtain rfl := hao (by omega)
                have hc : wr.cell? ⟨mg, j, none⟩ = some (.string mays[j]) := HCELL.out j hjl
                obtain ⟨y, hy⟩ : ∃ y, y = mays[j] := ⟨_, rfl⟩
                rw [← hy] at hc
                have HY : Hid _ := hy
                clear hy
                have hji : (j : Int) < (mays.length : Int) := by omega
                have hj9 : mays.length ≤ 1000 := by omega
                cases b2 with
                | true =>
                  go_wp2
                  go_roundw
                  case rel => exact ⟨j + 1, true, by omega, rfl, rfl, (Or.inl rfl : true = true ∨ _), trivial⟩
                  case measure => simp only [intOf]; omega
                | false =>
                  rcases HB.out with h | ⟨h, i, hji2, hi, e⟩
                  · cases h
                  · by_cases hyt : y = tt
                    · subst hyt
                      go_wp2
                      go_roundw
                      case rel => exact ⟨j + 1, true, by omega, rfl, rfl, (Or.inl rfl : true = true ∨ _), trivial⟩
                      case measure => simp only [intOf]; omega
                    · have hne : i ≠ j := fun h => hyt (by rw [HY.out, ← e]; simp [h])
                      have hbq := tl_ne hyt
                      have HN : Hid (∃ i, j + 1 ≤ i ∧ ∃ h : i < mays.length, mays[i] = tt) := ⟨i, by omega, hi, e⟩
                      go_wp2
                      go_roundw
                      case rel => exact ⟨j + 1, false, by omega, rfl, by first | rfl | simp [hbq], Or.inr ⟨trivial, HN.out⟩, trivial⟩
                      case measure => simp only [intOf]; omega
              · obtain rfl : j = mays.length := by omega
                have hb2 : b2 = true := by
                  rcases HB.out with h | ⟨_, i, h1, h2, _⟩
                  · exact h
                  · omega
                subst hb2
                go_wp2
                go_returns
                exact ⟨rfl, by rw [← HT.out]; exact HBL.out⟩
          | false =>
            simp at hb0
            subst hb0
            go_wp2
            go_loopw [23, 150] (fun fv jv wr2 => ∃ (j : Nat) (b : Bool), j ≤ mays.length ∧ jv = .int .i64 (j : Nat) ∧ fv = .bool b ∧ Hid (b = true ∨ (false = true ∧ ∃ i, j ≤ i ∧ ∃ h : i < mays.length, mays[i] = tt)) ∧ wr2 = w3) (fun _ jv _ => mays.length - (intOf jv).toNat)
            case atStart =>
              refine ⟨0, true, Nat.zero_le _, rfl, rfl, ?_, rfl⟩
              refine (show true = true ∨ (false = true ∧ ∃ i, 0 ≤ i ∧ ∃ h : i < mays.length, mays[i] = tt) from ?_)
              rcases hb with hb | ⟨hb, hm⟩
              · first
                  | exact Or.inl rfl
                  | exact absurd hb (by simp)
              · first
                  | (obtain ⟨i, hi, e⟩ := List.mem_iff_getElem.1 hm; exact Or.inr ⟨rfl, i, Nat.zero_le _, hi, e⟩)
                  | exact absurd hb (by simp)
            case round =>
              obtain ⟨j, b2, hj, rfl, rfl, HB, rfl⟩ := hrel
              clear hb
              rcases Nat.lt_or_ge j mays.length with hjl | hjl
              · obtain rfl := hao (by omega)
                have hc : wr.cell? ⟨mg, j, none⟩ = some (.string mays[j]) := HCELL.out j hjl
                obtain ⟨y, hy⟩ : ∃ y, y = mays[j] := ⟨_, rfl⟩
                rw [← hy] at hc
                have HY : Hid _ := hy
                clear hy
                have hji : (j : Int) < (mays.length : Int) := by omega
                have hj9 : mays.length ≤ 1000 := by omega
                cases b2 with
                | true =>
                  go_wp2
                  go_roundw
                  case rel => exact ⟨j + 1, true, by omega, rfl, rfl, (Or.inl rfl : true = true ∨ _), trivial⟩
                  case measure => simp only [intOf]; omega
                | false =>
                  rcases HB.out with h | ⟨h, i, hji2, hi, e⟩
                  · cases h
                  · cases h
              · obtain rfl : j = mays.length := by omega
                have hb2 : b2 = true := by
                  rcases HB.out with h | ⟨_, i, h1, h2, _⟩
                  · exact h
                  · omega
                subst hb2
                go_wp2
                go_returns
                exact ⟨rfl, by rw [← HT.out]; exact HBL.out⟩
        | false =>
          cases isb with
          | true =>
            simp at hb0
            subst hb0
            go_wp2
            go_loopw [23, 150] (fun fv jv wr2 => ∃ (j : Nat) (b : Bool), j ≤ mays.length ∧ jv = .int .i64 (j : Nat) ∧ fv = .bool b ∧ Hid (b = true ∨ (true = true ∧ ∃ i, j ≤ i ∧ ∃ h : i < mays.length, mays[i] = tt)) ∧ wr2 = w3) (fun _ jv _ => mays.length - (intOf jv).toNat)
            case atStart =>
              refine ⟨0, false, Nat.zero_le _, rfl, rfl, ?_, rfl⟩
              refine (show false = true ∨ (true = true ∧ ∃ i, 0 ≤ i ∧ ∃ h : i < mays.length, mays[i] = tt) from ?_)
              rcases hb with hb | ⟨hb, hm⟩
              · first
                  | exact Or.inl rfl
                  | exact absurd hb (by simp)
              · first
                  | (obtain ⟨i, hi, e⟩ := List.mem_iff_getElem.1 hm; exact Or.inr ⟨rfl, i, Nat.zero_le _, hi, e⟩)
                  | exact absurd hb (by simp)
            case round =>
              obtain ⟨j, b2, hj, rfl, rfl, HB, rfl⟩ := hrel
              clear hb
              rcases Nat.lt_or_ge j mays.length with hjl | hjl
              · obtain rfl := hao (by omega)
                have hc : wr.cell? ⟨mg, j, none⟩ = some (.string mays[j]) := HCELL.out j hjl
                obtain ⟨y, hy⟩ : ∃ y, y = mays[j] := ⟨_, rfl⟩
                rw [← hy] at hc
                have HY : Hid _ := hy
                clear hy
                have hji : (j : Int) < (mays.length : Int) := by omega
                have hj9 : mays.length ≤ 1000 := by omega
                cases b2 with
                | true =>
                  go_wp2
                  go_roundw
                  case rel => exact ⟨j + 1, true, by omega, rfl, rfl, (Or.inl rfl : true = true ∨ _), trivial⟩
                  case measure => simp only [intOf]; omega
                | false =>
                  rcases HB.out with h | ⟨h, i, hji2, hi, e⟩
                  · cases h
                  · by_cases hyt : y = tt
                    · subst hyt
                      go_wp2
                      go_roundw
                      case rel => exact ⟨j + 1, true, by omega, rfl, rfl, (Or.inl rfl : true = true ∨ _), trivial⟩
                      case measure => simp only [intOf]; omega
                    · have hne : i ≠ j := fun h => hyt (by rw [HY.out, ← e]; simp [h])
                      have hbq := tl_ne hyt
                      have HN : Hid (∃ i, j + 1 ≤ i ∧ ∃ h : i < mays.length, mays[i] = tt) := ⟨i, by omega, hi, e⟩
                      go_wp2
                      go_roundw
                      case rel => exact ⟨j + 1, false, by omega, rfl, by first | rfl | simp [hbq], Or.inr ⟨trivial, HN.out⟩, trivial⟩
                      case measure => simp only [intOf]; omega
              · obtain rfl : j = mays.length := by omega
                have hb2 : b2 = true := by
                  rcases HB.out with h | ⟨_, i, h1, h2, _⟩
                  · exact h
                  · omega
                subst hb2
                go_wp2
                go_returns
                exact ⟨rfl, by rw [← HT.out]; exact HBL.out⟩
          | false => simp at hb0; subst hb0; simp at hb
end Go.Proofs.YtknmipbjkkeebaaGreat
