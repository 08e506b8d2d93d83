/- A table in memory, and where a key stands in it, as calls. -/
import Derived.Test.YtcgmngafodmfcaaDoorB
import Derived.Test.YtcgmngafodmfcaaDoorPB
namespace Go.Proofs.YtcgmngafodmfcaaDoor
open Go.RowKit
theorem cell_of {w : World} {b : Nat} {c : Array Value} {t : TypeId} (h : w.heap[b]? = some (.cells c t)) (k : Nat) : w.cell? ⟨b, k, none⟩ = c[k]? := by
  simp only [World.cell?, h]; rfl
theorem frz_of {w : World} {b : Nat} {c : Array Value} {t : TypeId} (h : w.heap[b]? = some (.cells c t)) (k : Nat) : w.frozen? ⟨b, k, none⟩ = false := by
  simp only [World.frozen?, h]; simp
theorem getElem?_lt {w : World} {j : Nat} {o : Obj} (e : w.heap[j]? = some o) : j < w.heap.size := (Array.getElem?_eq_some_iff.1 e).1
theorem heap_new (w : World) (o : Obj) : (w.alloc o).heap[w.heap.size]? = some o := by
  show (w.heap.push _)[w.heap.size]? = _
  rw [Array.getElem?_push, if_pos rfl]
abbrev Ent := ByteArray × Int
/-- The three cells of a place. -/
def pl : Option Ent → List Value
  | none => [.bool false, .string ⟨#[]⟩, .int .i64 0]
  | some p => [.bool true, .string p.1, .int .i64 p.2]
def kyo : Option Ent → ByteArray
  | none => ⟨#[]⟩
  | some p => p.1
def vlo : Option Ent → Int
  | none => 0
  | some p => p.2
structure Row (C : Array Value) (n : Nat) (L : Nat → Option Ent) : Prop where
  sz : C.size = n * 3
  at' : ∀ i, i < n → ∀ k v, (pl (L i))[k]? = some v → C[i * 3 + k]? = some v
def hm (sd n : Nat) (k : ByteArray) : Nat := textN k sd % n
/-- A table in memory. -/
structure Tm (w : World) (tb pb sd n cnt : Nat) (L : Nat → Option Ent) : Prop where
  t : w.heap[tb]? = some (.cells #[.int .u64 (sd : Nat), .slice (some ⟨pb, 0, none⟩) n n, .int .i64 (cnt : Nat)] 51)
  p : ∃ C, w.heap[pb]? = some (.cells C 55) ∧ Row C n L
  n4 : 4 ≤ n
  nb : n ≤ 4096
  sdb : sd < 18446744073709551616
  kz : ∀ i, i < n → ∀ p, L i = some p → p.1.size ≤ 4096
  rt : Tab w
  t0 : 0 < tb
  p0 : 0 < pb
def HV (tb pb sd n : Nat) (k : ByteArray) : Nat → Value → Prop
  | 0, v => v = .string k
  | 1, v => v = .pointer (some ⟨tb, 0, none⟩)
  | 2, v => v = .pointer (some ⟨tb, 0, none⟩)
  | 3, v => v = .pointer (some ⟨tb, 0, none⟩)
  | 4, v => v = .int .u64 (sd : Nat)
  | 5, v => v = .int .u64 (textN k sd : Nat)
  | 6, v => v = .pointer (some ⟨tb, 0, none⟩)
  | 7, v => v = .pointer (some ⟨tb, 0, none⟩)
  | 8, v => v = .pointer (some ⟨tb, 1, none⟩)
  | 9, v => v = .slice (some ⟨pb, 0, none⟩) n n
  | 10, v => v = .int .i64 (n : Nat)
  | 11, v => v = .int .u64 (n : Nat)
  | 12, v => v = .int .u64 (hm sd n k : Nat)
  | 13, v => v = .int .i64 (hm sd n k : Nat)
  | 14, v => v = .int .i64 (hm sd n k : Nat)
  | _, _ => True
section
variable {w : World} {tb pb sd n cnt : Nat} {L : Nat → Option Ent}
theorem Tm.rng (h : Tm w tb pb sd n cnt L) {i : Nat} (hi : i < n) : w.rangeAt pb (i * 3) (pl (L i)) := by
  obtain ⟨C, h1, h2⟩ := h.p
  intro k v hk
  rw [cell_of h1]
  exact h2.at' i hi k v hk
theorem Tm.tc (h : Tm w tb pb sd n cnt L) : w.cell? ⟨tb, 0, none⟩ = some (.int .u64 (sd : Nat)) ∧ w.cell? ⟨tb, 1, none⟩ = some (.slice (some ⟨pb, 0, none⟩) n n) ∧ w.cell? ⟨tb, 2, none⟩ = some (.int .i64 (cnt : Nat)) :=
  ⟨by rw [cell_of h.t]; rfl, by rw [cell_of h.t]; rfl, by rw [cell_of h.t]; rfl⟩
theorem Tm.ne (h : Tm w tb pb sd n cnt L) : tb ≠ pb := by
  rintro rfl
  obtain ⟨C, h1, _⟩ := h.p
  rw [h.t] at h1
  cases h1
theorem Tm.below (h : Tm w tb pb sd n cnt L) {w' : World} (hb : Below w.heap.size w w') : Tm w' tb pb sd n cnt L := by
  obtain ⟨C, h1, h2⟩ := h.p
  exact ⟨(hb.block _ (getElem?_lt h.t)).trans h.t, ⟨C, (hb.block _ (getElem?_lt h1)).trans h1, h2⟩, h.n4, h.nb, h.sdb, h.kz, h.rt.below h.rt.size hb, h.t0, h.p0⟩
theorem way_any (h : Tm w tb pb sd n cnt L) (a b : Nat) (ha : a ≤ n) (hb : b ≤ n) :
    Calls Tryd.prog 27 #[.pointer (some ⟨tb, 0, none⟩), .int .i64 (a : Nat), .int .i64 (b : Nat)] w fun e w' => e = .returned (.int .i64 (((b + n - a) % n : Nat) : Int)) ∧ w' = w := by
  obtain ⟨-, h1, -⟩ := h.tc
  have n4 := h.n4
  have nb := h.nb
  clear h
  go_enter Tryd.func27, Tryd.ntmps27
  go_wp2
  go_returns
  have e : (((b + n - a : Nat) % n : Nat) : Int) = (b - a + n) % n := by
    rw [Int.natCast_emod, show ((b + n - a : Nat) : Int) = (b : Int) - a + n by omega]
  rw [e]
  exact ⟨rfl, rfl⟩
theorem next_any (h : Tm w tb pb sd n cnt L) (a : Nat) (ha : a < n) :
    Calls Tryd.prog 26 #[.pointer (some ⟨tb, 0, none⟩), .int .i64 (a : Nat)] w fun e w' => e = .returned (.int .i64 (nx n a : Nat)) ∧ w' = w := by
  have n4 := h.n4
  have nb := h.nb
  have hc : Calls Tryd.prog 27 #[.pointer (some ⟨tb, 0, none⟩), .int .i64 0, .int .i64 ((a : Int) + 1)] w fun e w' => e = .returned (.int .i64 (nx n a : Nat)) ∧ w' = w := by
    have := way_any h 0 (a + 1) (by omega) (by omega)
    have e : (a + 1 + n - 0) % n = nx n a := by
      unfold nx
      split
      · rename_i e; rw [show a + 1 + n - 0 = n + n by omega, Nat.add_mod_right, Nat.mod_self]
      · rw [show a + 1 + n - 0 = (a + 1) + n by omega, Nat.add_mod_right, Nat.mod_eq_of_lt (by omega)]
    rw [e] at this
    exact this
  clear h
  go_enter Tryd.func26, Tryd.ntmps26
  go_wp2_with fail
  go_call hc as e w1 ⟨rfl, rfl⟩
  go_wp2
  go_returns
  exact ⟨rfl, rfl⟩
theorem hm_lt (sd : Nat) {n : Nat} (h : 0 < n) (k : ByteArray) : hm sd n k < n := Nat.mod_lt _ h
set_option maxHeartbeats 1000000 in
theorem home_any (h : Tm w tb pb sd n cnt L) (k : ByteArray) (hk : k.size ≤ 4096) :
    Calls Tryd.prog 25 #[.pointer (some ⟨tb, 0, none⟩), .string k] w fun e w' => e = .returned (.int .i64 (hm sd n k : Nat)) ∧ Below w.heap.size w w' := by
  have HT : Hid (Tm w tb pb sd n cnt L) := h
  have n4 := h.n4
  have nb := h.nb
  have hml : hm sd n k < n := hm_lt sd (by omega) k
  have HX : Hid (textN k sd < 18446744073709551616) := textN_lt k sd
  clear h
  go_enter Tryd.func25, Tryd.ntmps25
  go_wp2_with fail
  refine O.wp_region_pb (fun f => ⟨#[.pointer (some ⟨tb, 0, none⟩), .string k, undef, undef, f 14, f 0, f 1, f 2, f 3, f 4, f 5, f 6, f 7, f 8, f 9, f 10, f 11, f 12, f 13], []⟩) (HV tb pb sd n k) (fun _ _ W => Below w.heap.size w W) (fun i => [undef, undef, undef, undef, undef, undef, undef, undef, undef, undef, undef, undef, undef, undef, .int .i64 0].getD i undef) (by kernel_rfl) rfl rfl ?hIp ?hputp ?stepp ?finp
  case hIp => exact (Below.refl _ _).drew
  case finp =>
    intro f W hP hV
    have v0 : f 0 = .string k := hV 0 (by decide)
    have v1 : f 1 = .pointer (some ⟨tb, 0, none⟩) := hV 1 (by decide)
    have v2 : f 2 = .pointer (some ⟨tb, 0, none⟩) := hV 2 (by decide)
    have v3 : f 3 = .pointer (some ⟨tb, 0, none⟩) := hV 3 (by decide)
    have v4 : f 4 = .int .u64 (sd : Nat) := hV 4 (by decide)
    have v5 : f 5 = .int .u64 (textN k sd : Nat) := hV 5 (by decide)
    have v6 : f 6 = .pointer (some ⟨tb, 0, none⟩) := hV 6 (by decide)
    have v7 : f 7 = .pointer (some ⟨tb, 0, none⟩) := hV 7 (by decide)
    have v8 : f 8 = .pointer (some ⟨tb, 1, none⟩) := hV 8 (by decide)
    have v9 : f 9 = .slice (some ⟨pb, 0, none⟩) n n := hV 9 (by decide)
    have v10 : f 10 = .int .i64 (n : Nat) := hV 10 (by decide)
    have v11 : f 11 = .int .u64 (n : Nat) := hV 11 (by decide)
    have v12 : f 12 = .int .u64 (hm sd n k : Nat) := hV 12 (by decide)
    have v13 : f 13 = .int .i64 (hm sd n k : Nat) := hV 13 (by decide)
    have v14 : f 14 = .int .i64 (hm sd n k : Nat) := hV 14 (by decide)
    clear hV
    generalize f 0 = x0 at *
    subst v0
    generalize f 1 = x1 at *
    subst v1
    generalize f 2 = x2 at *
    subst v2
    generalize f 3 = x3 at *
    subst v3
    generalize f 4 = x4 at *
    subst v4
    generalize f 5 = x5 at *
    subst v5
    generalize f 6 = x6 at *
    subst v6
    generalize f 7 = x7 at *
    subst v7
    generalize f 8 = x8 at *
    subst v8
    generalize f 9 = x9 at *
    subst v9
    generalize f 10 = x10 at *
    subst v10
    generalize f 11 = x11 at *
    subst v11
    generalize f 12 = x12 at *
    subst v12
    generalize f 13 = x13 at *
    subst v13
    generalize f 14 = x14 at *
    subst v14
    have HP : Hid _ := hP
    clear hP
    go_wp2
    go_returns
    exact ⟨rfl, HP.out⟩
  case hputp =>
    repeat (refine ⟨fun f v => rfl, ?_⟩)
    trivial
  case stepp =>
    refine ⟨?_, ?_⟩
    · intro done f W hP hdn hd K hK
      clear hd
      go_simp
      exact hK _ _ rfl hP
    refine ⟨?_, ?_⟩
    · intro done f W hP hdn hd K hK
      clear hd
      go_simp
      exact hK _ _ rfl hP
    refine ⟨?_, ?_⟩
    · intro done f W hP hdn hd K hK
      have d1 := (hd.1 rfl).2
      have e1 : done 1 = true := (hd.1 rfl).1
      clear hd
      replace d1 : f 1 = .pointer (some ⟨tb, 0, none⟩) := d1
      generalize f 1 = x1 at *
      subst d1
      clear e1
      go_simp
      exact hK _ _ rfl hP
    refine ⟨?_, ?_⟩
    · intro done f W hP hdn hd K hK
      have d2 := (hd.1 rfl).2
      have e2 : done 2 = true := (hd.1 rfl).1
      clear hd
      replace d2 : f 2 = .pointer (some ⟨tb, 0, none⟩) := d2
      generalize f 2 = x2 at *
      subst d2
      clear e2
      go_simp
      exact hK _ _ rfl hP
    refine ⟨?_, ?_⟩
    · intro done f W hP hdn hd K hK
      have d3 := (hd.1 rfl).2
      have e3 : done 3 = true := (hd.1 rfl).1
      clear hd
      replace d3 : f 3 = .pointer (some ⟨tb, 0, none⟩) := d3
      generalize f 3 = x3 at *
      subst d3
      clear e3
      have q := (hP.cell (p := ⟨tb, 0, none⟩) (getElem?_lt HT.out.t)).trans HT.out.tc.1
      go_simp
      exact hK _ _ rfl hP
    refine ⟨?_, ?_⟩
    · intro done f W hP hdn hd K hK
      have d0 := (hd.1 rfl).2
      have e0 : done 0 = true := (hd.1 rfl).1
      have d4 := (hd.2.1 rfl).2
      have e4 : done 4 = true := (hd.2.1 rfl).1
      clear hd
      replace d0 : f 0 = .string k := d0
      replace d4 : f 4 = .int .u64 (sd : Nat) := d4
      generalize f 0 = x0 at *
      subst d0
      clear e0
      generalize f 4 = x4 at *
      subst d4
      clear e4
      go_simp
      refine Calls.mono (text_any k sd (by omega) W (HT.out.rt.below HT.out.rt.size hP)) ?_
      rintro e W' ⟨rfl, hb⟩
      exact hK _ _ rfl (hP.trans (hb.mono hP.size))
    refine ⟨?_, ?_⟩
    · intro done f W hP hdn hd K hK
      clear hd
      go_simp
      exact hK _ _ rfl hP
    refine ⟨?_, ?_⟩
    · intro done f W hP hdn hd K hK
      have d6 := (hd.1 rfl).2
      have e6 : done 6 = true := (hd.1 rfl).1
      clear hd
      replace d6 : f 6 = .pointer (some ⟨tb, 0, none⟩) := d6
      generalize f 6 = x6 at *
      subst d6
      clear e6
      go_simp
      exact hK _ _ rfl hP
    refine ⟨?_, ?_⟩
    · intro done f W hP hdn hd K hK
      have d7 := (hd.1 rfl).2
      have e7 : done 7 = true := (hd.1 rfl).1
      clear hd
      replace d7 : f 7 = .pointer (some ⟨tb, 0, none⟩) := d7
      generalize f 7 = x7 at *
      subst d7
      clear e7
      go_simp
      exact hK _ _ rfl hP
    refine ⟨?_, ?_⟩
    · intro done f W hP hdn hd K hK
      have d8 := (hd.1 rfl).2
      have e8 : done 8 = true := (hd.1 rfl).1
      clear hd
      replace d8 : f 8 = .pointer (some ⟨tb, 1, none⟩) := d8
      generalize f 8 = x8 at *
      subst d8
      clear e8
      have q := (hP.cell (p := ⟨tb, 1, none⟩) (getElem?_lt HT.out.t)).trans HT.out.tc.2.1
      go_simp
      exact hK _ _ rfl hP
    refine ⟨?_, ?_⟩
    · intro done f W hP hdn hd K hK
      have d9 := (hd.1 rfl).2
      have e9 : done 9 = true := (hd.1 rfl).1
      clear hd
      replace d9 : f 9 = .slice (some ⟨pb, 0, none⟩) n n := d9
      generalize f 9 = x9 at *
      subst d9
      clear e9
      go_simp
      exact hK _ _ rfl hP
    refine ⟨?_, ?_⟩
    · intro done f W hP hdn hd K hK
      have d10 := (hd.1 rfl).2
      have e10 : done 10 = true := (hd.1 rfl).1
      clear hd
      replace d10 : f 10 = .int .i64 (n : Nat) := d10
      generalize f 10 = x10 at *
      subst d10
      clear e10
      have q : IntKind.u64.wrap (n : Int) = (n : Int) := by rw [IntKind.wrap_u64]; omega
      go_simp
      exact hK _ _ rfl hP
    refine ⟨?_, ?_⟩
    · intro done f W hP hdn hd K hK
      have d5 := (hd.1 rfl).2
      have e5 : done 5 = true := (hd.1 rfl).1
      have d11 := (hd.2.1 rfl).2
      have e11 : done 11 = true := (hd.2.1 rfl).1
      clear hd
      replace d5 : f 5 = .int .u64 (textN k sd : Nat) := d5
      replace d11 : f 11 = .int .u64 (n : Nat) := d11
      generalize f 5 = x5 at *
      subst d5
      clear e5
      generalize f 11 = x11 at *
      subst d11
      clear e11
      have q0 : ¬ n = 0 := by omega
      have q : ((textN k sd : Nat) : Int).tmod (n : Int) = ((hm sd n k : Nat) : Int) := by rw [Int.tmod_eq_emod_of_nonneg (by omega)]; exact (Int.natCast_emod _ _).symm
      go_simp
      exact hK _ _ rfl hP
    refine ⟨?_, ?_⟩
    · intro done f W hP hdn hd K hK
      have d12 := (hd.1 rfl).2
      have e12 : done 12 = true := (hd.1 rfl).1
      clear hd
      replace d12 : f 12 = .int .u64 (hm sd n k : Nat) := d12
      generalize f 12 = x12 at *
      subst d12
      clear e12
      have q1 := hml
      have q : IntKind.i64.wrap ((hm sd n k : Nat) : Int) = ((hm sd n k : Nat) : Int) := by rw [IntKind.wrap_i64]; omega
      go_simp
      exact hK _ _ rfl hP
    refine ⟨?_, ?_⟩
    · intro done f W hP hdn hd K hK
      have d13 := (hd.1 rfl).2
      have e13 : done 13 = true := (hd.1 rfl).1
      clear hd
      replace d13 : f 13 = .int .i64 (hm sd n k : Nat) := d13
      generalize f 13 = x13 at *
      subst d13
      clear e13
      go_simp
      exact hK _ _ rfl hP
    trivial
theorem beq_toList (a b : ByteArray) : (a.toList == b.toList) = decide (a = b) := by
  rw [ByteArray.toList_eq, ByteArray.toList_eq, Bool.eq_iff_iff]
  simp only [beq_iff_eq, decide_eq_true_eq]
  constructor
  · intro h
    cases a; cases b
    simpa using h
  · rintro rfl; rfl
/-- What find tells. -/
structure Fd (n sd : Nat) (L : Nat → Option Ent) (k : ByteArray) (a s : Nat) (is : Bool) : Prop where
  f : Fnd n (hm sd n) L k a s
  tk : is = (L a).isSome
  ky : ∀ p, L a = some p → p.1 = k
theorem Tm.lits (h : Tm w tb pb sd n cnt L) {a : Nat} (ha : a < n) : w.cell? ⟨pb, a * 3, none⟩ = some (.bool (L a).isSome) ∧ w.cell? ⟨pb, a * 3 + 1, none⟩ = some (.string (kyo (L a))) ∧ w.cell? ⟨pb, a * 3 + 2, none⟩ = some (.int .i64 (vlo (L a))) := by
  have h1 := h.rng ha
  cases e : L a with
  | none => rw [e] at h1; exact ⟨h1 0 _ rfl, h1 1 _ rfl, h1 2 _ rfl⟩
  | some p => rw [e] at h1; exact ⟨h1 0 _ rfl, h1 1 _ rfl, h1 2 _ rfl⟩
def FV (tb pb n a s : Nat) (is : Bool) : Nat → Value → Prop
  | 0, v => v = .int .i64 (a : Nat)
  | 1, v => v = .int .i64 (s + 1 : Nat)
  | 2, v => v = .pointer (some ⟨tb, 0, none⟩)
  | 3, v => v = .pointer (some ⟨tb, 0, none⟩)
  | 4, v => v = .pointer (some ⟨tb, 1, none⟩)
  | 5, v => v = .slice (some ⟨pb, 0, none⟩) n n
  | 6, v => v = .int .i64 (a : Nat)
  | 7, v => v = .pointer (some ⟨pb, a * 3, none⟩)
  | 8, v => v = .pointer (some ⟨pb, a * 3, none⟩)
  | 9, v => v = .bool is
  | 10, v => v = .int .i64 (a : Nat)
  | 11, v => v = .int .i64 (s + 1 : Nat)
  | 12, v => v = .bool is
  | _, _ => True
structure FPh (wr : World) (a s : Nat) (done : Nat → Bool) (f : Nat → Value) (W : World) : Prop where
  b : Below wr.heap.size wr W
  ha : f 10 = .int .i64 (a : Nat)
  hs : f 11 = .int .i64 (s + 1 : Nat)
theorem Tm.plt (h : Tm w tb pb sd n cnt L) : pb < w.heap.size := by
  obtain ⟨C, h1, _⟩ := h.p
  exact getElem?_lt h1
set_option maxHeartbeats 1000000 in
theorem find_any (h : Tm w tb pb sd n cnt L) (hl : (ents n L).length < n) (k : ByteArray) (hk : k.size ≤ 4096) :
    Calls Tryd.prog 20 #[.pointer (some ⟨tb, 0, none⟩), .string k] w fun e w' => ∃ a s is, e = .returned (.tuple #[.int .i64 (a : Nat), .int .i64 (s + 1 : Nat), .bool is]) ∧ Fd n sd L k a s is ∧ Below w.heap.size w w' := by
  have HT : Hid (Tm w tb pb sd n cnt L) := h
  have n4 := h.n4
  have nb := h.nb
  have hh := home_any h k hk
  have HL : Hid (∀ k, hm sd n k < n) := hm_lt sd (by omega)
  have HLE : Hid ((ents n L).length < n) := hl
  clear h hl
  go_enter Tryd.func20, Tryd.ntmps20
  go_wp2_with fail
  go_call hh as e w1 ⟨rfl, hb1⟩
  have HB1 : Hid _ := hb1
  clear hh hb1
  go_wp2
  rename_i K hK
  have HK : Hid (∀ (a s : Nat) (is : Bool) (x7 x8 x9 x10 x11 x12 x13 x14 x15 x16 x17 x18 x19 x20 x21 x22 x23 x24 x25 x26 x27 x28 x29 x30 x31 x32 x33 x34 : Value) (wr : World), Hid (Fd n sd L k a s is) → Hid (Below w.heap.size w wr) → K ⟨#[.pointer (some ⟨tb, 0, none⟩), .string k, undef, undef, .int .i64 (a : Nat), .int .i64 (s + 1 : Nat), .bool false, x7, x8, x9, x10, x11, x12, x13, x14, x15, x16, x17, x18, x19, x20, x21, x22, x23, x24, x25, x26, x27, x28, x29, x30, x31, x32, x33, x34, undef, undef, undef, undef, undef, undef, undef, undef, undef, undef], []⟩ wr) := by
    intro a s is x7 x8 x9 x10 x11 x12 x13 x14 x15 x16 x17 x18 x19 x20 x21 x22 x23 x24 x25 x26 x27 x28 x29 x30 x31 x32 x33 x34 wr HF HB
    have HT2 : Hid (Tm wr tb pb sd n cnt L) := HT.out.below HB.out
    have han : a < n := HF.out.f.lt
    have HQ0 : Hid _ := HF.out.tk
    refine hK _ _ ?_
    clear hK
    refine wp_seq_k (fun K9 hK9 => ?_)
    refine O.wp_region_pb (fun f => ⟨#[.pointer (some ⟨tb, 0, none⟩), .string k, undef, undef, f 10, f 11, f 12, x7, x8, x9, x10, x11, x12, x13, x14, x15, x16, x17, x18, x19, x20, x21, x22, x23, x24, x25, x26, x27, x28, x29, x30, x31, x32, x33, x34, f 0, f 1, f 2, f 3, f 4, f 5, f 6, f 7, f 8, f 9], []⟩) (FV tb pb n a s is) (FPh wr a s) (fun i => [undef, undef, undef, undef, undef, undef, undef, undef, undef, undef, .int .i64 (a : Nat), .int .i64 (s + 1 : Nat), .bool false].getD i undef) (by kernel_rfl) rfl rfl ?hIq ?hputq ?stepq ?finq
    case hIq => exact ⟨(Below.refl _ _).drew, rfl, rfl⟩
    case finq =>
      intro f W hP hV
      have v0 : f 0 = .int .i64 (a : Nat) := hV 0 (by decide)
      have v1 : f 1 = .int .i64 (s + 1 : Nat) := hV 1 (by decide)
      have v2 : f 2 = .pointer (some ⟨tb, 0, none⟩) := hV 2 (by decide)
      have v3 : f 3 = .pointer (some ⟨tb, 0, none⟩) := hV 3 (by decide)
      have v4 : f 4 = .pointer (some ⟨tb, 1, none⟩) := hV 4 (by decide)
      have v5 : f 5 = .slice (some ⟨pb, 0, none⟩) n n := hV 5 (by decide)
      have v6 : f 6 = .int .i64 (a : Nat) := hV 6 (by decide)
      have v7 : f 7 = .pointer (some ⟨pb, a * 3, none⟩) := hV 7 (by decide)
      have v8 : f 8 = .pointer (some ⟨pb, a * 3, none⟩) := hV 8 (by decide)
      have v9 : f 9 = .bool is := hV 9 (by decide)
      have v10 : f 10 = .int .i64 (a : Nat) := hV 10 (by decide)
      have v11 : f 11 = .int .i64 (s + 1 : Nat) := hV 11 (by decide)
      have v12 : f 12 = .bool is := hV 12 (by decide)
      clear hV
      have HP : Hid _ := hP.b
      clear hP
      generalize f 0 = y0 at *
      subst v0
      generalize f 1 = y1 at *
      subst v1
      generalize f 2 = y2 at *
      subst v2
      generalize f 3 = y3 at *
      subst v3
      generalize f 4 = y4 at *
      subst v4
      generalize f 5 = y5 at *
      subst v5
      generalize f 6 = y6 at *
      subst v6
      generalize f 7 = y7 at *
      subst v7
      generalize f 8 = y8 at *
      subst v8
      generalize f 9 = y9 at *
      subst v9
      generalize f 10 = y10 at *
      subst v10
      generalize f 11 = y11 at *
      subst v11
      generalize f 12 = y12 at *
      subst v12
      go_wp2
      go_returns
      exact ⟨a, s, is, rfl, HF.out, HB.out.trans (HP.out.mono HB.out.size)⟩
    case hputq =>
      repeat (refine ⟨fun f v => rfl, ?_⟩)
      trivial
    case stepq =>
      refine ⟨?_, ?_⟩
      · intro done f W hP hdn hd K hK
        clear hd
        have q := hP.ha
        have hK2 := hK (.int .i64 (a : Nat)) W rfl ⟨hP.b, hP.ha, hP.hs⟩
        clear hK hP
        generalize f 10 = z10 at *
        subst q
        go_simp
        exact hK2
      refine ⟨?_, ?_⟩
      · intro done f W hP hdn hd K hK
        clear hd
        have q := hP.hs
        have hK2 := hK (.int .i64 (s + 1 : Nat)) W rfl ⟨hP.b, hP.ha, hP.hs⟩
        clear hK hP
        generalize f 11 = z11 at *
        subst q
        go_simp
        exact hK2
      refine ⟨?_, ?_⟩
      · intro done f W hP hdn hd K hK
        clear hd
        go_simp
        exact hK _ _ rfl ⟨hP.b, hP.ha, hP.hs⟩
      refine ⟨?_, ?_⟩
      · intro done f W hP hdn hd K hK
        have d2 := (hd.1 rfl).2
        have e2 : done 2 = true := (hd.1 rfl).1
        clear hd
        replace d2 : f 2 = .pointer (some ⟨tb, 0, none⟩) := d2
        generalize f 2 = x2 at *
        subst d2
        clear e2
        go_simp
        exact hK _ _ rfl ⟨hP.b, hP.ha, hP.hs⟩
      refine ⟨?_, ?_⟩
      · intro done f W hP hdn hd K hK
        have d3 := (hd.1 rfl).2
        have e3 : done 3 = true := (hd.1 rfl).1
        clear hd
        replace d3 : f 3 = .pointer (some ⟨tb, 0, none⟩) := d3
        generalize f 3 = x3 at *
        subst d3
        clear e3
        go_simp
        exact hK _ _ rfl ⟨hP.b, hP.ha, hP.hs⟩
      refine ⟨?_, ?_⟩
      · intro done f W hP hdn hd K hK
        have d4 := (hd.1 rfl).2
        have e4 : done 4 = true := (hd.1 rfl).1
        clear hd
        replace d4 : f 4 = .pointer (some ⟨tb, 1, none⟩) := d4
        generalize f 4 = x4 at *
        subst d4
        clear e4
        have q := (hP.b.cell (p := ⟨tb, 1, none⟩) (getElem?_lt HT2.out.t)).trans HT2.out.tc.2.1
        go_simp
        exact hK _ _ rfl ⟨hP.b, hP.ha, hP.hs⟩
      refine ⟨?_, ?_⟩
      · intro done f W hP hdn hd K hK
        clear hd
        have q := hP.ha
        have hK2 := hK (.int .i64 (a : Nat)) W rfl ⟨hP.b, hP.ha, hP.hs⟩
        clear hK hP
        generalize f 10 = z10 at *
        subst q
        go_simp
        exact hK2
      refine ⟨?_, ?_⟩
      · intro done f W hP hdn hd K hK
        have d5 := (hd.1 rfl).2
        have e5 : done 5 = true := (hd.1 rfl).1
        have d6 := (hd.2.1 rfl).2
        have e6 : done 6 = true := (hd.2.1 rfl).1
        clear hd
        replace d5 : f 5 = .slice (some ⟨pb, 0, none⟩) n n := d5
        replace d6 : f 6 = .int .i64 (a : Nat) := d6
        generalize f 5 = x5 at *
        subst d5
        clear e5
        generalize f 6 = x6 at *
        subst d6
        clear e6
        have q := han
        go_simp
        exact hK _ _ rfl ⟨hP.b, hP.ha, hP.hs⟩
      refine ⟨?_, ?_⟩
      · intro done f W hP hdn hd K hK
        have d7 := (hd.1 rfl).2
        have e7 : done 7 = true := (hd.1 rfl).1
        clear hd
        replace d7 : f 7 = .pointer (some ⟨pb, a * 3, none⟩) := d7
        generalize f 7 = x7 at *
        subst d7
        clear e7
        go_simp
        exact hK _ _ rfl ⟨hP.b, hP.ha, hP.hs⟩
      refine ⟨?_, ?_⟩
      · intro done f W hP hdn hd K hK
        have d8 := (hd.1 rfl).2
        have e8 : done 8 = true := (hd.1 rfl).1
        clear hd
        replace d8 : f 8 = .pointer (some ⟨pb, a * 3, none⟩) := d8
        generalize f 8 = x8 at *
        subst d8
        clear e8
        have q := (hP.b.cell (p := ⟨pb, a * 3, none⟩) HT2.out.plt).trans (HT2.out.lits han).1
        rw [← HQ0.out] at q
        go_simp
        exact hK _ _ rfl ⟨hP.b, hP.ha, hP.hs⟩
      refine ⟨?_, ?_⟩
      · intro done f W hP hdn hd K hK
        have d0 := (hd.1 rfl).2
        have e0 : done 0 = true := (hd.1 rfl).1
        clear hd
        replace d0 : f 0 = .int .i64 (a : Nat) := d0
        generalize f 0 = x0 at *
        subst d0
        clear e0
        go_simp
        exact hK _ _ rfl ⟨hP.b, rfl, hP.hs⟩
      refine ⟨?_, ?_⟩
      · intro done f W hP hdn hd K hK
        have d1 := (hd.1 rfl).2
        have e1 : done 1 = true := (hd.1 rfl).1
        clear hd
        replace d1 : f 1 = .int .i64 (s + 1 : Nat) := d1
        generalize f 1 = x1 at *
        subst d1
        clear e1
        go_simp
        exact hK _ _ rfl ⟨hP.b, hP.ha, rfl⟩
      refine ⟨?_, ?_⟩
      · intro done f W hP hdn hd K hK
        have d9 := (hd.1 rfl).2
        have e9 : done 9 = true := (hd.1 rfl).1
        clear hd
        replace d9 : f 9 = .bool is := d9
        generalize f 9 = x9 at *
        subst d9
        clear e9
        go_simp
        exact hK _ _ rfl ⟨hP.b, hP.ha, hP.hs⟩
      trivial
  clear hK
  go_loopw [4, 5] (fun x y wr => ∃ a s : Nat, x = .int .i64 (a : Nat) ∧ y = .int .i64 (s + 1 : Nat) ∧ Hid (Fnd n (hm sd n) L k a s) ∧ Hid (Below w.heap.size w wr)) (fun _ y _ => n + 1 - (intOf y).toNat)
  case atStart => exact ⟨_, 0, rfl, rfl, Fnd.start HL.out k, HB1⟩
  case round =>
    obtain ⟨a, s, rfl, rfl, hf, hb⟩ := hrel
    clear HB1
    have han : a < n := hf.out.lt
    have hsn : s < n := hf.out.lts HL.out
    have HT2 : Hid (Tm wr tb pb sd n cnt L) := HT.out.below hb.out
    obtain ⟨-, t1, -⟩ := HT2.out.tc
    obtain ⟨p0, p1, -⟩ := HT2.out.lits han
    have hn := next_any HT2.out a han
    clear HT
    cases hL : L a with
    | none =>
      rw [hL] at p0 p1
      simp only [kyo] at p1
      simp only [Option.isSome_none] at p0
      go_wp2
      exact HK.out a s false _ _ _ _ _ _ _ _ _ _ _ _ _ _ _ _ _ _ _ _ _ _ _ _ _ _ _ _ _ ⟨hf.out, by rw [hL]; rfl, fun p e => by rw [hL] at e; cases e⟩ hb
    | some p =>
      rw [hL] at p0 p1
      simp only [kyo] at p1
      simp only [Option.isSome_some] at p0
      by_cases hpk : p.1 = k
      · have hpk2 : (p.1.toList == k.toList) = true := by rw [beq_toList]; exact decide_eq_true hpk
        go_wp2
        exact HK.out a s true _ _ _ _ _ _ _ _ _ _ _ _ _ _ _ _ _ _ _ _ _ _ _ _ _ _ _ _ _ ⟨hf.out, by rw [hL]; rfl, fun q e => by rw [hL] at e; cases e; exact hpk⟩ hb
      · have hpk2 : (p.1.toList == k.toList) = false := by rw [beq_toList]; exact decide_eq_false hpk
        have HS : Hid _ := hf.out.step HL.out hL hpk HLE.out
        clear hL hpk
        go_wp2_with fail
        go_call hn as e w2 ⟨rfl, rfl⟩
        go_wp2
        go_roundw
        case rel => exact ⟨_, s + 1, rfl, by go_num, HS, hb⟩
        case measure => simp only [intOf]; omega
end
end Go.Proofs.YtcgmngafodmfcaaDoor
