/- What Hex and Unhex answer, as calls: two digits for each byte, and back; for every text shorter than 100000 bytes. -/
import Derived.Test.YthojbccoejdmeaaQ
import Derived.Laws.BitsAllLaws
import Derived.Deep.MidRow
namespace Go.Proofs.Ythojbccoejdmeaa
open Go.RowKit

def bn (s : ByteArray) (k : Nat) : Nat := if h : k < s.size then (s[k]'h).toNat else 0
theorem get_bn (s : ByteArray) : ∀ (n : Nat) (h : n < s.size), ((s[n]'h).toNat : Int) = (bn s n : Int) := fun n h => by unfold bn; rw [dif_pos h]
theorem bn_lt (s : ByteArray) (k : Nat) : bn s k < 256 := by
  unfold bn; split
  · exact (s[k]).toNat_lt
  · omega
theorem bn_get (s : ByteArray) (k : Nat) (h : k < s.size) : s.data.toList[k]? = some (UInt8.ofNat (bn s k)) := by
  have h2 : k < s.data.size := h
  rw [Array.getElem?_toList, Array.getElem?_eq_getElem h2]
  unfold bn
  rw [dif_pos h]
  congr 1
  exact (UInt8.ofNat_toNat (x := s.data[k])).symm
theorem ofNat_bn (s : ByteArray) (k : Nat) : (UInt8.ofNat (bn s k)).toNat = bn s k := by
  have := bn_lt s k
  simp; omega

/-- '[]byte(s)': a new row with the bytes. -/
theorem conv_string (d : ByteArray) (w : World) : ∃ (W0 : World) (cap : Nat), (convert 9 38 (.string d)).run Try.prog w = .ok (.slice (some ⟨w.heap.size, 0, none⟩) d.size cap) W0 ∧
    (∀ j, j < d.size → W0.cell? ⟨w.heap.size, j, none⟩ = some (.int .u8 (bn d j : Int))) ∧ Below w.heap.size w W0 ∧ w.heap.size < W0.heap.size := by
  refine ⟨_, _, run_bytes_of_string w 9 38 5 d Try.underlying9 Try.underlying38 Try.underlying5, ?_, ?_, ?_⟩
  · intro j hj
    generalize grownCap w d.size 0 5 = cap
    have h1 : (w.drew.alloc (.cells (bytesRow d cap) 5 ((bytesRow d cap).size, (bytesRow d cap).size + 1))).heap[w.heap.size]? = some (.cells (bytesRow d cap) 5 ((bytesRow d cap).size, (bytesRow d cap).size + 1)) := by
      show (w.heap.push _)[w.heap.size]? = _
      simp
    simp only [World.cell?, h1]
    have h2 : (bytesRow d cap)[j]? = some (.int .u8 (bn d j : Int)) := by
      unfold bytesRow
      rw [Array.getElem?_append_left (by simpa using hj)]
      have hj2 : j < d.data.size := hj
      simp only [Array.getElem?_map, Array.getElem?_eq_getElem hj2, Option.map_some]
      unfold bn
      rw [dif_pos hj]
      rfl
    simp [h2]
  · exact Below.alloc (Below.drew (Below.refl _ _)) (Nat.le_refl _) _
  · show w.heap.size < (w.heap.push _).size
    simp

theorem conv_own {w : World} {base : Nat} {v : Value} {l : List UInt8} (ho : w.ownsRow base 5 1 v l.length (bcs l)) : (convert 38 9 v).run Try.prog w = .ok (.string ⟨l.toArray⟩) w := by
  rcases ho.2 with ⟨rfl, h0⟩ | ⟨g, cap, cur, rfl, _⟩
  · have : l = [] := List.eq_nil_of_length_eq_zero h0
    subst this
    rfl
  · refine run_convert_bytes_back (P := Try.prog) w 38 9 5 ⟨g, 0, none⟩ cap l Try.underlying38 Try.underlying5 Try.underlying9 (fun j hj => ?_)
    exact ho.cells (g := g) rfl j _ (by simp [bcs, hj])
def hxd (k : Nat) : Nat := if k < 10 then 48 + k else 87 + k
theorem hxd_lt (k : Nat) (h : k < 16) : hxd k < 256 := by unfold hxd; split <;> omega
def hx (k : Nat) : UInt8 := UInt8.ofNat (hxd k)
theorem hx_nat (k : Nat) (h : k < 16) : (hx k).toNat = hxd k := by have := hxd_lt k h; simp [hx]; omega
/-- The digits of the first k bytes. -/
def hexN (s : ByteArray) : Nat → List UInt8
  | 0 => []
  | k + 1 => hexN s k ++ [hx (bn s k / 16), hx (bn s k % 16)]
theorem hexN_length (s : ByteArray) (k : Nat) : (hexN s k).length = 2 * k := by
  induction k with
  | zero => rfl
  | succ k ih => simp [hexN, ih]; omega

set_option maxRecDepth 100000 in
theorem ixd (k : Nat) (hk : k < 16) (w : World) : (Instr.index 9 (.string ⟨#[48, 49, 50, 51, 52, 53, 54, 55, 56, 57, 97, 98, 99, 100, 101, 102]⟩) (.int .u8 (k : Int))).run Try.prog w = .ok (.int .u8 (hxd k : Nat)) w := by
  have : k = 0 ∨ k = 1 ∨ k = 2 ∨ k = 3 ∨ k = 4 ∨ k = 5 ∨ k = 6 ∨ k = 7 ∨ k = 8 ∨ k = 9 ∨ k = 10 ∨ k = 11 ∨ k = 12 ∨ k = 13 ∨ k = 14 ∨ k = 15 := by omega
  rcases this with rfl | rfl | rfl | rfl | rfl | rfl | rfl | rfl | rfl | rfl | rfl | rfl | rfl | rfl | rfl | rfl <;> rfl

/-- Bytes of the call's own gathered while another row stays. -/
structure GRel (w : World) (Bs : Nat) (src : Nat → Nat) (n : Nat) (wr : World) (v : Value) (l : List UInt8) : Prop where
  own : wr.ownsRow w.heap.size 5 1 v l.length (bcs l)
  ne : v.ownBlock ≠ some Bs
  ge : w.heap.size ≤ Bs
  lt : Bs < wr.heap.size
  cell : ∀ j, j < n → wr.cell? ⟨Bs, j, none⟩ = some (.int .u8 (src j : Nat))
  below : Below w.heap.size w wr
theorem GRel.next {w : World} {Bs n : Nat} {src : Nat → Nat} {wr w1 w2 : World} {v v' : Value} {l new : List UInt8} (h : GRel w Bs src n wr v l) (hb : Below wr.heap.size wr w1) (hown : w2.ownsRow w.heap.size 5 1 v' (l.length + new.length) (bcs l ++ bcs new)) (hg : w1.grownBy w2 v.ownBlock)
    (hf : v'.ownBlock = v.ownBlock ∨ ∃ k, v'.ownBlock = some k ∧ w1.heap.size ≤ k) : GRel w Bs src n w2 v' (l ++ new) := by
  refine ⟨by rw [List.length_append, bcs_append]; exact hown, ?_, h.ge, ?_, fun j hj => ?_, ?_⟩
  · rcases hf with e | ⟨k, e, hk⟩
    · rw [e]; exact h.ne
    · rw [e]; intro e2; injection e2 with e2; have := hb.size; have := h.lt; omega
  · have := h.lt; have := hb.size; have := hg.size; omega
  · have c1 : w1.cell? ⟨Bs, j, none⟩ = _ := (hb.cell (by exact h.lt)).trans (h.cell j hj)
    exact hg.cell c1 (by intro e; exact h.ne e.symm)
  · refine (h.below.trans (hb.mono h.below.size)).grown hg (Nat.le_trans h.below.size hb.size) (fun k e => (h.own.lt k e).1)

/-- The state of memory while a built slice is appended: before the append, behind it. -/
structure APh (i0 iB iA iS : Nat) (base : Nat) (v0 : Value) (l new : List UInt8) (w : World) (done : Nat → Bool) (f : Nat → Value) (W : World) : Prop where
  no0 : done i0 = false → done iA = false
  preS : done iS = false → f iS = v0
  noB : done iB = false → done iA = false
  noA : done iA = false → done iS = false
  eqS : done iS = true → f iS = f iA
  before : done iA = false → Below w.heap.size w W ∧ (done iB = true → ∃ k, f iB = .slice (some ⟨k, 0, none⟩) new.length new.length ∧ w.heap.size ≤ k ∧ ∀ j u, (bcs new)[j]? = some u → W.cell? ⟨k, j, none⟩ = some u)
  after : done iA = true → ∃ ao cap W1, f iA = .slice ao (l.length + new.length) cap ∧ Below w.heap.size w W1 ∧ W.ownsRow base 5 1 (.slice ao (l.length + new.length) cap) (l.length + new.length) (bcs l ++ bcs new) ∧ W1.grownBy W v0.ownBlock ∧
    (Value.ownBlock (.slice ao (l.length + new.length) cap) = v0.ownBlock ∨ ∃ k, Value.ownBlock (.slice ao (l.length + new.length) cap) = some k ∧ W1.heap.size ≤ k)
theorem APh.start {i0 iB iA iS base : Nat} {v0 : Value} {l new : List UInt8} {w : World} {f : Nat → Value} (hf : f iS = v0) : APh i0 iB iA iS base v0 l new w (fun _ => false) f w.drew :=
  ⟨fun _ => rfl, fun _ => hf, fun _ => rfl, fun _ => rfl, fun e => (by cases e), fun _ => ⟨Below.drew (Below.refl _ _), fun e => by cases e⟩, fun e => by cases e⟩
theorem APh.pure {i0 iB iA iS base : Nat} {v0 : Value} {l new : List UInt8} {w : World} {done : Nat → Bool} {f : Nat → Value} {W : World} (h : APh i0 iB iA iS base v0 l new w done f W) (i : Nat) (hi : i ≠ iB ∧ i ≠ iA ∧ i ≠ iS) (v : Value) :
    APh i0 iB iA iS base v0 l new w (updB done i) (upd f i v) W := by
  have aB : updB done i iB = done iB := if_neg (Ne.symm hi.1)
  have aA : updB done i iA = done iA := if_neg (Ne.symm hi.2.1)
  have aS : updB done i iS = done iS := if_neg (Ne.symm hi.2.2)
  have bB : upd f i v iB = f iB := if_neg (Ne.symm hi.1)
  have bA : upd f i v iA = f iA := if_neg (Ne.symm hi.2.1)
  have bS : upd f i v iS = f iS := if_neg (Ne.symm hi.2.2)
  have a0 : updB done i i0 = false → done i0 = false := fun e => by
    unfold updB at e
    split at e
    · cases e
    · exact e
  exact ⟨fun e => by rw [aA]; exact h.no0 (a0 e), by rw [aS, bS]; exact h.preS, by rw [aB, aA]; exact h.noB, by rw [aA, aS]; exact h.noA, by rw [aS, bS, bA]; exact h.eqS, by rw [aA, aB, bB]; exact h.before, by rw [aA, bA]; exact h.after⟩
theorem APh.assigned {i0 iB iA iS base : Nat} {v0 : Value} {l new : List UInt8} {w : World} {done : Nat → Bool} {f : Nat → Value} {W : World} (h : APh i0 iB iA iS base v0 l new w done f W) (hi : iS ≠ iB ∧ iS ≠ iA) (eA : done iA = true) :
    APh i0 iB iA iS base v0 l new w (updB done iS) (upd f iS (f iA)) W := by
  have aB : updB done iS iB = done iB := if_neg (Ne.symm hi.1)
  have aA : updB done iS iA = done iA := if_neg (Ne.symm hi.2)
  have bB : upd f iS (f iA) iB = f iB := if_neg (Ne.symm hi.1)
  have bA : upd f iS (f iA) iA = f iA := if_neg (Ne.symm hi.2)
  have bS : upd f iS (f iA) iS = f iA := if_pos rfl
  have aS : updB done iS iS = true := if_pos rfl
  have e0 : ∀ b, done i0 = b → b = true := fun b hb => by
    cases b
    · have := h.no0 hb
      rw [eA] at this; cases this
    · rfl
  exact ⟨fun e => (by
    have : done i0 = false := by
      unfold updB at e
      split at e
      · cases e
      · exact e
    have := e0 _ this
    cases this), fun e => (by rw [aS] at e; cases e), by rw [aB, aA]; exact h.noB, fun e => (by rw [aA, eA] at e; cases e), fun _ => by rw [bS, bA], by rw [aA, aB, bB]; exact h.before, by rw [aA, bA]; exact h.after⟩
theorem APh.built {i0 iB iA iS base : Nat} {v0 : Value} {l new : List UInt8} {w : World} {done : Nat → Bool} {f : Nat → Value} {W : World} (h : APh i0 iB iA iS base v0 l new w done f W) (hne : iA ≠ iB ∧ iS ≠ iB) (hB : done iB = false) (cs : Array Value) (hcs : cs.toList = bcs new) :
    APh i0 iB iA iS base v0 l new w (updB done iB) (upd f iB (.slice (some ⟨W.heap.size, 0, none⟩) new.length new.length)) (W.alloc (.cells cs 5)) := by
  have hA := h.noB hB
  obtain ⟨b, _⟩ := h.before hA
  have hS := h.noA hA
  have aA : updB done iB iA = done iA := if_neg hne.1
  have aS : updB done iB iS = done iS := if_neg hne.2
  have bS : ∀ x, upd f iB x iS = f iS := fun _ => if_neg hne.2
  refine ⟨fun _ => by rw [aA]; exact hA, by rw [aS, bS]; exact h.preS, fun e => ?_, fun _ => by rw [aS]; exact hS, fun e => (by rw [aS, hS] at e; cases e), fun _ => ⟨Below.alloc b b.size _, fun _ => ⟨W.heap.size, if_pos rfl, b.size, fun j u hj => ?_⟩⟩, fun e => ?_⟩
  · rw [aA]; exact hA
  · have h0 : (W.alloc (.cells cs 5)).heap[W.heap.size]? = some (.cells cs 5) := by
      show (W.heap.push _)[W.heap.size]? = _
      rw [Array.getElem?_push, if_pos rfl]
    simp only [World.cell?, h0]
    rw [← hcs, Array.getElem?_toList] at hj
    exact hj
  · rw [aA, hA] at e; cases e
theorem APh.appended {i0 iB iA iS base : Nat} {v0 : Value} {l new : List UInt8} {w : World} {done : Nat → Bool} {f : Nat → Value} {W W' : World} (h : APh i0 iB iA iS base v0 l new w done f W) (hne : iA ≠ iB ∧ iS ≠ iA ∧ i0 ≠ iA) (e0 : done i0 = true) (eB : done iB = true) (hA : done iA = false)
    {ao : Option Addr} {cap : Nat} (h1 : W'.ownsRow base 5 1 (.slice ao (l.length + new.length) cap) (l.length + new.length) (bcs l ++ bcs new)) (h2 : W.grownBy W' v0.ownBlock) (h3 : Value.ownBlock (.slice ao (l.length + new.length) cap) = v0.ownBlock ∨ ∃ k, Value.ownBlock (.slice ao (l.length + new.length) cap) = some k ∧ W.heap.size ≤ k) :
    APh i0 iB iA iS base v0 l new w (updB done iA) (upd f iA (.slice ao (l.length + new.length) cap)) W' := by
  obtain ⟨b, _⟩ := h.before hA
  have aA : updB done iA iA = true := if_pos rfl
  have aB : updB done iA iB = done iB := if_neg (Ne.symm hne.1)
  have hS := h.noA hA
  have aS : updB done iA iS = done iS := if_neg hne.2.1
  have a0 : updB done iA i0 = done i0 := if_neg hne.2.2
  have bS : ∀ x, upd f iA x iS = f iS := fun _ => if_neg hne.2.1
  refine ⟨fun e => (by rw [a0, e0] at e; cases e), by rw [aS, bS]; exact h.preS, fun e => ?_, fun e => (by rw [aA] at e; cases e), fun e => (by rw [aS, hS] at e; cases e), fun e => ?_, fun _ => ⟨ao, cap, W, if_pos rfl, b, h1, h2, h3⟩⟩
  · rw [aB, eB] at e; cases e
  · rw [aA] at e; cases e
def HV (b p q : Nat) (l : List UInt8) (ao0 : Option Addr) (cap0 : Nat) : Nat → Value → Prop
  | 0, v => v = .slice ao0 l.length cap0
  | 1, v => v = .int .u8 (b : Nat)
  | 2, v => v = .int .u8 (p : Nat)
  | 3, v => v = .int .u8 (hxd (p) : Nat)
  | 4, v => v = .int .u8 (b : Nat)
  | 5, v => v = .int .u8 (q : Nat)
  | 6, v => v = .int .u8 (hxd (q) : Nat)
  | 7, _ => True
  | 8, _ => True
  | 9, _ => True
  | _, _ => True

set_option maxHeartbeats 1000000 in
theorem hex_any (s : ByteArray) (w : World) (hs : s.size ≤ 100000) :
    Calls Try.prog 33 #[.string s] w fun e w' => e = .returned (.string ⟨(hexN s s.size).toArray⟩) ∧ Below w.heap.size w w' := by
  obtain ⟨i5, hi, hz, hsz, hby⟩ := info_parts info5
  obtain ⟨w1, hmk, hown, hgr⟩ := run_make_own (P := Try.prog) w w.heap.size 38 5 i5 (.int .u8 0) 1 Try.underlying38 hi hz hsz .i64 .i64 (2 * s.size) (by rw [hby]; omega) (by unfold maxLen; omega) (Nat.le_refl _)
  obtain ⟨w2, cap2, hcv, hcell, hb2, hlt⟩ := conv_string s w1
  have hmk' : (Instr.makeSlice 38 (.int .i64 0) (.int .i64 (2 * ((s.size : Nat) : Int)))).run Try.prog w = .ok (.slice (some ⟨w.heap.size, 0, none⟩) 0 (2 * s.size)) w1 := by
    have e : (2 * ((s.size : Nat) : Int)) = ((2 * s.size : Nat) : Int) := by omega
    rw [e]; exact hmk
  have hb1 : Below w.heap.size w w1 := (Below.refl _ _).grown hgr (Nat.le_refl _) (fun k e => by cases e)
  have hw1 : w.heap.size < w1.heap.size := (hown.lt _ rfl).2
  have hst : Hid (GRel w w1.heap.size (bn s) s.size w2 (.slice (some ⟨w.heap.size, 0, none⟩) 0 (2 * s.size)) []) :=
    ⟨ownsRow_below hown hb2, by intro e; injection e with e; simp at e; omega, by omega, hlt, hcell, hb1.trans (hb2.mono (by omega))⟩
  clear hmk hgr hi hz hsz hby hown hb1 hcell hb2
  go_enter Try.func33, Try.ntmps33
  go_wp2_with fail
  clear hmk' hcv
  go_loopw [3, 13] (fun v i wr => ∃ k : Nat, k ≤ s.size ∧ i = .int .i64 k ∧ Hid (GRel w w1.heap.size (bn s) s.size wr v (hexN s k)))
    (fun _ i _ => s.size - (intOf i).toNat)
  case atStart => exact ⟨0, Nat.zero_le _, rfl, hst⟩
  case round =>
    obtain ⟨k, hk, rfl, hre⟩ := hrel
    clear hst
    obtain ⟨ao0, cap0, rfl⟩ := own_slice hre.out.own
    by_cases hkn : k < s.size
    · have hc1 := hre.out.cell k hkn
      have hG := hre.out
      clear hre
      go_wp2
      have hbb := bn_lt s k
      have hll : (hexN s k).length ≤ 200000 := by rw [hexN_length]; omega
      have hnext : hexN s (k + 1) = hexN s k ++ [hx (bn s k / 16), hx (bn s k % 16)] := rfl
      generalize hexN s k = l at *
      generalize bn s k = b at *
      obtain ⟨p, hp⟩ : ∃ p, b / 16 = p := ⟨_, rfl⟩
      obtain ⟨q, hq⟩ : ∃ q, b % 16 = q := ⟨_, rfl⟩
      rw [hp, hq] at hnext
      have hb1 : p < 16 := by omega
      have hb2 : q < 16 := by omega
      have hi1 := ixd (p) hb1
      have hi2 := ixd (q) hb2
      have hs1 : (b : Int) / 16 = ((p : Nat) : Int) := by omega
      have hs2 : bits .and .u8 (b : Int) 15 = ((q : Nat) : Int) := by
        have := u8_and_nat b 15 hbb (by decide)
        rw [show (15 : Int) = ((15 : Nat) : Int) from rfl, this]
        congr 1
        rw [← hq]
        exact Nat.and_two_pow_sub_one_eq_mod _ 4
      clear hp hq
      refine wp_region_ph (fun f => ⟨#[Value.string s, undef, Value.string ⟨#[]⟩, f 9, undef, Value.int IntKind.u8 (b : Int), Value.string s, Value.int IntKind.i64 (s.size : Int), Value.int IntKind.i64 (2 * (s.size : Int)), Value.slice (some ⟨w.heap.size, 0, none⟩) 0 (2 * s.size), Value.string s, Value.slice (some ⟨w1.heap.size, 0, none⟩) s.size cap2, Value.int IntKind.i64 (s.size : Int), Value.int IntKind.i64 (k : Int), Value.bool true, Value.pointer (some ⟨w1.heap.size, k, none⟩), Value.int IntKind.u8 (b : Int), f 0, f 1, f 2, f 3, f 4, f 5, f 6, f 7, f 8, u26, undef, undef], []⟩) (HV b p q l ao0 cap0) (APh 0 7 8 9 w.heap.size (.slice ao0 l.length cap0) l [hx (p), hx (q)] wr) (fun i => [u17, u18, u19, u20, u21, u22, u23, u24, u25, .slice ao0 l.length cap0].getD i undef) (by kernel_rfl) rfl rfl (APh.start rfl) ?hput ?step ?fin
      case fin =>
        intro f W hP hV
        obtain ⟨ao, cap, W1, e8', b1, o1, g1, f1⟩ := hP.after rfl
        have e9 : f 9 = f 8 := hP.eqS rfl
        have hG2 : Hid (GRel w w1.heap.size (bn s) s.size W (.slice ao (l.length + 2) cap) (hexN s (k + 1))) := by rw [hnext]; exact hG.next (new := [hx (p), hx (q)]) b1 o1 g1 f1
        rw [e8'] at e9
        generalize f 9 = x9 at *
        subst e9
        clear hP hV b1 o1 g1 f1 hG hc1 hnext
        go_wp2
        go_roundw
        case rel => exact ⟨k + 1, by omega, by go_num, hG2⟩
        case measure => simp only [intOf]; omega
      case hput =>
        repeat (refine ⟨fun f v => rfl, ?_⟩)
        trivial
      case step =>
        refine ⟨?_, ?_⟩
        · intro done f W hP hdn hd K hK
          clear hd
          have h9 : f 9 = _ := hP.preS (hP.noA (hP.no0 hdn))
          have hpu := hP.pure 0 (by decide) (.slice ao0 l.length cap0)
          have HPU : Hid _ := hpu
          clear hpu hP
          generalize f 9 = x9 at *
          subst h9
          go_simp
          exact hK _ _ rfl HPU.out
        refine ⟨?_, ?_⟩
        · intro done f W hP hdn hd K hK
          clear hd
          go_simp
          exact hK _ _ rfl (hP.pure _ (by decide) _)
        refine ⟨?_, ?_⟩
        · intro done f W hP hdn hd K hK
          have d1 := (hd.1 rfl).2
          have e1 := (hd.1 rfl).1
          clear hd
          replace d1 : f 1 = .int .u8 (b : Nat) := d1
          generalize f 1 = x1 at *
          subst d1
          clear e1
          go_simp
          exact hK _ _ rfl (hP.pure _ (by decide) _)
        refine ⟨?_, ?_⟩
        · intro done f W hP hdn hd K hK
          have d2 := (hd.1 rfl).2
          have e2 := (hd.1 rfl).1
          clear hd
          replace d2 : f 2 = .int .u8 (p : Nat) := d2
          generalize f 2 = x2 at *
          subst d2
          clear e2
          go_simp
          exact hK _ _ rfl (hP.pure _ (by decide) _)
        refine ⟨?_, ?_⟩
        · intro done f W hP hdn hd K hK
          clear hd
          go_simp
          exact hK _ _ rfl (hP.pure _ (by decide) _)
        refine ⟨?_, ?_⟩
        · intro done f W hP hdn hd K hK
          have d4 := (hd.1 rfl).2
          have e4 := (hd.1 rfl).1
          clear hd
          replace d4 : f 4 = .int .u8 (b : Nat) := d4
          generalize f 4 = x4 at *
          subst d4
          clear e4
          go_simp
          exact hK _ _ rfl (hP.pure _ (by decide) _)
        refine ⟨?_, ?_⟩
        · intro done f W hP hdn hd K hK
          have d5 := (hd.1 rfl).2
          have e5 := (hd.1 rfl).1
          clear hd
          replace d5 : f 5 = .int .u8 (q : Nat) := d5
          generalize f 5 = x5 at *
          subst d5
          clear e5
          go_simp
          exact hK _ _ rfl (hP.pure _ (by decide) _)
        refine ⟨?_, ?_⟩
        · intro done f W hP hdn hd K hK
          have d3 := (hd.1 rfl).2
          have d6 := (hd.2.1 rfl).2
          have e3 := (hd.1 rfl).1
          have e6 := (hd.2.1 rfl).1
          clear hd
          replace d3 : f 3 = .int .u8 (hxd (p) : Nat) := d3
          replace d6 : f 6 = .int .u8 (hxd (q) : Nat) := d6
          generalize f 3 = x3 at *
          subst d3
          clear e3
          generalize f 6 = x6 at *
          subst d6
          clear e6
          have hbt := hP.built (by decide) hdn #[.int .u8 (hxd (p) : Nat), .int .u8 (hxd (q) : Nat)] (by simp [bcs, hx_nat _ hb1, hx_nat _ hb2])
          have HBT : Hid _ := hbt
          clear hbt
          go_simp
          exact hK (.slice (some ⟨W.heap.size, 0, none⟩) 2 2) (W.alloc (.cells #[.int .u8 (hxd (p) : Nat), .int .u8 (hxd (q) : Nat)] 5)) trivial HBT.out
        refine ⟨?_, ?_⟩
        · intro done f W hP hdn hd K hK
          have d0 := (hd.1 rfl).2
          have d7 := (hd.2.1 rfl).2
          have e0 := (hd.1 rfl).1
          have e7 := (hd.2.1 rfl).1
          clear hd
          replace d0 : f 0 = .slice ao0 l.length cap0 := d0
          obtain ⟨hbW, hbl⟩ := hP.before hdn
          obtain ⟨kk, e7', hkk, hck⟩ := hbl e7
          generalize f 7 = x7 at *
          subst e7'
          generalize f 0 = x0 at *
          subst d0
          rw [if_pos (show Region.wanted _ _ = true from rfl)]
          refine wp_app (.tmp 17) (.tmp 24) 38 rfl (.slice (some ⟨kk, 0, none⟩) 2 2) 2 (bcs [hx (p), hx (q)]) (Sc.ofSrc (Src.ofSlice _ Try.underlying38 ⟨kk, 0, none⟩ 2 2 _ rfl (fun j u hj => ?_) (fun u hu => ?_))) w.heap.size _ _ _ rfl rfl (ownsRow_below hG.own hbW) (by omega) (by have := hbW.size; have := hG.below.size; omega) (fun ao cap w' h1 h2 h3 => ?_)
          · rw [Addr.add_mid, Nat.zero_add]; exact hck j u hj
          · simp [bcs] at hu; rcases hu with rfl | rfl <;> rfl
          · exact hK _ _ trivial (hP.appended (by decide) e0 e7 hdn h1 h2 h3)
        refine ⟨?_, ?_⟩
        · intro done f W hP hdn hd K hK
          have d8 := (hd.1 rfl).2
          have e8 := (hd.1 rfl).1
          clear hd
          have has := hP.assigned (by decide) e8
          obtain ⟨ao, cap, W1, e8', r⟩ := hP.after e8
          clear r
          change f 8 = .slice ao (l.length + 2) cap at e8'
          have HAS : Hid _ := has
          clear has hP
          generalize f 8 = x8 at *
          subst e8'
          go_simp
          exact hK _ _ trivial HAS.out
        trivial
    · obtain rfl : k = s.size := by omega
      have hcv := conv_own hre.out.own
      have hbl : Hid _ := hre.out.below
      clear hre
      go_wp2
      go_ret
      exact ⟨rfl, hbl.out⟩

/-- What a digit is worth; 16: it is none such. -/
def dgv (b : Nat) : Nat := if 48 ≤ b ∧ b ≤ 57 then b - 48 else if 97 ≤ b ∧ b ≤ 102 then b - 87 else 16
theorem dgv_le (b : Nat) : dgv b ≤ 16 := by unfold dgv; split <;> (try split) <;> omega
theorem digit_any (b : Nat) (hb : b < 256) (w : World) :
    Calls Try.prog 41 #[.int .u8 (b : Int)] w fun e w' => e = .returned (.tuple #[.int .u8 ((if dgv b < 16 then dgv b else 0 : Nat) : Int), .bool (decide (dgv b < 16))]) ∧ w' = w := by
  by_cases h1 : 48 ≤ b ∧ b ≤ 57
  · have hd : dgv b = b - 48 := by unfold dgv; rw [if_pos h1]
    have hlt : dgv b < 16 := by omega
    rw [if_pos hlt, decide_eq_true hlt]
    generalize dgv b = d at *
    have a1 : (48 : Int) ≤ (b : Int) := by omega
    have a2 : (b : Int) ≤ 57 := by omega
    have a3 : (b : Int) - 48 = (d : Int) := by omega
    clear hd hlt h1
    go_enter Try.func41, Try.ntmps41
    go_wp2
    go_returns
    exact ⟨rfl, rfl⟩
  · by_cases h2 : 97 ≤ b ∧ b ≤ 102
    · have hd : dgv b = b - 87 := by unfold dgv; rw [if_neg h1, if_pos h2]
      have hlt : dgv b < 16 := by omega
      rw [if_pos hlt, decide_eq_true hlt]
      generalize dgv b = d at *
      have a1 : (48 : Int) ≤ (b : Int) := by omega
      have a2 : ¬ ((b : Int) ≤ 57) := by omega
      have a3 : (97 : Int) ≤ (b : Int) := by omega
      have a4 : (b : Int) ≤ 102 := by omega
      have a5 : IntKind.u8.wrap ((b : Int) - 97 + 10) = (d : Int) := by rw [IntKind.wrap_u8]; omega
      clear hd hlt h1 h2
      go_enter Try.func41, Try.ntmps41
      go_wp2
      go_returns
      refine ⟨?_, rfl⟩
      rfl
    · have hd : dgv b = 16 := by unfold dgv; rw [if_neg h1, if_neg h2]
      rw [hd]
      go_enter Try.func41, Try.ntmps41
      go_wp2
      all_goals (go_returns; exact ⟨rfl, rfl⟩)

theorem digit_ok (b : Nat) (hb : b < 256) (h : dgv b < 16) (w : World) :
    Calls Try.prog 41 #[.int .u8 (b : Int)] w fun e w' => e = .returned (.tuple #[.int .u8 (dgv b : Nat), .bool true]) ∧ w' = w := by
  have := digit_any b hb w
  rwa [if_pos h, decide_eq_true h] at this
theorem digit_no (b : Nat) (hb : b < 256) (h : ¬ dgv b < 16) (w : World) :
    Calls Try.prog 41 #[.int .u8 (b : Int)] w fun e w' => e = .returned (.tuple #[.int .u8 0, .bool false]) ∧ w' = w := by
  have := digit_any b hb w
  rwa [if_neg h, decide_eq_false h] at this
/-- Are the digits of the byte j such? -/
def gd (s : ByteArray) (j : Nat) : Prop := dgv (bn s (2 * j)) < 16 ∧ dgv (bn s (2 * j + 1)) < 16
def unL (s : ByteArray) : Nat → List UInt8
  | 0 => []
  | k + 1 => unL s k ++ [UInt8.ofNat (16 * dgv (bn s (2 * k)) + dgv (bn s (2 * k + 1)))]
theorem unL_length (s : ByteArray) (k : Nat) : (unL s k).length = k := by
  induction k with
  | zero => rfl
  | succ k ih => simp [unL, ih]
/-- Is it such? -/
def uhP (s : ByteArray) : Prop := s.size % 2 = 0 ∧ ∀ j, j < s.size / 2 → gd s j
def uhB (s : ByteArray) : Bool := decide (s.size % 2 = 0) && (List.range (s.size / 2)).all fun j => decide (dgv (bn s (2 * j)) < 16) && decide (dgv (bn s (2 * j + 1)) < 16)
theorem uhB_iff (s : ByteArray) : uhB s = true ↔ uhP s := by
  unfold uhB uhP gd
  simp only [Bool.and_eq_true, List.all_eq_true, decide_eq_true_eq, List.mem_range]
def uhS (s : ByteArray) : ByteArray := if uhB s then ⟨(unL s (s.size / 2)).toArray⟩ else ⟨#[]⟩
theorem uhB_no {s : ByteArray} (h : ¬ uhP s) : uhB s = false ∧ uhS s = ⟨#[]⟩ := by
  have : uhB s = false := by
    cases hb : uhB s
    · rfl
    · exact absurd ((uhB_iff s).1 hb) h
  refine ⟨this, ?_⟩
  unfold uhS; rw [this]; rfl
theorem uhB_yes {s : ByteArray} (h : uhP s) : uhB s = true ∧ uhS s = ⟨(unL s (s.size / 2)).toArray⟩ := by
  have : uhB s = true := (uhB_iff s).2 h
  refine ⟨this, ?_⟩
  unfold uhS; rw [this]; rfl

set_option maxHeartbeats 1000000 in
theorem unhex_any (s : ByteArray) (w : World) (hs : s.size ≤ 100000) :
    Calls Try.prog 32 #[.string s] w fun e w' => e = .returned (.tuple #[.string (uhS s), .bool (uhB s)]) ∧ Below w.heap.size w w' := by
  by_cases hodd : s.size % 2 = 0
  · obtain ⟨n, hn⟩ : ∃ n, s.size = 2 * n := ⟨s.size / 2, by omega⟩
    obtain ⟨i5, hi, hz, hsz, hby⟩ := info_parts info5
    obtain ⟨w1, hmk, hown, hgr⟩ := run_make_own (P := Try.prog) w w.heap.size 38 5 i5 (.int .u8 0) 1 Try.underlying38 hi hz hsz .i64 .i64 n (by rw [hby]; omega) (by unfold maxLen; omega) (Nat.le_refl _)
    have hb1 : Below w.heap.size w w1 := (Below.refl _ _).grown hgr (Nat.le_refl _) (fun k e => by cases e)
    have hm0 : ((s.size : Nat) : Int).tmod 2 = 0 := by rw [Int.tmod_eq_emod_of_nonneg (by omega)]; omega
    have hq0 : ((s.size : Nat) : Int) / 2 = (n : Int) := by omega
    have hst : Hid (w1.ownsRow w.heap.size 5 1 (.slice (some ⟨w.heap.size, 0, none⟩) 0 n) 0 [] ∧ Below w.heap.size w w1) := ⟨hown, hb1⟩
    have HN : Hid (s.size = 2 * n) := hn
    have gs := get_bn s
    clear hgr hi hz hsz hby hown hb1 hn hodd
    go_enter Try.func32, Try.ntmps32
    go_wp2_with fail
    clear hmk hm0 hq0
    go_loopw [4, 5] (fun v i wr => ∃ k : Nat, k ≤ n ∧ i = .int .i64 (2 * k : Nat) ∧ Hid ((∀ j, j < k → gd s j) ∧ wr.ownsRow w.heap.size 5 1 v (unL s k).length (bcs (unL s k)) ∧ Below w.heap.size w wr))
      (fun _ i _ => s.size - (intOf i).toNat)
    case atStart => exact ⟨0, Nat.zero_le _, rfl, fun j hj => absurd hj (by omega), hst.out.1, hst.out.2⟩
    case round =>
      obtain ⟨k, hk, rfl, hre⟩ := hrel
      clear hst
      have hn := HN.out
      obtain ⟨ao0, cap0, rfl⟩ := own_slice hre.out.2.1
      by_cases hkn : k < n
      · have q1 : ((2 * k : Nat) : Int) < ((s.size : Nat) : Int) := by omega
        have q2 : 2 * k < s.size := by omega
        have q3 : 2 * k + 1 < s.size := by omega
        have b1 := bn_lt s (2 * k)
        have b2 := bn_lt s (2 * k + 1)
        clear hn
        by_cases h1 : dgv (bn s (2 * k)) < 16 <;> by_cases h2 : dgv (bn s (2 * k + 1)) < 16
        · have hG := hre.out
          clear hre
          have hnext : unL s (k + 1) = unL s k ++ [UInt8.ofNat (16 * dgv (bn s (2 * k)) + dgv (bn s (2 * k + 1)))] := rfl
          have hll : (unL s k).length ≤ 100000 := by rw [unL_length]; omega
          have c1 := digit_ok (bn s (2 * k)) b1 h1
          have c2 := digit_ok (bn s (2 * k + 1)) b2 h2
          have hgd : gd s k := ⟨h1, h2⟩
          generalize unL s k = l at *
          generalize dgv (bn s (2 * k)) = p at *
          generalize dgv (bn s (2 * k + 1)) = q at *
          have ho1 : bits .or .u8 ((p : Int) * 16 % 256) (q : Int) = ((16 * p + q : Nat) : Int) := by
            have e : (p : Int) * 16 % 256 = ((16 * p : Nat) : Int) := by omega
            rw [e, u8_or_nat (16 * p) q (by omega) (by omega)]
            congr 1
            have := Nat.two_pow_add_eq_or_of_lt (i := 4) (b := q) (by omega) p
            simpa using this.symm
          obtain ⟨r, hr⟩ : ∃ r, 16 * p + q = r := ⟨_, rfl⟩
          have hrl : r < 256 := by omega
          have hrb : (UInt8.ofNat r).toNat = r := by simp; omega
          rw [hr] at ho1 hnext
          have HX : Hid (unL s (k + 1) = l ++ [UInt8.ofNat r] ∧ gd s k ∧ (UInt8.ofNat r).toNat = r) := ⟨hnext, hgd, hrb⟩
          clear hr hnext hgd h1 h2 hrb
          go_wp2_with fail
          go_call (c1 wr) as e w2 ⟨rfl, rfl⟩
          go_wp2_with fail
          go_call (c2 w2) as e w2 ⟨rfl, rfl⟩
          clear c1 c2
          go_wp2_with (at_builtin; refine wpList_app rfl (.tmp 45) (.tmp 50) 38 rfl (.slice (some ⟨w2.heap.size, 0, none⟩) 1 1) 1 (bcs [UInt8.ofNat r]) ?src w.heap.size _ _ _ rfl rfl (ownsRow_below hG.2.1 (Below.alloc (Below.refl _ _) (Nat.le_refl _) _)) (by omega) (by have := hG.2.2.size; simp; omega) ?_)
          case src =>
            refine Sc.ofSrc (Src.ofSlice _ Try.underlying38 ⟨w2.heap.size, 0, none⟩ 1 1 _ rfl (fun j u hj => ?_) (fun u hu => ?_))
            · match j, hj with
              | 0, hj => simp [bcs, HX.out.2.2] at hj; subst hj; simp [Addr.add, go_sem]
            · simp [bcs] at hu; subst hu; rfl
          intro ao cap w3 hown hg hf
          have hnx : Hid ((∀ j, j < k + 1 → gd s j) ∧ w3.ownsRow w.heap.size 5 1 (.slice ao (l.length + 1) cap) (unL s (k + 1)).length (bcs (unL s (k + 1))) ∧ Below w.heap.size w w3) := by
            refine ⟨fun j hj => ?_, ?_, ?_⟩
            · by_cases e : j = k
              · subst e; exact HX.out.2.1
              · exact hG.1 j (by omega)
            · rw [HX.out.1, List.length_append, bcs_append]; exact hown
            · exact (hG.2.2.alloc hG.2.2.size _).grown hg (by have := hG.2.2.size; simp; omega) (fun k e => (hG.2.1.lt k e).1)
          clear hown hg hf hG HX
          go_wp2
          go_roundw
          case rel => exact ⟨k + 1, by omega, by go_num, hnx⟩
          case measure => simp only [intOf]; omega
        · have hno : ¬ uhP s := fun h => h2 (h.2 k (by have := HN.out; omega)).2
          have c1 := digit_ok (bn s (2 * k)) b1 h1
          have c2 := digit_no (bn s (2 * k + 1)) b2 h2
          obtain ⟨e1, e2⟩ := uhB_no hno
          have hbl : Hid _ := hre.out.2.2
          clear hno hre HN h1 h2
          go_wp2_with fail
          go_call (c1 wr) as e w2 ⟨rfl, rfl⟩
          go_wp2_with fail
          go_call (c2 w2) as e w2 ⟨rfl, rfl⟩
          clear c1 c2
          go_wp2
          go_returns
          exact ⟨by rw [e1, e2]; rfl, hbl.out⟩
        · have hno : ¬ uhP s := fun h => h1 (h.2 k (by have := HN.out; omega)).1
          have c1 := digit_no (bn s (2 * k)) b1 h1
          have c2 := digit_ok (bn s (2 * k + 1)) b2 h2
          obtain ⟨e1, e2⟩ := uhB_no hno
          have hbl : Hid _ := hre.out.2.2
          clear hno hre HN h1 h2
          go_wp2_with fail
          go_call (c1 wr) as e w2 ⟨rfl, rfl⟩
          go_wp2_with fail
          go_call (c2 w2) as e w2 ⟨rfl, rfl⟩
          clear c1 c2
          go_wp2
          go_returns
          exact ⟨by rw [e1, e2]; rfl, hbl.out⟩
        · have hno : ¬ uhP s := fun h => h1 (h.2 k (by have := HN.out; omega)).1
          have c1 := digit_no (bn s (2 * k)) b1 h1
          have c2 := digit_no (bn s (2 * k + 1)) b2 h2
          obtain ⟨e1, e2⟩ := uhB_no hno
          have hbl : Hid _ := hre.out.2.2
          clear hno hre HN h1 h2
          go_wp2_with fail
          go_call (c1 wr) as e w2 ⟨rfl, rfl⟩
          go_wp2_with fail
          go_call (c2 w2) as e w2 ⟨rfl, rfl⟩
          clear c1 c2
          go_wp2
          go_returns
          exact ⟨by rw [e1, e2]; rfl, hbl.out⟩
      · obtain rfl : k = n := by omega
        have hyes : uhP s := ⟨by omega, fun j hj => hre.out.1 j (by omega)⟩
        obtain ⟨e1, e2⟩ := uhB_yes hyes
        have e3 : s.size / 2 = k := by omega
        rw [e3] at e2
        have hcv := conv_own hre.out.2.1
        have hbl : Hid _ := hre.out.2.2
        have q1 : ¬ (((2 * k : Nat) : Int) < ((s.size : Nat) : Int)) := by omega
        have E : Hid (uhB s = true ∧ uhS s = _) := ⟨e1, e2⟩
        clear hyes hre HN hn e1 e2 e3
        go_wp2
        go_returns
        exact ⟨by rw [E.out.1, E.out.2]; rfl, hbl.out⟩
  · obtain ⟨e1, e2⟩ := uhB_no (s := s) (fun h => hodd h.1)
    rw [e1, e2]
    have hm0 : ((s.size : Nat) : Int).tmod 2 = 1 := by rw [Int.tmod_eq_emod_of_nonneg (by omega)]; omega
    go_enter Try.func32, Try.ntmps32
    go_wp2
    go_returns
    exact ⟨rfl, Below.refl _ _⟩
end Go.Proofs.Ythojbccoejdmeaa
