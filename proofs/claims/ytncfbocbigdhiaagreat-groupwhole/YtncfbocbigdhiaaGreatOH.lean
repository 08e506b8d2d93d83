/- What Hex and Unhex answer, as calls: two digits for each byte, and back; for every text shorter than 100000 bytes. -/
import Derived.Test.YtncfbocbigdhiaaGreatOQ
import Derived.Laws.BitsAllLaws
import Derived.Deep.MidRow
namespace Go.Proofs.YtncfbocbigdhiaaGreat.O
set_option maxRecDepth 100000
set_option maxRecDepth 100000
set_option maxRecDepth 100000
open Go.RowKit

def bn (s : ByteArray) (k : Nat) : Nat := if h : k < s.size then (s[k]'h).toNat else 0
theorem get_bn (s : ByteArray) : ∀ (n : Nat) (h : n < s.size), ((s[n]'h).toNat : Int) = (bn s n : Int) := fun n h => by unfold bn; rw [dif_pos h]
theorem bn_lt (s : ByteArray) (k : Nat) : bn s k < 256 := by
  unfold bn; split
  · exact (s[k]).toNat_lt
  · omega
theorem bn_get (s : ByteArray) (k : Nat) (h : k < s.size) : s.data.toList[k]? = some (UInt8.ofNat (bn s k)) := by
  have h2 : k < s.data.size := h
  rw [Array.getElem?_toList, Array.getElem?_eq_getElem h2]
  unfold bn
  rw [dif_pos h]
  congr 1
  exact (UInt8.ofNat_toNat (x := s.data[k])).symm
theorem ofNat_bn (s : ByteArray) (k : Nat) : (UInt8.ofNat (bn s k)).toNat = bn s k := by
  have := bn_lt s k
  simp; omega

/-- '[]byte(s)': a new row with the bytes. -/
theorem conv_string (d : ByteArray) (w : World) : ∃ (W0 : World) (cap : Nat), (convert 9 75 (.string d)).run Tryz.prog w = .ok (.slice (some ⟨w.heap.size, 0, none⟩) d.size cap) W0 ∧
    (∀ j, j < d.size → W0.cell? ⟨w.heap.size, j, none⟩ = some (.int .u8 (bn d j : Int))) ∧ Below w.heap.size w W0 ∧ w.heap.size < W0.heap.size := by
  refine ⟨_, _, run_bytes_of_string w 9 75 5 d Tryz.underlying9 Tryz.underlying75 Tryz.underlying5, ?_, ?_, ?_⟩
  · intro j hj
    generalize grownCap w d.size 0 5 = cap
    have h1 : (w.drew.alloc (.cells (bytesRow d cap) 5 ((bytesRow d cap).size, (bytesRow d cap).size + 1))).heap[w.heap.size]? = some (.cells (bytesRow d cap) 5 ((bytesRow d cap).size, (bytesRow d cap).size + 1)) := by
      show (w.heap.push _)[w.heap.size]? = _
      simp
    simp only [World.cell?, h1]
    have h2 : (bytesRow d cap)[j]? = some (.int .u8 (bn d j : Int)) := by
      unfold bytesRow
      rw [Array.getElem?_append_left (by simpa using hj)]
      have hj2 : j < d.data.size := hj
      simp only [Array.getElem?_map, Array.getElem?_eq_getElem hj2, Option.map_some]
      unfold bn
      rw [dif_pos hj]
      rfl
    simp [h2]
  · exact Below.alloc (Below.drew (Below.refl _ _)) (Nat.le_refl _) _
  · show w.heap.size < (w.heap.push _).size
    simp

theorem conv_own {w : World} {base : Nat} {v : Value} {l : List UInt8} (ho : w.ownsRow base 5 1 v l.length (bcs l)) : (convert 75 9 v).run Tryz.prog w = .ok (.string ⟨l.toArray⟩) w := by
  rcases ho.2 with ⟨rfl, h0⟩ | ⟨g, cap, cur, rfl, _⟩
  · have : l = [] := List.eq_nil_of_length_eq_zero h0
    subst this
    rfl
  · refine run_convert_bytes_back (P := Tryz.prog) w 75 9 5 ⟨g, 0, none⟩ cap l Tryz.underlying75 Tryz.underlying5 Tryz.underlying9 (fun j hj => ?_)
    exact ho.cells (g := g) rfl j _ (by simp [bcs, hj])
def hxd (k : Nat) : Nat := if k < 10 then 48 + k else 87 + k
theorem hxd_lt (k : Nat) (h : k < 16) : hxd k < 256 := by unfold hxd; split <;> omega
def hx (k : Nat) : UInt8 := UInt8.ofNat (hxd k)
theorem hx_nat (k : Nat) (h : k < 16) : (hx k).toNat = hxd k := by have := hxd_lt k h; simp [hx]; omega
/-- The digits of the first k bytes. -/
def hexN (s : ByteArray) : Nat → List UInt8
  | 0 => []
  | k + 1 => hexN s k ++ [hx (bn s k / 16), hx (bn s k % 16)]
theorem hexN_length (s : ByteArray) (k : Nat) : (hexN s k).length = 2 * k := by
  induction k with
  | zero => rfl
  | succ k ih => simp [hexN, ih]; omega

set_option maxRecDepth 100000 in
theorem ixd (k : Nat) (hk : k < 16) (w : World) : (Instr.index 9 (.string ⟨#[48, 49, 50, 51, 52, 53, 54, 55, 56, 57, 97, 98, 99, 100, 101, 102]⟩) (.int .u8 (k : Int))).run Tryz.prog w = .ok (.int .u8 (hxd k : Nat)) w := by
  have : k = 0 ∨ k = 1 ∨ k = 2 ∨ k = 3 ∨ k = 4 ∨ k = 5 ∨ k = 6 ∨ k = 7 ∨ k = 8 ∨ k = 9 ∨ k = 10 ∨ k = 11 ∨ k = 12 ∨ k = 13 ∨ k = 14 ∨ k = 15 := by omega
  rcases this with rfl | rfl | rfl | rfl | rfl | rfl | rfl | rfl | rfl | rfl | rfl | rfl | rfl | rfl | rfl | rfl <;> rfl

/-- Bytes of the call's own gathered while another row stays. -/
structure GRel (w : World) (Bs : Nat) (src : Nat → Nat) (n : Nat) (wr : World) (v : Value) (l : List UInt8) : Prop where
  own : wr.ownsRow w.heap.size 5 1 v l.length (bcs l)
  ne : v.ownBlock ≠ some Bs
  ge : w.heap.size ≤ Bs
  lt : Bs < wr.heap.size
  cell : ∀ j, j < n → wr.cell? ⟨Bs, j, none⟩ = some (.int .u8 (src j : Nat))
  below : Below w.heap.size w wr
theorem GRel.next {w : World} {Bs n : Nat} {src : Nat → Nat} {wr w1 w2 : World} {v v' : Value} {l new : List UInt8} (h : GRel w Bs src n wr v l) (hb : Below wr.heap.size wr w1) (hown : w2.ownsRow w.heap.size 5 1 v' (l.length + new.length) (bcs l ++ bcs new)) (hg : w1.grownBy w2 v.ownBlock)
    (hf : v'.ownBlock = v.ownBlock ∨ ∃ k, v'.ownBlock = some k ∧ w1.heap.size ≤ k) : GRel w Bs src n w2 v' (l ++ new) := by
  refine ⟨by rw [List.length_append, bcs_append]; exact hown, ?_, h.ge, ?_, fun j hj => ?_, ?_⟩
  · rcases hf with e | ⟨k, e, hk⟩
    · rw [e]; exact h.ne
    · rw [e]; intro e2; injection e2 with e2; have := hb.size; have := h.lt; omega
  · have := h.lt; have := hb.size; have := hg.size; omega
  · have c1 : w1.cell? ⟨Bs, j, none⟩ = _ := (hb.cell (by exact h.lt)).trans (h.cell j hj)
    exact hg.cell c1 (by intro e; exact h.ne e.symm)
  · refine (h.below.trans (hb.mono h.below.size)).grown hg (Nat.le_trans h.below.size hb.size) (fun k e => (h.own.lt k e).1)

/-- The state of memory while a built slice is appended: before the append, behind it. -/
structure APh (i0 iB iA iS : Nat) (base : Nat) (v0 : Value) (l new : List UInt8) (w : World) (done : Nat → Bool) (f : Nat → Value) (W : World) : Prop where
  no0 : done i0 = false → done iA = false
  preS : done iS = false → f iS = v0
  noB : done iB = false → done iA = false
  noA : done iA = false → done iS = false
  eqS : done iS = true → f iS = f iA
  before : done iA = false → Below w.heap.size w W ∧ (done iB = true → ∃ k, f iB = .slice (some ⟨k, 0, none⟩) new.length new.length ∧ w.heap.size ≤ k ∧ ∀ j u, (bcs new)[j]? = some u → W.cell? ⟨k, j, none⟩ = some u)
  after : done iA = true → ∃ ao cap W1, f iA = .slice ao (l.length + new.length) cap ∧ Below w.heap.size w W1 ∧ W.ownsRow base 5 1 (.slice ao (l.length + new.length) cap) (l.length + new.length) (bcs l ++ bcs new) ∧ W1.grownBy W v0.ownBlock ∧
    (Value.ownBlock (.slice ao (l.length + new.length) cap) = v0.ownBlock ∨ ∃ k, Value.ownBlock (.slice ao (l.length + new.length) cap) = some k ∧ W1.heap.size ≤ k)
theorem APh.start {i0 iB iA iS base : Nat} {v0 : Value} {l new : List UInt8} {w : World} {f : Nat → Value} (hf : f iS = v0) : APh i0 iB iA iS base v0 l new w (fun _ => false) f w.drew :=
  ⟨fun _ => rfl, fun _ => hf, fun _ => rfl, fun _ => rfl, fun e => (by cases e), fun _ => ⟨Below.drew (Below.refl _ _), fun e => by cases e⟩, fun e => by cases e⟩
theorem APh.pure {i0 iB iA iS base : Nat} {v0 : Value} {l new : List UInt8} {w : World} {done : Nat → Bool} {f : Nat → Value} {W : World} (h : APh i0 iB iA iS base v0 l new w done f W) (i : Nat) (hi : i ≠ iB ∧ i ≠ iA ∧ i ≠ iS) (v : Value) :
    APh i0 iB iA iS base v0 l new w (updB done i) (upd f i v) W := by
  have aB : updB done i iB = done iB := if_neg (Ne.symm hi.1)
  have aA : updB done i iA = done iA := if_neg (Ne.symm hi.2.1)
  have aS : updB done i iS = done iS := if_neg (Ne.symm hi.2.2)
  have bB : upd f i v iB = f iB := if_neg (Ne.symm hi.1)
  have bA : upd f i v iA = f iA := if_neg (Ne.symm hi.2.1)
  have bS : upd f i v iS = f iS := if_neg (Ne.symm hi.2.2)
  have a0 : updB done i i0 = false → done i0 = false := fun e => by
    unfold updB at e
    split at e
    · cases e
    · exact e
  exact ⟨fun e => by rw [aA]; exact h.no0 (a0 e), by rw [aS, bS]; exact h.preS, by rw [aB, aA]; exact h.noB, by rw [aA, aS]; exact h.noA, by rw [aS, bS, bA]; exact h.eqS, by rw [aA, aB, bB]; exact h.before, by rw [aA, bA]; exact h.after⟩
theorem APh.assigned {i0 iB iA iS base : Nat} {v0 : Value} {l new : List UInt8} {w : World} {done : Nat → Bool} {f : Nat → Value} {W : World} (h : APh i0 iB iA iS base v0 l new w done f W) (hi : iS ≠ iB ∧ iS ≠ iA) (eA : done iA = true) :
    APh i0 iB iA iS base v0 l new w (updB done iS) (upd f iS (f iA)) W := by
  have aB : updB done iS iB = done iB := if_neg (Ne.symm hi.1)
  have aA : updB done iS iA = done iA := if_neg (Ne.symm hi.2)
  have bB : upd f iS (f iA) iB = f iB := if_neg (Ne.symm hi.1)
  have bA : upd f iS (f iA) iA = f iA := if_neg (Ne.symm hi.2)
  have bS : upd f iS (f iA) iS = f iA := if_pos rfl
  have aS : updB done iS iS = true := if_pos rfl
  have e0 : ∀ b, done i0 = b → b = true := fun b hb => by
    cases b
    · have := h.no0 hb
      rw [eA] at this; cases this
    · rfl
  exact ⟨fun e => (by
    have : done i0 = false := by
      unfold updB at e
      split at e
      · cases e
      · exact e
    have := e0 _ this
    cases this), fun e => (by rw [aS] at e; cases e), by rw [aB, aA]; exact h.noB, fun e => (by rw [aA, eA] at e; cases e), fun _ => by rw [bS, bA], by rw [aA, aB, bB]; exact h.before, by rw [aA, bA]; exact h.after⟩
theorem APh.built {i0 iB iA iS base : Nat} {v0 : Value} {l new : List UInt8} {w : World} {done : Nat → Bool} {f : Nat → Value} {W : World} (h : APh i0 iB iA iS base v0 l new w done f W) (hne : iA ≠ iB ∧ iS ≠ iB) (hB : done iB = false) (cs : Array Value) (hcs : cs.toList = bcs new) :
    APh i0 iB iA iS base v0 l new w (updB done iB) (upd f iB (.slice (some ⟨W.heap.size, 0, none⟩) new.length new.length)) (W.alloc (.cells cs 5)) := by
  have hA := h.noB hB
  obtain ⟨b, _⟩ := h.before hA
  have hS := h.noA hA
  have aA : updB done iB iA = done iA := if_neg hne.1
  have aS : updB done iB iS = done iS := if_neg hne.2
  have bS : ∀ x, upd f iB x iS = f iS := fun _ => if_neg hne.2
  refine ⟨fun _ => by rw [aA]; exact hA, by rw [aS, bS]; exact h.preS, fun e => ?_, fun _ => by rw [aS]; exact hS, fun e => (by rw [aS, hS] at e; cases e), fun _ => ⟨Below.alloc b b.size _, fun _ => ⟨W.heap.size, if_pos rfl, b.size, fun j u hj => ?_⟩⟩, fun e => ?_⟩
  · rw [aA]; exact hA
  · have h0 : (W.alloc (.cells cs 5)).heap[W.heap.size]? = some (.cells cs 5) := by
      show (W.heap.push _)[W.heap.size]? = _
      rw [Array.getElem?_push, if_pos rfl]
    simp only [World.cell?, h0]
    rw [← hcs, Array.getElem?_toList] at hj
    exact hj
  · rw [aA, hA] at e; cases e
theorem APh.appended {i0 iB iA iS base : Nat} {v0 : Value} {l new : List UInt8} {w : World} {done : Nat → Bool} {f : Nat → Value} {W W' : World} (h : APh i0 iB iA iS base v0 l new w done f W) (hne : iA ≠ iB ∧ iS ≠ iA ∧ i0 ≠ iA) (e0 : done i0 = true) (eB : done iB = true) (hA : done iA = false)
    {ao : Option Addr} {cap : Nat} (h1 : W'.ownsRow base 5 1 (.slice ao (l.length + new.length) cap) (l.length + new.length) (bcs l ++ bcs new)) (h2 : W.grownBy W' v0.ownBlock) (h3 : Value.ownBlock (.slice ao (l.length + new.length) cap) = v0.ownBlock ∨ ∃ k, Value.ownBlock (.slice ao (l.length + new.length) cap) = some k ∧ W.heap.size ≤ k) :
    APh i0 iB iA iS base v0 l new w (updB done iA) (upd f iA (.slice ao (l.length + new.length) cap)) W' := by
  obtain ⟨b, _⟩ := h.before hA
  have aA : updB done iA iA = true := if_pos rfl
  have aB : updB done iA iB = done iB := if_neg (Ne.symm hne.1)
  have hS := h.noA hA
  have aS : updB done iA iS = done iS := if_neg hne.2.1
  have a0 : updB done iA i0 = done i0 := if_neg hne.2.2
  have bS : ∀ x, upd f iA x iS = f iS := fun _ => if_neg hne.2.1
  refine ⟨fun e => (by rw [a0, e0] at e; cases e), by rw [aS, bS]; exact h.preS, fun e => ?_, fun e => (by rw [aA] at e; cases e), fun e => (by rw [aS, hS] at e; cases e), fun e => ?_, fun _ => ⟨ao, cap, W, if_pos rfl, b, h1, h2, h3⟩⟩
  · rw [aB, eB] at e; cases e
  · rw [aA] at e; cases e
def HV (b p q : Nat) (l : List UInt8) (ao0 : Option Addr) (cap0 : Nat) : Nat → Value → Prop
  | 0, v => v = .slice ao0 l.length cap0
  | 1, v => v = .int .u8 (b : Nat)
  | 2, v => v = .int .u8 (p : Nat)
  | 3, v => v = .int .u8 (hxd (p) : Nat)
  | 4, v => v = .int .u8 (b : Nat)
  | 5, v => v = .int .u8 (q : Nat)
  | 6, v => v = .int .u8 (hxd (q) : Nat)
  | 7, _ => True
  | 8, _ => True
  | 9, _ => True
  | _, _ => True

/-- What a digit is worth; 16: it is none such. -/
def dgv (b : Nat) : Nat := if 48 ≤ b ∧ b ≤ 57 then b - 48 else if 97 ≤ b ∧ b ≤ 102 then b - 87 else 16
theorem dgv_le (b : Nat) : dgv b ≤ 16 := by unfold dgv; split <;> (try split) <;> omega
/-- Are the digits of the byte j such? -/
def gd (s : ByteArray) (j : Nat) : Prop := dgv (bn s (2 * j)) < 16 ∧ dgv (bn s (2 * j + 1)) < 16
def unL (s : ByteArray) : Nat → List UInt8
  | 0 => []
  | k + 1 => unL s k ++ [UInt8.ofNat (16 * dgv (bn s (2 * k)) + dgv (bn s (2 * k + 1)))]
theorem unL_length (s : ByteArray) (k : Nat) : (unL s k).length = k := by
  induction k with
  | zero => rfl
  | succ k ih => simp [unL, ih]
/-- Is it such? -/
def uhP (s : ByteArray) : Prop := s.size % 2 = 0 ∧ ∀ j, j < s.size / 2 → gd s j
def uhB (s : ByteArray) : Bool := decide (s.size % 2 = 0) && (List.range (s.size / 2)).all fun j => decide (dgv (bn s (2 * j)) < 16) && decide (dgv (bn s (2 * j + 1)) < 16)
theorem uhB_iff (s : ByteArray) : uhB s = true ↔ uhP s := by
  unfold uhB uhP gd
  simp only [Bool.and_eq_true, List.all_eq_true, decide_eq_true_eq, List.mem_range]
def uhS (s : ByteArray) : ByteArray := if uhB s then ⟨(unL s (s.size / 2)).toArray⟩ else ⟨#[]⟩
theorem uhB_no {s : ByteArray} (h : ¬ uhP s) : uhB s = false ∧ uhS s = ⟨#[]⟩ := by
  have : uhB s = false := by
    cases hb : uhB s
    · rfl
    · exact absurd ((uhB_iff s).1 hb) h
  refine ⟨this, ?_⟩
  unfold uhS; rw [this]; rfl
theorem uhB_yes {s : ByteArray} (h : uhP s) : uhB s = true ∧ uhS s = ⟨(unL s (s.size / 2)).toArray⟩ := by
  have : uhB s = true := (uhB_iff s).2 h
  refine ⟨this, ?_⟩
  unfold uhS; rw [this]; rfl

end Go.Proofs.YtncfbocbigdhiaaGreat.O
