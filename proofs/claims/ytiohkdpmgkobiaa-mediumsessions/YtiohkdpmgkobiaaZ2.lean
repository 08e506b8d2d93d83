/- What MediumParts hands to Guard, as a call. -/
import Derived.Test.YtiohkdpmgkobiaaZ1
namespace Go.Proofs.Ytiohkdpmgkobiaa
open Go.RowKit
theorem ent48 (args : Array Value) (W : World) : (callFunc 48 args).run Try.prog W = .ok (.enter 48 args) W := enter_of Try.func48 (by kernel_rfl) (by kernel_rfl) args W
/-- Phases of a drawn statement: operation i turns X0 into X1. -/
structure Two (i : Nat) (X0 X1 : World → Prop) (done : Nat → Bool) (f : Nat → Value) (W : World) : Prop where
  a : done i = false → X0 W
  b : done i = true → X1 W
theorem Two.pure {i : Nat} {X0 X1 : World → Prop} {done : Nat → Bool} {f : Nat → Value} {W : World} (h : Two i X0 X1 done f W) (k : Nat) (hk : k ≠ i) (v : Value) : Two i X0 X1 (updB done k) (upd f k v) W := by
  have e : updB done k i = done i := if_neg (Ne.symm hk)
  exact ⟨by rw [e]; exact h.a, by rw [e]; exact h.b⟩
theorem Two.turn {i : Nat} {X0 X1 : World → Prop} {done : Nat → Bool} {f : Nat → Value} {W W' : World} (_ : Two i X0 X1 done f W) (hx : X1 W') (v : Value) : Two i X0 X1 (updB done i) (upd f i v) W' := by
  have e : updB done i i = true := if_pos rfl
  exact ⟨by rw [e]; exact (fun e => by cases e), fun _ => hx⟩
theorem Two.any {i : Nat} {X0 X1 : World → Prop} {R : World → Prop} {done : Nat → Bool} {f : Nat → Value} {W : World} (h0 : ∀ W, X0 W → R W) (h1 : ∀ W, X1 W → R W) (h : Two i X0 X1 done f W) : R W := by
  cases hd : done i with
  | false => exact h0 W (h.a hd)
  | true => exact h1 W (h.b hd)
def oAB (A B : Nat) (r1 r2 : ByteArray) (oth : List (Nat × Obj)) : List (Nat × Obj) := (A, .cells #[.string r1] 9) :: (B, .cells #[.string r2] 9) :: oth
def X0 (b0 : Nat) (w0 : World) (L : Loc) (A B : Nat) (oth : List (Nat × Obj)) (s : ByteArray) (W : World) : Prop := ∃ st lv, One b0 w0 L st lv (oAB A B ⟨#[]⟩ ⟨#[]⟩ oth) W ∧ PutInv 3 6 0 (s.extract 0 384) 0 st
def X1 (b0 : Nat) (w0 : World) (L : Loc) (A B : Nat) (oth : List (Nat × Obj)) (s : ByteArray) (W : World) : Prop := ∃ st lv, One b0 w0 L st lv (oAB A B ⟨#[]⟩ ⟨#[]⟩ oth) W ∧ PutInv 3 6 0 (s.extract 0 384) (parts (s.extract 0 384)) st
theorem X0.below {b0 : Nat} {w0 : World} {L : Loc} {A B : Nat} {oth : List (Nat × Obj)} {s : ByteArray} {W W' : World} (h : X0 b0 w0 L A B oth s W) (hb : Below W.heap.size W W') : X0 b0 w0 L A B oth s W' := by
  obtain ⟨st, lv, o, i⟩ := h
  exact ⟨st, lv, o.ofBelow hb, i⟩
/-- Behind c more operations, with what was read so far. -/
def PS (b0 : Nat) (w0 : World) (L : Loc) (st : St) (A B : Nat) (oth : List (Nat × Obj)) (r1 r2 : ByteArray) (c : Nat) (W : World) : Prop := ∃ lv, One b0 w0 L { st with count := st.count + (c : Int) } lv (oAB A B r1 r2 oth) W
theorem PS.below {b0 : Nat} {w0 : World} {L : Loc} {st : St} {A B : Nat} {oth : List (Nat × Obj)} {r1 r2 : ByteArray} {c : Nat} {W W' : World} (h : PS b0 w0 L st A B oth r1 r2 c W) (hb : Below W.heap.size W W') : PS b0 w0 L st A B oth r1 r2 c W' := by
  obtain ⟨lv, o⟩ := h
  exact ⟨lv, o.ofBelow hb⟩
theorem Two.cells {b0 : Nat} {w0 : World} {L : Loc} {st : St} {lv : Value} {M C T F N : Nat} {o1 o2 : Nat × Obj} {s : ByteArray} {frm n : Int} {oth : List (Nat × Obj)} {W : World} (hm : (M, med L.P 3 1) ∈ oth ∧ (C, .cells #[.pointer (some ⟨M, 0, none⟩)] 53) ∈ oth ∧ (T, .cells #[.string s] 9) ∈ oth ∧ (F, .cells #[.int .i64 frm] 3) ∈ oth ∧ (N, .cells #[.int .i64 n] 3) ∈ oth) (h : One b0 w0 L st lv (o1 :: o2 :: oth) W) :
    W.cell? ⟨C, 0, none⟩ = some (.pointer (some ⟨M, 0, none⟩)) ∧ W.cell? ⟨T, 0, none⟩ = some (.string s) ∧ W.cell? ⟨F, 0, none⟩ = some (.int .i64 frm) ∧ W.cell? ⟨N, 0, none⟩ = some (.int .i64 n) := by
  obtain ⟨_, h1, h2, h3, h4⟩ := hm
  have g : ∀ p ∈ oth, W.heap[p.1]? = some p.2 := fun p hp => (h.oth p (List.mem_cons_of_mem _ (List.mem_cons_of_mem _ hp))).1
  exact ⟨cell_of (g _ h1) 0, cell_of (g _ h2) 0, cell_of (g _ h3) 0, cell_of (g _ h4) 0⟩
def PV (M : Nat) (s : ByteArray) : Nat → Value → Prop
  | 0, v => v = .pointer (some ⟨M, 0, none⟩)
  | 1, v => v = .string s
  | 2, v => v = .string (s.extract 0 384)
  | 3, v => v = .tuple #[]
  | _, _ => True
def QV (st1 : St) (M frm k : Nat) : Nat → Value → Prop
  | 0, v => v = .string ⟨(rdsL st1 frm k).toArray⟩
  | 1, v => v = .pointer (some ⟨M, 0, none⟩)
  | 2, v => v = .int .i64 (frm : Nat)
  | 3, v => v = .int .i64 (k : Nat)
  | 4, v => v = .int .i64 ((frm + k : Nat) : Int)
  | 5, v => v = .string ⟨(rdsL st1 (frm + k) 1).toArray⟩
  | 6, v => v = .string ⟨(rdsL st1 frm (k + 1)).toArray⟩
  | _, _ => True
structure QPh (b0 : Nat) (w0 : World) (L : Loc) (st : St) (A B : Nat) (oth : List (Nat × Obj)) (r : ByteArray) (frm n k : Nat) (done : Nat → Bool) (f : Nat → Value) (W : World) : Prop where
  o0 : done 0 = false → done 7 = false
  o5 : done 5 = false → done 7 = false
  a : done 5 = false → PS b0 w0 L st A B oth r ⟨(rdsL st frm k).toArray⟩ (n + k) W
  b1 : done 5 = true → done 7 = false → PS b0 w0 L st A B oth r ⟨(rdsL st frm k).toArray⟩ (n + (k + 1)) W
  c : done 7 = true → PS b0 w0 L st A B oth r ⟨(rdsL st frm (k + 1)).toArray⟩ (n + (k + 1)) W
section
variable {b0 : Nat} {w0 : World} {L : Loc} {st : St} {lv : Value} {oth : List (Nat × Obj)} {A B M C T F N : Nat} {s r r1 r2 : ByteArray} {frm n k c : Nat} {done : Nat → Bool} {f : Nat → Value} {W : World}
theorem PS.cells (hm : (M, med L.P 3 1) ∈ oth ∧ (C, .cells #[.pointer (some ⟨M, 0, none⟩)] 53) ∈ oth ∧ (T, .cells #[.string s] 9) ∈ oth ∧ (F, .cells #[.int .i64 (frm : Nat)] 3) ∈ oth ∧ (N, .cells #[.int .i64 (n : Nat)] 3) ∈ oth) (h : PS b0 w0 L st A B oth r1 r2 c W) :
    W.cell? ⟨C, 0, none⟩ = some (.pointer (some ⟨M, 0, none⟩)) ∧ W.cell? ⟨F, 0, none⟩ = some (.int .i64 (frm : Nat)) := by
  obtain ⟨lv, o⟩ := h
  have := Two.cells hm o
  exact ⟨this.1, this.2.2.1⟩
theorem QPh.cells (hm : (M, med L.P 3 1) ∈ oth ∧ (C, .cells #[.pointer (some ⟨M, 0, none⟩)] 53) ∈ oth ∧ (T, .cells #[.string s] 9) ∈ oth ∧ (F, .cells #[.int .i64 (frm : Nat)] 3) ∈ oth ∧ (N, .cells #[.int .i64 (n : Nat)] 3) ∈ oth) (h : QPh b0 w0 L st A B oth r frm n k done f W) :
    W.cell? ⟨C, 0, none⟩ = some (.pointer (some ⟨M, 0, none⟩)) ∧ W.cell? ⟨F, 0, none⟩ = some (.int .i64 (frm : Nat)) := by
  cases h5 : done 5 with
  | false => exact (h.a h5).cells hm
  | true =>
    cases h7 : done 7 with
    | false => exact (h.b1 h5 h7).cells hm
    | true => exact (h.c h7).cells hm
theorem PS.cellB (h : PS b0 w0 L st A B oth r1 r2 c W) : W.cell? ⟨B, 0, none⟩ = some (.string r2) := by
  obtain ⟨lv, o⟩ := h
  exact cell_of (o.oth (B, .cells #[.string r2] 9) (by simp [oAB])).1 0
theorem PS.frzB (h : PS b0 w0 L st A B oth r1 r2 c W) : W.frozen? ⟨B, 0, none⟩ = false := by
  obtain ⟨lv, o⟩ := h
  exact frz_of (o.oth (B, .cells #[.string r2] 9) (by simp [oAB])).1 0
theorem PS.store {r3 : ByteArray} (h : PS b0 w0 L st A B oth r1 r2 c W) (hne : B ≠ A ∧ ∀ p ∈ oth, p.1 ≠ A ∧ p.1 ≠ B) : PS b0 w0 L st A B oth r1 r3 c (W.setCell ⟨B, 0, none⟩ (.string r3)) := by
  obtain ⟨lv, o⟩ := h
  have o1 : One b0 w0 L { st with count := st.count + (c : Int) } lv ((B, .cells #[.string r2] 9) :: (A, .cells #[.string r1] 9) :: oth) W := o.forget (fun p hp => by simp [oAB] at hp ⊢; rcases hp with h | h | h <;> simp [h])
  have o2 := o1.setOther (v := .string r3) (fun p hp => by
    rcases List.mem_cons.1 hp with rfl | hp
    · exact Ne.symm hne.1
    · exact (hne.2 p hp).2) (by decide)
  exact ⟨lv, o2.forget (fun p hp => by simp [oAB] at hp ⊢; rcases hp with h | h | h <;> simp [h])⟩
theorem rdsL_count (st : St) (x : Int) (frm : Nat) : ∀ k, rdsL { st with count := x } frm k = rdsL st frm k
  | 0 => rfl
  | k + 1 => by
    show rdsL { st with count := x } frm k ++ rdB st (frm + k) = rdsL st frm k ++ rdB st (frm + k)
    rw [rdsL_count st x frm k]
theorem rds_cat (st : St) (frm k : Nat) : (⟨(rdsL st frm k).toArray⟩ ++ ⟨(rdsL st (frm + k) 1).toArray⟩ : ByteArray) = ⟨(rdsL st frm (k + 1)).toArray⟩ := by
  apply ByteArray.ext
  rw [ByteArray.data_append]
  show (rdsL st frm k).toArray ++ ([] ++ rdB st (frm + k + 0)).toArray = (rdsL st frm k ++ rdB st (frm + k)).toArray
  simp
theorem rds_few (st : St) (frm k : Nat) (hs : SecOk st) (h : frm + k + 1 ≤ st.n) (hk : k ≤ 6) : (⟨(rdsL st frm k).toArray⟩ : ByteArray).size + (⟨(rdsL st (frm + k) 1).toArray⟩ : ByteArray).size ≤ 1000 := by
  have h1 := rdsL_length st frm hs k (by omega)
  have h2 := rdsL_length st (frm + k) hs 1 (by omega)
  show (rdsL st frm k).toArray.size + (rdsL st (frm + k) 1).toArray.size ≤ 1000
  simp only [List.size_toArray]; omega
theorem PS.read {k6 : Nat} {s6 : ByteArray} (h : PS b0 w0 L st A B oth r1 r2 (n + k) W) (hm : (M, med L.P 3 1) ∈ oth ∧ (C, .cells #[.pointer (some ⟨M, 0, none⟩)] 53) ∈ oth ∧ (T, .cells #[.string s] 9) ∈ oth ∧ (F, .cells #[.int .i64 (frm : Nat)] 3) ∈ oth ∧ (N, .cells #[.int .i64 (n : Nat)] 3) ∈ oth) (h5 : ∀ p ∈ oth, ∀ c fz, p.2 ≠ .cells c 5 fz) (i1 : PutInv 3 6 0 s6 k6 st) (hk6 : k6 ≤ 6) (hfn : frm + n ≤ 6) (hlt : k < n) :
    Calls Try.prog 33 #[.pointer (some ⟨M, 0, none⟩), .int .i64 ((frm + k : Nat) : Int), .int .i64 1] W fun e w' => e = .returned (.string ⟨(rdsL st (frm + k) 1).toArray⟩) ∧ PS b0 w0 L st A B oth r1 r2 (n + (k + 1)) w' := by
  obtain ⟨lv, o⟩ := h
  have hr := o.mread M (by show (M, med L.P st.serial st.session) ∈ _; rw [i1.serial, i1.session]; simp [oAB, hm.1]) (fun p hp => by
    rcases List.mem_cons.1 hp with rfl | hp
    · intro c fz e; injection e with _ e _; exact absurd e (by decide)
    rcases List.mem_cons.1 hp with rfl | hp
    · intro c fz e; injection e with _ e _; exact absurd e (by decide)
    · exact h5 p hp) (frm + k) 1 (by show _ ≤ st.n; rw [i1.n]; omega) (by show st.n ≤ _; rw [i1.n]; omega) i1.down i1.there i1.aw i1.hw ⟨i1.ok.size, i1.ok.bytes⟩ (by show 0 ≤ st.count + _ ∧ st.count + _ ≤ _; rw [i1.count]; omega)
  refine Calls.mono hr ?_
  rintro e w' ⟨rfl, lv', o'⟩
  refine ⟨?_, lv', ?_⟩
  · rw [rdsL_count]
  · have e : st.count + ((n + k : Nat) : Int) + ((1 : Nat) : Int) = st.count + ((n + (k + 1) : Nat) : Int) := by omega
    rw [← e]; exact o'
theorem QPh.pure (h : QPh b0 w0 L st A B oth r frm n k done f W) (i : Nat) (hi : i ≠ 5 ∧ i ≠ 7) (v : Value) : QPh b0 w0 L st A B oth r frm n k (updB done i) (upd f i v) W := by
  have e5 : updB done i 5 = done 5 := if_neg (Ne.symm hi.1)
  have e7 : updB done i 7 = done 7 := if_neg (Ne.symm hi.2)
  refine ⟨fun h0 => ?_, by rw [e5, e7]; exact h.o5, by rw [e5]; exact h.a, by rw [e5, e7]; exact h.b1, by rw [e7]; exact h.c⟩
  rw [e7]
  by_cases hi0 : (0 : Nat) = i
  · rw [show updB done i 0 = true from if_pos hi0] at h0; cases h0
  · rw [show updB done i 0 = done 0 from if_neg hi0] at h0; exact h.o0 h0
theorem QPh.read {W' : World} (h : QPh b0 w0 L st A B oth r frm n k done f W) (hdn : done 5 = false) (hx : PS b0 w0 L st A B oth r ⟨(rdsL st frm k).toArray⟩ (n + (k + 1)) W') (v : Value) : QPh b0 w0 L st A B oth r frm n k (updB done 5) (upd f 5 v) W' := by
  have e5 : updB done 5 5 = true := if_pos rfl
  have e7 : updB done 5 7 = done 7 := if_neg (by decide)
  have e0 : updB done 5 0 = done 0 := if_neg (by decide)
  exact ⟨by rw [e0, e7]; exact h.o0, by rw [e5]; exact (fun e => by cases e), by rw [e5]; exact (fun e => by cases e), fun _ _ => hx, by rw [e7, h.o5 hdn]; exact (fun e => by cases e)⟩
theorem QPh.stored {W' : World} (_ : QPh b0 w0 L st A B oth r frm n k done f W) (h0 : done 0 = true) (h5 : done 5 = true) (hx : PS b0 w0 L st A B oth r ⟨(rdsL st frm (k + 1)).toArray⟩ (n + (k + 1)) W') (v : Value) : QPh b0 w0 L st A B oth r frm n k (updB done 7) (upd f 7 v) W' := by
  have e5 : updB done 7 5 = done 5 := if_neg (by decide)
  have e7 : updB done 7 7 = true := if_pos rfl
  have e0 : updB done 7 0 = done 0 := if_neg (by decide)
  exact ⟨by rw [e0, h0]; exact (fun e => by cases e), by rw [e5, h5]; exact (fun e => by cases e), by rw [e5, h5]; exact (fun e => by cases e), by rw [e7]; exact (fun _ e => by cases e), fun _ => hx⟩
theorem QPh.parts (h : QPh b0 w0 L st A B oth r frm n k done f W) (h0 : done 0 = false) : W.cell? ⟨B, 0, none⟩ = some (.string ⟨(rdsL st frm k).toArray⟩) := by
  have h7 := h.o0 h0
  cases h5 : done 5 with
  | false => exact (h.a h5).cellB
  | true => exact (h.b1 h5 h7).cellB
end

set_option maxHeartbeats 1000000 in
theorem parts_do (b0 : Nat) (w0 : World) (L : Loc) (oth : List (Nat × Obj)) (M C T F N A B : Nat) (s : ByteArray) (frm n : Nat) (hm : (M, med L.P 3 1) ∈ oth ∧ (C, .cells #[.pointer (some ⟨M, 0, none⟩)] 53) ∈ oth ∧ (T, .cells #[.string s] 9) ∈ oth ∧ (F, .cells #[.int .i64 (frm : Nat)] 3) ∈ oth ∧ (N, .cells #[.int .i64 (n : Nat)] 3) ∈ oth)
    (hne : B ≠ A ∧ ∀ p ∈ oth, p.1 ≠ A ∧ p.1 ≠ B) (h5 : ∀ p ∈ oth, ∀ c fz, p.2 ≠ .cells c 5 fz) (hfn : frm + n ≤ 6) (lv : Value) (w : World) (h0 : One b0 w0 L (st0 3 6) lv (oAB A B ⟨#[]⟩ ⟨#[]⟩ oth) w) :
    Calls Try.prog 48 #[.pointer (some ⟨C, 0, none⟩), .pointer (some ⟨T, 0, none⟩), .pointer (some ⟨F, 0, none⟩), .pointer (some ⟨N, 0, none⟩), .pointer (some ⟨A, 0, none⟩), .pointer (some ⟨B, 0, none⟩)] w fun e w' => e = .returned (.tuple #[]) ∧ ∃ st lv r, r.size = 64 * n ∧ One b0 w0 L st lv (oAB A B r r oth) w' := by
  have HI : Hid (X0 b0 w0 L A B oth s w) := ⟨_, _, h0, put_start 3 6 0 _⟩
  have hcs : (s.extract 0 384).size ≤ 384 := by rw [ByteArray.size_extract]; omega
  have hp6 : parts (s.extract 0 384) ≤ 6 := by unfold parts; omega
  have HP6 : Hid (parts (s.extract 0 384) ≤ 6) := hp6
  have HW : Hid (∀ W, X0 b0 w0 L A B oth s W → Calls Try.prog 31 #[.pointer (some ⟨M, 0, none⟩), .int .i64 0, .string (s.extract 0 384)] W fun e w' => e = .returned (.tuple #[]) ∧ X1 b0 w0 L A B oth s w') :=
    fun W hW => put_write b0 w0 L (oAB A B ⟨#[]⟩ ⟨#[]⟩ oth) M 3 (by simp [oAB, hm.1]) (s.extract 0 384) (by omega) 6 0 (by omega) (by decide) W hW
  have HC0 : Hid (∀ W, X0 b0 w0 L A B oth s W → W.cell? ⟨C, 0, none⟩ = some (.pointer (some ⟨M, 0, none⟩)) ∧ W.cell? ⟨T, 0, none⟩ = some (.string s)) := fun W ⟨st, lv, o, _⟩ => ⟨(Two.cells hm o).1, (Two.cells hm o).2.1⟩
  have HC1 : Hid (∀ W, X1 b0 w0 L A B oth s W → W.cell? ⟨C, 0, none⟩ = some (.pointer (some ⟨M, 0, none⟩)) ∧ W.cell? ⟨T, 0, none⟩ = some (.string s)) := fun W ⟨st, lv, o, _⟩ => ⟨(Two.cells hm o).1, (Two.cells hm o).2.1⟩
  have HMem : Hid _ := hm
  have HNE : Hid _ := hne
  have H5 : Hid _ := h5
  clear h0 hm hne h5 hcs hp6
  go_enter Try.func48, Try.ntmps48
  go_wp2_with fail
  refine wp_region_pb (fun f => ⟨#[.pointer (some ⟨C, 0, none⟩), .pointer (some ⟨T, 0, none⟩), .pointer (some ⟨F, 0, none⟩), .pointer (some ⟨N, 0, none⟩), .pointer (some ⟨A, 0, none⟩), .pointer (some ⟨B, 0, none⟩), undef, f 0, f 1, f 2, f 3, undef, undef, undef, undef, undef, undef, undef, undef, undef, undef, undef, undef, undef, undef, undef, undef], []⟩) (PV M s) (Two 3 (X0 b0 w0 L A B oth s) (X1 b0 w0 L A B oth s)) (fun i => [undef, undef, undef, undef].getD i undef) (by kernel_rfl) rfl rfl ?hI ?hput ?step ?fin
  case hI => exact ⟨fun _ => HI.out.below ⟨rfl, rfl, rfl, Nat.le_refl _, fun _ _ => rfl⟩, fun e => by cases e⟩
  case fin =>
    intro f W hP hV
    have x1 := hP.b rfl
    have v0 : f 0 = .pointer (some ⟨M, 0, none⟩) := hV 0 (by decide)
    have v1 : f 1 = .string s := hV 1 (by decide)
    have v2 : f 2 = .string (s.extract 0 384) := hV 2 (by decide)
    have v3 : f 3 = .tuple #[] := hV 3 (by decide)
    clear hP hV HW HC0 HC1
    generalize f 0 = x0 at *
    subst v0
    generalize f 1 = x1 at *
    subst v1
    generalize f 2 = x2 at *
    subst v2
    generalize f 3 = x3 at *
    subst v3
    obtain ⟨st1, lv1, o1, i1⟩ := x1
    have hsz : st1.n = 6 := i1.n
    have hr := o1.mread M (by rw [i1.serial, i1.session]; simp [oAB, HMem.out.1]) (fun p hp => by
      rcases List.mem_cons.1 hp with rfl | hp
      · intro c fz e; injection e with _ e _; exact absurd e (by decide)
      rcases List.mem_cons.1 hp with rfl | hp
      · intro c fz e; injection e with _ e _; exact absurd e (by decide)
      · exact H5.out p hp) frm n (by omega) (by omega) i1.down i1.there i1.aw i1.hw i1.ok (by rw [i1.count]; have := HP6.out; omega)
    have cM := (Two.cells HMem.out o1).1
    have cF := (Two.cells HMem.out o1).2.2.1
    have cN := (Two.cells HMem.out o1).2.2.2
    have HO : Hid (PutInv 3 6 0 (s.extract 0 384) (parts (s.extract 0 384)) st1) := i1
    have hlen := rdsL_length st1 frm i1.ok n (by omega)
    clear o1 i1
    go_wp2_with fail
    go_call hr as e W2 ⟨rfl, lv2, o2⟩
    clear hr cM cF cN
    have cA2 : W2.cell? ⟨A, 0, none⟩ = some (.string ⟨#[]⟩) := cell_of (o2.oth _ (List.mem_cons_self ..)).1 0
    have fA2 : W2.frozen? ⟨A, 0, none⟩ = false := frz_of (o2.oth _ (List.mem_cons_self ..)).1 0
    have o3 := o2.setOther (v := .string ⟨(rdsL st1 frm n).toArray⟩) (fun p hp => by
      rcases List.mem_cons.1 hp with rfl | hp
      · exact HNE.out.1
      · exact (HNE.out.2 p hp).1) (by decide)
    have cN3 := (Two.cells HMem.out o3).2.2.2
    have H3 : Hid (PS b0 w0 L st1 A B oth ⟨(rdsL st1 frm n).toArray⟩ ⟨(rdsL st1 frm 0).toArray⟩ n (W2.setCell ⟨A, 0, none⟩ (.string ⟨(rdsL st1 frm n).toArray⟩))) := ⟨lv2, o3⟩
    clear o2 o3
    generalize hrr : (⟨(rdsL st1 frm n).toArray⟩ : ByteArray) = r at *
    have hrs : r.size = 64 * n := by rw [← hrr]; show (rdsL st1 frm n).toArray.size = _; simpa using hlen
    have Hrr : Hid _ := hrr
    clear hrr hlen
    go_wp2
    go_loopw [16] (fun i wr => ∃ k : Nat, k ≤ n ∧ i = .int .i64 (k : Nat) ∧ Hid (PS b0 w0 L st1 A B oth r ⟨(rdsL st1 frm k).toArray⟩ (n + k) wr)) (fun i _ => n - (intOf i).toNat)
    case atStart => exact ⟨0, by omega, rfl, H3⟩
    case round =>
      obtain ⟨k, hk, rfl, hR0⟩ := hrel
      clear H3
      rcases Nat.lt_or_ge k n with hlt | hge
      · have HR : Hid (∀ W, PS b0 w0 L st1 A B oth r ⟨(rdsL st1 frm k).toArray⟩ (n + k) W → Calls Try.prog 33 #[.pointer (some ⟨M, 0, none⟩), .int .i64 ((frm + k : Nat) : Int), .int .i64 1] W fun e w' => e = .returned (.string ⟨(rdsL st1 (frm + k) 1).toArray⟩) ∧ PS b0 w0 L st1 A B oth r ⟨(rdsL st1 frm k).toArray⟩ (n + (k + 1)) w') := fun W hW => hW.read HMem.out H5.out HO.out HP6.out hfn hlt
        have HCat : Hid ((⟨(rdsL st1 frm k).toArray⟩ ++ ⟨(rdsL st1 (frm + k) 1).toArray⟩ : ByteArray) = ⟨(rdsL st1 frm (k + 1)).toArray⟩) := rds_cat st1 frm k
        have HS : Hid ((⟨(rdsL st1 frm k).toArray⟩ : ByteArray).size + (⟨(rdsL st1 (frm + k) 1).toArray⟩ : ByteArray).size ≤ 1000) := rds_few st1 frm k HO.out.ok (by have := HO.out.n; omega) (by omega)
        go_wp2_with fail
        refine wp_region_pb (fun f => ⟨#[.pointer (some ⟨C, 0, none⟩), .pointer (some ⟨T, 0, none⟩), .pointer (some ⟨F, 0, none⟩), .pointer (some ⟨N, 0, none⟩), .pointer (some ⟨A, 0, none⟩), .pointer (some ⟨B, 0, none⟩), .int .i64 (k : Nat), .pointer (some ⟨M, 0, none⟩), .string s, .string (s.extract 0 384), .tuple #[], .pointer (some ⟨M, 0, none⟩), .int .i64 (frm : Nat), .int .i64 (n : Nat), .string r, .int .i64 (n : Nat), .int .i64 (k : Nat), .bool true, .int .i64 (k : Nat), f 0, f 1, f 2, f 3, f 4, f 5, f 6, u26], []⟩) (QV st1 M frm k) (QPh b0 w0 L st1 A B oth r frm n k) (fun i => [u19, u20, u21, u22, u23, u24, u25, undef].getD i undef) (by kernel_rfl) rfl rfl ?hI5 ?hput5 ?step5 ?fin5
        case hI5 => exact ⟨fun _ => rfl, fun _ => rfl, fun _ => hR0.out.below ⟨rfl, rfl, rfl, Nat.le_refl _, fun _ _ => rfl⟩, (fun e => by cases e), (fun e => by cases e)⟩
        case fin5 =>
          intro f W hP hV
          have x1 := hP.c rfl
          have H4 : Hid _ := x1
          clear hP hV x1 hR0 HR HCat HS
          go_wp2
          go_roundw
          case rel => exact ⟨k + 1, by omega, by simp, H4⟩
          case measure => simp only [intOf]; omega
        case hput5 =>
          repeat (refine ⟨fun f v => rfl, ?_⟩)
          trivial
        case step5 =>
          refine ⟨?_, ?_⟩
          · intro done f W hP hdn hd K hK
            clear hd
            have q := hP.parts hdn
            go_simp
            exact hK _ _ rfl (hP.pure _ (by decide) _)
          refine ⟨?_, ?_⟩
          · intro done f W hP hdn hd K hK
            clear hd
            have q := hP.cells HMem.out
            have q1 := q.1
            have q2 := q.2
            clear q
            go_simp
            exact hK _ _ rfl (hP.pure _ (by decide) _)
          refine ⟨?_, ?_⟩
          · intro done f W hP hdn hd K hK
            clear hd
            have q := hP.cells HMem.out
            have q1 := q.1
            have q2 := q.2
            clear q
            go_simp
            exact hK _ _ rfl (hP.pure _ (by decide) _)
          refine ⟨?_, ?_⟩
          · intro done f W hP hdn hd K hK
            clear hd
            go_simp
            exact hK _ _ rfl (hP.pure _ (by decide) _)
          refine ⟨?_, ?_⟩
          · intro done f W hP hdn hd K hK
            have d2 := (hd.1 rfl).2
            have e2 : done 2 = true := (hd.1 rfl).1
            have d3 := (hd.2.1 rfl).2
            have e3 : done 3 = true := (hd.2.1 rfl).1
            clear hd
            replace d2 : f 2 = .int .i64 (frm : Nat) := d2
            replace d3 : f 3 = .int .i64 (k : Nat) := d3
            generalize f 2 = x2 at *
            subst d2
            clear e2
            generalize f 3 = x3 at *
            subst d3
            clear e3
            go_simp
            exact hK _ _ (by show Value.int _ _ = Value.int _ _; first | rfl | (congr 1; rw [IntKind.wrap_i64]; omega) | (congr 1; omega)) (hP.pure _ (by decide) _)
          refine ⟨?_, ?_⟩
          · intro done f W hP hdn hd K hK
            have d1 := (hd.1 rfl).2
            have e1 : done 1 = true := (hd.1 rfl).1
            have d4 := (hd.2.1 rfl).2
            have e4 : done 4 = true := (hd.2.1 rfl).1
            clear hd
            replace d1 : f 1 = .pointer (some ⟨M, 0, none⟩) := d1
            replace d4 : f 4 = .int .i64 ((frm + k : Nat) : Int) := d4
            generalize f 1 = x1 at *
            subst d1
            clear e1
            generalize f 4 = x4 at *
            subst d4
            clear e4
            have hx0 := hP.a hdn
            go_simp
            refine Calls.mono (HR.out W hx0) ?_
            rintro e W' ⟨rfl, hx1⟩
            exact hK _ _ rfl (hP.read hdn hx1 _)
          refine ⟨?_, ?_⟩
          · intro done f W hP hdn hd K hK
            have d0 := (hd.1 rfl).2
            have e0 : done 0 = true := (hd.1 rfl).1
            have d5 := (hd.2.1 rfl).2
            have e5 : done 5 = true := (hd.2.1 rfl).1
            clear hd
            replace d0 : f 0 = .string ⟨(rdsL st1 frm k).toArray⟩ := d0
            replace d5 : f 5 = .string ⟨(rdsL st1 (frm + k) 1).toArray⟩ := d5
            generalize f 0 = x0 at *
            subst d0
            clear e0
            generalize f 5 = x5 at *
            subst d5
            clear e5
            have hsz2 := HS.out
            have hct : Hid _ := HCat.out
            generalize hxa : (⟨(rdsL st1 frm k).toArray⟩ : ByteArray) = xa at hsz2 hct ⊢
            generalize hxb : (⟨(rdsL st1 (frm + k) 1).toArray⟩ : ByteArray) = xb at hsz2 hct ⊢
            go_simp
            rw [if_neg (by omega)]
            go_simp
            subst hxa
            subst hxb
            exact hK (.string (_ ++ _)) W (by show Value.string _ = Value.string _; exact congrArg _ hct.out) (hP.pure _ (by decide) _)
          refine ⟨?_, ?_⟩
          · intro done f W hP hdn hd K hK
            have d6 := (hd.1 rfl).2
            have e6 : done 6 = true := (hd.1 rfl).1
            have e5 : done 5 = true := (hd.2.1 rfl).1
            have e0 : done 0 = true := (hd.2.2.1 rfl).1
            clear hd
            replace d6 : f 6 = .string ⟨(rdsL st1 frm (k + 1)).toArray⟩ := d6
            generalize f 6 = x6 at *
            subst d6
            clear e6
            have q := hP.b1 e5 hdn
            have q2 := q.cellB
            have q3 := q.frzB
            go_simp
            exact hK undef _ trivial (hP.stored e0 e5 (q.store HNE.out) _)
          trivial
      · obtain rfl : k = n := by omega
        obtain ⟨lvn, on⟩ := hR0.out
        have HF : Hid (∃ st lv r, r.size = 64 * k ∧ One b0 w0 L st lv (oAB A B r r oth) wr) := ⟨_, lvn, r, hrs, by rw [Hrr.out] at on; exact on⟩
        clear on hR0
        go_wp2
        go_returns
        exact ⟨rfl, HF.out⟩
  case hput =>
    repeat (refine ⟨fun f v => rfl, ?_⟩)
    trivial
  case step =>
    refine ⟨?_, ?_⟩
    · intro done f W hP hdn hd K hK
      clear hd
      have q := Two.any (R := fun W => W.cell? ⟨C, 0, none⟩ = some (.pointer (some ⟨M, 0, none⟩)) ∧ W.cell? ⟨T, 0, none⟩ = some (.string s)) HC0.out HC1.out hP
      have q1 := q.1
      have q2 := q.2
      clear q
      go_simp
      exact hK _ _ rfl (hP.pure _ (by decide) _)
    refine ⟨?_, ?_⟩
    · intro done f W hP hdn hd K hK
      clear hd
      have q := Two.any (R := fun W => W.cell? ⟨C, 0, none⟩ = some (.pointer (some ⟨M, 0, none⟩)) ∧ W.cell? ⟨T, 0, none⟩ = some (.string s)) HC0.out HC1.out hP
      have q1 := q.1
      have q2 := q.2
      clear q
      go_simp
      exact hK _ _ rfl (hP.pure _ (by decide) _)
    refine ⟨?_, ?_⟩
    · intro done f W hP hdn hd K hK
      have d1 := (hd.1 rfl).2
      have e1 : done 1 = true := (hd.1 rfl).1
      clear hd
      replace d1 : f 1 = .string s := d1
      generalize f 1 = x1 at *
      subst d1
      clear e1
      go_simp
      refine Calls.mono (cut_any s 384 (by decide) W) ?_
      rintro e W' ⟨rfl, rfl⟩
      exact hK _ _ rfl (hP.pure _ (by decide) _)
    refine ⟨?_, ?_⟩
    · intro done f W hP hdn hd K hK
      have d0 := (hd.1 rfl).2
      have e0 : done 0 = true := (hd.1 rfl).1
      have d2 := (hd.2.1 rfl).2
      have e2 : done 2 = true := (hd.2.1 rfl).1
      clear hd
      replace d0 : f 0 = .pointer (some ⟨M, 0, none⟩) := d0
      replace d2 : f 2 = .string (s.extract 0 384) := d2
      generalize f 0 = x0 at *
      subst d0
      clear e0
      generalize f 2 = x2 at *
      subst d2
      clear e2
      have hx0 := hP.a hdn
      go_simp
      refine Calls.mono (HW.out W hx0) ?_
      rintro e W' ⟨rfl, hx1⟩
      exact hK _ _ rfl (hP.turn hx1 _)
    trivial
end Go.Proofs.Ytiohkdpmgkobiaa
