/- filled, Serial, and Write of medium, sector by sector, as calls; what the pool's Write does is a premise. -/
import Derived.Test.YtiohkdpmgkobiaaJ
import Derived.Test.YtiohkdpmgkobiaaR
import Derived.Lib.Strings
namespace Go.Proofs.Ytiohkdpmgkobiaa
open Go.RowKit
/-- A text filled up with noughts to 64 bytes. -/
def pad (s : ByteArray) : ByteArray := s ++ ⟨(List.replicate (64 - s.size) (0 : UInt8)).toArray⟩
theorem repeat_zero (c : Nat) : Lib.repeatL [(0 : UInt8)] c = List.replicate c 0 := by
  induction c with
  | zero => rfl
  | succ c ih => simpa [Lib.repeatL, List.replicate_succ] using ih
theorem filled_any (s : ByteArray) (hs : s.size ≤ 64) (w : World) : Calls Try.prog 90 #[.string s] w fun e w' => e = .returned (.string (pad s)) ∧ Below w.heap.size w w' := by
  have hr := Try.repeat_any ⟨#[0]⟩ (64 - s.size) w (by omega) (by show 1 * _ ≤ _; omega)
  have e : (⟨#[0]⟩ : ByteArray).data.toList = [0] := rfl
  rw [e, repeat_zero] at hr
  have hp : s ++ ⟨(List.replicate (64 - s.size) (0 : UInt8)).toArray⟩ = pad s := rfl
  have hz : (⟨(List.replicate (64 - s.size) (0 : UInt8)).toArray⟩ : ByteArray).size = 64 - s.size := by show Array.size _ = _; simp
  generalize (⟨(List.replicate (64 - s.size) (0 : UInt8)).toArray⟩ : ByteArray) = z at *
  have hc : ((64 - s.size : Nat) : Int) = 64 - (s.size : Int) := by omega
  rw [hc] at hr
  go_enter Try.func90, Try.ntmps90
  go_wp2_with fail
  go_call hr as e w1 ⟨rfl, hb⟩
  have HB : Hid _ := hb
  clear hr hb
  go_wp2
  go_returns
  exact ⟨by rw [← hp]; rfl, HB.out⟩
theorem serial_any (M : Nat) (s : Int) (w : World) (h : w.cell? ⟨M, 1, none⟩ = some (.int .i64 s)) : Calls Try.prog 26 #[.pointer (some ⟨M, 0, none⟩)] w fun e w' => e = .returned (.int .i64 s) ∧ w' = w := by
  go_enter Try.func26, Try.ntmps26
  go_wp2
  go_returns
  exact ⟨rfl, rfl⟩
def part (s : ByteArray) (k : Nat) : ByteArray := s.extract (64 * k) s.size
def chunk (s : ByteArray) (k : Nat) : ByteArray := (part s k).extract 0 (min 64 (part s k).size)
def parts (s : ByteArray) : Nat := (s.size + 63) / 64
theorem part_size (s : ByteArray) (k : Nat) : (part s k).size = s.size - 64 * k := by unfold part; simp [ByteArray.size_extract]
theorem part_zero (s : ByteArray) : part s 0 = s := by
  unfold part
  apply ByteArray.ext
  simp
theorem part_next (s : ByteArray) (k : Nat) : (part s k).extract 64 (part s k).size = part s (k + 1) := by
  unfold part
  apply ByteArray.ext
  simp only [ByteArray.data_extract, ByteArray.size_extract, Array.extract_extract]
  have h1 : s.size = s.data.size := rfl
  congr 1 <;> omega
def MV (M P : Nat) (serial q frm : Int) (s : ByteArray) (er : Nat → Int) (k c : Nat) (t : ByteArray) : Nat → Value → Prop
  | 0, v => v = .pointer (some ⟨M, 0, none⟩)
  | 1, v => v = .int .i64 serial
  | 2, v => v = .pointer (some ⟨M, 0, none⟩)
  | 3, v => v = .pointer (some ⟨M, 0, none⟩)
  | 4, v => v = .pointer (some ⟨M, 0, none⟩)
  | 5, v => v = .pointer (some ⟨P, 0, none⟩)
  | 6, v => v = .pointer (some ⟨M, 0, none⟩)
  | 7, v => v = .pointer (some ⟨M, 0, none⟩)
  | 8, v => v = .pointer (some ⟨M, 1, none⟩)
  | 9, v => v = hnd serial q
  | 10, v => v = .int .i64 (frm + (k : Nat))
  | 11, v => v = .string t
  | 12, v => v = .int .i64 (c : Nat)
  | 13, v => v = .string (chunk s k)
  | 14, v => v = .string (pad (chunk s k))
  | 15, v => v = .int .i64 (er k)
  | _, _ => True
def MW (M P : Nat) (serial q frm : Int) (s : ByteArray) (er : Nat → Int) (k c : Nat) (t : ByteArray) : Nat → Value → Prop
  | 0, v => v = .pointer (some ⟨M, 0, none⟩)
  | 1, v => v = .int .i64 serial
  | 2, v => v = .pointer (some ⟨M, 0, none⟩)
  | 3, v => v = .pointer (some ⟨M, 0, none⟩)
  | 4, v => v = .pointer (some ⟨M, 0, none⟩)
  | 5, v => v = .pointer (some ⟨P, 0, none⟩)
  | 6, v => v = .pointer (some ⟨M, 0, none⟩)
  | 7, v => v = .pointer (some ⟨M, 0, none⟩)
  | 8, v => v = .pointer (some ⟨M, 1, none⟩)
  | 9, v => v = hnd serial q
  | 10, v => v = .int .i64 (frm + (k : Nat))
  | 11, v => v = .string t
  | 12, v => v = .int .i64 (c : Nat)
  | 13, v => v = .string (chunk s k)
  | 14, v => v = .string (pad (chunk s k))
  | 15, v => v = .int .i64 (er k)
  | 16, _ => False
  | _, _ => True
structure MPh (X : Nat → World → Prop) (k : Nat) (w : World) (done : Nat → Bool) (f : Nat → Value) (W : World) : Prop where
  a : done 15 = false → X k W
  b : done 15 = true → X (k + 1) W
theorem MPh.pure {X : Nat → World → Prop} {k : Nat} {w : World} {done : Nat → Bool} {f : Nat → Value} {W : World} (h : MPh X k w done f W) (i : Nat) (hi : i ≠ 15) (v : Value) : MPh X k w (updB done i) (upd f i v) W := by
  have a15 : updB done i 15 = done 15 := if_neg (Ne.symm hi)
  exact ⟨by rw [a15]; exact h.a, by rw [a15]; exact h.b⟩
theorem MPh.below {X : Nat → World → Prop} {k : Nat} {w : World} {done : Nat → Bool} {f : Nat → Value} {W W' : World} (h : MPh X k w done f W) (hX : ∀ k W W', X k W → Below W.heap.size W W' → X k W') (hdn : done 14 = false) (hb : Below W.heap.size W W') (v : Value) : MPh X k w (updB done 14) (upd f 14 v) W' := by
  have a15 : updB done 14 15 = done 15 := if_neg (by decide)
  exact ⟨by rw [a15]; exact fun e => hX _ _ _ (h.a e) hb, by rw [a15]; exact fun e => hX _ _ _ (h.b e) hb⟩
theorem MPh.wrote {X : Nat → World → Prop} {k : Nat} {w : World} {done : Nat → Bool} {f : Nat → Value} {W W' : World} (_ : MPh X k w done f W) (_ : done 15 = false) (hx : X (k + 1) W') (v : Value) : MPh X k w (updB done 15) (upd f 15 v) W' := by
  have a15 : updB done 15 15 = true := if_pos rfl
  exact ⟨by rw [a15]; exact (fun e => by cases e), fun _ => hx⟩
theorem MPh.cells {X : Nat → World → Prop} {k : Nat} {w : World} {done : Nat → Bool} {f : Nat → Value} {W : World} {M P : Nat} {serial q : Int} (h : MPh X k w done f W) (hM : ∀ k W, X k W → W.heap[M]? = some (.cells #[.pointer (some ⟨P, 0, none⟩), .int .i64 serial, .int .i64 q] 122)) :
    W.cell? ⟨M, 0, none⟩ = some (.pointer (some ⟨P, 0, none⟩)) ∧ W.cell? ⟨M, 1, none⟩ = some (.int .i64 serial) ∧ W.cell? ⟨M, 2, none⟩ = some (.int .i64 q) := by
  have e : W.heap[M]? = some (.cells #[.pointer (some ⟨P, 0, none⟩), .int .i64 serial, .int .i64 q] 122) := by
    cases hd : done 15 with
    | false => exact hM _ _ (h.a hd)
    | true => exact hM _ _ (h.b hd)
  exact ⟨cell_of e 0, cell_of e 1, cell_of e 2⟩
set_option maxHeartbeats 1000000 in
theorem mwrite_any (M P : Nat) (serial q frm : Int) (s : ByteArray) (hs : s.size ≤ 10000) (hf : -1000 ≤ frm ∧ frm ≤ 1000) (X : Nat → World → Prop) (er : Nat → Int)
    (hX : ∀ k W W', X k W → Below W.heap.size W W' → X k W') (hM : ∀ k W, X k W → W.heap[M]? = some (.cells #[.pointer (some ⟨P, 0, none⟩), .int .i64 serial, .int .i64 q] 122))
    (hw : ∀ k W, k < parts s → (∀ j, j < k → er j = 0) → X k W → Calls Try.prog 17 #[.pointer (some ⟨P, 0, none⟩), hnd serial q, .int .i64 (frm + (k : Nat)), .string (pad (chunk s k))] W fun e W' => e = .returned (.int .i64 (er k)) ∧ X (k + 1) W')
    (w : World) (h0 : X 0 w) :
    Calls Try.prog 31 #[.pointer (some ⟨M, 0, none⟩), .int .i64 frm, .string s] w fun e w' => (∃ k, k < parts s ∧ (∀ j, j < k → er j = 0) ∧ ¬ er k = 0 ∧ e = .panicked [fl serial (er k)] ∧ X (k + 1) w') ∨ ((∀ j, j < parts s → er j = 0) ∧ e = .returned (.tuple #[]) ∧ X (parts s) w') := by
  have H0 : Hid (X 0 w) := h0
  have HX : Hid (∀ k W W', X k W → Below W.heap.size W W' → X k W') := hX
  have HM : Hid (∀ k W, X k W → W.heap[M]? = some (.cells #[.pointer (some ⟨P, 0, none⟩), .int .i64 serial, .int .i64 q] 122)) := hM
  have HW : Hid _ := hw
  clear h0 hX hM hw
  go_enter Try.func31, Try.ntmps31
  go_wp2
  go_loopw [2, 6] (fun t i wr => ∃ k : Nat, k ≤ parts s ∧ t = .string (part s k) ∧ i = .int .i64 (frm + (k : Nat)) ∧ Hid (∀ j, j < k → er j = 0) ∧ Hid (X k wr))
    (fun t _ _ => match t with | .string b => b.size | _ => 0)
  case atStart => exact ⟨0, by omega, by rw [part_zero], by simp, (fun j hj => absurd hj (Nat.not_lt_zero _) : ∀ j, j < 0 → er j = 0), H0⟩
  case round =>
    obtain ⟨k, hk, rfl, rfl, hz, hx⟩ := hrel
    have hps := part_size s k
    have hp2 : parts s ≤ 200 := by unfold parts; omega
    clear H0
    rcases Nat.lt_or_ge k (parts s) with hlt | hge
    · obtain ⟨t, ht⟩ : ∃ t, t = part s k := ⟨_, rfl⟩
      have hn0 : 0 < t.size := by rw [ht, hps]; unfold parts at hlt; omega
      have hts : t.size ≤ 10000 := by rw [ht, hps]; omega
      rw [← ht]
      rw [← ht] at hps
      have HT : Hid (t = part s k) := ht
      have hne : t.toList.isEmpty = false := by
        rw [Lib.toList_data]
        have : t.data.toList.length = t.size := by rw [Array.length_toList]; rfl
        cases hd : t.data.toList with
        | nil => rw [hd] at this; simp at this; omega
        | cons _ _ => rfl
      obtain ⟨c, hc⟩ : ∃ c, c = min t.size 64 := ⟨_, rfl⟩
      have hc1 : c ≤ t.size := by omega
      have hc2 : c ≤ 64 := by omega
      have hcz : min (t.size : Int) 64 = (c : Int) := by omega
      have HPS : Hid (t.size = s.size - 64 * k) := hps
      have hch : Hid (t.extract 0 c = chunk s k) := by
        show t.extract 0 c = chunk s k
        rw [ht]; unfold chunk; rw [hc, ht, Nat.min_comm]
      have hcs : Hid ((chunk s k).size ≤ 64) := by
        show (chunk s k).size ≤ 64
        unfold chunk; rw [ByteArray.size_extract]; omega
      have hnx : Hid (t.extract c t.size = part s (k + 1)) := by
        show t.extract c t.size = part s (k + 1)
        rw [ht, hc, ht]
        rcases Nat.lt_or_ge (part s k).size 64 with h64 | h64
        · rw [Nat.min_eq_left (by omega)]
          have h1 := part_size s k
          unfold part at h1 h64 ⊢
          apply ByteArray.ext
          simp only [ByteArray.data_extract, ByteArray.size_extract, Array.extract_extract]
          have h2 : s.size = s.data.size := rfl
          rw [Array.extract_empty_of_stop_le_start (by omega), Array.extract_empty_of_stop_le_start (by omega)]
        · rw [Nat.min_eq_right h64]
          exact part_next s k
      have hc0 : 0 < c := by omega
      clear ht hc hps
      by_cases hz0 : er k = 0
      · have HZ : Hid (er k = 0) := hz0
        clear hz0
        go_wp2_with fail
        refine wp_region_ph (fun f => ⟨#[.pointer (some ⟨M, 0, none⟩), .int .i64 frm, .string t, undef, undef, undef, .int .i64 (frm + (k : Nat)), .int .i64 (c : Nat), .int .i64 frm, .string t, .bool true, u11, u12, .string t, .int .i64 (t.size : Nat), .int .i64 (c : Nat), f 0, f 1, f 2, f 3, f 4, f 5, f 6, f 7, f 8, f 9, f 10, f 11, f 12, f 13, f 14, f 15, f 16, u33, u34, u35], []⟩) (MV M P serial q frm s er k c t) (MPh X k wr) (fun i => [u16, u17, u18, u19, u20, u21, u22, u23, u24, u25, u26, u27, u28, u29, u30, u31, u32].getD i undef) (by kernel_rfl) rfl rfl ?hI ?hput ?step ?fin
        case hI => exact ⟨fun _ => HX.out k wr _ hx.out ⟨rfl, rfl, rfl, Nat.le_refl _, fun _ _ => rfl⟩, fun e => by cases e⟩
        case fin =>
          intro f W hP hV
          have h1 : Hid (X (k + 1) W) := hP.b rfl
          have HN : Hid (∀ j, j < k + 1 → er j = 0) := fun j hj => by
            rcases Nat.lt_or_ge j k with h | h
            · exact hz.out j h
            · obtain rfl : j = k := by omega
              exact HZ.out
          have hpn : Hid (t.extract c t.size = part s (k + 1)) := hnx
          have hsz : (t.extract c t.size).size < t.size := by rw [ByteArray.size_extract]; omega
          clear hP hV
          go_wp2
          go_roundw
          case rel => exact ⟨k + 1, hlt, by rw [hpn.out], by congr 1; omega, HN, h1⟩
          case measure => exact hsz
        case hput =>
          repeat (refine ⟨fun f v => rfl, ?_⟩)
          trivial
        case step =>
          refine ⟨?_, ?_⟩
          · intro done f W hP hdn hd K hK
            clear hd
            go_simp
            exact hK _ _ rfl (hP.pure _ (by decide) _)
          refine ⟨?_, ?_⟩
          · intro done f W hP hdn hd K hK
            have d0 := (hd.1 rfl).2
            have e0 := (hd.1 rfl).1
            clear hd
            replace d0 : f 0 = .pointer (some ⟨M, 0, none⟩) := d0
            generalize f 0 = x0 at *
            subst d0
            clear e0
            have hm := (hP.cells HM.out).2.1
            go_simp
            refine Calls.mono (serial_any M serial W hm) ?_
            rintro e W' ⟨rfl, rfl⟩
            exact hK _ _ rfl (hP.pure _ (by decide) _)
          refine ⟨?_, ?_⟩
          · intro done f W hP hdn hd K hK
            clear hd
            go_simp
            exact hK _ _ rfl (hP.pure _ (by decide) _)
          refine ⟨?_, ?_⟩
          · intro done f W hP hdn hd K hK
            have d2 := (hd.1 rfl).2
            have e2 := (hd.1 rfl).1
            clear hd
            replace d2 : f 2 = .pointer (some ⟨M, 0, none⟩) := d2
            generalize f 2 = x2 at *
            subst d2
            clear e2
            go_simp
            exact hK _ _ rfl (hP.pure _ (by decide) _)
          refine ⟨?_, ?_⟩
          · intro done f W hP hdn hd K hK
            have d3 := (hd.1 rfl).2
            have e3 := (hd.1 rfl).1
            clear hd
            replace d3 : f 3 = .pointer (some ⟨M, 0, none⟩) := d3
            generalize f 3 = x3 at *
            subst d3
            clear e3
            go_simp
            exact hK _ _ rfl (hP.pure _ (by decide) _)
          refine ⟨?_, ?_⟩
          · intro done f W hP hdn hd K hK
            have d4 := (hd.1 rfl).2
            have e4 := (hd.1 rfl).1
            clear hd
            replace d4 : f 4 = .pointer (some ⟨M, 0, none⟩) := d4
            generalize f 4 = x4 at *
            subst d4
            clear e4
            have hm := (hP.cells HM.out).1
            go_simp
            exact hK _ _ rfl (hP.pure _ (by decide) _)
          refine ⟨?_, ?_⟩
          · intro done f W hP hdn hd K hK
            clear hd
            go_simp
            exact hK _ _ rfl (hP.pure _ (by decide) _)
          refine ⟨?_, ?_⟩
          · intro done f W hP hdn hd K hK
            have d6 := (hd.1 rfl).2
            have e6 := (hd.1 rfl).1
            clear hd
            replace d6 : f 6 = .pointer (some ⟨M, 0, none⟩) := d6
            generalize f 6 = x6 at *
            subst d6
            clear e6
            go_simp
            exact hK _ _ rfl (hP.pure _ (by decide) _)
          refine ⟨?_, ?_⟩
          · intro done f W hP hdn hd K hK
            have d7 := (hd.1 rfl).2
            have e7 := (hd.1 rfl).1
            clear hd
            replace d7 : f 7 = .pointer (some ⟨M, 0, none⟩) := d7
            generalize f 7 = x7 at *
            subst d7
            clear e7
            go_simp
            exact hK _ _ rfl (hP.pure _ (by decide) _)
          refine ⟨?_, ?_⟩
          · intro done f W hP hdn hd K hK
            have d8 := (hd.1 rfl).2
            have e8 := (hd.1 rfl).1
            clear hd
            replace d8 : f 8 = .pointer (some ⟨M, 1, none⟩) := d8
            generalize f 8 = x8 at *
            subst d8
            clear e8
            have hm1 := (hP.cells HM.out).2.1
            have hm2 := (hP.cells HM.out).2.2
            go_simp
            exact hK _ _ rfl (hP.pure _ (by decide) _)
          refine ⟨?_, ?_⟩
          · intro done f W hP hdn hd K hK
            clear hd
            go_simp
            exact hK _ _ rfl (hP.pure _ (by decide) _)
          refine ⟨?_, ?_⟩
          · intro done f W hP hdn hd K hK
            clear hd
            go_simp
            exact hK _ _ rfl (hP.pure _ (by decide) _)
          refine ⟨?_, ?_⟩
          · intro done f W hP hdn hd K hK
            clear hd
            go_simp
            exact hK _ _ rfl (hP.pure _ (by decide) _)
          refine ⟨?_, ?_⟩
          · intro done f W hP hdn hd K hK
            have d11 := (hd.1 rfl).2
            have d12 := (hd.2.1 rfl).2
            have e11 := (hd.1 rfl).1
            have e12 := (hd.2.1 rfl).1
            clear hd
            replace d11 : f 11 = .string t := d11
            replace d12 : f 12 = .int .i64 (c : Nat) := d12
            generalize f 11 = x11 at *
            subst d11
            clear e11
            generalize f 12 = x12 at *
            subst d12
            clear e12
            go_simp
            exact hK _ _ (by show Value.string _ = _; rw [hch.out]) (hP.pure _ (by decide) _)
          refine ⟨?_, ?_⟩
          · intro done f W hP hdn hd K hK
            have d13 := (hd.1 rfl).2
            have e13 := (hd.1 rfl).1
            clear hd
            replace d13 : f 13 = .string (chunk s k) := d13
            generalize f 13 = x13 at *
            subst d13
            clear e13
            go_simp
            refine Calls.mono (filled_any (chunk s k) hcs.out W) ?_
            rintro e W' ⟨rfl, hb⟩
            exact hK _ _ rfl (hP.below HX.out hdn hb _)
          refine ⟨?_, ?_⟩
          · intro done f W hP hdn hd K hK
            have d5 := (hd.1 rfl).2
            have d9 := (hd.2.1 rfl).2
            have d10 := (hd.2.2.1 rfl).2
            have d14 := (hd.2.2.2.1 rfl).2
            have e5 := (hd.1 rfl).1
            have e9 := (hd.2.1 rfl).1
            have e10 := (hd.2.2.1 rfl).1
            have e14 := (hd.2.2.2.1 rfl).1
            clear hd
            replace d5 : f 5 = .pointer (some ⟨P, 0, none⟩) := d5
            replace d9 : f 9 = hnd serial q := d9
            replace d10 : f 10 = .int .i64 (frm + (k : Nat)) := d10
            replace d14 : f 14 = .string (pad (chunk s k)) := d14
            have hdn15 : done 15 = false := hdn
            have hx0 := hP.a hdn15
            generalize f 5 = x5 at *
            subst d5
            clear e5
            generalize f 9 = x9 at *
            subst d9
            clear e9
            generalize f 10 = x10 at *
            subst d10
            clear e10
            generalize f 14 = x14 at *
            subst d14
            clear e14
            go_simp
            refine Calls.mono (HW.out k W hlt hz.out hx0) ?_
            rintro e W' ⟨rfl, hx1⟩
            exact hK _ _ rfl (hP.wrote hdn15 hx1 _)
          refine ⟨?_, ?_⟩
          · intro done f W hP hdn hd K hK
            have d1 := (hd.1 rfl).2
            have d15 := (hd.2.1 rfl).2
            have e1 := (hd.1 rfl).1
            have e15 := (hd.2.1 rfl).1
            clear hd
            replace d1 : f 1 = .int .i64 serial := d1
            replace d15 : f 15 = .int .i64 (er k) := d15
            have hx1 := hP.b e15
            generalize f 1 = x1 at *
            subst d1
            clear e1
            generalize f 15 = x15 at *
            subst d15
            go_simp
            refine Calls.mono (show Calls Try.prog 39 #[.int .i64 serial, .int .i64 (er k)] W fun e w' => e = .returned (.tuple #[]) ∧ w' = W by rw [HZ.out]; exact fail_ok serial W) ?_
            rintro e W' ⟨rfl, rfl⟩
            exact hK _ _ trivial (hP.pure _ (by decide) _)
          trivial
      · have HZ : Hid (¬ er k = 0) := hz0
        clear hz0
        go_wp2_with fail
        refine wp_region_ph (fun f => ⟨#[.pointer (some ⟨M, 0, none⟩), .int .i64 frm, .string t, undef, undef, undef, .int .i64 (frm + (k : Nat)), .int .i64 (c : Nat), .int .i64 frm, .string t, .bool true, u11, u12, .string t, .int .i64 (t.size : Nat), .int .i64 (c : Nat), f 0, f 1, f 2, f 3, f 4, f 5, f 6, f 7, f 8, f 9, f 10, f 11, f 12, f 13, f 14, f 15, f 16, u33, u34, u35], []⟩) (MW M P serial q frm s er k c t) (MPh X k wr) (fun i => [u16, u17, u18, u19, u20, u21, u22, u23, u24, u25, u26, u27, u28, u29, u30, u31, u32].getD i undef) (by kernel_rfl) rfl rfl ?hI ?hput ?step ?fin
        case hI => exact ⟨fun _ => HX.out k wr _ hx.out ⟨rfl, rfl, rfl, Nat.le_refl _, fun _ _ => rfl⟩, fun e => by cases e⟩
        case fin =>
          intro f W hP hV
          exact (hV 16 (by decide)).elim
        case hput =>
          repeat (refine ⟨fun f v => rfl, ?_⟩)
          trivial
        case step =>
          refine ⟨?_, ?_⟩
          · intro done f W hP hdn hd K hK
            clear hd
            go_simp
            exact hK _ _ rfl (hP.pure _ (by decide) _)
          refine ⟨?_, ?_⟩
          · intro done f W hP hdn hd K hK
            have d0 := (hd.1 rfl).2
            have e0 := (hd.1 rfl).1
            clear hd
            replace d0 : f 0 = .pointer (some ⟨M, 0, none⟩) := d0
            generalize f 0 = x0 at *
            subst d0
            clear e0
            have hm := (hP.cells HM.out).2.1
            go_simp
            refine Calls.mono (serial_any M serial W hm) ?_
            rintro e W' ⟨rfl, rfl⟩
            exact hK _ _ rfl (hP.pure _ (by decide) _)
          refine ⟨?_, ?_⟩
          · intro done f W hP hdn hd K hK
            clear hd
            go_simp
            exact hK _ _ rfl (hP.pure _ (by decide) _)
          refine ⟨?_, ?_⟩
          · intro done f W hP hdn hd K hK
            have d2 := (hd.1 rfl).2
            have e2 := (hd.1 rfl).1
            clear hd
            replace d2 : f 2 = .pointer (some ⟨M, 0, none⟩) := d2
            generalize f 2 = x2 at *
            subst d2
            clear e2
            go_simp
            exact hK _ _ rfl (hP.pure _ (by decide) _)
          refine ⟨?_, ?_⟩
          · intro done f W hP hdn hd K hK
            have d3 := (hd.1 rfl).2
            have e3 := (hd.1 rfl).1
            clear hd
            replace d3 : f 3 = .pointer (some ⟨M, 0, none⟩) := d3
            generalize f 3 = x3 at *
            subst d3
            clear e3
            go_simp
            exact hK _ _ rfl (hP.pure _ (by decide) _)
          refine ⟨?_, ?_⟩
          · intro done f W hP hdn hd K hK
            have d4 := (hd.1 rfl).2
            have e4 := (hd.1 rfl).1
            clear hd
            replace d4 : f 4 = .pointer (some ⟨M, 0, none⟩) := d4
            generalize f 4 = x4 at *
            subst d4
            clear e4
            have hm := (hP.cells HM.out).1
            go_simp
            exact hK _ _ rfl (hP.pure _ (by decide) _)
          refine ⟨?_, ?_⟩
          · intro done f W hP hdn hd K hK
            clear hd
            go_simp
            exact hK _ _ rfl (hP.pure _ (by decide) _)
          refine ⟨?_, ?_⟩
          · intro done f W hP hdn hd K hK
            have d6 := (hd.1 rfl).2
            have e6 := (hd.1 rfl).1
            clear hd
            replace d6 : f 6 = .pointer (some ⟨M, 0, none⟩) := d6
            generalize f 6 = x6 at *
            subst d6
            clear e6
            go_simp
            exact hK _ _ rfl (hP.pure _ (by decide) _)
          refine ⟨?_, ?_⟩
          · intro done f W hP hdn hd K hK
            have d7 := (hd.1 rfl).2
            have e7 := (hd.1 rfl).1
            clear hd
            replace d7 : f 7 = .pointer (some ⟨M, 0, none⟩) := d7
            generalize f 7 = x7 at *
            subst d7
            clear e7
            go_simp
            exact hK _ _ rfl (hP.pure _ (by decide) _)
          refine ⟨?_, ?_⟩
          · intro done f W hP hdn hd K hK
            have d8 := (hd.1 rfl).2
            have e8 := (hd.1 rfl).1
            clear hd
            replace d8 : f 8 = .pointer (some ⟨M, 1, none⟩) := d8
            generalize f 8 = x8 at *
            subst d8
            clear e8
            have hm1 := (hP.cells HM.out).2.1
            have hm2 := (hP.cells HM.out).2.2
            go_simp
            exact hK _ _ rfl (hP.pure _ (by decide) _)
          refine ⟨?_, ?_⟩
          · intro done f W hP hdn hd K hK
            clear hd
            go_simp
            exact hK _ _ rfl (hP.pure _ (by decide) _)
          refine ⟨?_, ?_⟩
          · intro done f W hP hdn hd K hK
            clear hd
            go_simp
            exact hK _ _ rfl (hP.pure _ (by decide) _)
          refine ⟨?_, ?_⟩
          · intro done f W hP hdn hd K hK
            clear hd
            go_simp
            exact hK _ _ rfl (hP.pure _ (by decide) _)
          refine ⟨?_, ?_⟩
          · intro done f W hP hdn hd K hK
            have d11 := (hd.1 rfl).2
            have d12 := (hd.2.1 rfl).2
            have e11 := (hd.1 rfl).1
            have e12 := (hd.2.1 rfl).1
            clear hd
            replace d11 : f 11 = .string t := d11
            replace d12 : f 12 = .int .i64 (c : Nat) := d12
            generalize f 11 = x11 at *
            subst d11
            clear e11
            generalize f 12 = x12 at *
            subst d12
            clear e12
            go_simp
            exact hK _ _ (by show Value.string _ = _; rw [hch.out]) (hP.pure _ (by decide) _)
          refine ⟨?_, ?_⟩
          · intro done f W hP hdn hd K hK
            have d13 := (hd.1 rfl).2
            have e13 := (hd.1 rfl).1
            clear hd
            replace d13 : f 13 = .string (chunk s k) := d13
            generalize f 13 = x13 at *
            subst d13
            clear e13
            go_simp
            refine Calls.mono (filled_any (chunk s k) hcs.out W) ?_
            rintro e W' ⟨rfl, hb⟩
            exact hK _ _ rfl (hP.below HX.out hdn hb _)
          refine ⟨?_, ?_⟩
          · intro done f W hP hdn hd K hK
            have d5 := (hd.1 rfl).2
            have d9 := (hd.2.1 rfl).2
            have d10 := (hd.2.2.1 rfl).2
            have d14 := (hd.2.2.2.1 rfl).2
            have e5 := (hd.1 rfl).1
            have e9 := (hd.2.1 rfl).1
            have e10 := (hd.2.2.1 rfl).1
            have e14 := (hd.2.2.2.1 rfl).1
            clear hd
            replace d5 : f 5 = .pointer (some ⟨P, 0, none⟩) := d5
            replace d9 : f 9 = hnd serial q := d9
            replace d10 : f 10 = .int .i64 (frm + (k : Nat)) := d10
            replace d14 : f 14 = .string (pad (chunk s k)) := d14
            have hdn15 : done 15 = false := hdn
            have hx0 := hP.a hdn15
            generalize f 5 = x5 at *
            subst d5
            clear e5
            generalize f 9 = x9 at *
            subst d9
            clear e9
            generalize f 10 = x10 at *
            subst d10
            clear e10
            generalize f 14 = x14 at *
            subst d14
            clear e14
            go_simp
            refine Calls.mono (HW.out k W hlt hz.out hx0) ?_
            rintro e W' ⟨rfl, hx1⟩
            exact hK _ _ rfl (hP.wrote hdn15 hx1 _)
          refine ⟨?_, ?_⟩
          · intro done f W hP hdn hd K hK
            have d1 := (hd.1 rfl).2
            have d15 := (hd.2.1 rfl).2
            have e1 := (hd.1 rfl).1
            have e15 := (hd.2.1 rfl).1
            clear hd
            replace d1 : f 1 = .int .i64 serial := d1
            replace d15 : f 15 = .int .i64 (er k) := d15
            have hx1 := hP.b e15
            generalize f 1 = x1 at *
            subst d1
            clear e1
            generalize f 15 = x15 at *
            subst d15
            go_simp
            refine Calls.mono (fail_any serial (er k) HZ.out W) ?_
            rintro e W' ⟨rfl, rfl⟩
            exact ⟨rfl, Or.inl ⟨k, hlt, hz.out, HZ.out, rfl, hx1⟩⟩
          trivial
    · have hk2 : k = parts s := by omega
      have hemp : (part s k).toList.isEmpty = true := by
        rw [Lib.toList_data]
        have h1 : (part s k).data.toList.length = (part s k).size := by rw [Array.length_toList]; rfl
        have h2 : (part s k).size = 0 := by rw [hps]; unfold parts at hk2; omega
        rw [h2] at h1
        rw [List.eq_nil_of_length_eq_zero h1]; rfl
      clear hps
      generalize part s k = t at *
      subst hk2
      go_wp2
      go_returns
      exact Or.inr ⟨hz.out, rfl, hx.out⟩
end Go.Proofs.Ytiohkdpmgkobiaa
