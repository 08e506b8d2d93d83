/- What MediumBreaks hands to Guard, as calls. -/
import Derived.Test.YtiohkdpmgkobiaaQ5
namespace Go.Proofs.Ytiohkdpmgkobiaa
open Go.RowKit
theorem ent36 (args : Array Value) (W : World) : (callFunc 36 args).run Try.prog W = .ok (.enter 36 args) W := enter_of Try.func36 (by kernel_rfl) (by kernel_rfl) args W
theorem ent37 (args : Array Value) (W : World) : (callFunc 37 args).run Try.prog W = .ok (.enter 37 args) W := enter_of Try.func37 (by kernel_rfl) (by kernel_rfl) args W
theorem ent38 (args : Array Value) (W : World) : (callFunc 38 args).run Try.prog W = .ok (.enter 38 args) W := enter_of Try.func38 (by kernel_rfl) (by kernel_rfl) args W
theorem pad_size (s : ByteArray) (h : s.size ≤ 64) : (pad s).size = 64 := by
  unfold pad
  rw [ByteArray.size_append]
  have : (⟨(List.replicate (64 - s.size) (0 : UInt8)).toArray⟩ : ByteArray).size = 64 - s.size := by show Array.size _ = _; simp
  rw [this]; omega
theorem chunk_size (s : ByteArray) (k : Nat) : (chunk s k).size ≤ 64 := by
  unfold chunk; rw [ByteArray.size_extract]; omega
theorem st0_ok (serial : Int) (n : Nat) : SecOk (st0 serial n) := by
  refine ⟨by show (secs0 n).size = n * 64; simp [secs0], fun u hu => ?_⟩
  have hu' : u ∈ (secs0 n).toList := hu
  unfold secs0 at hu'
  rw [Array.toList_replicate] at hu'
  exact ⟨0, (List.mem_replicate.1 hu').2⟩
/-- Where the work stands behind k sectors. -/
structure BrkInv (a : Nat) (d : Bool) (k : Nat) (st : St) : Prop where
  serial : st.serial = 7
  session : st.session = 1
  there : st.there = true
  down : st.down = false
  hw : st.hw = false
  n : st.n = 8
  go : k ≤ a → SecOk st ∧ LooseEnd st k ∧ st.ln = k ∧ st.aw = true ∧ st.al = ((a - k : Nat) : Int) ∧ st.ad = d ∧ st.count = (k : Int)
  over : k = a + 1 → st.ln = if d then a + 1 else a
theorem brk_write (b0 : Nat) (w0 : World) (L : Loc) (oth : List (Nat × Obj)) (M : Nat) (hM : (M, med L.P 7 1) ∈ oth) (s : ByteArray) (hs : s.size ≤ 500) (a : Nat) (ha : a ≤ 10) (d : Bool) (w : World) (h0 : ∃ st lv, One b0 w0 L st lv oth w ∧ BrkInv a d 0 st) :
    Calls Try.prog 31 #[.pointer (some ⟨M, 0, none⟩), .int .i64 0, .string s] w fun e w' => (a < parts s ∧ e = .panicked [fl 7 7] ∧ ∃ st lv, One b0 w0 L st lv oth w' ∧ BrkInv a d (a + 1) st) ∨ (parts s ≤ a ∧ e = .returned (.tuple #[]) ∧ ∃ st lv, One b0 w0 L st lv oth w' ∧ BrkInv a d (parts s) st) := by
  have hp8 : parts s ≤ 8 := by unfold parts; omega
  refine (mwrite_any M L.P 7 1 0 s (by omega) (by decide) (fun k W => ∃ st lv, One b0 w0 L st lv oth W ∧ BrkInv a d k st) (fun k => if k = a then 7 else 0)
    (fun k W W' ⟨st, lv, h, hi⟩ hb => ⟨st, lv, h.ofBelow hb, hi⟩) (fun k W ⟨st, lv, h, _⟩ => (h.oth _ hM).1) ?_ w h0).mono ?_
  · rintro k W hk hz ⟨st, lv, h, hi⟩
    have hka : k ≤ a := by
      rcases Nat.lt_or_ge a k with h1 | h1
      · have := hz a h1; simp at this
      · exact h1
    obtain ⟨g1, g2, g3, g4, g5, g6, g7⟩ := hi.go hka
    have hps := pad_size (chunk s k) (chunk_size s k)
    rcases Nat.lt_or_ge k a with hlt | hge
    · have hw := h.pwrite_wait k (pad (chunk s k)) hps hi.down hi.there g4 (by rw [g5]; omega) (by rw [g5]; omega) hi.hw (by rw [hi.n]; omega) g1 g2 (by rw [hi.n]; decide) (by rw [g7]; omega)
      rw [show hnd st.serial st.session = hnd 7 1 by rw [hi.serial, hi.session]] at hw
      rw [Int.zero_add, if_neg (by omega)]
      refine hw.mono ?_
      rintro e W' ⟨rfl, lv', h'⟩
      refine ⟨rfl, _, lv', h', ⟨hi.serial, hi.session, hi.there, hi.down, hi.hw, hi.n, fun hk1 => ?_, fun e => ?_⟩⟩
      · have n1 := (⟨g1.size, g1.bytes⟩ : SecOk { st with al := st.al - 1 }).wrote (i := k) (by show k < st.n; rw [hi.n]; omega) (pad (chunk s k)) hps
        have n2 := (⟨g2.len, g2.few, g2.at0⟩ : LooseEnd { st with al := st.al - 1 } k).next ⟨g1.size, g1.bytes⟩ (by show k < st.n; rw [hi.n]; omega) (Nat.lt_succ_self k) (by show st.ln + 1 ≤ 5000; rw [g3]; omega) (pad (chunk s k))
        refine ⟨⟨n1.size, n1.bytes⟩, ⟨n2.len, n2.few, n2.at0⟩, ?_, g4, ?_, g6, ?_⟩
        · show st.ln + 1 = k + 1; rw [g3]
        · show st.al - 1 = _; rw [g5]; omega
        · show st.count + 1 = _; rw [g7]; omega
      · omega
    · obtain rfl : k = a := by omega
      have hw := h.pwrite_now k (pad (chunk s k)) hps hi.down hi.there g4 (by rw [g5]; simp) (by rw [hi.n]; omega) g1 g2 (by rw [hi.n]; decide)
      rw [show hnd st.serial st.session = hnd 7 1 by rw [hi.serial, hi.session]] at hw
      rw [Int.zero_add, if_pos rfl]
      refine hw.mono ?_
      rintro e W' ⟨rfl, lv', h'⟩
      rw [g6] at h'
      cases d with
      | true =>
        rw [if_pos rfl] at h'
        exact ⟨rfl, _, lv', h', ⟨hi.serial, hi.session, hi.there, hi.down, hi.hw, hi.n, fun hk1 => by omega, fun _ => by show st.ln + 1 = _; rw [g3]; rfl⟩⟩
      | false =>
        rw [if_neg (by decide)] at h'
        exact ⟨rfl, _, lv', h', ⟨hi.serial, hi.session, hi.there, hi.down, hi.hw, hi.n, fun hk1 => by omega, fun _ => by show st.ln = _; rw [g3]; rfl⟩⟩
  · rintro e w' (⟨k, hk, hz, hne, rfl, hX⟩ | ⟨hz, rfl, hX⟩)
    · have hka : k = a := by
        by_cases h : k = a
        · exact h
        · exact absurd (by simp [h]) hne
      subst hka
      left
      refine ⟨hk, ?_, hX⟩
      simp
    · right
      refine ⟨?_, rfl, hX⟩
      rcases Nat.lt_or_ge a (parts s) with h | h
      · have := hz a h; simp at this
      · exact h
/-- 'm' and 's' as MediumBreaks hands them in, and what tells that its work was ended. -/
theorem brk_do_fail (b0 : Nat) (w0 : World) (L : Loc) (oth : List (Nat × Obj)) (M C T Rd : Nat) (hM : (M, med L.P 7 1) ∈ oth) (s : ByteArray) (hs : s.size ≤ 500) (hC : (C, .cells #[.pointer (some ⟨M, 0, none⟩)] 53) ∈ oth) (hT : (T, .cells #[.string s] 9) ∈ oth) (a : Nat) (ha : a ≤ 10) (d : Bool) (w : World) (h0 : ∃ st lv, One b0 w0 L st lv oth w ∧ BrkInv a d 0 st) (hlt : a < parts s) :
    Calls Try.prog 36 #[.pointer (some ⟨C, 0, none⟩), .pointer (some ⟨T, 0, none⟩), .pointer (some ⟨Rd, 0, none⟩)] w fun e w' => e = .panicked [fl 7 7] ∧ ∃ st lv, One b0 w0 L st lv oth w' ∧ BrkInv a d (a + 1) st := by
  have hw := brk_write b0 w0 L oth M hM s hs a ha d w h0
  obtain ⟨st, lv, h, _⟩ := h0
  have c1 : w.cell? ⟨C, 0, none⟩ = some (.pointer (some ⟨M, 0, none⟩)) := cell_of (h.oth _ hC).1 0
  have c2 : w.cell? ⟨T, 0, none⟩ = some (.string s) := cell_of (h.oth _ hT).1 0
  have hw2 : Calls Try.prog 31 #[.pointer (some ⟨M, 0, none⟩), .int .i64 0, .string s] w (fun e w' => e = .panicked [fl 7 7] ∧ Hid (∃ st lv, One b0 w0 L st lv oth w' ∧ BrkInv a d (a + 1) st)) := hw.mono (by
    rintro e w' (⟨_, he, hx⟩ | ⟨h1, _⟩)
    · exact ⟨he, hx⟩
    · omega)
  clear h hw
  go_enter Try.func36, Try.ntmps36
  go_wp2_with fail
  go_call hw2 as e w1 ⟨rfl, h1⟩
  clear hw2
  go_wp2
  exact ⟨rfl, rfl, h1.out⟩
theorem brk_do_ok (b0 : Nat) (w0 : World) (L : Loc) (oth : List (Nat × Obj)) (M C T Rd : Nat) (hM : (M, med L.P 7 1) ∈ oth) (s : ByteArray) (hs : s.size ≤ 500) (hC : (C, .cells #[.pointer (some ⟨M, 0, none⟩)] 53) ∈ oth) (hT : (T, .cells #[.string s] 9) ∈ oth) (hne : ∀ p ∈ oth, p.1 ≠ Rd) (a : Nat) (ha : a ≤ 10) (d : Bool) (w : World) (h0 : ∃ st lv, One b0 w0 L st lv ((Rd, .cells #[.bool false] 4) :: oth) w ∧ BrkInv a d 0 st) (hge : parts s ≤ a) :
    Calls Try.prog 36 #[.pointer (some ⟨C, 0, none⟩), .pointer (some ⟨T, 0, none⟩), .pointer (some ⟨Rd, 0, none⟩)] w fun e w' => e = .returned (.tuple #[]) ∧ ∃ st lv, One b0 w0 L st lv ((Rd, .cells #[.bool true] 4) :: oth) w' ∧ BrkInv a d (parts s) st := by
  have hw := brk_write b0 w0 L ((Rd, .cells #[.bool false] 4) :: oth) M (List.mem_cons_of_mem _ hM) s hs a ha d w h0
  obtain ⟨st, lv, h, _⟩ := h0
  have c1 : w.cell? ⟨C, 0, none⟩ = some (.pointer (some ⟨M, 0, none⟩)) := cell_of (h.oth _ (List.mem_cons_of_mem _ hC)).1 0
  have c2 : w.cell? ⟨T, 0, none⟩ = some (.string s) := cell_of (h.oth _ (List.mem_cons_of_mem _ hT)).1 0
  have hw2 : Calls Try.prog 31 #[.pointer (some ⟨M, 0, none⟩), .int .i64 0, .string s] w (fun e w' => e = .returned (.tuple #[]) ∧ Hid (∃ st lv, One b0 w0 L st lv ((Rd, .cells #[.bool false] 4) :: oth) w' ∧ BrkInv a d (parts s) st)) := hw.mono (by
    rintro e w' (⟨h1, _⟩ | ⟨_, he, hx⟩)
    · omega
    · exact ⟨he, hx⟩)
  clear h hw
  go_enter Try.func36, Try.ntmps36
  go_wp2_with fail
  go_call hw2 as e w1 ⟨rfl, h1⟩
  clear hw2
  obtain ⟨st1, lv1, o1, i1⟩ := h1.out
  have c3 : w1.cell? ⟨Rd, 0, none⟩ = some (.bool false) := cell_of (o1.oth _ (List.mem_cons_self ..)).1 0
  have f3 : w1.frozen? ⟨Rd, 0, none⟩ = false := frz_of (o1.oth _ (List.mem_cons_self ..)).1 0
  have HF : Hid (∃ st lv, One b0 w0 L st lv ((Rd, .cells #[.bool true] 4) :: oth) (w1.setCell ⟨Rd, 0, none⟩ (.bool true)) ∧ BrkInv a d (parts s) st) := ⟨st1, lv1, o1.setOther hne (by decide), i1⟩
  clear h1 o1 i1
  go_wp2
  go_returns
  exact ⟨rfl, HF.out⟩
theorem do38 (w : World) : Calls Try.prog 38 #[] w fun e w' => e = .panicked [fl 3 13] ∧ w' = w := by
  go_enter Try.func38, Try.ntmps38
  go_wp2_with fail
  go_call (fail_any 3 13 (by decide) w) as e w1 ⟨rfl, rfl⟩
  go_wp2
  exact ⟨rfl, rfl, rfl⟩
theorem do37 (N : Nat) (w : World) (h : w.heap[N]? = some (.cells #[.bool false] 4)) : Calls Try.prog 37 #[.pointer (some ⟨N, 0, none⟩)] w fun e w' => e = .returned (.tuple #[]) ∧ w'.heap[N]? = some (.cells #[.bool true] 4) ∧ w'.os = w.os ∧ w'.tape = w.tape ∧ w'.output = w.output ∧ w.heap.size ≤ w'.heap.size ∧ ∀ k, k < w.heap.size → k ≠ N → w'.heap[k]? = w.heap[k]? := by
  have bG : Below w.heap.size w (G0 w) := (Below.alloc (Below.refl _ _) (Nat.le_refl _) _).alloc (by simp) _
  have hN := getElem?_lt h
  have hgd := guard_fail 38 #[] 3 13 (fun W => W = G0 w) w ent38 ((do38 (G0 w)).mono (by
    rintro e W ⟨rfl, rfl⟩
    have e1 : (G0 w).heap[w.heap.size + 1]? = some iob := by
      have := heap_new (w.alloc bob) iob
      rw [show (w.alloc bob).heap.size = w.heap.size + 1 by simp] at this
      exact this
    have e0 : (G0 w).heap[w.heap.size]? = some bob := by
      show ((w.alloc bob).alloc iob).heap[w.heap.size]? = _
      rw [Below.heap_alloc _ _ _ (by simp)]; exact heap_new _ _
    exact ⟨rfl, e0, e1, rfl⟩))
  have hent := ent38
  go_enter Try.func37, Try.ntmps37
  go_wp2_with fail
  go_call hgd as e w1 ⟨rfl, W, rfl, hk⟩
  have hbl : ∀ k, k < w.heap.size → w1.heap[k]? = w.heap[k]? := fun k hk2 => by
    rw [hk.block k (Nat.lt_of_lt_of_le hk2 bG.size) (by omega) (by omega)]; exact bG.block k hk2
  have h1 : w1.heap[N]? = some (.cells #[.bool false] 4) := (hbl N hN).trans h
  have c1 : w1.cell? ⟨N, 0, none⟩ = some (.bool false) := cell_of h1 0
  have f1 : w1.frozen? ⟨N, 0, none⟩ = false := frz_of h1 0
  have HF : Hid ((w1.setCell ⟨N, 0, none⟩ (.bool true)).heap[N]? = some (.cells #[.bool true] 4) ∧ (w1.setCell ⟨N, 0, none⟩ (.bool true)).os = w.os ∧ (w1.setCell ⟨N, 0, none⟩ (.bool true)).tape = w.tape ∧ (w1.setCell ⟨N, 0, none⟩ (.bool true)).output = w.output ∧ w.heap.size ≤ (w1.setCell ⟨N, 0, none⟩ (.bool true)).heap.size ∧ ∀ k, k < w.heap.size → k ≠ N → (w1.setCell ⟨N, 0, none⟩ (.bool true)).heap[k]? = w.heap[k]?) := by
    refine ⟨by rw [block_set h1]; rfl, hk.os.trans bG.os, hk.tape.trans bG.tape, hk.output.trans bG.output, ?_, fun k hk2 hne => ?_⟩
    · have := hk.size; have := bG.size; simp [World.setCell]; omega
    · rw [Below.heap_setCell _ _ _ _ (by exact hne)]; exact hbl k hk2
  clear hgd hbl h1 h hk
  go_wp2_with fail
  go_call (fail_ok 3 _) as e w2 ⟨rfl, rfl⟩
  go_wp2
  go_returns
  exact ⟨rfl, HF.out⟩
end Go.Proofs.Ytiohkdpmgkobiaa
