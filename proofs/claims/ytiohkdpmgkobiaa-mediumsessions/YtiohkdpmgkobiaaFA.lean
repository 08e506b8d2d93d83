/- Fill of any text; rows of texts; a Read of a device that is gone; Crash in the words of what sectors are. -/
import Derived.Test.YtiohkdpmgkobiaaPO
import Derived.Laws.Bits128
namespace Go.Proofs.Ytiohkdpmgkobiaa
open Go.RowKit
theorem copy_long {P : Program} (w : World) (dT sT ty elem : TypeId) (g dLen dCap : Nat) (s : ByteArray) (cur : Array Value) (t : TypeId)
    (hu : P.underlying dT = some (.slice elem)) (hs : (P.info? elem).map (·.size) = some 1) (hg : w.heap[g]? = some (.cells cur t (0, 0))) (hle : dLen ≤ s.size) (hfit : dLen = cur.size) :
    (Builtin.copy_ #[dT, sT] ty #[.slice (some ⟨g, 0, none⟩) dLen dCap, .string s]).run P w =
      .ok (goInt dLen) (w.setRow g (Lib.byteCells (s.data.toList.take dLen)).toArray) := by
  have hsl : s.data.toList.length = s.size := by rw [Array.length_toList]; rfl
  have hlen : (Lib.byteCells (s.data.toList.take dLen)).length = dLen := by rw [Lib.byteCells_length, List.length_take, hsl]; omega
  have hst := run_storeCells_at P g 0 t (Lib.byteCells (s.data.toList.take dLen)) 0 cur w hg (by rw [hlen]; omega) (Lib.byteCells_one _)
  have hmin : Nat.min s.size dLen = dLen := Nat.min_eq_right hle
  have htk : List.take dLen (List.map (fun b : UInt8 => Value.int IntKind.u8 (b.toNat : Int)) s.data.toList) = Lib.byteCells (s.data.toList.take dLen) := by
    rw [← List.map_take]; rfl
  rw [hlen] at hst
  simp only [Nat.add_zero, Nat.zero_add, List.take_zero, List.nil_append] at hst
  rw [List.drop_eq_nil_of_le (by rw [Array.length_toList]; omega), List.append_nil] at hst
  cases hq : P.info? elem with
  | none => simp [hq] at hs
  | some i =>
    have hi : i.size = 1 := by simpa [hq] using hs
    simp [Builtin.copy_, run_underlying hu, Builtin.lenOf, Builtin.firstCells, sizeOf, typeInfo, hq, hi, hmin, htk, hst]
theorem fill_long (s : ByteArray) (hs : 64 ≤ s.size) (w : World) : Calls Try.prog 16 #[.string s] w fun e w' => e = .returned (.string ⟨(s.data.toList.take 64).toArray⟩) ∧ Below w.heap.size w w' := by
  have hmk := mk_64
  have h1 : (w.alloc (.cells (Array.replicate 64 (.int .u8 0)) 5)).heap[w.heap.size]? = some (.cells (Array.replicate 64 (.int .u8 0)) 5) := heap_new _ _
  have hcp := copy_long (P := Try.prog) (w.alloc (.cells (Array.replicate 64 (.int .u8 0)) 5)) 75 9 3 5 w.heap.size 64 64 s (Array.replicate 64 (.int .u8 0)) 5 Try.underlying75 size5 h1 hs (by simp)
  have h2 := setRow_heap (w.alloc (.cells (Array.replicate 64 (.int .u8 0)) 5)) w.heap.size _ (Lib.byteCells (s.data.toList.take 64)).toArray 5 _ h1
  have hb : Below w.heap.size w ((w.alloc (.cells (Array.replicate 64 (.int .u8 0)) 5)).setRow w.heap.size (Lib.byteCells (s.data.toList.take 64)).toArray) := by
    refine ⟨rfl, rfl, rfl, by simp [World.setRow], fun k hk => ?_⟩
    rw [setRow_other _ _ _ _ (by omega), Below.heap_alloc _ _ _ hk]
  have hpz : (s.data.toList.take 64).length = 64 := by
    have hsl : s.data.toList.length = s.size := by rw [Array.length_toList]; rfl
    rw [List.length_take, hsl]; omega
  have hcv := run_convert_bytes_back (P := Try.prog) ((w.alloc (.cells (Array.replicate 64 (.int .u8 0)) 5)).setRow w.heap.size (Lib.byteCells (s.data.toList.take 64)).toArray) 75 9 5 ⟨w.heap.size, 0, none⟩ 64 (s.data.toList.take 64) Try.underlying75 Try.underlying5 Try.underlying9 (by
    intro j hj
    rw [Addr.add_mid, Nat.zero_add, cell_of h2]
    unfold Lib.byteCells
    rw [List.getElem?_toArray, List.getElem?_map, List.getElem?_eq_getElem hj]; rfl)
  rw [hpz] at hcv
  have HB : Hid _ := hb
  clear hb h1 h2 hpz
  generalize (w.alloc (.cells (Array.replicate 64 (.int .u8 0)) 5)).setRow w.heap.size (Lib.byteCells (s.data.toList.take 64)).toArray = w2 at *
  obtain ⟨t, ht⟩ : ∃ t, t = s.data.toList.take 64 := ⟨_, rfl⟩
  rw [← ht] at hcv ⊢
  clear ht
  generalize hA : Array.replicate 64 (Value.int .u8 0) = A at *
  go_enter Try.func16, Try.ntmps16
  go_wp2
  go_returns
  exact ⟨rfl, HB.out⟩
/-- Fill of any text is 64 bytes. -/
theorem fill_all (s : ByteArray) (w : World) : Calls Try.prog 16 #[.string s] w fun e w' => ∃ t, e = .returned (.string t) ∧ t.size = 64 ∧ Below w.heap.size w w' := by
  rcases Nat.lt_or_ge s.size 64 with h | h
  · refine (fill_any s (by omega) w).mono ?_
    rintro e w' ⟨rfl, hb⟩
    exact ⟨_, rfl, pad_size _ (by omega), hb⟩
  · refine (fill_long s h w).mono ?_
    rintro e w' ⟨rfl, hb⟩
    refine ⟨_, rfl, ?_, hb⟩
    show (s.data.toList.take 64).toArray.size = 64
    have hsl : s.data.toList.length = s.size := by rw [Array.length_toList]; rfl
    rw [List.size_toArray, List.length_take, hsl]; omega
/-- A row of texts. -/
def strs (f : Nat → ByteArray) (n : Nat) : Array Value := ((List.range n).map fun i => Value.string (f i)).toArray
theorem strs_size (f : Nat → ByteArray) (n : Nat) : (strs f n).size = n := by unfold strs; simp
theorem strs_get (f : Nat → ByteArray) (n i : Nat) (h : i < n) : (strs f n)[i]? = some (.string (f i)) := by unfold strs; simp [h]
theorem strs_set (f : Nat → ByteArray) (n i : Nat) (s : ByteArray) (h : i < n) : (strs f n).setIfInBounds i (.string s) = strs (updS f i s) n := by
  apply Array.ext_getElem?
  intro k
  rw [Array.getElem?_setIfInBounds]
  by_cases hk : k < n
  · rw [strs_get f _ _ hk, strs_get (updS f i s) _ _ hk]
    unfold updS
    by_cases e : i = k
    · subst e; simp [strs_size, hk]
    · rw [if_neg e, if_neg (fun h => e h.symm)]
  · have h1 : ∀ g, (strs g n)[k]? = none := fun g => Array.getElem?_eq_none (by rw [strs_size]; omega)
    rw [h1, h1]
    split
    · omega
    · rfl
theorem strs_ext (f g : Nat → ByteArray) (n : Nat) (h : ∀ i, i < n → f i = g i) : strs f n = strs g n := by
  unfold strs
  congr 1
  apply List.map_congr_left
  intro i hi
  rw [h i (List.mem_range.1 hi)]
theorem info9 : (Try.prog.info? 9).map (fun i => (i.zero, i.size, i.bytes)) = some (some (.string ⟨#[]⟩), 1, 16) := by kernel_rfl
theorem mk_strs (n : Nat) (hn : n ≤ 4096) (w : World) : (Instr.makeSlice 22 (.int .i64 (n : Nat)) (.int .i64 (n : Nat))).run Try.prog w = .ok (.slice (some ⟨w.heap.size, 0, none⟩) n n) (w.alloc (.cells (strs (fun _ => ⟨#[]⟩) n) 9)) := by
  obtain ⟨i, hi, hz, hs, hb⟩ := info_parts info9
  have := run_make (P := Try.prog) w 22 9 i (.string ⟨#[]⟩) Try.underlying22 hi hz .i64 .i64 n n (by omega) (by omega) (by rw [hb]; omega) (by omega)
  rw [hs] at this
  simp only [Int.toNat_natCast, Nat.mul_one] at this
  have e : madeCells (Value.string ⟨#[]⟩).cells n = strs (fun _ => ⟨#[]⟩) n := by
    apply Array.ext
    · simp [madeCells, strs]
    · intro k h1 h2
      simp [madeCells, strs, Value.cells, Nat.mod_one]
  rw [e] at this
  exact this
theorem i64_and7 (n : Int) : bits .and .i64 n 7 = n % 8 := by
  have h1 : (BitVec.ofInt 64 7).toNat = 2 ^ 3 - 1 := by decide
  have key : (BitVec.ofInt 64 n &&& BitVec.ofInt 64 7).toNat = (n % ((2 ^ 64 : Nat) : Int)).toNat % 2 ^ 3 := by
    rw [BitVec.toNat_and, BitVec.toNat_ofInt, h1, Nat.and_two_pow_sub_one_eq_mod]
  show IntKind.i64.wrap ((BitVec.ofInt 64 n &&& BitVec.ofInt 64 7).toNat : Nat) = n % 8
  rw [key, IntKind.wrap_i64]
  omega
section
variable {b0 : Nat} {w0 : World} {L : Loc} {st : St} {lv : Value} {oth : List (Nat × Obj)} {w : World}
theorem One.pread_gone (h : One b0 w0 L st lv oth w) (q i : Int) (hdn : st.down = false) (hg : (decide (st.there = false) || decide (¬ st.session = q)) = true) :
    Calls Try.prog 20 #[.pointer (some ⟨L.P, 0, none⟩), hnd st.serial q, .int .i64 i] w fun e w' => e = .returned (.tuple #[.string ⟨#[]⟩, .int .i64 8]) ∧ One b0 w0 L st lv oth w' := by
  have hmf : ∀ (fn : Fn) (first cap : Array Value) (w : World), (Instr.makeFunc fn first cap).run Try.prog w = .ok (.func fn first cap) w := fun _ _ _ _ => rfl
  have ho := fun o1 o2 o3 v1 v2 => (((h.laid o1).laid o2).laid o3).operate_gone q hdn hg v1 v2
  clear h hg
  unfold hnd at *
  go_enter Try.func20, Try.ntmps20
  go_wp2_with fail
  go_call (ho _ _ _ _ _) as e w1 ⟨rfl, h1⟩
  have H1 : Hid _ := h1
  clear ho h1
  go_wp2
  go_returns
  exact ⟨rfl, H1.out⟩
/-- Crash of a device that is there: each sector is what it was, or what was sure. -/
theorem One.crash_dv (h : One b0 w0 L st lv oth w) {ats : Nat → Nat} {now sure : Nat → ByteArray} (hd : Dv st ats now sure) (ht : st.there = true) (hn : st.n ≤ 4096) (hq : 0 ≤ st.session ∧ st.session ≤ 1000000) (K o N : Nat) (c : Value) (ch : Nat → Int) (hc : ChL K o N 0 c)
    (hch : ∀ W, Below b0 w0 W → ∀ j, j < N → W.cell? ⟨K, o + j, none⟩ = some (.int .i64 (ch j))) :
    Calls Try.prog 19 #[.pointer (some ⟨L.P, 0, none⟩), c] w fun e w' => e = .returned (.tuple #[]) ∧ ∃ st2 now', One b0 w0 L st2 (.slice none 0 0) oth w' ∧ Dv st2 ats now' now' ∧ (∀ i, i < st.n → now' i = now i ∨ now' i = sure i) ∧
      st2.serial = st.serial ∧ st2.session = st.session + 1 ∧ st2.there = true ∧ st2.n = st.n ∧ st2.aw = false ∧ st2.hw = false ∧ st2.down = false ∧ st2.count = st.count ∧ st2.ln = 0 := by
  have hset := h.settle_any ats hd.lis hd.ok.size (by omega) K o N c ch hc (fun W st' lv' hW j hj => hch W hW.below j hj)
  refine (h.crash_t c { st with secs := secsK st ats N ch st.ln, ln := 0, loose := [] } ht hq (hset.mono ?_)).mono ?_
  · rintro e w' ⟨c', rfl, _, h1⟩
    exact ⟨⟨c', rfl⟩, h1⟩
  · rintro e w' ⟨rfl, h1⟩
    obtain ⟨now', k1, k2⟩ := hd.settled N ch { ({ st with secs := secsK st ats N ch st.ln, ln := 0, loose := [] } : St) with aw := false, al := 0, session := st.session + 1, hw := false, hl := 0, down := false } rfl rfl rfl rfl
    exact ⟨rfl, _, now', h1, k2, k1, rfl, rfl, ht, rfl, rfl, rfl, rfl, rfl, rfl⟩
theorem One.pflush_dv (h : One b0 w0 L st lv oth w) {ats : Nat → Nat} {now sure : Nat → ByteArray} (hd : Dv st ats now sure) (hdn : st.down = false) (ht : st.there = true) (haw : st.aw = false) (hhw : st.hw = false) (hc : 0 ≤ st.count ∧ st.count ≤ 1000000) :
    Calls Try.prog 18 #[.pointer (some ⟨L.P, 0, none⟩), hnd st.serial st.session] w fun e w' => e = .returned (.int .i64 0) ∧ ∃ st' lv', One b0 w0 L st' lv' oth w' ∧ Dv st' ats now now ∧ Kept st st' ∧ st'.count = st.count + 1 := by
  refine (h.pflush hdn ht haw hhw hc).mono ?_
  rintro e w' ⟨rfl, lv', h1⟩
  exact ⟨rfl, _, lv', h1, hd.flushed rfl rfl rfl rfl, ⟨rfl, rfl, rfl, rfl, rfl, rfl, rfl, rfl, rfl, rfl⟩, rfl⟩
end
/-- A new device. -/
theorem dv0 (s : Int) (n : Nat) : Dv (st0 s n) (fun _ => 0) (fun _ => pad ⟨#[]⟩) (fun _ => pad ⟨#[]⟩) := by
  refine ⟨st0_ok s n, ⟨rfl, Nat.zero_le _, fun k hk => absurd hk (Nat.not_lt_zero _), fun k hk => absurd hk (Nat.not_lt_zero _), fun u hu => by cases hu⟩, fun j k _ hk => absurd hk (Nat.not_lt_zero _), fun i hi => ?_, fun k hk => absurd hk (Nat.not_lt_zero _), fun _ _ _ => rfl, fun i hi => pad_size _ (by decide)⟩
  have hi' : i < n := hi
  have hsec : secl (st0 s n) i = List.replicate 64 (.int .u8 0) := by
    show ((secs0 n).toList.drop (i * 64)).take 64 = _
    unfold secs0
    rw [Array.toList_replicate, List.drop_replicate, List.take_replicate]
    congr 1
    have : (i + 1) * 64 ≤ n * 64 := Nat.mul_le_mul_right _ hi'
    omega
  unfold rd rdB
  rw [hsec, ← byteCells_rep, bytes_back]
  rfl
end Go.Proofs.Ytiohkdpmgkobiaa
