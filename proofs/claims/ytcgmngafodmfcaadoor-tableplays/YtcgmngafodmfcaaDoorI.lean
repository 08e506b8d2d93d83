/- Keys of a table, as a call: the keys of the list, sorted. -/
import Derived.Test.YtcgmngafodmfcaaDoorH
import Derived.Sort.OwnSorted
import Derived.Sort.KeysCollected
namespace Go.Proofs.YtcgmngafodmfcaaDoor
open Go.RowKit Go.Sort
def kb (p : Ent) : List UInt8 := p.1.data.toList
theorem enc_kb (k : ByteArray) : encStr k.data.toList = .string k := by
  unfold encStr
  rw [Array.toArray_toList]
theorem info9 : (Tryd.prog.info? 9).map (fun i => (i.zero, i.size, i.bytes)) = some (some (.string ⟨#[]⟩), 1, 16) := by kernel_rfl
theorem mk_strs (n : Nat) (hn : n ≤ 8192) (w : World) : (Instr.makeSlice 46 (.int .i64 0) (.int .i64 (n : Nat))).run Tryd.prog w = .ok (.slice (some ⟨w.heap.size, 0, none⟩) 0 n) (w.alloc (.cells (madeCells (#[.string ⟨#[]⟩] : Array Value) (n * 1)) 9)) := by
  obtain ⟨i, hi, hz, hs, hb⟩ := info_parts info9
  have := run_make (P := Tryd.prog) w 46 9 i (.string ⟨#[]⟩) Tryd.underlying46 hi hz .i64 .i64 0 n (by omega) (by omega) (by rw [hb]; omega) (by omega)
  rw [hs] at this
  simp only [Int.toNat_natCast] at this
  exact this
theorem own_slice {w : World} {base e k n : Nat} {v : Value} {xs : List Value} (h : w.ownsRow base e k v n xs) : ∃ ao cp, v = .slice ao n cp := by
  rcases h.2 with ⟨rfl, h0⟩ | ⟨g, cap, cur, rfl, _⟩
  · exact ⟨none, 0, by rw [h0]⟩
  · exact ⟨_, _, rfl⟩
/-- One key is appended. -/
theorem kappend {ops : Array Oper} {rest : List Oper} {o : Oper} {a : Act} {w : World} {Q : Exit → Act → World → Prop} (hgd : o.guard = none) (s x : Operand) (ho : o.op = .call { callee := .builtin .append, args := #[s, x], argTypes := #[46, 46] })
    (base : Nat) (v : Value) (ls : List (List UInt8)) (hs : a.eval s = v) (hown : w.ownsRow base 9 1 v ls.length (ls.map encStr)) (G : Nat) (hx : a.eval x = .slice (some ⟨G, 0, none⟩) 1 1) (m : ByteArray) (hG : w.heap[G]? = some (.cells #[.string m] 9)) (hl : ls.length ≤ 8192) (hb : base ≤ w.heap.size)
    (k : ∀ (g : Nat) (cp : Nat) (w' : World), w'.ownsRow base 9 1 (.slice (some ⟨g, 0, none⟩) (ls.length + 1) cp) (ls ++ [m.data.toList]).length ((ls ++ [m.data.toList]).map encStr) → Below base w w' → w.heap.size ≤ w'.heap.size → wpList Tryd.prog ops Q rest (a.put o.dst (.slice (some ⟨g, 0, none⟩) (ls.length + 1) cp)) w') : wpList Tryd.prog ops Q (o :: rest) a w := by
  obtain ⟨i0, hi0, hz0, hs0, hby0⟩ := info_parts info9
  refine wpList_append_own w hgd s x 46 ho base 9 i0 (.string ⟨#[]⟩) 1 16 Tryd.underlying46 hi0 hz0 hs0 hby0 (by kernel_rfl) (by decide) v ls.length (ls.map encStr) hs hown ⟨G, 0, none⟩ 1 1 [.string m] hx rfl ?_ ?_ (by unfold maxLen; omega) (by omega) hb ?_
  · intro j u hj
    rw [Addr.add_lit, Nat.zero_add, cell_of hG]
    simpa using hj
  · intro u hu
    simp at hu
    rcases hu with rfl; rfl
  · intro v' w' h1 h2 h3
    have hx : w'.ownsRow base 9 1 v' (ls ++ [m.data.toList]).length ((ls ++ [m.data.toList]).map encStr) := by
      rw [List.map_append, List.length_append]
      simp only [List.map_cons, List.map_nil, enc_kb]
      exact h1
    have hb2 : Below base w w' := (Below.refl _ w).grown h2 hb (fun q hq => (World.ownsRow.lt hown q hq).1)
    rcases hx.2 with ⟨_, h0⟩ | ⟨g, cap, cur, e, _⟩
    · rw [List.length_append] at h0; simp at h0
    · rw [List.length_append] at e
      have e2 : v' = .slice (some ⟨g, 0, none⟩) (ls.length + 1) cap := e
      subst e2
      exact k g cap w' hx hb2 hb2.size
section
variable {w : World} {tb pb sd n cnt : Nat} {L : Nat → Option Ent}
theorem own_below {w W : World} {b e k m : Nat} {v : Value} {xs : List Value} (h : w.ownsRow b e k v m xs) (hb : Below w.heap.size w W) : W.ownsRow b e k v m xs := by
  refine ⟨h.1, ?_⟩
  rcases h.2 with h0 | ⟨g, cap, cur, e, hb1, hg, hr⟩
  · exact Or.inl h0
  · exact Or.inr ⟨g, cap, cur, e, hb1, (hb.block _ (getElem?_lt hg)).trans hg, hr⟩
def kl (E : List Ent) : List (List UInt8) := (E.map kb).mergeSort leB
theorem kl_perm {E E' : List Ent} (h : E.Perm E') : kl E = kl E' := mergeSort_of_perm (h.map _)
set_option maxHeartbeats 2000000 in
theorem keys_any {E : List Ent} (h : Tb w tb pb E) (hN : E.length ≤ 1600) :
    Calls Tryd.prog 19 #[.pointer (some ⟨tb, 0, none⟩)] w fun e w' => (∃ g cap, e = .returned (.slice (some ⟨g, 0, none⟩) E.length cap) ∧ w'.ownsRow w.heap.size 9 1 (.slice (some ⟨g, 0, none⟩) E.length cap) E.length ((kl E).map encStr)) ∧ Below w.heap.size w w' := by
  obtain ⟨sd, n, L, hT, hG, hE, hq⟩ := h.ex
  have n4 := hT.n4
  have nb := hT.nb
  have hlen := hE.length_eq
  obtain ⟨-, t1, t2⟩ := hT.tc
  have hts := getElem?_lt hT.t
  have HT : Hid _ := hT
  have HKL : Hid (kl (ents n L) = kl E) := kl_perm hE
  have HLN : Hid ((ents n L).length = E.length) := hlen
  have hmk := mk_strs E.length (by omega)
  have HMS : Hid ((madeCells (#[.string ⟨#[]⟩] : Array Value) (E.length * 1)).size = E.length * 1) := size_madeCells _ _
  clear h hT hG hE hlen
  generalize madeCells (#[.string ⟨#[]⟩] : Array Value) (E.length * 1) = C0 at *
  have hbl : ∀ o, Below w.heap.size w (w.alloc o) := fun o => (Below.refl _ _).alloc (Nat.le_refl _) _
  have t1' : (w.alloc (.cells C0 9)).cell? ⟨tb, 1, none⟩ = some (.slice (some ⟨pb, 0, none⟩) n n) := ((hbl _).cell hts).trans t1
  have HBL : Hid _ := hbl
  clear hbl
  go_enter Tryd.func19, Tryd.ntmps19
  go_wp2
  rename_i K hK
  have HK : Hid _ := hK
  clear hK hmk t1 t2 t1'
  have HO0 : Hid ((w.alloc (.cells C0 9)).ownsRow w.heap.size 9 1 (.slice (some ⟨w.heap.size, 0, none⟩) 0 E.length) 0 []) :=
    ⟨rfl, Or.inr ⟨w.heap.size, E.length, C0, rfl, Nat.le_refl _, heap_new _ _, Nat.zero_le _, by unfold maxLen; omega, HMS.out, by simp⟩⟩
  go_loopw [3, 16] (fun x y wr => ∃ (i g cap : Nat) (ls : List (List UInt8)), x = .slice (some ⟨g, 0, none⟩) ls.length cap ∧ y = .int .i64 (i : Nat) ∧ i ≤ n ∧ Hid (ls = (ents i L).map kb) ∧ Hid (wr.ownsRow w.heap.size 9 1 (.slice (some ⟨g, 0, none⟩) ls.length cap) ls.length (ls.map encStr)) ∧ Hid (Below w.heap.size w wr)) (fun _ y _ => n - (intOf y).toNat)
  case atStart => exact ⟨0, w.heap.size, E.length, [], rfl, rfl, Nat.zero_le _, rfl, HO0, HBL.out _⟩
  case round =>
    obtain ⟨i, g, cap, ls, rfl, rfl, hin, hls, hO, hB⟩ := hrel
    clear HO0
    rcases Nat.lt_or_ge i n with hi | hi
    · have hro : Hid (wr.rangeAt pb (i * 3) (pl (L i))) := (HT.out.below hB.out).rng hi
      cases hL : L i with
      | none =>
        rw [hL] at hro
        have HLe : Hid (ents (i + 1) L = ents i L) := by
          show ents (i + 1) L = ents i L
          rw [ents_succ, hL]; simp
        clear hL
        go_wp2_with (refine ld55n rfl _ rfl rfl hro.out ?k1)
        go_roundw
        case rel =>
          have hbx : Below wr.heap.size wr (wr.alloc (.cells #[.bool false, .string ⟨#[]⟩, .int .i64 0] 55)) := (Below.refl _ _).alloc (Nat.le_refl _) _
          exact ⟨i + 1, g, cap, ls, rfl, by go_num, by omega, by show ls = _; rw [HLe.out]; exact hls.out, own_below hO.out hbx, hB.out.trans (hbx.mono hB.out.size)⟩
        case measure => simp only [intOf]; omega
      | some p =>
        rw [hL] at hro
        have HLe : Hid (ents (i + 1) L = ents i L ++ [p]) := by
          show ents (i + 1) L = ents i L ++ [p]
          rw [ents_succ, hL]; simp
        have hbx : Below wr.heap.size wr ((wr.alloc (.cells #[.bool true, .string p.1, .int .i64 p.2] 55)).alloc (.cells #[.string p.1] 9)) := ((Below.refl _ _).alloc (Nat.le_refl _) _).alloc (by simp) _
        have HBX : Hid _ := hbx
        have hlm := ents_mono L (show i ≤ n by omega)
        have HLM : Hid (ls.length ≤ 1600) := by
          show _ ≤ _
          have := HLN.out
          rw [hls.out, List.length_map]
          omega
        clear hL hbx hlm
        have HO2 : Hid _ := own_below hO.out HBX.out
        have HKB : Hid (Below w.heap.size w ((wr.alloc (.cells #[.bool true, .string p.1, .int .i64 p.2] 55)).alloc (.cells #[.string p.1] 9))) := hB.out.trans (HBX.out.mono hB.out.size)
        have HKG : Hid (((wr.alloc (.cells #[.bool true, .string p.1, .int .i64 p.2] 55)).alloc (.cells #[.string p.1] 9)).heap[wr.heap.size + 1]? = some (.cells #[.string p.1] 9)) := by
          have := heap_new (wr.alloc (.cells #[.bool true, .string p.1, .int .i64 p.2] 55)) (.cells #[.string p.1] 9)
          show _ = _
          simpa using this
        go_wp2_with (first | (refine ld55s rfl _ rfl rfl hro.out ?k3) | (refine kappend rfl _ _ rfl w.heap.size _ ls rfl HO2.out _ rfl p.1 HKG.out (by have := HLM.out; omega) HKB.out.size ?k4))
        intro g2 cp w' h1 h2 h3
        have H1 : Hid (w'.ownsRow w.heap.size 9 1 (.slice (some ⟨g2, 0, none⟩) (ls ++ [kb p]).length cp) (ls ++ [kb p]).length ((ls ++ [kb p]).map encStr)) := by
          rw [List.length_append, List.map_append]
          exact h1
        have H2 : Hid (Below w.heap.size w w') := HKB.out.trans h2
        clear h1 h2 h3
        go_wp2
        go_roundw
        case rel => exact ⟨i + 1, g2, cp, ls ++ [kb p], by rw [List.length_append]; rfl, by go_num, by omega, by show _ = _; rw [HLe.out, List.map_append, ← hls.out]; rfl, H1, H2⟩
        case measure => simp only [intOf]; omega
    · obtain rfl : i = n := by omega
      go_wp2
      refine HK.out _ _ ?_
      clear HK
      have hgb : ∃ cur, wr.heap[g]? = some (.cells cur 9) ∧ ls.length ≤ cap ∧ cap ≤ maxLen ∧ cur.size = cap * 1 ∧ cur.toList.take ls.length = ls.map encStr ∧ w.heap.size ≤ g := by
        rcases hO.out.2 with ⟨h0, _⟩ | ⟨g', cap', cur, e, h1, h2, h3, h4, h5, h6⟩
        · cases h0
        · cases e
          exact ⟨cur, h2, h3, h4, h5, by rw [← h6, Nat.mul_one], h1⟩
      obtain ⟨cur, hg1, hg2, hg3, hg4, hg5, hg6⟩ := hgb
      have hll : ls.length = E.length := by rw [hls.out, List.length_map]; exact HLN.out
      have hst := Tryd.sort g 0 cap ls wr (holds_of_block hg1 hg5) (getElem?_lt hg1) (by omega)
      have HG1 : Hid _ := hg1
      have HG2 : Hid _ := hg2
      have HG3 : Hid _ := hg3
      have HG4 : Hid _ := hg4
      have HLL : Hid _ := hll
      clear hg1 hg2 hg3 hg4 hg5 hll
      go_wp2_with fail
      go_call hst as e w2 ⟨rfl, q, os, hw2⟩
      have HW2 : Hid _ := hw2
      clear hst hw2
      go_wp2
      go_returns
      have hml : (ls.mergeSort fun x y => decide (x ≤ y)).length = ls.length := List.length_mergeSort _
      have hk2 : (ls.mergeSort fun x y => decide (x ≤ y)) = kl E := by
        rw [← HKL.out, hls.out]; rfl
      have hos := ownsRow_sorted (base := w.heap.size) (cap := cap) (n := q) (os := os) hml hg6 HG1.out HG2.out HG3.out HG4.out
      rw [← HW2.out, hk2, HLL.out] at hos
      refine ⟨⟨g, cap, by rw [HLL.out]; rfl, hos⟩, hB.out.trans ?_⟩
      rw [HW2.out]
      have hgr := grownBy_sorted (w := wr) (g := g) (n := q) (os := os) (ls.mergeSort fun x y => decide (x ≤ y)).toArray
      exact (Below.refl w.heap.size wr).grown hgr hB.out.size (fun k hk => by cases hk; exact hg6)
end
end Go.Proofs.YtcgmngafodmfcaaDoor
