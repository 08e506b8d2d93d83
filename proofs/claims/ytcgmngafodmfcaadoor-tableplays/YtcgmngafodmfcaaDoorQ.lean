/- The document's list of what is known, in memory; its Get and Drop, as calls. -/
import Derived.Test.YtcgmngafodmfcaaDoorN
namespace Go.Proofs.YtcgmngafodmfcaaDoor
open Go.RowKit
def pc (p : Ent) : List Value := [.string p.1, .int .i64 p.2]
def pcs : List Ent → List Value
  | [] => []
  | p :: r => pc p ++ pcs r
theorem pcs_append (a b : List Ent) : pcs (a ++ b) = pcs a ++ pcs b := by
  induction a with
  | nil => rfl
  | cons p r ih => show pc p ++ pcs (r ++ b) = _; rw [ih]; exact (List.append_assoc _ _ _).symm
theorem pcs_len (a : List Ent) : (pcs a).length = a.length * 2 := by
  induction a with
  | nil => rfl
  | cons p r ih => show (pc p ++ pcs r).length = _; rw [List.length_append, ih, List.length_cons]; show 2 + _ = _; omega
theorem pcs_at (l : List Ent) : ∀ (i : Nat) (h : i < l.length) (k : Nat) (v : Value), (pc l[i])[k]? = some v → (pcs l)[i * 2 + k]? = some v := by
  induction l with
  | nil => intro i h; cases h
  | cons p r ih =>
    intro i h k v hk
    have hk2 : k < 2 := (List.getElem?_eq_some_iff.1 hk).1
    show (pc p ++ pcs r)[i * 2 + k]? = _
    cases i with
    | zero =>
      rw [List.getElem?_append_left (by show 0 * 2 + k < 2; omega), Nat.zero_mul, Nat.zero_add]
      exact hk
    | succ i =>
      rw [List.getElem?_append_right (by show 2 ≤ _; omega)]
      have := ih i (by simpa using h) k v hk
      rw [show (i + 1) * 2 + k - (pc p).length = i * 2 + k by show (i + 1) * 2 + k - 2 = _; omega]
      exact this
/-- A list in memory. -/
def PIs (w : World) (b : Nat) (v : Value) (l : List Ent) : Prop := w.ownsRow b 57 2 v l.length (pcs l)
theorem PIs.below {w W : World} {b : Nat} {v : Value} {l : List Ent} (h : PIs w b v l) (hb : Below w.heap.size w W) : PIs W b v l := own_below h hb
theorem PIs.least {w : World} {b b' : Nat} {v : Value} {l : List Ent} (h : PIs w b v l) (hb : b' ≤ b) : PIs w b' v l := by
  refine ⟨h.1, ?_⟩
  rcases h.2 with h0 | ⟨g, cap, cur, e, hb1, hr⟩
  · exact Or.inl h0
  · exact Or.inr ⟨g, cap, cur, e, Nat.le_trans hb hb1, hr⟩
theorem PIs.rng {w : World} {b : Nat} {ao : Option Addr} {n cap : Nat} {l : List Ent} (h : PIs w b (.slice ao n cap) l) {i : Nat} (hi : i < l.length) : n = l.length ∧ ∃ g, ao = some ⟨g, 0, none⟩ ∧ w.rangeAt g (i * 2) (pc l[i]) ∧ g < w.heap.size := by
  rcases h.2 with ⟨_, h0⟩ | ⟨g, cap', cur, e, h1, h2, h3, h4, h5, h6⟩
  · omega
  · injection e with e1 e2 e3
    subst e1 e2 e3
    refine ⟨rfl, g, rfl, fun k v hk => ?_, getElem?_lt h2⟩
    rw [cell_of h2]
    have hk2 : k < 2 := (List.getElem?_eq_some_iff.1 hk).1
    have h7 := pcs_at l i hi k v hk
    rw [← h6, List.getElem?_take_of_lt (by omega), Array.getElem?_toList] at h7
    exact h7
theorem info57 : (Tryd.prog.info? 57).map (fun i => (i.zero, i.size, i.bytes)) = some (some (.agg #[.string ⟨#[]⟩, .int .i64 0]), 2, 24) := by kernel_rfl
theorem size57 : (Tryd.prog.info? 57).map (·.size) = some 2 := by kernel_rfl
section
variable {ops : Array Oper} {rest : List Oper} {op : Oper} {act : Act} {W : World} {Q : Exit → Act → World → Prop} {K : Act → World → Prop}
theorem ld57 (x : Operand) (ho : op.op = .load 57 x) {pb i : Nat} {p : Ent} (hx : act.eval x = .pointer (some ⟨pb, i, none⟩)) (h : W.rangeAt pb i (pc p)) (k : K (act.put op.dst (.agg #[.string p.1, .int .i64 p.2])) W) : op.wp Tryd.prog act W K Q :=
  wp_load_mid 57 x ho pb i hx (pc p) _ h Tryd.underlying57 rfl (by rw [size57]; rfl) k
theorem ld57l (hgd : op.guard = none) (x : Operand) (ho : op.op = .load 57 x) {pb i : Nat} {p : Ent} (hx : act.eval x = .pointer (some ⟨pb, i, none⟩)) (h : W.rangeAt pb i (pc p)) (k : wpList Tryd.prog ops Q rest (act.put op.dst (.agg #[.string p.1, .int .i64 p.2])) W) : wpList Tryd.prog ops Q (op :: rest) act W :=
  wpList_plain hgd fun _ hK => ld57 x ho hx h (hK _ _ k)
/-- One pair is appended. -/
theorem pappend (hgd : op.guard = none) (s x : Operand) (ho : op.op = .call { callee := .builtin .append, args := #[s, x], argTypes := #[27, 27] })
    (base : Nat) (v : Value) (l : List Ent) (hs : act.eval s = v) (hown : PIs W base v l) (G : Nat) (hx : act.eval x = .slice (some ⟨G, 0, none⟩) 1 1) (p : Ent) (hG : W.heap[G]? = some (.cells #[.string p.1, .int .i64 p.2] 57)) (hl : l.length ≤ 8192) (hb : base ≤ W.heap.size)
    (k : ∀ (ao : Option Addr) (cp : Nat) (w' : World), PIs w' base (.slice ao (l.length + 1) cp) (l ++ [p]) → Below base W w' → (∀ g, g < W.heap.size → some g ≠ v.ownBlock → w'.heap[g]? = W.heap[g]?) → wpList Tryd.prog ops Q rest (act.put op.dst (.slice ao (l.length + 1) cp)) w') : wpList Tryd.prog ops Q (op :: rest) act W := by
  obtain ⟨i0, hi0, hz0, hs0, hby0⟩ := info_parts info57
  refine wpList_append_own W hgd s x 27 ho base 57 i0 _ 2 24 Tryd.underlying27 hi0 hz0 hs0 hby0 (by rfl) (by decide) v l.length (pcs l) hs hown ⟨G, 0, none⟩ 1 1 (pc p) hx rfl ?_ ?_ (by unfold maxLen; omega) (by omega) hb ?_
  · intro j u hj
    rw [Addr.add_lit, Nat.zero_add, cell_of hG]
    simpa [pc] using hj
  · intro u hu
    simp [pc] at hu
    rcases hu with rfl | rfl <;> rfl
  · intro v' w' h1 h2 h3
    have hx : PIs w' base v' (l ++ [p]) := by
      unfold PIs
      rw [List.length_append, pcs_append]
      have : pcs [p] = pc p := List.append_nil _
      rw [this]
      exact h1
    obtain ⟨ao, cp, rfl⟩ := own_slice hx
    rw [List.length_append] at hx ⊢
    exact k ao cp w' hx ((Below.refl _ W).grown h2 hb (fun q hq => (World.ownsRow.lt hown q hq).1)) (fun g hg hn => h2.block g hg hn)
end
set_option maxHeartbeats 2000000 in
theorem rget_any (v : Value) (l : List Ent) (k : ByteArray) (w : World) (b : Nat) (h : PIs w b v l) (hl : l.length ≤ 4096) :
    Calls Tryd.prog 10 #[v, .string k] w fun e w' => e = .returned (.tuple #[.int .i64 ((lk l k).getD 0), .bool (lk l k).isSome]) ∧ Below w.heap.size w w' := by
  obtain ⟨ao, cap, rfl⟩ := own_slice h
  have HP : Hid (PIs w b (.slice ao l.length cap) l) := h
  obtain ⟨r, hr⟩ : ∃ r, r = lk l k := ⟨_, rfl⟩
  rw [← hr]
  have HR : Hid _ := hr
  clear h hr
  go_enter Tryd.func10, Tryd.ntmps10
  go_wp2
  go_loopw [10] (fun x wr => ∃ i : Nat, x = .int .i64 (i : Nat) ∧ i ≤ l.length ∧ Hid (lk (l.drop i) k = r) ∧ Hid (Below w.heap.size w wr)) (fun x _ => l.length - (intOf x).toNat)
  case atStart => exact ⟨0, rfl, Nat.zero_le _, HR.out.symm, Below.refl _ _⟩
  case round =>
    obtain ⟨i, rfl, hi, hk, hB⟩ := hrel
    rcases Nat.lt_or_ge i l.length with hil | hil
    · obtain ⟨_, g, rfl, hro, _⟩ := (HP.out.below hB.out).rng hil
      have hdr : l.drop i = l[i] :: l.drop (i + 1) := List.drop_eq_getElem_cons hil
      obtain ⟨p, hp⟩ : ∃ p, l[i] = p := ⟨_, rfl⟩
      rw [hp] at hdr hro
      have HRO : Hid _ := hro
      have HDR : Hid _ := hdr
      clear hro hdr hp
      have HBX : Hid (Below wr.heap.size wr (wr.alloc (.cells #[.string p.1, .int .i64 p.2] 57))) := (Below.refl _ _).alloc (Nat.le_refl _) _
      by_cases hpk : p.1 = k
      · have hpk2 : (p.1.toList == k.toList) = true := by rw [beq_toList]; exact decide_eq_true hpk
        have hrr : r = some p.2 := by
          rw [← hk.out, HDR.out]; unfold lk; rw [if_pos hpk]
        subst hrr
        clear hpk
        go_wp2_with (refine ld57l rfl _ rfl rfl HRO.out ?k1)
        go_returns
        exact ⟨rfl, hB.out.trans (HBX.out.mono hB.out.size)⟩
      · have hpk2 : (p.1.toList == k.toList) = false := by rw [beq_toList]; exact decide_eq_false hpk
        have HK2 : Hid (lk (l.drop (i + 1)) k = r) := by
          show _ = _
          rw [← hk.out, HDR.out]
          conv => rhs; unfold lk
          rw [if_neg hpk]
        clear hk HDR hpk
        go_wp2_with (refine ld57l rfl _ rfl rfl HRO.out ?k2)
        go_roundw
        case rel => exact ⟨i + 1, by go_num, by omega, HK2, hB.out.trans (HBX.out.mono hB.out.size)⟩
        case measure => simp only [intOf]; omega
    · have hrr : r = none := by
        rw [← hk.out, List.drop_eq_nil_of_le (by omega)]; rfl
      subst hrr
      obtain rfl : i = l.length := by omega
      go_wp2
      go_returns
      exact ⟨rfl, hB.out⟩
theorem PIs.nil (w : World) (b g c : Nat) {cur : Array Value} (hg : w.heap[g]? = some (.cells cur 57)) (hb : b ≤ g) (hc : c ≤ maxLen) (hs : cur.size = c * 2) : PIs w b (.slice (some ⟨g, 0, none⟩) 0 c) [] :=
  ⟨rfl, Or.inr ⟨g, c, cur, rfl, hb, hg, Nat.zero_le _, hc, hs, by simp [pcs]⟩⟩
theorem lk_snoc (a : List Ent) (p : Ent) (k : ByteArray) : (lk (a ++ [p]) k).isSome = ((lk a k).isSome || decide (p.1 = k)) := by
  induction a with
  | nil =>
    show (lk [p] k).isSome = _
    unfold lk
    split
    · rename_i h; simp [h]
    · rename_i h; simp [lk, h]
  | cons q r ih =>
    show (lk (q :: (r ++ [p])) k).isSome = _
    unfold lk
    split
    · rfl
    · exact ih
theorem wo_snoc (a : List Ent) (p : Ent) (k : ByteArray) : wo (a ++ [p]) k = wo a k ++ (if p.1 = k then [] else [p]) := by
  unfold wo
  rw [List.filter_append]
  congr 1
  split
  · rename_i h; rw [List.filter_cons_of_neg (by simp [h])]; rfl
  · rename_i h; rw [List.filter_cons_of_pos (by simp [h])]; rfl
theorem wo_len (a : List Ent) (k : ByteArray) : (wo a k).length ≤ a.length := List.length_filter_le _ _
set_option maxHeartbeats 2000000 in
theorem rdrop_any (v : Value) (l : List Ent) (k : ByteArray) (w : World) (b : Nat) (h : PIs w b v l) (hl : l.length ≤ 4096) :
    Calls Tryd.prog 11 #[v, .string k] w fun e w' => ∃ v', e = .returned (.tuple #[v', .bool (lk l k).isSome]) ∧ PIs w' w.heap.size v' (wo l k) ∧ Below w.heap.size w w' := by
  obtain ⟨ao, cap, rfl⟩ := own_slice h
  have HP : Hid (PIs w b (.slice ao l.length cap) l) := h
  obtain ⟨r, hr⟩ : ∃ r, r = (lk l k).isSome := ⟨_, rfl⟩
  rw [← hr]
  have HR : Hid _ := hr
  have HB0 : Hid (∀ o, Below w.heap.size w (w.alloc o)) := fun o => (Below.refl _ _).alloc (Nat.le_refl _) _
  have HN0 : Hid (PIs (w.alloc (.cells #[] 57)) w.heap.size (.slice (some ⟨w.heap.size, 0, none⟩) 0 0) []) := PIs.nil _ _ _ _ (heap_new _ _) (Nat.le_refl _) (by decide) rfl
  clear h hr
  go_enter Tryd.func11, Tryd.ntmps11
  go_wp2
  go_loopw [6, 7, 13] (fun x y z wr => ∃ (i : Nat) (ao' : Option Addr) (cp' : Nat) (out : List Ent) (is : Bool), x = .slice ao' out.length cp' ∧ y = .bool is ∧ z = .int .i64 (i : Nat) ∧ i ≤ l.length ∧ Hid (PIs wr w.heap.size (.slice ao' out.length cp') out) ∧ Hid (out = wo (l.take i) k) ∧ Hid (is = (lk (l.take i) k).isSome) ∧ Hid (Below w.heap.size w wr)) (fun _ _ z _ => l.length - (intOf z).toNat)
  case atStart => exact ⟨0, _, _, [], false, rfl, rfl, rfl, Nat.zero_le _, HN0, rfl, rfl, HB0.out _⟩
  case round =>
    obtain ⟨i, ao', cp', out, is, rfl, rfl, rfl, hi, hO, hout, his, hB⟩ := hrel
    clear HN0 HB0
    rcases Nat.lt_or_ge i l.length with hil | hil
    · obtain ⟨_, g, rfl, hro, _⟩ := (HP.out.below hB.out).rng hil
      have hdr : l.take (i + 1) = l.take i ++ [l[i]] := (List.take_append_getElem hil).symm
      obtain ⟨p, hp⟩ : ∃ p, l[i] = p := ⟨_, rfl⟩
      rw [hp] at hdr hro
      have HRO : Hid _ := hro
      have HDR : Hid _ := hdr
      clear hro hdr hp
      have HBX : Hid (Below wr.heap.size wr (wr.alloc (.cells #[.string p.1, .int .i64 p.2] 57))) := (Below.refl _ _).alloc (Nat.le_refl _) _
      by_cases hpk : p.1 = k
      · have hpk2 : (p.1.toList == k.toList) = true := by rw [beq_toList]; exact decide_eq_true hpk
        have HPK : Hid _ := hpk
        clear hpk
        go_wp2_with (refine ld57l rfl _ rfl rfl HRO.out ?k1)
        go_roundw
        case rel => exact ⟨i + 1, ao', cp', out, true, rfl, rfl, by go_num, by omega, hO.out.below HBX.out, by show _ = _; rw [HDR.out, wo_snoc, if_pos HPK.out, List.append_nil]; exact hout.out, by show _ = _; rw [HDR.out, lk_snoc, decide_eq_true HPK.out, Bool.or_true], hB.out.trans (HBX.out.mono hB.out.size)⟩
        case measure => simp only [intOf]; omega
      · have hpk2 : (p.1.toList == k.toList) = false := by rw [beq_toList]; exact decide_eq_false hpk
        have HPK : Hid _ := hpk
        clear hpk
        have HBY : Hid (Below wr.heap.size wr ((wr.alloc (.cells #[.string p.1, .int .i64 p.2] 57)).alloc (.cells #[.string p.1, .int .i64 p.2] 57))) := HBX.out.alloc (by simp) _
        have HO2 : Hid _ := hO.out.below HBY.out
        have HKG : Hid (((wr.alloc (.cells #[.string p.1, .int .i64 p.2] 57)).alloc (.cells #[.string p.1, .int .i64 p.2] 57)).heap[wr.heap.size + 1]? = some (.cells #[.string p.1, .int .i64 p.2] 57)) := by
          have := heap_new (wr.alloc (.cells #[.string p.1, .int .i64 p.2] 57)) (.cells #[.string p.1, .int .i64 p.2] 57)
          show _ = _
          simpa using this
        have HOL : Hid (out.length ≤ 8192) := by
          show _ ≤ _
          rw [hout.out]
          have h1 := wo_len (l.take i) k
          rw [List.length_take] at h1
          omega
        have HKB : Hid (Below w.heap.size w ((wr.alloc (.cells #[.string p.1, .int .i64 p.2] 57)).alloc (.cells #[.string p.1, .int .i64 p.2] 57))) := hB.out.trans (HBY.out.mono hB.out.size)
        go_wp2_with (first | (refine ld57l rfl _ rfl rfl HRO.out ?k2) | (refine pappend rfl _ _ rfl w.heap.size _ out rfl HO2.out _ rfl p HKG.out HOL.out HKB.out.size ?k3))
        intro ao2 cp2 w' h1 h2 _
        have H1 : Hid (PIs w' w.heap.size (.slice ao2 (out ++ [p]).length cp2) (out ++ [p])) := by
          show PIs _ _ _ _
          rw [List.length_append]; exact h1
        have H2 : Hid (Below w.heap.size w w') := HKB.out.trans h2
        clear h1 h2
        go_wp2
        go_roundw
        case rel => exact ⟨i + 1, ao2, cp2, out ++ [p], is, by rw [List.length_append]; rfl, rfl, by go_num, by omega, H1, by show _ = _; rw [HDR.out, wo_snoc, if_neg HPK.out, ← hout.out], by show _ = _; rw [HDR.out, lk_snoc, decide_eq_false HPK.out, Bool.or_false]; exact his.out, H2⟩
        case measure => simp only [intOf]; omega
    · obtain rfl : i = l.length := by omega
      have hee : is = r := by rw [his.out, List.take_length, HR.out]
      have hoe : out = wo l k := by rw [hout.out, List.take_length]
      have HEE : Hid _ := hee
      have HOE : Hid _ := hoe
      clear hee hoe
      go_wp2
      go_returns
      exact ⟨_, by rw [← HEE.out]; rfl, by rw [← HOE.out]; exact hO.out, hB.out⟩
end Go.Proofs.YtcgmngafodmfcaaDoor
