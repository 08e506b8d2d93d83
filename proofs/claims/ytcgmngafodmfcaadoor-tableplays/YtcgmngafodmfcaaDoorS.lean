/- The document's Put on its list, as a call; what is put stands in order. -/
import Derived.Test.YtcgmngafodmfcaaDoorQ
import Derived.Deep.QuietTactic
import Derived.BigQuiet
namespace Go.Proofs.YtcgmngafodmfcaaDoor
open Go.RowKit
def ltK (a b : ByteArray) : Bool := Op.bytesLess a.toList b.toList
/-- The list with one pair put into it, ahead of the first greater one. -/
def ins : List Ent → ByteArray → Int → List Ent
  | [], k, v => [(k, v)]
  | p :: r, k, v => if ltK k p.1 then (k, v) :: p :: r else p :: ins r k v
theorem ins_perm (l : List Ent) (k : ByteArray) (v : Int) : (ins l k v).Perm ((k, v) :: l) := by
  induction l with
  | nil => exact List.Perm.refl _
  | cons p r ih =>
    unfold ins
    split
    · exact List.Perm.refl _
    · exact (ih.cons p).trans (List.Perm.swap _ _ _)
/-- What the walk has at place i: done, or not yet. -/
theorem ins_skip (a b : List Ent) (k : ByteArray) (v : Int) (h : ∀ p ∈ a, ltK k p.1 = false) : ins (a ++ b) k v = a ++ ins b k v := by
  induction a with
  | nil => rfl
  | cons p r ih =>
    show (if ltK k p.1 then (k, v) :: p :: (r ++ b) else p :: ins (r ++ b) k v) = p :: (r ++ ins b k v)
    rw [h p (List.mem_cons_self ..), if_neg (by decide), ih (fun q hq => h q (List.mem_cons_of_mem _ hq))]
set_option maxHeartbeats 4000000 in
theorem rput_any (v : Value) (l : List Ent) (k : ByteArray) (x : Int) (w : World) (b : Nat) (h : PIs w b v l) (hl : l.length ≤ 4000) :
    Calls Tryd.prog 13 #[v, .string k, .int .i64 x] w fun e w' => ∃ v', e = .returned (.tuple #[v', .bool (lk l k).isSome]) ∧ PIs w' w.heap.size v' (ins (wo l k) k x) ∧ Below w.heap.size w w' := by
  have hdp := rdrop_any v l k w b h (by omega)
  have hwl : (wo l k).length ≤ 4000 := Nat.le_trans (wo_len l k) hl
  obtain ⟨r, hr⟩ : ∃ r, r = (lk l k).isSome := ⟨_, rfl⟩
  rw [← hr] at hdp ⊢
  clear hr
  generalize wo l k = m at *
  clear h
  go_enter Tryd.func13, Tryd.ntmps13
  go_wp2_with fail
  go_call hdp as e w1 ⟨v1, rfl, hm, hb1⟩
  obtain ⟨ao, cap, rfl⟩ := own_slice hm
  have HM : Hid (PIs w1 w.heap.size (.slice ao m.length cap) m) := hm
  have HB1 : Hid _ := hb1
  have HN0 : Hid (PIs (w1.alloc (.cells #[] 57)) w1.heap.size (.slice (some ⟨w1.heap.size, 0, none⟩) 0 0) []) := PIs.nil _ _ _ _ (heap_new _ _) (Nat.le_refl _) (by decide) rfl
  have HB0 : Hid (Below w1.heap.size w1 (w1.alloc (.cells #[] 57))) := (Below.refl _ _).alloc (Nat.le_refl _) _
  clear hdp hm hb1
  go_wp2
  rename_i K hK
  have HK : Hid _ := hK
  clear hK
  go_loopw [10, 11, 23] (fun y z q wr => ∃ (i : Nat) (ao' : Option Addr) (cp' : Nat) (out : List Ent) (dn : Bool), y = .slice ao' out.length cp' ∧ z = .bool dn ∧ q = .int .i64 (i : Nat) ∧ i ≤ m.length ∧ Hid (PIs wr w1.heap.size (.slice ao' out.length cp') out) ∧ Hid (dn = false → out = m.take i ∧ ∀ p ∈ out, ltK k p.1 = false) ∧ Hid (dn = true → out ++ m.drop i = ins m k x) ∧ Hid (Below w1.heap.size w1 wr) ∧ out.length ≤ i + 1) (fun _ _ q _ => m.length - (intOf q).toNat)
  case atStart => exact ⟨0, _, _, [], false, rfl, rfl, rfl, Nat.zero_le _, HN0, (fun _ => ⟨rfl, fun p hp => by cases hp⟩), (fun e => by cases e), HB0, by decide⟩
  case round =>
    obtain ⟨i, ao', cp', out, dn, rfl, rfl, rfl, hi, hO, hd0, hd1, hB, hol⟩ := hrel
    clear HN0 HB0
    rcases Nat.lt_or_ge i m.length with hil | hil
    · obtain ⟨_, g, rfl, hro, _⟩ := (HM.out.below hB.out).rng hil
      have hdr : m.take (i + 1) = m.take i ++ [m[i]] := (List.take_append_getElem hil).symm
      have hdd : m.drop i = m[i] :: m.drop (i + 1) := List.drop_eq_getElem_cons hil
      obtain ⟨p, hp⟩ : ∃ p, m[i] = p := ⟨_, rfl⟩
      rw [hp] at hdr hro hdd
      have HRO : Hid _ := hro
      have HDR : Hid _ := hdr
      have HDD : Hid _ := hdd
      clear hro hdr hp hdd
      have HBX : Hid (Below wr.heap.size wr (wr.alloc (.cells #[.string p.1, .int .i64 p.2] 57))) := (Below.refl _ _).alloc (Nat.le_refl _) _
      have HOL : Hid (out.length ≤ 8000) := by show _ ≤ _; omega
      have HBY : Hid (Below wr.heap.size wr ((wr.alloc (.cells #[.string p.1, .int .i64 p.2] 57)).alloc (.cells #[.string p.1, .int .i64 p.2] 57))) := HBX.out.alloc (by simp) _
      have HO2 : Hid _ := hO.out.below HBY.out
      have HKG : Hid (((wr.alloc (.cells #[.string p.1, .int .i64 p.2] 57)).alloc (.cells #[.string p.1, .int .i64 p.2] 57)).heap[wr.heap.size + 1]? = some (.cells #[.string p.1, .int .i64 p.2] 57)) := by
        have := heap_new (wr.alloc (.cells #[.string p.1, .int .i64 p.2] 57)) (.cells #[.string p.1, .int .i64 p.2] 57)
        show _ = _
        simpa using this
      have HKB : Hid (Below w1.heap.size w1 ((wr.alloc (.cells #[.string p.1, .int .i64 p.2] 57)).alloc (.cells #[.string p.1, .int .i64 p.2] 57))) := hB.out.trans (HBY.out.mono hB.out.size)
      cases dn with
      | true =>
        have hd4 := hd1.out rfl
        have HD4 : Hid _ := hd4
        clear hd4 hd0 hd1
        go_wp2_with (first | (refine ld57l rfl _ rfl rfl HRO.out ?k1) | (refine pappend rfl _ _ rfl w1.heap.size _ out rfl HO2.out _ rfl p HKG.out (Nat.le_trans HOL.out (by decide)) HKB.out.size ?k4))
        intro ao2 cp2 w' h1 h2 _
        have H1 : Hid (PIs w' w1.heap.size (.slice ao2 (out ++ [p]).length cp2) (out ++ [p])) := by
          show PIs _ _ _ _
          rw [List.length_append]; exact h1
        have H2 : Hid (Below w1.heap.size w1 w') := HKB.out.trans h2
        clear h1 h2
        go_wp2
        go_roundw
        case rel => exact ⟨i + 1, ao2, cp2, out ++ [p], true, by rw [List.length_append]; rfl, rfl, by go_num, by omega, H1, (fun e => by cases e), (fun _ => by rw [List.append_assoc]; show out ++ (p :: m.drop (i + 1)) = _; rw [← HDD.out]; exact HD4.out), H2, by rw [List.length_append]; show out.length + 1 ≤ _; omega⟩
        case measure => simp only [intOf]; omega
      | false =>
        obtain ⟨hd2, hd3⟩ := hd0.out rfl
        have HD2 : Hid _ := hd2
        have HD3 : Hid _ := hd3
        clear hd2 hd3 hd0 hd1
        by_cases hlt : ltK k p.1 = true
        · have hlt2 : Op.bytesLess k.toList p.1.toList = true := hlt
          have HLT : Hid _ := hlt
          clear hlt
          have HBZ : Hid (Below wr.heap.size wr ((wr.alloc (.cells #[.string p.1, .int .i64 p.2] 57)).alloc (.cells #[.string k, .int .i64 x] 57))) := HBX.out.alloc (by simp) _
          have HO3 : Hid _ := hO.out.below HBZ.out
          have HKG3 : Hid (((wr.alloc (.cells #[.string p.1, .int .i64 p.2] 57)).alloc (.cells #[.string k, .int .i64 x] 57)).heap[wr.heap.size + 1]? = some (.cells #[.string k, .int .i64 x] 57)) := by
            have := heap_new (wr.alloc (.cells #[.string p.1, .int .i64 p.2] 57)) (.cells #[.string k, .int .i64 x] 57)
            show _ = _
            simpa using this
          have HKG4 : Hid (((wr.alloc (.cells #[.string p.1, .int .i64 p.2] 57)).alloc (.cells #[.string k, .int .i64 x] 57)).heap[wr.heap.size]? = some (.cells #[.string p.1, .int .i64 p.2] 57)) := (Below.heap_alloc _ _ _ (by simp)).trans (heap_new _ _)
          have HKB3 : Hid (Below w1.heap.size w1 ((wr.alloc (.cells #[.string p.1, .int .i64 p.2] 57)).alloc (.cells #[.string k, .int .i64 x] 57))) := hB.out.trans (HBZ.out.mono hB.out.size)
          have HOW : Hid (∀ q, Value.ownBlock (.slice ao' out.length cp') = some q → q < wr.heap.size) := fun q hq => (World.ownsRow.lt hO.out q hq).2
          go_wp2_with (first | (refine ld57l rfl _ rfl rfl HRO.out ?k2) | (refine pappend rfl _ _ rfl w1.heap.size _ out rfl HO3.out _ rfl (k, x) HKG3.out (Nat.le_trans HOL.out (by decide)) HKB3.out.size ?k5))
          intro ao2 cp2 w' h1 h2 h3
          have hbox : w'.heap[wr.heap.size]? = some (.cells #[.string p.1, .int .i64 p.2] 57) := (h3 wr.heap.size (by omega) (fun e => by have := HOW.out _ e.symm; omega)).trans HKG4.out
          have q0 := cell_of hbox 0
          have q1 := cell_of hbox 1
          have q2 := frz_of hbox 0
          simp at q0 q1
          have H1 : Hid (PIs w' w1.heap.size (.slice ao2 (out ++ [(k, x)]).length cp2) (out ++ [(k, x)])) := by
            show PIs _ _ _ _
            rw [List.length_append]; exact h1
          have H2 : Hid (Below w1.heap.size w1 w') := HKB3.out.trans h2
          have hsz : wr.heap.size + 2 ≤ w'.heap.size := by have := h2.size; simpa using this
          have HBU : Hid (Below w'.heap.size w' (w'.alloc (.cells #[.string p.1, .int .i64 p.2] 57))) := (Below.refl _ _).alloc (Nat.le_refl _) _
          have HO5 : Hid _ := H1.out.below HBU.out
          have HKB5 : Hid (Below w1.heap.size w1 (w'.alloc (.cells #[.string p.1, .int .i64 p.2] 57))) := H2.out.trans (HBU.out.mono H2.out.size)
          obtain ⟨out2, hout2⟩ : ∃ o, o = out ++ [(k, x)] := ⟨_, rfl⟩
          rw [← hout2] at H1 HO5
          have HOU : Hid _ := hout2
          have hle : out.length + 1 = out2.length := by rw [hout2, List.length_append]; rfl
          rw [hle]
          have HLE : Hid _ := hle
          clear h1 h2 h3 hbox hsz hout2 hle
          have HL2 : Hid (out2.length ≤ 8192) := by have h9 := HOL.out; have h8 := HLE.out; show _ ≤ _; omega
          go_wp2_with (refine pappend rfl _ _ rfl w1.heap.size _ out2 rfl HO5.out _ rfl p (heap_new _ _) HL2.out HKB5.out.size ?k6)
          intro ao3 cp3 w5 h1 h2 _
          have H3 : Hid (PIs w5 w1.heap.size (.slice ao3 (out2 ++ [p]).length cp3) (out2 ++ [p])) := by
            show PIs _ _ _ _
            rw [List.length_append]; exact h1
          have H4 : Hid (Below w1.heap.size w1 w5) := HKB5.out.trans h2
          clear h1 h2
          go_wp2
          go_roundw
          case rel =>
            refine ⟨i + 1, ao3, cp3, out2 ++ [p], true, by rw [List.length_append]; rfl, rfl, by go_num, by omega, H3, (fun e => by cases e), (fun _ => ?_), H4, ?_⟩
            · have h8 : ins m k x = m.take i ++ ins (m.drop i) k x := by
                conv => lhs; rw [← List.take_append_drop i m]
                exact ins_skip _ _ _ _ (by rw [← HD2.out]; exact HD3.out)
              rw [h8, HDD.out, HOU.out, HD2.out]
              show _ = m.take i ++ (if ltK k p.1 then (k, x) :: p :: m.drop (i + 1) else _)
              rw [HLT.out, if_pos rfl]
              simp
            · have h9 := HLE.out
              have h8 : out.length ≤ i := by rw [HD2.out, List.length_take]; omega
              rw [List.length_append]
              show out2.length + 1 ≤ _
              omega
          case measure => simp only [intOf]; omega
        · have hlf : ltK k p.1 = false := by simpa using hlt
          have hlt2 : Op.bytesLess k.toList p.1.toList = false := hlf
          have HLT : Hid _ := hlf
          clear hlt hlf
          go_wp2_with (first | (refine ld57l rfl _ rfl rfl HRO.out ?k3) | (refine pappend rfl _ _ rfl w1.heap.size _ out rfl HO2.out _ rfl p HKG.out (Nat.le_trans HOL.out (by decide)) HKB.out.size ?k7))
          intro ao2 cp2 w' h1 h2 _
          have H1 : Hid (PIs w' w1.heap.size (.slice ao2 (out ++ [p]).length cp2) (out ++ [p])) := by
            show PIs _ _ _ _
            rw [List.length_append]; exact h1
          have H2 : Hid (Below w1.heap.size w1 w') := HKB.out.trans h2
          clear h1 h2
          go_wp2
          go_roundw
          case rel =>
            refine ⟨i + 1, ao2, cp2, out ++ [p], false, by rw [List.length_append]; rfl, rfl, by go_num, by omega, H1, (fun _ => ⟨by rw [HDR.out, ← HD2.out], fun q hq => ?_⟩), (fun e => by cases e), H2, by rw [List.length_append]; show out.length + 1 ≤ _; omega⟩
            rcases List.mem_append.1 hq with h | h
            · exact HD3.out q h
            · rw [List.mem_singleton.1 h]; exact HLT.out
          case measure => simp only [intOf]; omega
    · obtain rfl : i = m.length := by omega
      have HWB : Hid (Below w.heap.size w wr) := HB1.out.trans (hB.out.mono HB1.out.size)
      cases dn with
      | true =>
        have hoe : out = ins m k x := by
          have := hd1.out rfl
          rwa [List.drop_length, List.append_nil] at this
        have HOE : Hid _ := hoe
        clear hoe
        go_wp2
        refine HK.out _ _ ?_
        clear HK
        go_wp2
        go_returns
        exact ⟨_, rfl, by rw [← HOE.out]; exact hO.out.least HB1.out.size, HWB.out⟩
      | false =>
        obtain ⟨hd2, hd3⟩ := hd0.out rfl
        rw [List.take_length] at hd2
        have hoe : out ++ [(k, x)] = ins m k x := by
          have := ins_skip m [] k x (by rw [← hd2]; exact hd3)
          rw [List.append_nil] at this
          rw [this, hd2]; rfl
        have HOE : Hid _ := hoe
        have HL2 : Hid (out.length ≤ 8192) := by show _ ≤ _; rw [hd2]; omega
        clear hoe hd2 hd3
        have HBU : Hid (Below wr.heap.size wr (wr.alloc (.cells #[.string k, .int .i64 x] 57))) := (Below.refl _ _).alloc (Nat.le_refl _) _
        have HO5 : Hid _ := hO.out.below HBU.out
        have HKB5 : Hid (Below w1.heap.size w1 (wr.alloc (.cells #[.string k, .int .i64 x] 57))) := hB.out.trans (HBU.out.mono hB.out.size)
        go_wp2
        refine HK.out _ _ ?_
        clear HK
        go_wp2_with (refine pappend rfl _ _ rfl w1.heap.size _ out rfl HO5.out _ rfl (k, x) (heap_new _ _) HL2.out HKB5.out.size ?k8)
        intro ao3 cp3 w5 h1 h2 _
        have H3 : Hid (PIs w5 w1.heap.size (.slice ao3 (out ++ [(k, x)]).length cp3) (out ++ [(k, x)])) := by
          show PIs _ _ _ _
          rw [List.length_append]; exact h1
        have H4 : Hid (Below w.heap.size w w5) := HB1.out.trans ((HKB5.out.trans h2).mono HB1.out.size)
        have hle : out.length + 1 = (out ++ [(k, x)]).length := by rw [List.length_append]; rfl
        rw [hle]
        clear h1 h2 hle
        rw [HOE.out] at H3 ⊢
        go_wp2
        go_returns
        exact ⟨_, rfl, H3.out.least HB1.out.size, H4.out⟩
end Go.Proofs.YtcgmngafodmfcaaDoor
