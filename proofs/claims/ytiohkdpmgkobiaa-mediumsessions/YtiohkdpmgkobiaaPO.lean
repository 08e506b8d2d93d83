/- Write, Flush, Crash and Detach of a pool of one device, in the words of what its sectors are. -/
import Derived.Test.YtiohkdpmgkobiaaPN
import Derived.Test.YtiohkdpmgkobiaaX1
import Derived.Test.YtiohkdpmgkobiaaAE
namespace Go.Proofs.Ytiohkdpmgkobiaa
open Go.RowKit
def secA (X : Array Value) (i : Nat) : List Value := (X.toList.drop (i * 64)).take 64
theorem secA_same (X : Array Value) (a : Nat) (c : List Value) (hc : c.length = 64) (h : a * 64 + 64 ≤ X.size) : secA (setL X a c) a = c := by
  show ((X.toList.take (a * 64) ++ c ++ X.toList.drop (a * 64 + c.length)).drop (a * 64)).take 64 = c
  have hl : X.toList.length = X.size := by simp
  rw [List.append_assoc, List.drop_left' (by rw [List.length_take, hl]; omega), List.take_left' hc]
theorem secA_other (X : Array Value) (a j : Nat) (c : List Value) (hc : c.length = 64) (h : a * 64 + 64 ≤ X.size) (hij : ¬ j = a) : secA (setL X a c) j = secA X j := by
  show ((X.toList.take (a * 64) ++ c ++ X.toList.drop (a * 64 + c.length)).drop (j * 64)).take 64 = (X.toList.drop (j * 64)).take 64
  have hl : X.toList.length = X.size := by simp
  generalize X.toList = l at *
  apply List.ext_getElem?
  intro m
  by_cases hm64 : m < 64
  · rw [List.getElem?_take_of_lt hm64, List.getElem?_take_of_lt hm64, List.getElem?_drop, List.getElem?_drop]
    rcases Nat.lt_or_gt_of_ne hij with hlt | hgt
    · have : (j + 1) * 64 ≤ a * 64 := Nat.mul_le_mul_right _ hlt
      rw [List.append_assoc, List.getElem?_append_left (by rw [List.length_take, hl]; omega), List.getElem?_take_of_lt (by omega)]
    · have : (a + 1) * 64 ≤ j * 64 := Nat.mul_le_mul_right _ hgt
      rw [List.getElem?_append_right (by rw [List.length_append, List.length_take, hl, hc]; omega), List.getElem?_drop]
      congr 1
      rw [List.length_append, List.length_take, hl, hc]; omega
  · rw [List.getElem?_take_eq_none (by omega), List.getElem?_take_eq_none (by omega)]
theorem secsK_dv {st : St} {ats : Nat → Nat} {now sure : Nat → ByteArray} (h : Dv st ats now sure) (N : Nat) (ch : Nat → Int) : ∀ K, K ≤ st.ln →
    (∀ u ∈ (secsK st ats N ch K).toList, ∃ b : UInt8, u = .int .u8 (b.toNat : Nat)) ∧
    ∀ i, i < st.n → secA (secsK st ats N ch K) i = secl st i ∨ ∃ k, k < K ∧ ats k = i ∧ secA (secsK st ats N ch K) i = lwas st k
  | 0, _ => ⟨h.ok.bytes, fun i _ => Or.inl rfl⟩
  | K + 1, hK => by
    obtain ⟨ih1, ih2⟩ := secsK_dv h N ch K (by omega)
    have hsz := secsK_size h.lis h.ok.size N ch K (by omega)
    have hw := lwas_length h.lis K (by omega)
    have hlt := h.lis.lt K (by omega)
    have hm : (ats K + 1) * 64 ≤ st.n * 64 := Nat.mul_le_mul_right _ hlt
    show (∀ u ∈ (if stays N ch K then secsK st ats N ch K else setL (secsK st ats N ch K) (ats K) (lwas st K)).toList, _) ∧ ∀ i, i < st.n → secA (if stays N ch K then secsK st ats N ch K else setL (secsK st ats N ch K) (ats K) (lwas st K)) i = _ ∨ ∃ k, k < K + 1 ∧ ats k = i ∧ secA (if stays N ch K then secsK st ats N ch K else setL (secsK st ats N ch K) (ats K) (lwas st K)) i = _
    split
    · refine ⟨ih1, fun i hi => ?_⟩
      rcases ih2 i hi with e | ⟨k, a, b, c⟩
      · exact Or.inl e
      · exact Or.inr ⟨k, by omega, b, c⟩
    · refine ⟨fun u hu => ?_, fun i hi => ?_⟩
      · have hu' : u ∈ (secsK st ats N ch K).toList.take (ats K * 64) ++ lwas st K ++ (secsK st ats N ch K).toList.drop (ats K * 64 + (lwas st K).length) := hu
        rcases List.mem_append.1 hu' with h1 | h1
        · rcases List.mem_append.1 h1 with h2 | h2
          · exact ih1 u (List.mem_of_mem_take h2)
          · rw [h.was K (by omega)] at h2
            unfold Lib.byteCells at h2
            obtain ⟨b, _, rfl⟩ := List.mem_map.1 h2
            exact ⟨b, rfl⟩
        · exact ih1 u (List.mem_of_mem_drop h1)
      · by_cases e : i = ats K
        · right
          refine ⟨K, by omega, e.symm, ?_⟩
          rw [e]; exact secA_same _ _ _ hw (by omega)
        · rw [secA_other _ _ _ _ hw (by omega) e]
          rcases ih2 i hi with e | ⟨k, a, b, c⟩
          · exact Or.inl e
          · exact Or.inr ⟨k, by omega, b, c⟩
theorem bytes_back (l : List UInt8) : (Lib.byteCells l).map byteOf = l := by
  unfold Lib.byteCells
  rw [List.map_map]
  conv => rhs; rw [← List.map_id l]
  apply List.map_congr_left
  intro b _
  exact byteOf_byte b
/-- Behind choices each sector is what it is now, or what was sure. -/
theorem Dv.settled {st : St} {ats : Nat → Nat} {now sure : Nat → ByteArray} (h : Dv st ats now sure) (N : Nat) (ch : Nat → Int) (st2 : St) (e1 : st2.secs = secsK st ats N ch st.ln) (e2 : st2.ln = 0) (e3 : st2.loose = []) (e4 : st2.n = st.n) :
    ∃ now', (∀ i, i < st.n → now' i = now i ∨ now' i = sure i) ∧ Dv st2 ats now' now' := by
  obtain ⟨k1, k2⟩ := secsK_dv h N ch st.ln (Nat.le_refl _)
  have hok : SecOk st2 := ⟨by rw [e1, e4]; exact secsK_size h.lis h.ok.size N ch st.ln (Nat.le_refl _), by rw [e1]; exact k1⟩
  have hrd : ∀ i, i < st.n → rd st2 i = now i ∨ rd st2 i = sure i := by
    intro i hi
    have hse : secl st2 i = secA (secsK st ats N ch st.ln) i := by show secA st2.secs i = _; rw [e1]
    rcases k2 i hi with e | ⟨k, a, b, c⟩
    · left
      rw [← h.nw i hi]
      unfold rd rdB
      rw [hse, e]
    · right
      unfold rd rdB
      rw [hse, c, h.was k a, b, bytes_back]
  refine ⟨fun i => rd st2 i, hrd, hok, ⟨by rw [e2, e3]; rfl, by omega, fun k hk => by omega, fun k hk => by omega, fun u hu => by rw [e3] at hu; cases hu⟩, fun j k _ hk => by omega, fun i _ => rfl, fun k hk => by omega, fun i _ _ => rfl, fun i hi => ?_⟩
  show (rdB st2 i).toArray.size = 64
  rw [List.size_toArray]
  unfold rdB
  rw [List.length_map, sec_length hok hi]
theorem Dv.same {st st2 : St} {ats : Nat → Nat} {now sure : Nat → ByteArray} (h : Dv st ats now sure) (e1 : st2.secs = st.secs) (e2 : st2.ln = st.ln) (e3 : st2.loose = st.loose) (e4 : st2.n = st.n) : Dv st2 ats now sure := by
  cases st; cases st2
  simp only at e1 e2 e3 e4
  subst e1 e2 e3 e4
  exact ⟨⟨h.ok.size, h.ok.bytes⟩, ⟨h.lis.len, h.lis.few, h.lis.at0, h.lis.lt, h.lis.one⟩, h.rise, h.nw, h.was, h.sr, h.sz⟩
theorem Dv.flushed {st st2 : St} {ats : Nat → Nat} {now sure : Nat → ByteArray} (h : Dv st ats now sure) (e1 : st2.secs = st.secs) (e2 : st2.ln = 0) (e3 : st2.loose = []) (e4 : st2.n = st.n) : Dv st2 ats now now := by
  have hok : SecOk st2 := ⟨by rw [e1, e4]; exact h.ok.size, by rw [e1]; exact h.ok.bytes⟩
  have hrd : ∀ i, rd st2 i = rd st i := fun i => by unfold rd rdB secl; rw [e1]
  refine ⟨hok, ⟨by rw [e2, e3]; rfl, by omega, fun k hk => by omega, fun k hk => by omega, fun u hu => by rw [e3] at hu; cases hu⟩, fun j k _ hk => by omega, fun i hi => ?_, fun k hk => by omega, fun i _ _ => rfl, fun i hi => ?_⟩
  · rw [hrd]; exact h.nw i (by omega)
  · rw [← h.nw i (by omega), ← hrd]
    show (rdB st2 i).toArray.size = 64
    rw [List.size_toArray]
    unfold rdB
    rw [List.length_map, sec_length hok hi]
/-- All of a device that a write leaves as it is. -/
structure Kept (st st2 : St) : Prop where
  serial : st2.serial = st.serial
  session : st2.session = st.session
  there : st2.there = st.there
  n : st2.n = st.n
  aw : st2.aw = st.aw
  al : st2.al = st.al
  ad : st2.ad = st.ad
  hw : st2.hw = st.hw
  hl : st2.hl = st.hl
  down : st2.down = st.down
section
variable {b0 : Nat} {w0 : World} {L : Loc} {st : St} {lv : Value} {oth : List (Nat × Obj)} {w : World}
theorem One.do69_of (h : One b0 w0 L st lv oth w) (I T : Nat) (i : Nat) (s : ByteArray) (st' : St) (hI : (I, .cells #[.int .i64 (i : Nat)] 3) ∈ oth) (hT : (T, .cells #[.string s] 9) ∈ oth)
    (hd : Calls Try.prog 70 #[.pointer (some ⟨L.D, 0, none⟩), .int .i64 (i : Nat), .string s] w fun e w' => e = .returned (.tuple #[]) ∧ ∃ v', One b0 w0 L st' v' oth w') :
    Calls Try.prog 69 #[.pointer (some ⟨L.D, 0, none⟩), .pointer (some ⟨I, 0, none⟩), .pointer (some ⟨T, 0, none⟩)] w fun e w' => e = .returned (.tuple #[]) ∧ ∃ lv', One b0 w0 L st' lv' oth w' := by
  have c1 : w.cell? ⟨I, 0, none⟩ = some (.int .i64 (i : Nat)) := cell_of (h.oth _ hI).1 0
  have c2 : w.cell? ⟨T, 0, none⟩ = some (.string s) := cell_of (h.oth _ hT).1 0
  clear h
  go_enter Try.func69, Try.ntmps69
  go_wp2_with fail
  go_call hd as e w1 ⟨rfl, v', h1⟩
  have H1 : Hid _ := h1
  clear h1 hd
  go_wp2
  go_returns
  exact ⟨rfl, v', H1.out⟩
theorem One.pwrite_of (h : One b0 w0 L st lv oth w) (i : Nat) (s : ByteArray) (hs : s.size = 64) (hdn : st.down = false) (ht : st.there = true) (haw : st.aw = false) (hhw : st.hw = false) (hi : i < st.n) (st' : St) (hc : st'.hw = false ∧ 0 ≤ st'.count ∧ st'.count ≤ 1000000)
    (hd : ∀ W lv2 oth2, One b0 w0 L st lv2 oth2 W → Calls Try.prog 70 #[.pointer (some ⟨L.D, 0, none⟩), .int .i64 (i : Nat), .string s] W fun e w' => e = .returned (.tuple #[]) ∧ ∃ v', One b0 w0 L st' v' oth2 w') :
    Calls Try.prog 17 #[.pointer (some ⟨L.P, 0, none⟩), hnd st.serial st.session, .int .i64 (i : Nat), .string s] w fun e w' => e = .returned (.int .i64 0) ∧ ∃ lv', One b0 w0 L { st' with count := st'.count + 1 } lv' oth w' := by
  have hmf : ∀ (fn : Fn) (first cap : Array Value) (w : World), (Instr.makeFunc fn first cap).run Try.prog w = .ok (.func fn first cap) w := fun _ _ _ _ => rfl
  have hb := h.wboxed st.serial st.session i s
  have ho := hb.operate_ok hdn ht haw hhw 67 #[.pointer (some ⟨w.heap.size + 1, 0, none⟩), .pointer (some ⟨w.heap.size + 2, 0, none⟩)] 69 #[.pointer (some ⟨w.heap.size + 1, 0, none⟩), .pointer (some ⟨w.heap.size + 2, 0, none⟩)] ent67 ent69
    (fun W hW => by have := hW.wrong67 (w.heap.size + 1) (w.heap.size + 2) i s hs (by simp [wbox]) (by simp [wbox]); rw [if_pos (by omega)] at this; exact this)
    st' (wbox w.heap.size st.serial st.session i s oth) hc (fun W hW => hW.do69_of (w.heap.size + 1) (w.heap.size + 2) i s st' (by simp [wbox]) (by simp [wbox]) (hd W _ _ hW))
  clear h hb hd
  unfold hnd at *
  go_enter Try.func17, Try.ntmps17
  go_wp2_with fail
  go_call ho as e w1 ⟨rfl, lv', h1⟩
  have H1 : Hid _ := h1
  clear ho h1
  go_wp2
  go_returns
  exact ⟨rfl, lv', H1.out.forget (fun p hp => mem_wbox hp)⟩
/-- Write, of any sector that is there. -/
theorem One.pwrite_dv (h : One b0 w0 L st lv oth w) {ats : Nat → Nat} {now sure : Nat → ByteArray} (hd : Dv st ats now sure) (i : Nat) (s : ByteArray) (hs : s.size = 64) (hdn : st.down = false) (ht : st.there = true) (haw : st.aw = false) (hhw : st.hw = false) (hi : i < st.n) (hn : st.n ≤ 4096) (hc : 0 ≤ st.count ∧ st.count ≤ 1000000) :
    Calls Try.prog 17 #[.pointer (some ⟨L.P, 0, none⟩), hnd st.serial st.session, .int .i64 (i : Nat), .string s] w fun e w' => e = .returned (.int .i64 0) ∧ ∃ st' lv' ats', One b0 w0 L st' lv' oth w' ∧ Dv st' ats' (updS now i s) sure ∧ Kept st st' ∧ st'.count = st.count + 1 := by
  obtain ⟨p, hp, h1, h2⟩ := hd.place i
  have hfew := hd.few
  by_cases hf : p < st.ln ∧ ats p = i
  · refine (h.pwrite_of i s hs hdn ht haw hhw hi (wroteF st i s) ⟨hhw, hc⟩ (fun W lv2 oth2 hW => ?_)).mono ?_
    · have hse := hW.psearch_dv hd.lis i p hp h1 h2
      rw [decide_eq_true hf] at hse
      refine (hW.dwriteF p i hi hd.ok (by omega) s hs hse).mono ?_
      rintro e w' ⟨rfl, h3⟩
      exact ⟨rfl, _, h3⟩
    · rintro e w' ⟨rfl, lv', h3⟩
      exact ⟨rfl, _, lv', ats, h3, (hd.found p i hi hf.1 hf.2 s hs).same rfl rfl rfl rfl, ⟨rfl, rfl, rfl, rfl, rfl, rfl, rfl, rfl, rfl, rfl⟩, rfl⟩
  · refine (h.pwrite_of i s hs hdn ht haw hhw hi (wroteM st p i s) ⟨hhw, hc⟩ (fun W lv2 oth2 hW => ?_)).mono ?_
    · have hse := hW.psearch_dv hd.lis i p hp h1 h2
      rw [decide_eq_false hf] at hse
      exact hW.dwriteM (p := p) i hi hd.ok (by omega) hp hd.lis.one (by omega) s hs hse
    · rintro e w' ⟨rfl, lv', h3⟩
      exact ⟨rfl, _, lv', _, h3, (hd.put p i hi hn hp h1 h2 hf s hs).same rfl rfl rfl rfl, ⟨rfl, rfl, rfl, rfl, rfl, rfl, rfl, rfl, rfl, rfl⟩, rfl⟩
end
end Go.Proofs.Ytiohkdpmgkobiaa
