/- medium's Read of sectors that are there, as a call. -/
import Derived.Test.YtiohkdpmgkobiaaW1
import Derived.Test.YtiohkdpmgkobiaaR2
namespace Go.Proofs.Ytiohkdpmgkobiaa
open Go.RowKit
def RV (L : Loc) (st : St) (M frm k : Nat) : Nat → Value → Prop
  | 0, v => v = .pointer (some ⟨M, 0, none⟩)
  | 1, v => v = .pointer (some ⟨M, 0, none⟩)
  | 2, v => v = .pointer (some ⟨M, 0, none⟩)
  | 3, v => v = .pointer (some ⟨L.P, 0, none⟩)
  | 4, v => v = .pointer (some ⟨M, 0, none⟩)
  | 5, v => v = .pointer (some ⟨M, 0, none⟩)
  | 6, v => v = .pointer (some ⟨M, 1, none⟩)
  | 7, v => v = hnd st.serial st.session
  | 8, v => v = .int .i64 (frm : Nat)
  | 9, v => v = .int .i64 (k : Nat)
  | 10, v => v = .int .i64 ((frm + k : Nat) : Int)
  | 11, v => v = .tuple #[.string (rd st (frm + k)), .int .i64 0]
  | 12, v => v = .tuple #[.string (rd st (frm + k)), .int .i64 0]
  | 13, v => v = .string (rd st (frm + k))
  | 14, v => v = .int .i64 0
  | 15, v => v = .string (rd st (frm + k))
  | 16, v => v = .int .i64 0
  | _, _ => True
structure RPh (b0 : Nat) (w0 : World) (L : Loc) (st : St) (oth : List (Nat × Obj)) (b frm k : Nat) (done : Nat → Bool) (f : Nat → Value) (W : World) : Prop where
  a : done 11 = false → RS b0 w0 L st oth b frm k k W
  b : done 11 = true → RS b0 w0 L st oth b frm k (k + 1) W
section
variable {b0 : Nat} {w0 : World} {L : Loc} {st : St} {lv : Value} {oth : List (Nat × Obj)} {w : World} {b frm k : Nat} {done : Nat → Bool} {f : Nat → Value} {W : World}
theorem RPh.pure (h : RPh b0 w0 L st oth b frm k done f W) (i : Nat) (hi : i ≠ 11) (v : Value) : RPh b0 w0 L st oth b frm k (updB done i) (upd f i v) W := by
  have a11 : updB done i 11 = done 11 := if_neg (Ne.symm hi)
  exact ⟨by rw [a11]; exact h.a, by rw [a11]; exact h.b⟩
theorem RPh.read {W' : World} (_ : RPh b0 w0 L st oth b frm k done f W) (hx : RS b0 w0 L st oth b frm k (k + 1) W') (v : Value) : RPh b0 w0 L st oth b frm k (updB done 11) (upd f 11 v) W' := by
  have a11 : updB done 11 11 = true := if_pos rfl
  exact ⟨by rw [a11]; exact (fun e => by cases e), fun _ => hx⟩
theorem RS.med {M c : Nat} (h : RS b0 w0 L st oth b frm k c W) (hm : (M, med L.P st.serial st.session) ∈ oth) : W.cell? ⟨M, 0, none⟩ = some (.pointer (some ⟨L.P, 0, none⟩)) ∧ W.cell? ⟨M, 1, none⟩ = some (.int .i64 st.serial) ∧ W.cell? ⟨M, 2, none⟩ = some (.int .i64 st.session) := by
  obtain ⟨lv, h1, _⟩ := h
  have e := (h1.oth _ hm).1
  exact ⟨cell_of e 0, cell_of e 1, cell_of e 2⟩
theorem RPh.cells {M : Nat} (h : RPh b0 w0 L st oth b frm k done f W) (hm : (M, med L.P st.serial st.session) ∈ oth) : W.cell? ⟨M, 0, none⟩ = some (.pointer (some ⟨L.P, 0, none⟩)) ∧ W.cell? ⟨M, 1, none⟩ = some (.int .i64 st.serial) ∧ W.cell? ⟨M, 2, none⟩ = some (.int .i64 st.session) := by
  cases hd : done 11 with
  | false => exact (h.a hd).med hm
  | true => exact (h.b hd).med hm
theorem rdsL_length (st : St) (frm : Nat) (hs : SecOk st) : ∀ k, frm + k ≤ st.n → (rdsL st frm k).length = 64 * k
  | 0, _ => rfl
  | k + 1, h => by
    show (rdsL st frm k ++ rdB st (frm + k)).length = _
    rw [List.length_append, rdsL_length st frm hs k (by omega)]
    unfold rdB
    rw [List.length_map, sec_length hs (by omega)]; omega
set_option maxHeartbeats 1000000 in
theorem One.mread (h : One b0 w0 L st lv oth w) (M : Nat) (hm : (M, med L.P st.serial st.session) ∈ oth) (h5 : ∀ p ∈ oth, ∀ c fz, p.2 ≠ .cells c 5 fz) (frm n : Nat) (hfit : frm + n ≤ st.n) (hn8 : st.n ≤ 1000) (hdn : st.down = false) (ht : st.there = true) (haw : st.aw = false) (hhw : st.hw = false) (hs8 : SecOk st) (hc : 0 ≤ st.count ∧ st.count ≤ 100000) :
    Calls Try.prog 33 #[.pointer (some ⟨M, 0, none⟩), .int .i64 (frm : Nat), .int .i64 (n : Nat)] w fun e w' => e = .returned (.string ⟨(rdsL st frm n).toArray⟩) ∧ ∃ lv', One b0 w0 L { st with count := st.count + (n : Int) } lv' oth w' := by
  have hlt := h.lts
  have H0 : Hid (RS b0 w0 L st oth w.heap.size frm 0 0 (w.alloc (.cells #[.pointer none, .slice none 0 0] 127))) := by
    refine ⟨lv, ?_, bld_new w⟩
    have := h.laid (.cells #[.pointer none, .slice none 0 0] 127)
    have e : ({ st with count := st.count + ((0 : Nat) : Int) } : St) = st := by cases st; simp
    rw [e]; exact this
  have hb0 : b0 ≤ w.heap.size := by have := getElem?_lt h.pool; have := h.bP; omega
  clear h
  generalize hb : w.heap.size = b at *
  have HLT : Hid (∀ p ∈ oth, p.1 < b) := hlt
  have H5 : Hid (∀ p ∈ oth, ∀ c fz, p.2 ≠ .cells c 5 fz) := h5
  have HM : Hid ((M, med L.P st.serial st.session) ∈ oth) := hm
  have HC : Hid (st.down = false ∧ st.there = true ∧ st.aw = false ∧ st.hw = false ∧ SecOk st ∧ 0 ≤ st.count ∧ st.count ≤ 100000) := ⟨hdn, ht, haw, hhw, hs8, hc⟩
  clear hlt h5 hm hdn ht haw hhw hs8 hc
  go_enter Try.func33, Try.ntmps33
  go_wp2
  go_loopw [12] (fun i wr => ∃ k : Nat, k ≤ n ∧ i = .int .i64 (k : Nat) ∧ Hid (RS b0 w0 L st oth b frm k k wr)) (fun i _ => n - (intOf i).toNat)
  case atStart => exact ⟨0, by omega, rfl, H0⟩
  case round =>
    obtain ⟨k, hk, rfl, hR0⟩ := hrel
    clear H0
    rcases Nat.lt_or_ge k n with hltn | hge
    · have hrd : Hid (∀ W, RS b0 w0 L st oth b frm k k W → Calls Try.prog 20 #[.pointer (some ⟨L.P, 0, none⟩), hnd st.serial st.session, .int .i64 ((frm + k : Nat) : Int)] W fun e w' => e = .returned (.tuple #[.string (rd st (frm + k)), .int .i64 0]) ∧ RS b0 w0 L st oth b frm k (k + 1) w') := by
        obtain ⟨q1, q2, q3, q4, q5, q6, q7⟩ := HC.out
        exact fun W hW => hW.read hb0 q1 q2 q3 q4 (by omega) q5 (by omega) (by omega)
      go_wp2_with fail
      refine wp_region_pb (fun f => ⟨#[.pointer (some ⟨M, 0, none⟩), .int .i64 (frm : Nat), .int .i64 (n : Nat), undef, undef, undef, .string ⟨#[]⟩, .pointer (some ⟨b, 0, none⟩), .int .i64 (k : Nat), f 15, f 16, .int .i64 (n : Nat), .int .i64 (k : Nat), .bool true, .int .i64 (k : Nat), f 12, f 0, f 1, f 2, f 3, f 4, f 5, f 6, f 7, f 8, f 9, f 10, f 11, f 13, f 14, u30, u31, u32, u33, u34, u35, u36, undef], []⟩) (RV L st M frm k) (RPh b0 w0 L st oth b frm k) (fun i => [u16, u17, u18, u19, u20, u21, u22, u23, u24, u25, u26, u27, u15, u28, u29, u9, u10].getD i undef) (by kernel_rfl) rfl rfl ?hI ?hput ?step ?fin
      case hI => exact ⟨fun _ => hR0.out.below ⟨rfl, rfl, rfl, Nat.le_refl _, fun _ _ => rfl⟩, fun e => by cases e⟩
      case fin =>
        intro f W hP hV
        have h1 : RS b0 w0 L st oth b frm k (k + 1) W := hP.b rfl
        have v15 : f 15 = .string (rd st (frm + k)) := hV 15 (by decide)
        have v16 : f 16 = .int .i64 0 := hV 16 (by decide)
        obtain ⟨lv1, o1, bl1⟩ := h1
        have c1 : W.cell? ⟨M, 1, none⟩ = some (.int .i64 st.serial) := cell_of (o1.oth _ HM.out).1 1
        have hrl := rdsL_length st frm HC.out.2.2.2.2.1 k (by omega)
        have hr64 : (rd st (frm + k)).size = 64 := by show (rdB st (frm + k)).toArray.size = 64; simp [rdB, sec_length HC.out.2.2.2.2.1 (show frm + k < st.n by omega)]
        have hbw := bld_write b (rdsL st frm k) (rd st (frm + k)) W bl1 (by omega)
        have O1 : Hid (∃ lv, One b0 w0 L { st with count := st.count + ((k + 1 : Nat) : Int) } lv oth W ∧ Bld b (rdsL st frm k) W) := ⟨lv1, o1, bl1⟩
        clear hP hV o1 bl1 hrl
        generalize f 15 = x15 at *
        subst v15
        generalize f 16 = x16 at *
        subst v16
        generalize hrr : rd st (frm + k) = r at *
        go_wp2_with fail
        go_call (serial_any M st.serial W c1) as e W1 ⟨rfl, hW1⟩
        rw [← hW1] at hbw O1
        clear hW1 c1
        go_wp2_with fail
        go_call (fail_ok st.serial W1) as e W2 ⟨rfl, hW2⟩
        rw [← hW2] at hbw O1
        clear hW2
        go_wp2_with fail
        go_call hbw as e W3 ⟨rfl, bl3, ok3, be3⟩
        have H3 : Hid (RS b0 w0 L st oth b frm (k + 1) (k + 1) W3) := by
          obtain ⟨lv1, o1, bl1⟩ := O1.out
          obtain ⟨cb, hcb⟩ : ∃ cb, W2.heap[b]? = some (.cells cb 127) := by
            rcases bl1 with ⟨_, v, q, _⟩ | ⟨_, v, q, _⟩ <;> exact ⟨_, q⟩
          refine ⟨lv1, o1.others ok3 be3 hb0 hcb (fun p hp => ⟨by have := HLT.out p hp; omega, H5.out p hp⟩), ?_⟩
          have e : r.data.toList = rdB st (frm + k) := by rw [← hrr]; rfl
          show Bld b (rdsL st frm k ++ rdB st (frm + k)) W3
          rw [← e]; exact bl3
        clear hbw bl3 ok3 be3 O1
        go_wp2
        go_roundw
        case rel => exact ⟨k + 1, by omega, by simp, H3⟩
        case measure => simp only [intOf]; omega
      case hput =>
        repeat (refine ⟨fun f v => rfl, ?_⟩)
        trivial
      case step =>
        refine ⟨?_, ?_⟩
        · intro done f W hP hdn hd K hK
          clear hd
          go_simp
          exact hK _ _ rfl (hP.pure _ (by decide) _)
        refine ⟨?_, ?_⟩
        · intro done f W hP hdn hd K hK
          have d0 := (hd.1 rfl).2
          have e0 := (hd.1 rfl).1
          clear hd
          replace d0 : f 0 = .pointer (some ⟨M, 0, none⟩) := d0
          generalize f 0 = x0 at *
          subst d0
          clear e0
          go_simp
          exact hK _ _ rfl (hP.pure _ (by decide) _)
        refine ⟨?_, ?_⟩
        · intro done f W hP hdn hd K hK
          have d1 := (hd.1 rfl).2
          have e1 := (hd.1 rfl).1
          clear hd
          replace d1 : f 1 = .pointer (some ⟨M, 0, none⟩) := d1
          generalize f 1 = x1 at *
          subst d1
          clear e1
          go_simp
          exact hK _ _ rfl (hP.pure _ (by decide) _)
        refine ⟨?_, ?_⟩
        · intro done f W hP hdn hd K hK
          have d2 := (hd.1 rfl).2
          have e2 := (hd.1 rfl).1
          clear hd
          replace d2 : f 2 = .pointer (some ⟨M, 0, none⟩) := d2
          generalize f 2 = x2 at *
          subst d2
          clear e2
          have hm := (hP.cells HM.out).1
          go_simp
          exact hK _ _ rfl (hP.pure _ (by decide) _)
        refine ⟨?_, ?_⟩
        · intro done f W hP hdn hd K hK
          clear hd
          go_simp
          exact hK _ _ rfl (hP.pure _ (by decide) _)
        refine ⟨?_, ?_⟩
        · intro done f W hP hdn hd K hK
          have d4 := (hd.1 rfl).2
          have e4 := (hd.1 rfl).1
          clear hd
          replace d4 : f 4 = .pointer (some ⟨M, 0, none⟩) := d4
          generalize f 4 = x4 at *
          subst d4
          clear e4
          go_simp
          exact hK _ _ rfl (hP.pure _ (by decide) _)
        refine ⟨?_, ?_⟩
        · intro done f W hP hdn hd K hK
          have d5 := (hd.1 rfl).2
          have e5 := (hd.1 rfl).1
          clear hd
          replace d5 : f 5 = .pointer (some ⟨M, 0, none⟩) := d5
          generalize f 5 = x5 at *
          subst d5
          clear e5
          go_simp
          exact hK _ _ rfl (hP.pure _ (by decide) _)
        refine ⟨?_, ?_⟩
        · intro done f W hP hdn hd K hK
          have d6 := (hd.1 rfl).2
          have e6 := (hd.1 rfl).1
          clear hd
          replace d6 : f 6 = .pointer (some ⟨M, 1, none⟩) := d6
          generalize f 6 = x6 at *
          subst d6
          clear e6
          have hm1 := (hP.cells HM.out).2.1
          have hm2 := (hP.cells HM.out).2.2
          go_simp
          exact hK _ _ rfl (hP.pure _ (by decide) _)
        refine ⟨?_, ?_⟩
        · intro done f W hP hdn hd K hK
          clear hd
          go_simp
          exact hK _ _ rfl (hP.pure _ (by decide) _)
        refine ⟨?_, ?_⟩
        · intro done f W hP hdn hd K hK
          clear hd
          go_simp
          exact hK _ _ rfl (hP.pure _ (by decide) _)
        refine ⟨?_, ?_⟩
        · intro done f W hP hdn hd K hK
          have d8 := (hd.1 rfl).2
          have d9 := (hd.2.1 rfl).2
          have e8 := (hd.1 rfl).1
          have e9 := (hd.2.1 rfl).1
          clear hd
          replace d8 : f 8 = .int .i64 (frm : Nat) := d8
          replace d9 : f 9 = .int .i64 (k : Nat) := d9
          generalize f 8 = x8 at *
          subst d8
          clear e8
          generalize f 9 = x9 at *
          subst d9
          clear e9
          go_simp
          exact hK _ _ (by show Value.int _ _ = Value.int _ _; first | rfl | (congr 1; rw [IntKind.wrap_i64]; omega) | (congr 1; omega)) (hP.pure _ (by decide) _)
        refine ⟨?_, ?_⟩
        · intro done f W hP hdn hd K hK
          have d3 := (hd.1 rfl).2
          have d7 := (hd.2.1 rfl).2
          have d10 := (hd.2.2.1 rfl).2
          have e3 := (hd.1 rfl).1
          have e7 := (hd.2.1 rfl).1
          have e10 := (hd.2.2.1 rfl).1
          clear hd
          replace d3 : f 3 = .pointer (some ⟨L.P, 0, none⟩) := d3
          replace d7 : f 7 = hnd st.serial st.session := d7
          replace d10 : f 10 = .int .i64 ((frm + k : Nat) : Int) := d10
          have hdn11 : done 11 = false := hdn
          have hx0 := hP.a hdn11
          generalize f 3 = x3 at *
          subst d3
          clear e3
          generalize f 7 = x7 at *
          subst d7
          clear e7
          generalize f 10 = x10 at *
          subst d10
          clear e10
          go_simp
          refine Calls.mono (hrd.out W hx0) ?_
          rintro e W' ⟨rfl, hx1⟩
          exact hK _ _ rfl (hP.read hx1 _)
        refine ⟨?_, ?_⟩
        · intro done f W hP hdn hd K hK
          have d11 := (hd.1 rfl).2
          have e11 := (hd.1 rfl).1
          clear hd
          replace d11 : f 11 = .tuple #[.string (rd st (frm + k)), .int .i64 0] := d11
          generalize f 11 = x11 at *
          subst d11
          clear e11
          go_simp
          exact hK _ _ rfl (hP.pure _ (by decide) _)
        refine ⟨?_, ?_⟩
        · intro done f W hP hdn hd K hK
          have d12 := (hd.1 rfl).2
          have e12 := (hd.1 rfl).1
          clear hd
          replace d12 : f 12 = .tuple #[.string (rd st (frm + k)), .int .i64 0] := d12
          generalize f 12 = x12 at *
          subst d12
          clear e12
          go_simp
          exact hK _ _ rfl (hP.pure _ (by decide) _)
        refine ⟨?_, ?_⟩
        · intro done f W hP hdn hd K hK
          have d12 := (hd.1 rfl).2
          have e12 := (hd.1 rfl).1
          clear hd
          replace d12 : f 12 = .tuple #[.string (rd st (frm + k)), .int .i64 0] := d12
          generalize f 12 = x12 at *
          subst d12
          clear e12
          go_simp
          exact hK _ _ rfl (hP.pure _ (by decide) _)
        refine ⟨?_, ?_⟩
        · intro done f W hP hdn hd K hK
          have d13 := (hd.1 rfl).2
          have e13 := (hd.1 rfl).1
          clear hd
          replace d13 : f 13 = .string (rd st (frm + k)) := d13
          generalize f 13 = x13 at *
          subst d13
          clear e13
          go_simp
          exact hK _ _ rfl (hP.pure _ (by decide) _)
        refine ⟨?_, ?_⟩
        · intro done f W hP hdn hd K hK
          have d14 := (hd.1 rfl).2
          have e14 := (hd.1 rfl).1
          clear hd
          replace d14 : f 14 = .int .i64 0 := d14
          generalize f 14 = x14 at *
          subst d14
          clear e14
          go_simp
          exact hK _ _ rfl (hP.pure _ (by decide) _)
        trivial
    · obtain rfl : k = n := by omega
      obtain ⟨lv1, o1, bl1⟩ := hR0.out
      have hbs := bld_string b (rdsL st frm k) wr bl1
      obtain ⟨cb, hcb⟩ : ∃ cb, wr.heap[b]? = some (.cells cb 127) := by
        rcases bl1 with ⟨_, v, q, _⟩ | ⟨_, v, q, _⟩ <;> exact ⟨_, q⟩
      have O1 : Hid (∀ W, Lib.OthersKept 5 (some b) wr W → Below b wr W → One b0 w0 L { st with count := st.count + (k : Int) } lv1 oth W) := fun W h1 h2 => o1.others h1 h2 hb0 hcb (fun p hp => ⟨by have := HLT.out p hp; omega, H5.out p hp⟩)
      clear hR0 o1 bl1 hcb
      go_wp2_with fail
      go_call hbs as e W2 ⟨rfl, ok2, be2⟩
      have HF : Hid _ := O1.out W2 ok2 be2
      clear hbs ok2 be2
      go_wp2
      go_returns
      exact ⟨rfl, lv1, HF.out⟩
end
end Go.Proofs.Ytiohkdpmgkobiaa
