/- What BandolierSectors hands to Guard first, as a call. -/
import Derived.Test.YtiohkdpmgkobiaaBA
import Derived.Test.YtiohkdpmgkobiaaX3
namespace Go.Proofs.Ytiohkdpmgkobiaa
open Go.RowKit
theorem ent56 (args : Array Value) (W : World) : (callFunc 56 args).run Try.prog W = .ok (.enter 56 args) W := enter_of Try.func56 (by kernel_rfl) (by kernel_rfl) args W
theorem ent57 (args : Array Value) (W : World) : (callFunc 57 args).run Try.prog W = .ok (.enter 57 args) W := enter_of Try.func57 (by kernel_rfl) (by kernel_rfl) args W
theorem ent59 (args : Array Value) (W : World) : (callFunc 59 args).run Try.prog W = .ok (.enter 59 args) W := enter_of Try.func59 (by kernel_rfl) (by kernel_rfl) args W
theorem whole_chunk (s : ByteArray) (hs : s.size = 64) : pad (chunk s 0) = s := by
  have hp : parts s = 1 := by unfold parts; rw [hs]
  have e := pad_chunk s 0 (by omega)
  have hl : s.data.toList.length = 64 := by rw [Array.length_toList]; exact hs
  have hf : filledL s.data.toList = s.data.toList := by
    unfold filledL; rw [hl]; simp
  rw [hf, Nat.mul_zero, List.drop_zero, List.take_of_length_le (by omega)] at e
  apply ByteArray.ext
  exact Array.toList_inj.1 e
section
variable {b0 : Nat} {w0 : World} {L : Loc} {st : St} {lv : Value} {oth : List (Nat × Obj)} {w : World}
/-- One sector is written, where none is loose. -/
theorem One.swrite (h : One b0 w0 L st lv oth w) (M : Nat) (hm : (M, med L.P st.serial st.session) ∈ oth) (s : ByteArray) (hs : s.size = 64) (hdn : st.down = false) (ht : st.there = true) (haw : st.aw = false) (hhw : st.hw = false) (hi : 0 < st.n) (hok : SecOk st) (hle : LooseEnd st 0) (hn : st.n ≤ 1000) (hc : 0 ≤ st.count ∧ st.count ≤ 100000) :
    Calls Try.prog 31 #[.pointer (some ⟨M, 0, none⟩), .int .i64 0, .string s] w fun e w' => e = .returned (.tuple #[]) ∧ ∃ lv', One b0 w0 L { wrote st 0 s with count := st.count + 1 } lv' oth w' := by
  have hp : parts s = 1 := by unfold parts; rw [hs]
  refine (mwrite_any M L.P st.serial st.session 0 s (by omega) (by decide) (fun k W => ∃ lv, One b0 w0 L (if k = 0 then st else { wrote st 0 s with count := st.count + 1 }) lv oth W) (fun _ => 0)
    (fun k W W' ⟨lv, h⟩ hb => ⟨lv, h.ofBelow hb⟩) (fun k W ⟨lv, h⟩ => (h.oth _ hm).1) ?_ w ⟨lv, h⟩).mono ?_
  · rintro k W hk hz ⟨lv, h⟩
    obtain rfl : k = 0 := by omega
    rw [if_pos rfl] at h
    rw [if_neg (by decide), whole_chunk s hs]
    exact h.pwrite_ok 0 s hs hdn ht haw hhw hi hok hle (by omega) ⟨hc.1, by omega⟩
  · rintro e w' (⟨k, hk, hz, hne, rfl, hX⟩ | ⟨hz, rfl, lv, hX⟩)
    · exact absurd rfl hne
    · rw [hp, if_neg (by decide)] at hX
      exact ⟨rfl, lv, hX⟩
end
/-- Phases of a drawn statement: operation p makes memory, operation i turns X0 into X1. -/
structure TwoB (p i : Nat) (X0 X1 : World → Prop) (done : Nat → Bool) (f : Nat → Value) (W : World) : Prop where
  o : done p = false → done i = false
  a : done i = false → X0 W
  b : done i = true → X1 W
theorem TwoB.pure {p i : Nat} {X0 X1 : World → Prop} {done : Nat → Bool} {f : Nat → Value} {W : World} (h : TwoB p i X0 X1 done f W) (k : Nat) (hk : k ≠ i ∧ k ≠ p) (v : Value) : TwoB p i X0 X1 (updB done k) (upd f k v) W := by
  have e : updB done k i = done i := if_neg (Ne.symm hk.1)
  have e2 : updB done k p = done p := if_neg (Ne.symm hk.2)
  exact ⟨by rw [e, e2]; exact h.o, by rw [e]; exact h.a, by rw [e]; exact h.b⟩
theorem TwoB.turnP {p i : Nat} {X0 X1 : World → Prop} {done : Nat → Bool} {f : Nat → Value} {W W' : World} (h : TwoB p i X0 X1 done f W) (hd : done p = false) (hx : X0 W') (v : Value) (hpi : ¬ i = p := by decide) : TwoB p i X0 X1 (updB done p) (upd f p v) W' := by
  have hi := h.o hd
  have e2 : updB done p p = true := if_pos rfl
  have e : updB done p i = done i := if_neg hpi
  exact ⟨by rw [e2]; exact (fun e => by cases e), fun _ => hx, by rw [e, hi]; exact (fun e => by cases e)⟩
theorem TwoB.turn {p i : Nat} {X0 X1 : World → Prop} {done : Nat → Bool} {f : Nat → Value} {W W' : World} (_ : TwoB p i X0 X1 done f W) (hp : done p = true) (hx : X1 W') (v : Value) : TwoB p i X0 X1 (updB done i) (upd f i v) W' := by
  have e : updB done i i = true := if_pos rfl
  refine ⟨fun h0 => ?_, by rw [e]; exact (fun e => by cases e), fun _ => hx⟩
  unfold updB at h0
  split at h0
  · cases h0
  · rw [hp] at h0; cases h0
theorem TwoB.any {p i : Nat} {X0 X1 : World → Prop} {R : World → Prop} {done : Nat → Bool} {f : Nat → Value} {W : World} (h0 : ∀ W, X0 W → R W) (h1 : ∀ W, X1 W → R W) (h : TwoB p i X0 X1 done f W) : R W := by
  cases hd : done i with
  | false => exact h0 W (h.a hd)
  | true => exact h1 W (h.b hd)
def sE1 (pa : ByteArray) : St := { wrote (st0 1 1) 0 pa with count := 1 }
def sE2 (pa : ByteArray) : St := { sE1 pa with ln := 0, loose := [], count := 2 }
def sE3 (pa pb : ByteArray) : St := { wrote (sE2 pa) 0 pb with count := 3 }
theorem sE1_ok (pa : ByteArray) (h : pa.size = 64) : SecOk (sE1 pa) := by
  have := (st0_ok 1 1).wrote (i := 0) (by decide) pa h
  exact ⟨this.size, this.bytes⟩
theorem sE2_ok (pa : ByteArray) (h : pa.size = 64) : SecOk (sE2 pa) := ⟨(sE1_ok pa h).size, (sE1_ok pa h).bytes⟩
theorem sE3_ok (pa pb : ByteArray) (h : pa.size = 64) (h2 : pb.size = 64) : SecOk (sE3 pa pb) := by
  have := (sE2_ok pa h).wrote (i := 0) (show (0 : Nat) < 1 by decide) pb h2
  exact ⟨this.size, this.bytes⟩
def BV (M : Nat) (a pa : ByteArray) : Nat → Value → Prop
  | 0, v => v = .pointer (some ⟨M, 0, none⟩)
  | 1, v => v = .func (.func 49) #[] #[]
  | 2, v => v = .string a
  | 3, v => v = .string pa
  | 4, v => v = .tuple #[]
  | _, _ => True

set_option maxHeartbeats 1000000 in
theorem sec_do (b0 : Nat) (w0 : World) (L : Loc) (oth : List (Nat × Obj)) (M C Fv Ta Tb : Nat) (a b pa pb : ByteArray) (hm : (M, med L.P 1 1) ∈ oth ∧ (C, .cells #[.pointer (some ⟨M, 0, none⟩)] 53) ∈ oth ∧ (Fv, .cells #[.func (.func 49) #[] #[]] 33) ∈ oth ∧ (Ta, .cells #[.string a] 9) ∈ oth ∧ (Tb, .cells #[.string b] 9) ∈ oth) (hpa : pa.size = 64) (hpb : pb.size = 64)
    (hka : ∀ W, Calls Try.prog 49 #[.string a] W fun e W' => e = .returned (.string pa) ∧ Below W.heap.size W W') (hkb : ∀ W, Calls Try.prog 49 #[.string b] W fun e W' => e = .returned (.string pb) ∧ Below W.heap.size W W') (lv : Value) (w : World) (h0 : One b0 w0 L (st0 1 1) lv oth w) :
    Calls Try.prog 56 #[.pointer (some ⟨C, 0, none⟩), .pointer (some ⟨Fv, 0, none⟩), .pointer (some ⟨Ta, 0, none⟩), .pointer (some ⟨Tb, 0, none⟩)] w fun e w' => e = .returned (.tuple #[]) ∧ ∃ lv, One b0 w0 L (sE3 pa pb) lv oth w' := by
  have HXa : Hid (∃ lv, One b0 w0 L (st0 1 1) lv oth w) := ⟨lv, h0⟩
  have HPKa : Hid _ := hka
  have HPKb : Hid _ := hkb
  have HWa : Hid (∀ W, (∃ lv, One b0 w0 L (st0 1 1) lv oth W) → Calls Try.prog 31 #[.pointer (some ⟨M, 0, none⟩), .int .i64 0, .string pa] W fun e w' => e = .returned (.tuple #[]) ∧ ∃ lv, One b0 w0 L (sE1 pa) lv oth w') := fun W ⟨lv, o⟩ => o.swrite M hm.1 pa hpa rfl rfl rfl rfl (by decide) (st0_ok 1 1) ⟨rfl, Nat.zero_le _, fun j hj => absurd hj (Nat.not_lt_zero _)⟩ (by decide) ⟨by decide, by decide⟩
  have HWb : Hid (∀ W, (∃ lv, One b0 w0 L (sE2 pa) lv oth W) → Calls Try.prog 31 #[.pointer (some ⟨M, 0, none⟩), .int .i64 0, .string pb] W fun e w' => e = .returned (.tuple #[]) ∧ ∃ lv, One b0 w0 L (sE3 pa pb) lv oth w') := fun W ⟨lv, o⟩ => o.swrite M hm.1 pb hpb rfl rfl rfl rfl (show (0 : Nat) < 1 by decide) (sE2_ok pa hpa) ⟨rfl, Nat.zero_le _, fun j hj => absurd hj (Nat.not_lt_zero _)⟩ (show (1 : Nat) ≤ 1000 by decide) ⟨show (0 : Int) ≤ 2 by decide, show (2 : Int) ≤ 100000 by decide⟩
  have HCAa : Hid (∀ W, (∃ lv, One b0 w0 L (st0 1 1) lv oth W) → W.cell? ⟨C, 0, none⟩ = some (.pointer (some ⟨M, 0, none⟩)) ∧ W.cell? ⟨Fv, 0, none⟩ = some (.func (.func 49) #[] #[]) ∧ W.cell? ⟨Ta, 0, none⟩ = some (.string a)) := fun W ⟨lv, o⟩ => ⟨cell_of (o.oth _ hm.2.1).1 0, cell_of (o.oth _ hm.2.2.1).1 0, cell_of (o.oth _ hm.2.2.2.1).1 0⟩
  have HCBa : Hid (∀ W, (∃ lv, One b0 w0 L (sE1 pa) lv oth W) → W.cell? ⟨C, 0, none⟩ = some (.pointer (some ⟨M, 0, none⟩)) ∧ W.cell? ⟨Fv, 0, none⟩ = some (.func (.func 49) #[] #[]) ∧ W.cell? ⟨Ta, 0, none⟩ = some (.string a)) := fun W ⟨lv, o⟩ => ⟨cell_of (o.oth _ hm.2.1).1 0, cell_of (o.oth _ hm.2.2.1).1 0, cell_of (o.oth _ hm.2.2.2.1).1 0⟩
  have HCAb : Hid (∀ W, (∃ lv, One b0 w0 L (sE2 pa) lv oth W) → W.cell? ⟨C, 0, none⟩ = some (.pointer (some ⟨M, 0, none⟩)) ∧ W.cell? ⟨Fv, 0, none⟩ = some (.func (.func 49) #[] #[]) ∧ W.cell? ⟨Tb, 0, none⟩ = some (.string b)) := fun W ⟨lv, o⟩ => ⟨cell_of (o.oth _ hm.2.1).1 0, cell_of (o.oth _ hm.2.2.1).1 0, cell_of (o.oth _ hm.2.2.2.2).1 0⟩
  have HCBb : Hid (∀ W, (∃ lv, One b0 w0 L (sE3 pa pb) lv oth W) → W.cell? ⟨C, 0, none⟩ = some (.pointer (some ⟨M, 0, none⟩)) ∧ W.cell? ⟨Fv, 0, none⟩ = some (.func (.func 49) #[] #[]) ∧ W.cell? ⟨Tb, 0, none⟩ = some (.string b)) := fun W ⟨lv, o⟩ => ⟨cell_of (o.oth _ hm.2.1).1 0, cell_of (o.oth _ hm.2.2.1).1 0, cell_of (o.oth _ hm.2.2.2.2).1 0⟩
  have HM : Hid _ := hm
  clear h0 hm hka hkb
  go_enter Try.func56, Try.ntmps56
  go_wp2_with fail
  refine wp_region_pb (fun f => ⟨#[.pointer (some ⟨C, 0, none⟩), .pointer (some ⟨Fv, 0, none⟩), .pointer (some ⟨Ta, 0, none⟩), .pointer (some ⟨Tb, 0, none⟩), f 0, f 1, f 2, f 3, f 4, undef, undef, undef, undef, undef, undef, undef], []⟩) (BV M a pa) (TwoB 3 4 (fun W => ∃ lv, One b0 w0 L (st0 1 1) lv oth W) (fun W => ∃ lv, One b0 w0 L (sE1 pa) lv oth W)) (fun i => [undef, undef, undef, undef, undef].getD i undef) (by kernel_rfl) rfl rfl ?hIa ?hputa ?stepa ?fina
  case hIa => exact ⟨fun _ => rfl, fun _ => HXa.out.imp (fun lv h => h.ofBelow ⟨rfl, rfl, rfl, Nat.le_refl _, fun _ _ => rfl⟩), (fun e => by cases e)⟩
  case fina =>
    intro f W hP hV
    obtain ⟨lv1, o1⟩ := hP.b rfl
    have v0 : f 0 = .pointer (some ⟨M, 0, none⟩) := hV 0 (by decide)
    have v1 : f 1 = .func (.func 49) #[] #[] := hV 1 (by decide)
    have v2 : f 2 = .string a := hV 2 (by decide)
    have v3 : f 3 = .string pa := hV 3 (by decide)
    have v4 : f 4 = .tuple #[] := hV 4 (by decide)
    clear hP hV HPKa HWa HCAa HCBa HXa
    generalize f 0 = x0 at *
    subst v0
    generalize f 1 = x1 at *
    subst v1
    generalize f 2 = x2 at *
    subst v2
    generalize f 3 = x3 at *
    subst v3
    generalize f 4 = x4 at *
    subst v4
    have cC : W.cell? ⟨C, 0, none⟩ = some (.pointer (some ⟨M, 0, none⟩)) := cell_of (o1.oth _ HM.out.2.1).1 0
    have hfl := o1.mflush M HM.out.1 rfl rfl rfl rfl ⟨show (0 : Int) ≤ 1 by decide, show (1 : Int) ≤ 1000000 by decide⟩
    clear o1
    go_wp2_with fail
    go_call hfl as e w2 ⟨rfl, lv2, o2⟩
    have HXb : Hid (∃ lv, One b0 w0 L (sE2 pa) lv oth w2) := ⟨lv2, o2⟩
    clear hfl cC o2
    go_wp2_with fail
    refine wp_region_pb (fun f => ⟨#[.pointer (some ⟨C, 0, none⟩), .pointer (some ⟨Fv, 0, none⟩), .pointer (some ⟨Ta, 0, none⟩), .pointer (some ⟨Tb, 0, none⟩), .pointer (some ⟨M, 0, none⟩), .func (.func 49) #[] #[], .string a, .string pa, .tuple #[], .pointer (some ⟨M, 0, none⟩), .tuple #[], f 0, f 1, f 2, f 3, f 4], []⟩) (BV M b pb) (TwoB 3 4 (fun W => ∃ lv, One b0 w0 L (sE2 pa) lv oth W) (fun W => ∃ lv, One b0 w0 L (sE3 pa pb) lv oth W)) (fun i => [undef, undef, undef, undef, undef].getD i undef) (by kernel_rfl) rfl rfl ?hIb ?hputb ?stepb ?finb
    case hIb => exact ⟨fun _ => rfl, fun _ => HXb.out.imp (fun lv h => h.ofBelow ⟨rfl, rfl, rfl, Nat.le_refl _, fun _ _ => rfl⟩), (fun e => by cases e)⟩
    case finb =>
      intro f W hP hV
      have H1 : Hid _ := hP.b rfl
      clear hP hV HPKb HWb HCAb HCBb HXb
      go_wp2
      go_returns
      exact ⟨rfl, H1.out⟩
    case hputb =>
      repeat (refine ⟨fun f v => rfl, ?_⟩)
      trivial
    case stepb =>
      refine ⟨?_, ?_⟩
      · intro done f W hP hdn hd K hK
        clear hd
        have q := TwoB.any (R := fun W => W.cell? ⟨C, 0, none⟩ = some (.pointer (some ⟨M, 0, none⟩)) ∧ W.cell? ⟨Fv, 0, none⟩ = some (.func (.func 49) #[] #[]) ∧ W.cell? ⟨Tb, 0, none⟩ = some (.string b)) HCAb.out HCBb.out hP
        have q1 := q.1
        have q2 := q.2.1
        have q3 := q.2.2
        clear q
        go_simp
        exact hK _ _ rfl (hP.pure _ (by decide) _)
      refine ⟨?_, ?_⟩
      · intro done f W hP hdn hd K hK
        clear hd
        have q := TwoB.any (R := fun W => W.cell? ⟨C, 0, none⟩ = some (.pointer (some ⟨M, 0, none⟩)) ∧ W.cell? ⟨Fv, 0, none⟩ = some (.func (.func 49) #[] #[]) ∧ W.cell? ⟨Tb, 0, none⟩ = some (.string b)) HCAb.out HCBb.out hP
        have q1 := q.1
        have q2 := q.2.1
        have q3 := q.2.2
        clear q
        go_simp
        exact hK _ _ rfl (hP.pure _ (by decide) _)
      refine ⟨?_, ?_⟩
      · intro done f W hP hdn hd K hK
        clear hd
        have q := TwoB.any (R := fun W => W.cell? ⟨C, 0, none⟩ = some (.pointer (some ⟨M, 0, none⟩)) ∧ W.cell? ⟨Fv, 0, none⟩ = some (.func (.func 49) #[] #[]) ∧ W.cell? ⟨Tb, 0, none⟩ = some (.string b)) HCAb.out HCBb.out hP
        have q1 := q.1
        have q2 := q.2.1
        have q3 := q.2.2
        clear q
        go_simp
        exact hK _ _ rfl (hP.pure _ (by decide) _)
      refine ⟨?_, ?_⟩
      · intro done f W hP hdn hd K hK
        have d1 := (hd.1 rfl).2
        have e1 : done 1 = true := (hd.1 rfl).1
        have d2 := (hd.2.1 rfl).2
        have e2 : done 2 = true := (hd.2.1 rfl).1
        clear hd
        replace d1 : f 1 = .func (.func 49) #[] #[] := d1
        replace d2 : f 2 = .string b := d2
        generalize f 1 = x1 at *
        subst d1
        clear e1
        generalize f 2 = x2 at *
        subst d2
        clear e2
        have hx0 := hP.a (hP.o hdn)
        have hent := ent49
        go_simp
        refine Calls.mono (HPKb.out W) ?_
        rintro e W' ⟨rfl, hb⟩
        exact hK _ _ rfl (hP.turnP hdn (hx0.imp (fun lv h => h.ofBelow hb)) _)
      refine ⟨?_, ?_⟩
      · intro done f W hP hdn hd K hK
        have d0 := (hd.1 rfl).2
        have e0 : done 0 = true := (hd.1 rfl).1
        have d3 := (hd.2.1 rfl).2
        have e3 : done 3 = true := (hd.2.1 rfl).1
        clear hd
        replace d0 : f 0 = .pointer (some ⟨M, 0, none⟩) := d0
        replace d3 : f 3 = .string pb := d3
        generalize f 0 = x0 at *
        subst d0
        clear e0
        generalize f 3 = x3 at *
        subst d3
        have hx0 := hP.a hdn
        go_simp
        refine Calls.mono (HWb.out W hx0) ?_
        rintro e W' ⟨rfl, hx1⟩
        exact hK _ _ rfl (hP.turn e3 hx1 _)
      trivial
  case hputa =>
    repeat (refine ⟨fun f v => rfl, ?_⟩)
    trivial
  case stepa =>
    refine ⟨?_, ?_⟩
    · intro done f W hP hdn hd K hK
      clear hd
      have q := TwoB.any (R := fun W => W.cell? ⟨C, 0, none⟩ = some (.pointer (some ⟨M, 0, none⟩)) ∧ W.cell? ⟨Fv, 0, none⟩ = some (.func (.func 49) #[] #[]) ∧ W.cell? ⟨Ta, 0, none⟩ = some (.string a)) HCAa.out HCBa.out hP
      have q1 := q.1
      have q2 := q.2.1
      have q3 := q.2.2
      clear q
      go_simp
      exact hK _ _ rfl (hP.pure _ (by decide) _)
    refine ⟨?_, ?_⟩
    · intro done f W hP hdn hd K hK
      clear hd
      have q := TwoB.any (R := fun W => W.cell? ⟨C, 0, none⟩ = some (.pointer (some ⟨M, 0, none⟩)) ∧ W.cell? ⟨Fv, 0, none⟩ = some (.func (.func 49) #[] #[]) ∧ W.cell? ⟨Ta, 0, none⟩ = some (.string a)) HCAa.out HCBa.out hP
      have q1 := q.1
      have q2 := q.2.1
      have q3 := q.2.2
      clear q
      go_simp
      exact hK _ _ rfl (hP.pure _ (by decide) _)
    refine ⟨?_, ?_⟩
    · intro done f W hP hdn hd K hK
      clear hd
      have q := TwoB.any (R := fun W => W.cell? ⟨C, 0, none⟩ = some (.pointer (some ⟨M, 0, none⟩)) ∧ W.cell? ⟨Fv, 0, none⟩ = some (.func (.func 49) #[] #[]) ∧ W.cell? ⟨Ta, 0, none⟩ = some (.string a)) HCAa.out HCBa.out hP
      have q1 := q.1
      have q2 := q.2.1
      have q3 := q.2.2
      clear q
      go_simp
      exact hK _ _ rfl (hP.pure _ (by decide) _)
    refine ⟨?_, ?_⟩
    · intro done f W hP hdn hd K hK
      have d1 := (hd.1 rfl).2
      have e1 : done 1 = true := (hd.1 rfl).1
      have d2 := (hd.2.1 rfl).2
      have e2 : done 2 = true := (hd.2.1 rfl).1
      clear hd
      replace d1 : f 1 = .func (.func 49) #[] #[] := d1
      replace d2 : f 2 = .string a := d2
      generalize f 1 = x1 at *
      subst d1
      clear e1
      generalize f 2 = x2 at *
      subst d2
      clear e2
      have hx0 := hP.a (hP.o hdn)
      have hent := ent49
      go_simp
      refine Calls.mono (HPKa.out W) ?_
      rintro e W' ⟨rfl, hb⟩
      exact hK _ _ rfl (hP.turnP hdn (hx0.imp (fun lv h => h.ofBelow hb)) _)
    refine ⟨?_, ?_⟩
    · intro done f W hP hdn hd K hK
      have d0 := (hd.1 rfl).2
      have e0 : done 0 = true := (hd.1 rfl).1
      have d3 := (hd.2.1 rfl).2
      have e3 : done 3 = true := (hd.2.1 rfl).1
      clear hd
      replace d0 : f 0 = .pointer (some ⟨M, 0, none⟩) := d0
      replace d3 : f 3 = .string pa := d3
      generalize f 0 = x0 at *
      subst d0
      clear e0
      generalize f 3 = x3 at *
      subst d3
      have hx0 := hP.a hdn
      go_simp
      refine Calls.mono (HWa.out W hx0) ?_
      rintro e W' ⟨rfl, hx1⟩
      exact hK _ _ rfl (hP.turn e3 hx1 _)
    trivial
end Go.Proofs.Ytiohkdpmgkobiaa
