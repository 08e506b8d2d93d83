/- What OctetBack hands to Take, as a call: all that was written is read again, and it is what was put. -/
import Derived.Test.YthojbccoejdmeaaY2
import Derived.Test.YthojbccoejdmeaaR
namespace Go.Proofs.Ythojbccoejdmeaa
open Go.RowKit

structure KG (I G : Nat) (w w' : World) : Prop where
  os : w'.os = w.os
  tape : w'.tape = w.tape
  output : w'.output = w.output
  size : w.heap.size ≤ w'.heap.size
  block : ∀ k, k < w.heap.size → k ≠ I → k ≠ G → w'.heap[k]? = w.heap[k]?
theorem KG.refl (I G : Nat) (w : World) : KG I G w w := ⟨rfl, rfl, rfl, Nat.le_refl _, fun _ _ _ _ => rfl⟩
theorem KG.trans {I G : Nat} {a b c : World} (h : KG I G a b) (k : KG I G b c) : KG I G a c :=
  ⟨k.os.trans h.os, k.tape.trans h.tape, k.output.trans h.output, Nat.le_trans h.size k.size, fun j hj h1 h2 => (k.block j (Nat.lt_of_lt_of_le hj h.size) h1 h2).trans (h.block j hj h1 h2)⟩
theorem KG.ofKI {I G : Nat} {w w' : World} (h : KI I w w') : KG I G w w' := ⟨h.os, h.tape, h.output, h.size, fun k hk h1 _ => h.block k hk h1⟩
theorem KG.cell {I G : Nat} {w w' : World} (h : KG I G w w') {p : Addr} (hp : p.block < w.heap.size) (h1 : p.block ≠ I) (h2 : p.block ≠ G) : w'.cell? p = w.cell? p := World.cell?_of_block (w := w) (h.block p.block hp h1 h2)
theorem PutsAt.kg {w w' : World} {b o I G : Nat} {ps : List Put} (h : PutsAt w b o ps) (hb : b < w.heap.size) (h1 : b ≠ I) (h2 : b ≠ G) (hk : KG I G w w') : PutsAt w' b o ps :=
  ⟨fun i p e => by rw [hk.cell hb h1 h2]; exact h.kind i p e, fun i p e => by rw [hk.cell hb h1 h2]; exact h.n i p e, fun i p e => by rw [hk.cell hb h1 h2]; exact h.x i p e, fun i p e => by rw [hk.cell hb h1 h2]; exact h.s i p e, h.ok, h.len⟩
/-- The state between two puts. -/
structure DoSt (w : World) (I G L b o cap : Nat) (ps : List Put) (s : List UInt8) (W : World) : Prop where
  inp : InIs W I (tx s) 0
  good : W.cell? ⟨G, 0, none⟩ = some (.bool true)
  gfrz : W.frozen? ⟨G, 0, none⟩ = false
  kg : KG I G w W
def DV (I b o cap n m : Nat) (p : Put) : Nat → Value → Prop
  | 0, v => v = .bool true
  | 1, v => v = .bool true
  | 2, v => v = .pointer (some ⟨I, 0, none⟩)
  | 3, v => v = .int .u64 (p.x : Nat)
  | 4, v => v = .slice (some ⟨b, o, none⟩) n cap
  | 5, v => v = .int .i64 (m : Nat)
  | 6, v => v = .pointer (some ⟨b, o + m * 4, none⟩)
  | 7, v => v = .pointer (some ⟨b, o + m * 4 + 2, none⟩)
  | 8, v => v = .int .u64 (p.x : Nat)
  | 9, v => v = .bool true
  | 10, v => v = .bool true
  | 11, v => v = .bool true
  | 12, v => v = .pointer (some ⟨I, 0, none⟩)
  | 13, v => v = .string p.q
  | 14, v => v = .slice (some ⟨b, o, none⟩) n cap
  | 15, v => v = .int .i64 (m : Nat)
  | 16, v => v = .pointer (some ⟨b, o + m * 4, none⟩)
  | 17, v => v = .pointer (some ⟨b, o + m * 4 + 3, none⟩)
  | 18, v => v = .string p.s
  | 19, v => v = .string p.q
  | 20, v => v = .bool true
  | 21, v => v = .bool true
  | _, _ => True
structure DPh (w : World) (I G : Nat) (p : Put) (r : List UInt8) (done : Nat → Bool) (f : Nat → Value) (W : World) : Prop where
  c11 : done 11 = true → done 3 = true
  c13 : done 3 = false → done 13 = false
  inp : InIs W I (tx (if done 13 = true then r else if done 3 = true then numB p.q.size 2 ++ (p.q.data.toList ++ r) else p.one ++ r)) 0
  good : W.cell? ⟨G, 0, none⟩ = some (.bool true)
  gfrz : W.frozen? ⟨G, 0, none⟩ = false
  kg : KG I G w W
section
variable {w : World} {I G : Nat} {p : Put} {r : List UInt8} {done : Nat → Bool} {f : Nat → Value} {W : World}
theorem DPh.pure (h : DPh w I G p r done f W) (i : Nat) (hi : i ≠ 3 ∧ i ≠ 11 ∧ i ≠ 13) (v : Value) : DPh w I G p r (updB done i) (upd f i v) W := by
  have a3 : updB done i 3 = done 3 := if_neg (Ne.symm hi.1)
  have a11 : updB done i 11 = done 11 := if_neg (Ne.symm hi.2.1)
  have a13 : updB done i 13 = done 13 := if_neg (Ne.symm hi.2.2)
  exact ⟨by rw [a3, a11]; exact h.c11, by rw [a3, a13]; exact h.c13, by rw [a3, a13]; exact h.inp, h.good, h.gfrz, h.kg⟩
theorem DPh.pure11 (h : DPh w I G p r done f W) (e3 : done 3 = true) (v : Value) : DPh w I G p r (updB done 11) (upd f 11 v) W := by
  have a3 : updB done 11 3 = done 3 := if_neg (by decide)
  have a13 : updB done 11 13 = done 13 := if_neg (by decide)
  exact ⟨fun _ => by rw [a3]; exact e3, by rw [a3, a13]; exact h.c13, by rw [a3, a13]; exact h.inp, h.good, h.gfrz, h.kg⟩
theorem DPh.num (h : DPh w I G p r done f W) (h3 : done 3 = false) (hx : p.x < 18446744073709551616) (hr : r.length ≤ 10000) (n5 : I ≠ G) :
    Calls Try.prog 22 #[.pointer (some ⟨I, 0, none⟩), .int .i64 8] W fun e W' => e = .returned (.int .u64 (p.x : Nat)) ∧ ∀ v, DPh w I G p r (updB done 3) (upd f 3 v) W' := by
  have h13 := h.c13 h3
  have hi := h.inp
  rw [if_neg (by rw [h13]; decide), if_neg (by rw [h3]; decide)] at hi
  have hq := q_size p
  have ho := one_length p
  have hwd : wd 8 = 8 := by decide
  have hz : (tx (p.one ++ r)).size = p.one.length + r.length := by rw [tx_size, List.length_append]
  obtain ⟨r1, r2⟩ := read_num p r hx
  refine Calls.mono (num_in I (tx (p.one ++ r)) 8 (by rw [hwd, hz]; omega) (by rw [hz]; omega) W hi) ?_
  rintro e W' ⟨he, hi2, hk⟩
  rw [hwd, r1] at he
  rw [hwd, r2] at hi2
  refine ⟨he, fun v => ?_⟩
  have a3 : updB done 3 3 = true := if_pos rfl
  have a13 : updB done 3 13 = done 13 := if_neg (by decide)
  have hgl := World.block_lt_of_cell? W _ h.good
  refine ⟨fun _ => a3, (fun e => by rw [a3] at e; cases e), ?_, ?_, ?_, h.kg.trans (KG.ofKI hk)⟩
  · rw [a13, if_neg (by rw [h13]; decide), if_pos a3]; exact hi2
  · rw [hk.cell hgl (Ne.symm n5)]; exact h.good
  · rw [hk.frozen hgl (Ne.symm n5)]; exact h.gfrz
theorem DPh.text (h : DPh w I G p r done f W) (h13 : done 13 = false) (h3 : done 3 = true) (hr : r.length ≤ 10000) (n5 : I ≠ G) :
    Calls Try.prog 23 #[.pointer (some ⟨I, 0, none⟩)] W fun e W' => e = .returned (.string p.q) ∧ ∀ v, DPh w I G p r (updB done 13) (upd f 13 v) W' := by
  have hi := h.inp
  rw [if_neg (by rw [h13]; decide), if_pos h3] at hi
  have hq := q_size p
  obtain ⟨r1, r2, r3, r4⟩ := read_text p r
  have hz : (tx (numB p.q.size 2 ++ (p.q.data.toList ++ r))).size = 2 + (p.q.size + r.length) := by rw [tx_size, List.length_append, List.length_append, numB_length, ← size_list]
  refine Calls.mono (text_in I _ p.q.size r1.symm (by rw [hz]; omega) (by rw [hz]; omega) (by rw [hz]; omega) W hi) ?_
  rintro e W' ⟨he, hi2, hk⟩
  rw [r2, r3] at he
  rw [r2, r4] at hi2
  refine ⟨he, fun v => ?_⟩
  have a3 : updB done 13 3 = done 3 := if_neg (by decide)
  have a13 : updB done 13 13 = true := if_pos rfl
  have hgl := World.block_lt_of_cell? W _ h.good
  refine ⟨fun _ => by rw [a3]; exact h3, (fun e => by rw [a3, h3] at e; cases e), ?_, ?_, ?_, h.kg.trans (KG.ofKI hk)⟩
  · rw [if_pos a13]; exact hi2
  · rw [hk.cell hgl (Ne.symm n5)]; exact h.good
  · rw [hk.frozen hgl (Ne.symm n5)]; exact h.gfrz
theorem DPh.store (h : DPh w I G p r done f W) (n5 : I ≠ G) (v : Value) : DPh w I G p r (updB done 22) (upd f 22 v) (W.setCell ⟨G, 0, none⟩ (.bool true)) := by
  have h2 := h.pure 22 (by decide) v
  have hk : KG I G W (W.setCell ⟨G, 0, none⟩ (.bool true)) := ⟨rfl, rfl, rfl, by simp, fun k _ _ hG => Below.heap_setCell W _ _ k hG⟩
  have hne : ∀ o1, (⟨I, o1, none⟩ : Addr) ≠ ⟨G, 0, none⟩ := fun o1 e => n5 (congrArg Addr.block e)
  refine ⟨h2.c11, h2.c13, ?_, World.cell?_setCell_same W _ _ h.good, by rw [World.frozen?_setCell]; exact h.gfrz, h.kg.trans hk⟩
  obtain ⟨c0, c1, f0, f1⟩ := h2.inp
  exact ⟨by rw [World.cell?_setCell_other W _ _ _ (Ne.symm (hne 0))]; exact c0, by rw [World.cell?_setCell_other W _ _ _ (Ne.symm (hne 1))]; exact c1, by rw [World.frozen?_setCell]; exact f0, by rw [World.frozen?_setCell]; exact f1⟩
end
set_option maxHeartbeats 1000000 in
set_option maxRecDepth 100000 in
theorem back_do (w : World) (I G L b o cap z : Nat) (ao : Option Addr) (ps : List Put) (hao : 0 < ps.length → ao = some ⟨b, o, none⟩) (hL : w.cell? ⟨L, 0, none⟩ = some (.slice ao ps.length cap)) (hp : PutsAt w b o ps) (hb : b < w.heap.size)
    (hLs : L < w.heap.size) (n1 : L ≠ I) (n2 : L ≠ G) (n3 : b ≠ I) (n4 : b ≠ G) (n5 : I ≠ G) (hz : z ≤ 1000) (h0 : DoSt w I G L b o cap ps (encs (ps.take 12) ++ List.replicate z 0) w) :
    Calls Try.prog 21 #[.pointer (some ⟨I, 0, none⟩), .pointer (some ⟨L, 0, none⟩), .pointer (some ⟨G, 0, none⟩)] w fun e w' => e = .returned (.tuple #[]) ∧ InIs w' I ⟨#[]⟩ 0 ∧ w'.cell? ⟨G, 0, none⟩ = some (.bool true) ∧ KG I G w w' := by
  have hlen := hp.len
  have H0 : Hid (DoSt w I G L b o cap ps (encs (ps.take 12) ++ List.replicate z 0) w) := h0
  clear h0
  go_enter Try.func21, Try.ntmps21
  go_wp2_with fail
  go_loopw [4] (fun i wr => ∃ m : Nat, m ≤ ps.length ∧ m ≤ 12 ∧ i = .int .i64 (m : Nat) ∧ Hid (DoSt w I G L b o cap ps (encs ((ps.take 12).drop m) ++ List.replicate z 0) wr))
    (fun i _ => 12 - (intOf i).toNat)
  case atStart => exact ⟨0, by omega, by omega, rfl, H0⟩
  case round =>
    obtain ⟨m, hm, hm12, rfl, hS⟩ := hrel
    clear H0
    have hLr : wr.cell? ⟨L, 0, none⟩ = some (.slice ao ps.length cap) := by rw [hS.out.kg.cell hLs n1 n2]; exact hL
    by_cases hin : m < ps.length ∧ m < 12
    · obtain ⟨h1, h2⟩ := hin
      obtain rfl : ao = some ⟨b, o, none⟩ := hao (by omega)
      clear hao
      obtain ⟨p, hpk⟩ : ∃ p, ps[m]? = some p := ⟨_, List.getElem?_eq_getElem h1⟩
      have hpx := hp.ok p (List.mem_of_getElem? hpk)
      have hpk2 : (ps.take 12)[m]? = some p := by rw [List.getElem?_take, if_pos h2]; exact hpk
      have hdr := encs_drop (ps.take 12) m p hpk2
      go_wp2_with fail
      generalize decide ((m : Int) < 12) = bt
      rw [hdr, List.append_assoc] at hS
      have hrl : (encs ((ps.take 12).drop (m + 1)) ++ List.replicate z 0).length ≤ 10000 := by
        have := encs_length ((ps.take 12).drop (m + 1))
        rw [List.length_drop, List.length_take] at this
        rw [List.length_append, List.length_replicate]; omega
      generalize hr : encs ((ps.take 12).drop (m + 1)) ++ List.replicate z 0 = r at *
      refine wp_region_ph (fun f => ⟨#[.pointer (some ⟨I, 0, none⟩), .pointer (some ⟨L, 0, none⟩), .pointer (some ⟨G, 0, none⟩), undef, .int .i64 (m : Nat), .int .i64 (m : Nat), .slice (some ⟨b, o, none⟩) ps.length cap, .int .i64 (ps.length : Nat), .bool true, .bool true, .int .i64 (m : Nat), .bool bt, .bool bt, u13, u14, f 0, f 1, f 2, f 3, f 4, f 5, f 6, f 7, f 8, f 9, f 10, f 11, f 12, f 13, f 14, f 15, f 16, f 17, f 18, f 19, f 20, f 21, undef, undef], []⟩) (DV I b o cap ps.length m p) (DPh w I G p r) (fun i => [u15, u16, u17, u18, u19, u20, u21, u22, u23, u24, u25, u26, u27, u28, u29, u30, u31, u32, u33, u34, u35, u36].getD i undef) (by kernel_rfl) rfl rfl ?hI ?hput ?step ?fin
      case hI =>
        obtain ⟨q1, q2, q3, q4⟩ := hS.out
        exact ⟨fun e => (by cases e), fun _ => rfl, ⟨q1.1, q1.2, q1.3, q1.4⟩, q2, q3, ⟨q4.os, q4.tape, q4.output, q4.size, q4.block⟩⟩
      case fin =>
        intro f W hP hV
        have hS2 : Hid (DoSt w I G L b o cap ps (encs ((ps.take 12).drop (m + 1)) ++ List.replicate z 0) W) := by
          rw [hr]; exact ⟨hP.inp, hP.good, hP.gfrz, hP.kg⟩
        clear hP hV
        go_wp2
        go_roundw
        case rel => exact ⟨m + 1, by omega, by omega, rfl, hS2⟩
        case measure => simp only [intOf]; omega
      case hput =>
        repeat (refine ⟨fun f v => rfl, ?_⟩)
        trivial
      case step =>
        refine ⟨?_, ?_⟩
        · intro done f W hP hdn hd K hK
          clear hd
          have hcG := hP.good
          go_simp
          exact hK _ _ rfl (hP.pure _ (by decide) _)
        refine ⟨?_, ?_⟩
        · intro done f W hP hdn hd K hK
          have d0 := (hd.1 rfl).2
          have e0 := (hd.1 rfl).1
          clear hd
          replace d0 : f 0 = .bool true := d0
          generalize f 0 = x0 at *
          subst d0
          clear e0
          go_simp
          exact hK _ _ rfl (hP.pure _ (by decide) _)
        refine ⟨?_, ?_⟩
        · intro done f W hP hdn hd K hK
          have d1 := (hd.1 rfl).2
          have e1 := (hd.1 rfl).1
          clear hd
          replace d1 : f 1 = .bool true := d1
          generalize f 1 = x1 at *
          subst d1
          clear e1
          go_simp
          exact hK _ _ rfl (hP.pure _ (by decide) _)
        refine ⟨?_, ?_⟩
        · intro done f W hP hdn hd K hK
          have d2 := (hd.1 rfl).2
          have d1 := (hd.2.2.1 rfl).2
          have e2 := (hd.1 rfl).1
          have e1 := (hd.2.2.1 rfl).1
          clear hd
          replace d2 : f 2 = .pointer (some ⟨I, 0, none⟩) := d2
          replace d1 : f 1 = .bool true := d1
          generalize f 2 = x2 at *
          subst d2
          clear e2
          generalize f 1 = x1 at *
          subst d1
          clear e1
          go_simp
          have hdn3 : done 3 = false := hdn
          refine Calls.mono (hP.num hdn3 hpx.1 hrl n5) ?_
          rintro e W' ⟨rfl, hw⟩
          exact hK _ _ rfl (hw _)
        refine ⟨?_, ?_⟩
        · intro done f W hP hdn hd K hK
          have d1 := (hd.1 rfl).2
          have e1 := (hd.1 rfl).1
          clear hd
          replace d1 : f 1 = .bool true := d1
          generalize f 1 = x1 at *
          subst d1
          clear e1
          have hcL : W.cell? ⟨L, 0, none⟩ = some (.slice (some ⟨b, o, none⟩) ps.length cap) := by rw [hP.kg.cell hLs n1 n2]; exact hL
          go_simp
          exact hK _ _ rfl (hP.pure _ (by decide) _)
        refine ⟨?_, ?_⟩
        · intro done f W hP hdn hd K hK
          have d1 := (hd.1 rfl).2
          have e1 := (hd.1 rfl).1
          clear hd
          replace d1 : f 1 = .bool true := d1
          generalize f 1 = x1 at *
          subst d1
          clear e1
          go_simp
          exact hK _ _ rfl (hP.pure _ (by decide) _)
        refine ⟨?_, ?_⟩
        · intro done f W hP hdn hd K hK
          have d4 := (hd.1 rfl).2
          have d5 := (hd.2.1 rfl).2
          have d1 := (hd.2.2.1 rfl).2
          have e4 := (hd.1 rfl).1
          have e5 := (hd.2.1 rfl).1
          have e1 := (hd.2.2.1 rfl).1
          clear hd
          replace d4 : f 4 = .slice (some ⟨b, o, none⟩) ps.length cap := d4
          replace d5 : f 5 = .int .i64 (m : Nat) := d5
          replace d1 : f 1 = .bool true := d1
          generalize f 4 = x4 at *
          subst d4
          clear e4
          generalize f 5 = x5 at *
          subst d5
          clear e5
          generalize f 1 = x1 at *
          subst d1
          clear e1
          go_simp
          exact hK _ _ rfl (hP.pure _ (by decide) _)
        refine ⟨?_, ?_⟩
        · intro done f W hP hdn hd K hK
          have d6 := (hd.1 rfl).2
          have d1 := (hd.2.1 rfl).2
          have e6 := (hd.1 rfl).1
          have e1 := (hd.2.1 rfl).1
          clear hd
          replace d6 : f 6 = .pointer (some ⟨b, o + m * 4, none⟩) := d6
          replace d1 : f 1 = .bool true := d1
          generalize f 6 = x6 at *
          subst d6
          clear e6
          generalize f 1 = x1 at *
          subst d1
          clear e1
          go_simp
          exact hK _ _ rfl (hP.pure _ (by decide) _)
        refine ⟨?_, ?_⟩
        · intro done f W hP hdn hd K hK
          have d7 := (hd.1 rfl).2
          have d1 := (hd.2.1 rfl).2
          have e7 := (hd.1 rfl).1
          have e1 := (hd.2.1 rfl).1
          clear hd
          replace d7 : f 7 = .pointer (some ⟨b, o + m * 4 + 2, none⟩) := d7
          replace d1 : f 1 = .bool true := d1
          generalize f 7 = x7 at *
          subst d7
          clear e7
          generalize f 1 = x1 at *
          subst d1
          clear e1
          have hcx := (hp.kg hb n3 n4 hP.kg).x m p hpk
          go_simp
          exact hK _ _ rfl (hP.pure _ (by decide) _)
        refine ⟨?_, ?_⟩
        · intro done f W hP hdn hd K hK
          have d3 := (hd.1 rfl).2
          have d8 := (hd.2.1 rfl).2
          have d1 := (hd.2.2.1 rfl).2
          have e3 := (hd.1 rfl).1
          have e8 := (hd.2.1 rfl).1
          have e1 := (hd.2.2.1 rfl).1
          clear hd
          replace d3 : f 3 = .int .u64 (p.x : Nat) := d3
          replace d8 : f 8 = .int .u64 (p.x : Nat) := d8
          replace d1 : f 1 = .bool true := d1
          generalize f 3 = x3 at *
          subst d3
          clear e3
          generalize f 8 = x8 at *
          subst d8
          clear e8
          generalize f 1 = x1 at *
          subst d1
          clear e1
          go_simp
          exact hK _ _ rfl (hP.pure _ (by decide) _)
        refine ⟨?_, ?_⟩
        · intro done f W hP hdn hd K hK
          have d1 := (hd.1 rfl).2
          have d9 := (hd.2.1 rfl).2
          have e1 := (hd.1 rfl).1
          have e9 := (hd.2.1 rfl).1
          clear hd
          replace d1 : f 1 = .bool true := d1
          replace d9 : f 9 = .bool true := d9
          generalize f 1 = x1 at *
          subst d1
          clear e1
          generalize f 9 = x9 at *
          subst d9
          clear e9
          go_simp
          exact hK _ _ rfl (hP.pure _ (by decide) _)
        refine ⟨?_, ?_⟩
        · intro done f W hP hdn hd K hK
          have d10 := (hd.1 rfl).2
          have d3 := (hd.2.1 rfl).2
          have e10 := (hd.1 rfl).1
          have e3 := (hd.2.1 rfl).1
          clear hd
          replace d10 : f 10 = .bool true := d10
          replace d3 : f 3 = .int .u64 (p.x : Nat) := d3
          have e3' := e3
          clear d3 e3
          generalize f 10 = x10 at *
          subst d10
          clear e10
          go_simp
          exact hK _ _ rfl (hP.pure11 e3' _)
        refine ⟨?_, ?_⟩
        · intro done f W hP hdn hd K hK
          have d11 := (hd.1 rfl).2
          have e11 := (hd.1 rfl).1
          clear hd
          replace d11 : f 11 = .bool true := d11
          generalize f 11 = x11 at *
          subst d11
          clear e11
          go_simp
          exact hK _ _ rfl (hP.pure _ (by decide) _)
        refine ⟨?_, ?_⟩
        · intro done f W hP hdn hd K hK
          have d12 := (hd.1 rfl).2
          have d11 := (hd.2.2.1 rfl).2
          have e12 := (hd.1 rfl).1
          have e11 := (hd.2.2.1 rfl).1
          clear hd
          replace d12 : f 12 = .pointer (some ⟨I, 0, none⟩) := d12
          replace d11 : f 11 = .bool true := d11
          have e11' := e11
          generalize f 12 = x12 at *
          subst d12
          clear e12
          generalize f 11 = x11 at *
          subst d11
          clear e11
          go_simp
          have hdn13 : done 13 = false := hdn
          refine Calls.mono (hP.text hdn13 (hP.c11 e11') hrl n5) ?_
          rintro e W' ⟨rfl, hw⟩
          exact hK _ _ rfl (hw _)
        refine ⟨?_, ?_⟩
        · intro done f W hP hdn hd K hK
          have d11 := (hd.1 rfl).2
          have e11 := (hd.1 rfl).1
          clear hd
          replace d11 : f 11 = .bool true := d11
          generalize f 11 = x11 at *
          subst d11
          clear e11
          have hcL : W.cell? ⟨L, 0, none⟩ = some (.slice (some ⟨b, o, none⟩) ps.length cap) := by rw [hP.kg.cell hLs n1 n2]; exact hL
          go_simp
          exact hK _ _ rfl (hP.pure _ (by decide) _)
        refine ⟨?_, ?_⟩
        · intro done f W hP hdn hd K hK
          have d11 := (hd.1 rfl).2
          have e11 := (hd.1 rfl).1
          clear hd
          replace d11 : f 11 = .bool true := d11
          generalize f 11 = x11 at *
          subst d11
          clear e11
          go_simp
          exact hK _ _ rfl (hP.pure _ (by decide) _)
        refine ⟨?_, ?_⟩
        · intro done f W hP hdn hd K hK
          have d14 := (hd.1 rfl).2
          have d15 := (hd.2.1 rfl).2
          have d11 := (hd.2.2.1 rfl).2
          have e14 := (hd.1 rfl).1
          have e15 := (hd.2.1 rfl).1
          have e11 := (hd.2.2.1 rfl).1
          clear hd
          replace d14 : f 14 = .slice (some ⟨b, o, none⟩) ps.length cap := d14
          replace d15 : f 15 = .int .i64 (m : Nat) := d15
          replace d11 : f 11 = .bool true := d11
          generalize f 14 = x14 at *
          subst d14
          clear e14
          generalize f 15 = x15 at *
          subst d15
          clear e15
          generalize f 11 = x11 at *
          subst d11
          clear e11
          go_simp
          exact hK _ _ rfl (hP.pure _ (by decide) _)
        refine ⟨?_, ?_⟩
        · intro done f W hP hdn hd K hK
          have d16 := (hd.1 rfl).2
          have d11 := (hd.2.1 rfl).2
          have e16 := (hd.1 rfl).1
          have e11 := (hd.2.1 rfl).1
          clear hd
          replace d16 : f 16 = .pointer (some ⟨b, o + m * 4, none⟩) := d16
          replace d11 : f 11 = .bool true := d11
          generalize f 16 = x16 at *
          subst d16
          clear e16
          generalize f 11 = x11 at *
          subst d11
          clear e11
          go_simp
          exact hK _ _ rfl (hP.pure _ (by decide) _)
        refine ⟨?_, ?_⟩
        · intro done f W hP hdn hd K hK
          have d17 := (hd.1 rfl).2
          have d11 := (hd.2.1 rfl).2
          have e17 := (hd.1 rfl).1
          have e11 := (hd.2.1 rfl).1
          clear hd
          replace d17 : f 17 = .pointer (some ⟨b, o + m * 4 + 3, none⟩) := d17
          replace d11 : f 11 = .bool true := d11
          generalize f 17 = x17 at *
          subst d17
          clear e17
          generalize f 11 = x11 at *
          subst d11
          clear e11
          have hcx := (hp.kg hb n3 n4 hP.kg).s m p hpk
          go_simp
          exact hK _ _ rfl (hP.pure _ (by decide) _)
        refine ⟨?_, ?_⟩
        · intro done f W hP hdn hd K hK
          have d18 := (hd.1 rfl).2
          have d11 := (hd.2.2.1 rfl).2
          have e18 := (hd.1 rfl).1
          have e11 := (hd.2.2.1 rfl).1
          clear hd
          replace d18 : f 18 = .string p.s := d18
          replace d11 : f 11 = .bool true := d11
          generalize f 18 = x18 at *
          subst d18
          clear e18
          generalize f 11 = x11 at *
          subst d11
          clear e11
          go_simp
          refine Calls.mono (cut_any p.s 20 (by omega) W) ?_
          rintro e W' ⟨rfl, rfl⟩
          exact hK _ _ rfl (hP.pure _ (by decide) _)
        refine ⟨?_, ?_⟩
        · intro done f W hP hdn hd K hK
          have d13 := (hd.1 rfl).2
          have d19 := (hd.2.1 rfl).2
          have d11 := (hd.2.2.1 rfl).2
          have e13 := (hd.1 rfl).1
          have e19 := (hd.2.1 rfl).1
          have e11 := (hd.2.2.1 rfl).1
          clear hd
          replace d13 : f 13 = .string p.q := d13
          replace d19 : f 19 = .string p.q := d19
          replace d11 : f 11 = .bool true := d11
          generalize f 13 = x13 at *
          subst d13
          clear e13
          generalize f 19 = x19 at *
          subst d19
          clear e19
          generalize f 11 = x11 at *
          subst d11
          clear e11
          go_simp
          exact hK _ _ rfl (hP.pure _ (by decide) _)
        refine ⟨?_, ?_⟩
        · intro done f W hP hdn hd K hK
          have d11 := (hd.1 rfl).2
          have d20 := (hd.2.1 rfl).2
          have e11 := (hd.1 rfl).1
          have e20 := (hd.2.1 rfl).1
          clear hd
          replace d11 : f 11 = .bool true := d11
          replace d20 : f 20 = .bool true := d20
          generalize f 11 = x11 at *
          subst d11
          clear e11
          generalize f 20 = x20 at *
          subst d20
          clear e20
          go_simp
          exact hK _ _ rfl (hP.pure _ (by decide) _)
        refine ⟨?_, ?_⟩
        · intro done f W hP hdn hd K hK
          have d21 := (hd.1 rfl).2
          have e21 := (hd.1 rfl).1
          clear hd
          replace d21 : f 21 = .bool true := d21
          generalize f 21 = x21 at *
          subst d21
          clear e21
          have hcG := hP.good
          have hfG := hP.gfrz
          go_simp
          exact hK undef _ trivial (hP.store n5 _)
        trivial
    · have hx : ps.length ≤ m ∨ 12 ≤ m := by omega
      have hd : encs ((ps.take 12).drop m) = [] := by
        rw [List.drop_eq_nil_of_le (by rw [List.length_take]; omega)]; rfl
      rw [hd, List.nil_append] at hS
      obtain ⟨hi, hg, _, hk⟩ := hS.out
      have hza := zero_any I (tx (List.replicate z 0)) (by rw [tx_size, List.length_replicate]; omega) wr hi
      rcases hx with hx | hx
      all_goals go_wp2_with fail
      all_goals go_call hza as e w3 ⟨hz1, _, hz3⟩
      all_goals obtain ⟨rfl, hz2⟩ := hz1 (zeros_rep z)
      all_goals go_wp2
      all_goals go_returns
      all_goals exact ⟨rfl, hz2, by rw [hz3.cell (World.block_lt_of_cell? wr _ hg) (Ne.symm n5)]; exact hg, hk.trans (KG.ofKI hz3)⟩
end Go.Proofs.Ythojbccoejdmeaa
