/- SeglogTurns as a call: of any numbers it returns true, and nothing that was there has turned. -/
import Derived.Test.YtncfbocbigdhiaaGreatQMC
import Derived.Lib.MinMax
namespace Go.Proofs.YtncfbocbigdhiaaGreat.U
open Go Go.RowKit Go.Sort
/-- Two variables are set, then a box. -/
structure PhN (v9 v10 : Value) (X0 X1 : World → Prop) (done : Nat → Bool) (f : Nat → Value) (W : World) : Prop where
  tw : F.Two 11 X0 X1 done f W
  v9 : done 9 = false → f 9 = v9
  v10 : done 10 = false → f 10 = v10
  o9 : done 9 = true → done 0 = true
  o10 : done 10 = true → done 3 = true
  o11 : done 11 = true → ∀ j, j < 11 → done j = true
section
variable {v9 v10 : Value} {X0 X1 : World → Prop} {done : Nat → Bool} {f : Nat → Value} {W W' : World}
theorem PhN.start {f : Nat → Value} (h : X0 W) (h9 : f 9 = v9) (h10 : f 10 = v10) : PhN v9 v10 X0 X1 (fun _ => false) f W := ⟨F_two_start h, fun _ => h9, fun _ => h10, (fun e => by cases e), (fun e => by cases e), (fun e => by cases e)⟩
theorem PhN.v9' (h : PhN v9 v10 X0 X1 done f W) (hd : done 0 = false) : f 9 = v9 := h.v9 (by
  cases e : done 9 with
  | false => rfl
  | true => rw [h.o9 e] at hd; cases hd)
theorem PhN.v10' (h : PhN v9 v10 X0 X1 done f W) (hd : done 3 = false) : f 10 = v10 := h.v10 (by
  cases e : done 10 with
  | false => rfl
  | true => rw [h.o10 e] at hd; cases hd)
theorem PhN.n11 (h : PhN v9 v10 X0 X1 done f W) {j : Nat} (hj : j < 11) (hd : done j = false) : done 11 = false := by
  cases e : done 11 with
  | false => rfl
  | true => rw [h.o11 e j hj] at hd; cases hd
theorem PhN.pure (h : PhN v9 v10 X0 X1 done f W) {k : Nat} (u : Value) (h9 : 9 ≠ k) (h10 : 10 ≠ k) (h11 : k ≠ 11) : PhN v9 v10 X0 X1 (F.updB done k) (F.upd f k u) W := by
  have e9 : F.updB done k 9 = done 9 := if_neg h9
  have e10 : F.updB done k 10 = done 10 := if_neg h10
  have e11 : F.updB done k 11 = done 11 := if_neg (Ne.symm h11)
  have f9 : F.upd f k u 9 = f 9 := if_neg h9
  have f10 : F.upd f k u 10 = f 10 := if_neg h10
  exact ⟨h.tw.pure k h11 u, by rw [e9, f9]; exact h.v9, by rw [e10, f10]; exact h.v10, by rw [e9]; exact fun e => upB_le (h.o9 e), by rw [e10]; exact fun e => upB_le (h.o10 e), by rw [e11]; exact fun e j hj => upB_le (h.o11 e j hj)⟩
theorem PhN.nine (h : PhN v9 v10 X0 X1 done f W) (u : Value) (h0 : done 0 = true) : PhN v9 v10 X0 X1 (F.updB done 9) (F.upd f 9 u) W :=
  ⟨h.tw.pure 9 (by decide) u, (fun e => by cases e), h.v10, fun _ => upB_le h0, fun e => upB_le (h.o10 e), fun e j hj => upB_le (h.o11 e j hj)⟩
theorem PhN.ten (h : PhN v9 v10 X0 X1 done f W) (u : Value) (h3 : done 3 = true) : PhN v9 v10 X0 X1 (F.updB done 10) (F.upd f 10 u) W :=
  ⟨h.tw.pure 10 (by decide) u, h.v9, (fun e => by cases e), fun e => upB_le (h.o9 e), fun _ => upB_le h3, fun e j hj => upB_le (h.o11 e j hj)⟩
theorem PhN.eleven (h : PhN v9 v10 X0 X1 done f W) (u : Value) (ha : ∀ j, j < 11 → done j = true) (hX : X1 W') : PhN v9 v10 X0 X1 (F.updB done 11) (F.upd f 11 u) W' := by
  refine ⟨h.tw.turn hX u, fun e => ?_, fun e => ?_, fun _ => upB_le (ha 0 (by decide)), fun _ => upB_le (ha 3 (by decide)), fun _ j hj => upB_le (ha j hj)⟩
  · have e2 : done 9 = false := e
    rw [ha 9 (by decide)] at e2; cases e2
  · have e2 : done 10 = false := e
    rw [ha 10 (by decide)] at e2; cases e2
end
def V10 (p0 p1 n0 : Int) (ns p n : Nat) : Nat → Value → Prop
  | 0, v => v = .int .i64 p0
  | 1, v => v = .int .i64 (min p0 6)
  | 2, v => v = .int .i64 (ns : Nat)
  | 3, v => v = .int .i64 p1
  | 4, v => v = .int .i64 (min p1 20)
  | 5, v => v = .int .i64 (p : Nat)
  | 6, v => v = .int .i64 n0
  | 7, v => v = .int .i64 (min n0 40)
  | 8, v => v = .int .i64 (n : Nat)
  | 9, v => v = .int .i64 (ns : Nat)
  | 10, v => v = .int .i64 (p : Nat)
  | _, _ => True
def V10b (p ns n Lb K : Nat) (tv tu : Value) : Nat → Value → Prop
  | 0, v => v = .bool false
  | 1, v => v = .bool true
  | 2, v => v = .bool true
  | 3, v => v = .bool true
  | 4, v => v = .bool true
  | 5, v => v = .bool true
  | 6, v => v = tv
  | 7, v => v = tu
  | 8, v => v = .bool true
  | 9, v => v = .bool true
  | 10, v => v = .bool true
  | 11, v => v = .pointer (some ⟨Lb, 0, none⟩)
  | 13, v => v = .int .i64 (K : Nat)
  | 14, v => v = .int .i64 (n : Nat)
  | 15, v => v = .int .i64 (ns : Nat)
  | 16, v => v = .int .i64 ((ns : Int) - 1)
  | 17, v => v = .int .i64 (K : Nat)
  | 18, v => v = .bool true
  | 19, v => v = .bool true
  | 20, v => v = .bool true
  | _, _ => True
/-- A statement that only reads; one of its calls answers a row of so many. -/
structure PhR (i : Nat) (P : World → Prop) (K : Nat) (done : Nat → Bool) (f : Nat → Value) (W : World) : Prop where
  p : P W
  r : done i = true → ∃ ao cp, f i = .slice ao K cp
theorem PhR.step {i : Nat} {P : World → Prop} {K : Nat} {done : Nat → Bool} {f : Nat → Value} {W W' : World} (h : PhR i P K done f W) (v : Value) {j : Nat} (hj : i ≠ j) (hP : P W') : PhR i P K (F.updB done j) (F.upd f j v) W' := by
  have e1 : F.updB done j i = done i := if_neg hj
  have f1 : F.upd f j v i = f i := if_neg hj
  exact ⟨hP, by rw [e1, f1]; exact h.r⟩
theorem PhR.row {i : Nat} {P : World → Prop} {K : Nat} {done : Nat → Bool} {f : Nat → Value} {W W' : World} (_ : PhR i P K done f W) (ao : Option Addr) (cp : Nat) (hP : P W') : PhR i P K (F.updB done i) (F.upd f i (.slice ao K cp)) W' :=
  ⟨hP, fun _ => ⟨ao, cp, if_pos rfl⟩⟩
theorem flat_len : ∀ {X : List (Nat × List ByteArray)}, (∀ s ∈ X, s.2.length = 1) → (X.flatMap Prod.snd).length = X.length
  | [], _ => rfl
  | a :: X, h => by
    rw [List.flatMap_cons, List.length_append, h a (List.mem_cons_self ..), flat_len (fun s hs => h s (List.mem_cons_of_mem _ hs))]
    simp; omega
set_option maxHeartbeats 8000000 in
set_option maxRecDepth 100000 in
theorem turns_walk (p0 p1 n0 : Int) (w : World) : Calls Tryz.prog 10 #[.int .i64 p0, .int .i64 p1, .int .i64 n0] w fun e w' => e = .returned (.bool true) ∧ Below w.heap.size w w' := by
  have haw := awake33 (w.alloc (.cells #[.int .i64 n0] 3))
  obtain ⟨ns, hns⟩ : ∃ m : Nat, max 2 (min p0 6) = (m : Int) := ⟨(max 2 (min p0 6)).toNat, by omega⟩
  obtain ⟨p, hp⟩ : ∃ m : Nat, max 8 (min p1 20) = (m : Int) := ⟨(max 8 (min p1 20)).toNat, by omega⟩
  obtain ⟨n, hn⟩ : ∃ m : Nat, max 0 (min n0 40) = (m : Int) := ⟨(max 0 (min n0 40)).toNat, by omega⟩
  have HNS : Hid (2 ≤ ns ∧ ns ≤ 6) := ⟨by omega, by omega⟩
  have HP : Hid (8 ≤ p ∧ p ≤ 20) := ⟨by omega, by omega⟩
  have HN : Hid (n ≤ 40) := by show n ≤ 40; omega
  have c0 : (w.alloc (.cells #[.int .i64 n0] 3)).heap[w.heap.size]? = some (.cells #[.int .i64 n0] 3) := F.heap_new _ _
  go_enter Tryz.func10, Tryz.ntmps10
  go_wp2_with fail
  go_call haw as e w1 ⟨rfl, hb1⟩
  have hlt0 : w.heap.size < (w.alloc (.cells #[.int .i64 n0] 3)).heap.size := F.getElem?_lt c0
  have c1 : w1.heap[w.heap.size]? = some (.cells #[.int .i64 n0] 3) := (hb1.block _ hlt0).trans c0
  have HB1 : Hid (Below w.heap.size w w1) := ((Below.refl _ _).alloc (Nat.le_refl _) _).trans (hb1.mono (Nat.le_of_lt hlt0))
  clear haw hb1 c0 hlt0
  go_wp2
  refine F.wp_region_pb (fun f => ⟨#[f 9, f 10, .int .i64 n0, undef, undef, .pointer (some ⟨w.heap.size, 0, none⟩), .bool false, undef, undef, undef, undef, undef, undef, undef, undef, undef, undef, .bool true, .bool false, f 0, f 1, f 2, f 3, f 4, f 5, f 6, f 7, f 8, undef, undef, undef, undef, undef, undef, undef, undef, undef, undef, undef, undef, undef, undef, undef, undef, undef, undef, undef, undef, undef, undef, undef, undef, undef, undef, undef, undef, undef, undef, undef, undef, undef, undef, undef, undef, undef, undef, undef, undef, undef, undef, undef, undef, undef, undef, undef, undef, undef, undef, undef], []⟩) (V10 p0 p1 n0 ns p n) (PhN (.int .i64 p0) (.int .i64 p1) (fun W => W.heap[w.heap.size]? = some (.cells #[.int .i64 n0] 3) ∧ Below w.heap.size w W) (fun W => W.heap[w.heap.size]? = some (.cells #[.int .i64 (n : Nat)] 3) ∧ Below w.heap.size w W)) (fun i => [undef, undef, undef, undef, undef, undef, undef, undef, undef, .int .i64 p0, .int .i64 p1, undef].getD i undef) (by kernel_rfl) rfl rfl ?hIq ?hputq ?stepq ?finq
  case hIq => exact PhN.start ⟨c1, HB1.out.drew⟩ rfl rfl
  case finq =>
    intro f W hP hV
    have y0 : f 0 = .int .i64 p0 := hV 0 (by decide)
    have y1 : f 1 = .int .i64 (min p0 6) := hV 1 (by decide)
    have y2 : f 2 = .int .i64 (ns : Nat) := hV 2 (by decide)
    have y3 : f 3 = .int .i64 p1 := hV 3 (by decide)
    have y4 : f 4 = .int .i64 (min p1 20) := hV 4 (by decide)
    have y5 : f 5 = .int .i64 (p : Nat) := hV 5 (by decide)
    have y6 : f 6 = .int .i64 n0 := hV 6 (by decide)
    have y7 : f 7 = .int .i64 (min n0 40) := hV 7 (by decide)
    have y8 : f 8 = .int .i64 (n : Nat) := hV 8 (by decide)
    have y9 : f 9 = .int .i64 (ns : Nat) := hV 9 (by decide)
    have y10 : f 10 = .int .i64 (p : Nat) := hV 10 (by decide)
    clear hV
    have HBX : Hid (W.heap[w.heap.size]? = some (.cells #[.int .i64 (n : Nat)] 3) ∧ Below w.heap.size w W) := hP.tw.b rfl
    clear hP
    generalize f 0 = z0 at *
    subst y0
    generalize f 1 = z1 at *
    subst y1
    generalize f 2 = z2 at *
    subst y2
    generalize f 3 = z3 at *
    subst y3
    generalize f 4 = z4 at *
    subst y4
    generalize f 5 = z5 at *
    subst y5
    generalize f 6 = z6 at *
    subst y6
    generalize f 7 = z7 at *
    subst y7
    generalize f 8 = z8 at *
    subst y8
    generalize f 9 = z9 at *
    subst y9
    generalize f 10 = z10 at *
    subst y10
    clear HB1 c1 hns hp hn
    have hpb : 1 + ns * p ≤ 121 := by
      have := Nat.mul_le_mul HNS.out.2 HP.out.2
      omega
    have hmk := F.made_any w.heap.size w W [(w.heap.size, .cells #[.int .i64 (n : Nat)] 3)] HBX.out.2 HBX.out.2.size (by
      intro r hr
      rw [List.mem_singleton.1 hr]
      exact ⟨HBX.out.1, F.apart_of (by decide), Nat.le_refl _⟩) 1 (by decide) (by decide) (1 + ns * p) (by omega) (by omega)
    have e4 : (1 : Int) + (ns : Int) * (p : Int) = ((1 + ns * p : Nat) : Int) := by rw [Int.natCast_add, Int.natCast_mul]; rfl
    obtain ⟨N, hN⟩ : ∃ N, N = 1 + ns * p := ⟨_, rfl⟩
    have HNN : Hid (N = 1 + ns * p ∧ N ≤ 121) := ⟨hN, by omega⟩
    rw [← hN] at hmk e4
    have hpb2 : 0 ≤ (ns : Int) * (p : Int) ∧ (ns : Int) * (p : Int) ≤ 120 := by omega
    have hns6 := HNS.out
    have hp20 := HP.out
    clear hN hpb
    go_wp2_with fail
    go_call hmk as e w2 ⟨L, M0, rfl, o1⟩
    have hd1 := (Dev.ofV (V.dev0 o1)).forget (oth' := [(w.heap.size, .cells #[.int .i64 (n : Nat)] 3)]) (fun r hr => by simp at hr; rw [hr]; simp)
    have hdx : DvX w.heap.size w L 1 N p ns [(w.heap.size, .cells #[.int .i64 (n : Nat)] 3)] 0 [] 0 w2 := ⟨_, _, _, _, _, im_zero N p ns, fun _ _ => Nat.le_refl _, (fun s hs => by cases hs), hd1⟩
    have hop := hdx.open (fun r hr => by
      rw [List.mem_singleton.1 hr]; exact fun _ _ => cells_ne2 (by decide)) hp20 hns6 (by rw [HNN.out.1]; exact Nat.le_refl _) (by have := HNN.out.2; omega) (by decide) (by decide)
    clear hmk o1 hd1 hdx e4 hpb2
    go_wp2_with fail
    go_call hop as e w3 ⟨M, B, tv0, tl0, rfl, htx, hl, hap⟩
    obtain ⟨t0ao, t0n, t0cp, htv0⟩ : ∃ ao m cp, tv0 = .slice ao m cp := by
      obtain ⟨a, b⟩ := Txs.len htx
      exact ⟨a, _, b⟩
    have hl2 := (((hl.drop (base' := [(M, F.med L.P 1 1), (w.heap.size, .cells #[.int .i64 (n : Nat)] 3)]) (by simp) (fun r hr => List.mem_append_right _ hr)).hold (.cells #[.pointer (some ⟨B + 1, 0, none⟩)] 62) (F.apart_of (by decide)) (fun _ _ => cells_ne2 (by decide))).hold (.cells #[.slice none 0 0] 30) (F.apart_of (by decide)) (fun _ _ => cells_ne2 (by decide))).hold (.cells #[.bool true] 4) (F.apart_of (by decide)) (fun _ _ => cells_ne2 (by decide))
    have e5 : (w3.alloc (.cells #[.pointer (some ⟨B + 1, 0, none⟩)] 62)).heap.size = w3.heap.size + 1 := by simp
    have e6 : ((w3.alloc (.cells #[.pointer (some ⟨B + 1, 0, none⟩)] 62)).alloc (.cells #[.slice none 0 0] 30)).heap.size = w3.heap.size + 1 + 1 := by simp
    have e7 : (((w3.alloc (.cells #[.pointer (some ⟨B + 1, 0, none⟩)] 62)).alloc (.cells #[.slice none 0 0] 30)).alloc (.cells #[.bool true] 4)).heap.size = w3.heap.size + 1 + 1 + 1 := by simp
    rw [e5, e6] at hl2
    obtain ⟨W4, hW4⟩ : ∃ W4, W4 = ((w3.alloc (.cells #[.pointer (some ⟨B + 1, 0, none⟩)] 62)).alloc (.cells #[.slice none 0 0] 30)).alloc (.cells #[.bool true] 4) := ⟨_, rfl⟩
    obtain ⟨Xb, hXb⟩ : ∃ Xb, Xb = w3.heap.size := ⟨_, rfl⟩
    rw [← hW4] at hl2 e7
    rw [← hXb] at hl2 e7
    have HW4 : Hid (((w3.alloc (.cells #[.pointer (some ⟨B + 1, 0, none⟩)] 62)).alloc (.cells #[.slice none 0 0] 30)).alloc (.cells #[.bool true] 4) = W4 ∧ w3.heap.size = Xb) := ⟨hW4.symm, hXb.symm⟩
    have hltM : M < Xb ∧ w.heap.size < Xb := by
      have h1 := hl.lt (M, F.med L.P 1 1) (by simp)
      have h2 := hl.lt (w.heap.size, .cells #[.int .i64 (n : Nat)] 3) (by simp)
      rw [hXb]
      exact ⟨h1, h2⟩
    have HLT : Hid (M < Xb ∧ w.heap.size < Xb) := hltM
    have c3 : (w3.alloc (.cells #[.pointer (some ⟨B + 1, 0, none⟩)] 62)).cell? ⟨w3.heap.size, 0, none⟩ = some (.pointer (some ⟨B + 1, 0, none⟩)) := F.cell_of (F.heap_new _ _) 0
    have hgd : Calls Tryz.prog 15 #[.func (.func 42) #[] #[.pointer (some ⟨w.heap.size, 0, none⟩), .pointer (some ⟨Xb + 1 + 1, 0, none⟩), .pointer (some ⟨Xb, 0, none⟩), .pointer (some ⟨Xb + 1, 0, none⟩)]] W4 fun e w' => e = .returned (.tuple #[.agg #[.int .i64 0, .int .i64 0], .bool false]) ∧ ∃ X tv tl, X.length = min n (ns - 1) ∧ (X.flatMap Prod.snd).length ≤ 1000 ∧ TxO tv (X.flatMap Prod.snd) tl ∧ LgX w.heap.size w L 1 N p ns M (B + 1) (tl ++ (Xb + 1, Obj.cells #[tv] 30) :: B42 (Xb + 1 + 1) Xb w.heap.size (B + 1) n [(M, F.med L.P 1 1)]) n X (9000 + 200 * (n : Int)) w' := by
      obtain ⟨st1, st2⟩ := hltM
      have hg : LgX w.heap.size w L 1 N p ns M (B + 1) ((Xb + 1, Obj.cells #[.slice none 0 0] 30) :: B42 (Xb + 1 + 1) Xb w.heap.size (B + 1) n (F.gob (Xb + 1 + 1 + 1) [(M, F.med L.P 1 1)])) 0 [] 9000 (F.G0 W4) := by
        obtain ⟨nw, g, gs, e, l, v, ol, h1, h2, h3, h4, h5⟩ := hl2
        have h6 := h5.guarded
        rw [e7] at h6
        refine ⟨nw, g, gs, e, l, v, ol, h1, h2, h3, h4, h6.drop (by rw [h2.eM]; simp [F.gob, B42]) (by
          intro r hr
          simp only [F.gob, B42, List.mem_cons, List.not_mem_nil, or_false] at hr ⊢
          rcases hr with hr | hr | hr | hr | hr | hr | hr <;> simp [hr])⟩
      have hop := op42 hg (by simp [F.gob]) HN.out hp20 hns6 (by rw [HNN.out.1]; exact Nat.le_refl _) (by have := HNN.out.2; omega) (by decide) (by
        intro r hr
        simp only [F.gob, B42, List.mem_cons, List.not_mem_nil, or_false] at hr
        rcases hr with rfl | rfl | rfl | rfl | rfl | rfl
        · show Xb + 1 + 1 ≠ Xb + 1; omega
        · show Xb ≠ Xb + 1; omega
        · show w.heap.size ≠ Xb + 1; omega
        · show Xb + 1 + 1 + 1 + 1 ≠ Xb + 1; omega
        · show Xb + 1 + 1 + 1 ≠ Xb + 1; omega
        · show M ≠ Xb + 1; omega)
      refine any_guard 42 _ _ _ W4 ent42 hop (fun W' hR => ?_) (fun W2 W' hR hk => ?_)
      · obtain ⟨X, tv, tl, x1, x2, x3, x4, x5⟩ := hR
        rw [e7]
        exact ⟨x5.at' (r := (Xb + 1 + 1 + 1, F.bob)) (by simp [F.gob, B42]), x5.at' (r := (Xb + 1 + 1 + 1 + 1, F.iob)) (by simp [F.gob, B42])⟩
      · obtain ⟨X, tv, tl, x1, x2, x3, x4, x5⟩ := hR
        rw [e7] at hk
        refine ⟨X, tv, tl, x1, by rw [flat_len x2, x1]; have := HN.out; omega, x3, x5.lift (fun l v ol nw hM h => h.kt (B := Xb + 1 + 1 + 1) (fun r hr => ?_) (by rw [hM]; simp [B42]) (fun r hr => ?_) hk)⟩
        · simp only [F.gob, B42, List.mem_cons, List.mem_append, List.not_mem_nil, or_false] at hr ⊢
          rcases hr with hr | hr | hr | hr | hr | hr | hr | hr <;> simp [hr]
        · rcases List.mem_append.1 hr with hr | hr
          · exact ⟨x4 r hr (Xb + 1 + 1 + 1, F.bob) (by simp [F.gob, B42]), x4 r hr (Xb + 1 + 1 + 1 + 1, F.iob) (by simp [F.gob, B42])⟩
          · simp only [B42, List.mem_cons, List.not_mem_nil, or_false] at hr
            rcases hr with rfl | rfl | rfl | rfl | rfl
            · show Xb + 1 ≠ _ ∧ Xb + 1 ≠ _; omega
            · show Xb + 1 + 1 ≠ _ ∧ Xb + 1 + 1 ≠ _; omega
            · show Xb ≠ _ ∧ Xb ≠ _; omega
            · show w.heap.size ≠ _ ∧ w.heap.size ≠ _; omega
            · show M ≠ _ ∧ M ≠ _; omega
    have hmf : ∀ (fn : Fn) (first cap : Array Value) (w : World), (Instr.makeFunc fn first cap).run Tryz.prog w = .ok (.func fn first cap) w := fun _ _ _ _ => rfl
    subst htv0
    clear hop htx hl hap hl2 e5 e6 e7 hW4 hXb hltM
    go_wp2_with fail
    rw [HW4.out.1, HW4.out.2]
    refine Calls.mono hgd ?_
    rintro er w5 ⟨rfl, X, tv, tl, hX, hXL, hT, hL⟩
    have h6 := hL.hold (.cells #[.int .i64 0, .int .i64 0] 37) (F.apart_of (by decide)) (fun _ _ => cells_ne2 (by decide))
    have hop2 := h6.open2 hp20 hns6 (by rw [HNN.out.1]; exact Nat.le_refl _) (by have := HNN.out.2; omega) (by have := HN.out; omega) (by have := HN.out; omega) (by simp [B42])
    have HXT : Hid (X.length = min n (ns - 1) ∧ TxO tv (X.flatMap Prod.snd) tl ∧ (X.flatMap Prod.snd).length ≤ 1000) := ⟨hX, hT, hXL⟩
    clear hgd hX hT hL h6 c3 hXL
    go_wp2_with fail
    go_call hop2 as e w7 ⟨B2, tv2, tl2, rfl, htx, hl, hap⟩
    have HL7 : Hid _ := hl
    have HT7 : Hid _ := htx
    obtain ⟨t2ao, t2n, t2cp, htv2⟩ : ∃ ao m cp, tv2 = .slice ao m cp := by
      obtain ⟨a, b⟩ := Txs.len htx
      exact ⟨a, _, b⟩
    subst htv2
    clear hop2 htx hl hap
    go_wp2_with fail
    obtain ⟨KK, hK⟩ : ∃ KK, KK = X.length := ⟨_, rfl⟩
    have HK : Hid (X.length = KK) := hK.symm
    have HMIN : Hid (min (n : Int) ((ns : Int) - 1) = (KK : Int)) := by
      show min (n : Int) ((ns : Int) - 1) = (KK : Int)
      have := HXT.out.1
      omega
    obtain ⟨BS, hBS⟩ : ∃ BS, BS = tl2 ++ (w5.heap.size, Obj.cells #[.int .i64 0, .int .i64 0] 37) :: (tl ++ (Xb + 1, Obj.cells #[tv] 30) :: B42 (Xb + 1 + 1) Xb w.heap.size (B + 1) n [(M, F.med L.P 1 1)]) := ⟨_, rfl⟩
    obtain ⟨cc, hcc⟩ : ∃ cc : Int, cc = 9000 + 200 * (n : Int) + 9000 := ⟨_, rfl⟩
    have HBS : Hid ((Xb + 1 + 1, Obj.cells #[.bool true] 4) ∈ BS ∧ (Xb + 1, Obj.cells #[tv] 30) ∈ BS ∧ (Xb, Obj.cells #[.pointer (some ⟨B + 1, 0, none⟩)] 62) ∈ BS ∧ (w.heap.size, Obj.cells #[.int .i64 (n : Nat)] 3) ∈ BS ∧ (∀ r ∈ tl2, r ∈ BS) ∧ (∀ r ∈ tl, r ∈ BS)) := by
      rw [hBS]
      refine ⟨by simp [B42], by simp [B42], by simp [B42], by simp [B42], fun r hr => by simp [hr], fun r hr => by simp [hr]⟩
    have H7 : Hid (LgX w.heap.size w L 1 N p ns M (B + 1) BS n X cc w7) := by rw [hBS, hcc]; exact HL7.out
    have HTX : Hid (TxO (.slice t2ao t2n t2cp) (X.flatMap Prod.snd) tl2 ∧ TxO tv (X.flatMap Prod.snd) tl ∧ (X.flatMap Prod.snd).length ≤ 1000) := by
      exact ⟨TxO.of HT7.out, HXT.out.2.1, HXT.out.2.2⟩
    clear hBS hcc hK HL7 HT7 HXT
    refine F.wp_region_pb (fun f => ⟨#[.int .i64 (ns : Int), .int .i64 (p : Int), .int .i64 n0, undef, undef, .pointer (some ⟨w.heap.size, 0, none⟩), f 20, .pointer (some ⟨L.P, 0, none⟩), .pointer (some ⟨M0, 0, none⟩), .pointer (some ⟨Xb, 0, none⟩), .slice t0ao t0n t0cp, .pointer (some ⟨Xb + 1, 0, none⟩), .pointer (some ⟨Xb + 1 + 1, 0, none⟩), .pointer (some ⟨w5.heap.size, 0, none⟩), .bool false, .pointer (some ⟨B2 + 1, 0, none⟩), .slice t2ao t2n t2cp, .bool true, .bool false, .int .i64 p0, .int .i64 (min p0 6), .int .i64 (ns : Int), .int .i64 p1, .int .i64 (min p1 20), .int .i64 (p : Int), .int .i64 n0, .int .i64 (min n0 40), .int .i64 (n : Int), .tuple #[.pointer (some ⟨L.P, 0, none⟩), .pointer (some ⟨M0, 0, none⟩)], .int .i64 (ns : Int), .int .i64 (p : Int), .int .i64 ((ns : Int) * (p : Int)), .int .i64 (N : Int), .tuple #[.pointer (some ⟨L.P, 0, none⟩), .pointer (some ⟨M0, 0, none⟩)], .pointer (some ⟨L.P, 0, none⟩), .pointer (some ⟨M0, 0, none⟩), .pointer (some ⟨L.P, 0, none⟩), .bool false, .tuple #[.pointer (some ⟨B + 1, 0, none⟩), .slice t0ao t0n t0cp], .pointer (some ⟨L.P, 0, none⟩), .int .i64 (ns : Int), .int .i64 (p : Int), .tuple #[.pointer (some ⟨B + 1, 0, none⟩), .slice t0ao t0n t0cp], .pointer (some ⟨B + 1, 0, none⟩), .slice t0ao t0n t0cp, .pointer (some ⟨B + 1, 0, none⟩), .bool false, .tuple #[.agg #[.int .i64 0, .int .i64 0], .bool false], .func (.func 42) #[] #[.pointer (some ⟨w.heap.size, 0, none⟩), .pointer (some ⟨Xb + 1 + 1, 0, none⟩), .pointer (some ⟨Xb, 0, none⟩), .pointer (some ⟨Xb + 1, 0, none⟩)], .tuple #[.agg #[.int .i64 0, .int .i64 0], .bool false], .agg #[.int .i64 0, .int .i64 0], .bool false, .tuple #[.pointer (some ⟨B2 + 1, 0, none⟩), .slice t2ao t2n t2cp], .pointer (some ⟨L.P, 0, none⟩), .int .i64 (ns : Int), .int .i64 (p : Int), .tuple #[.pointer (some ⟨B2 + 1, 0, none⟩), .slice t2ao t2n t2cp], .pointer (some ⟨B2 + 1, 0, none⟩), .slice t2ao t2n t2cp, f 0, f 1, f 2, f 3, f 4, f 5, f 6, f 7, f 8, f 9, f 10, f 11, f 12, f 13, f 14, f 15, f 16, f 17, f 18, f 19], []⟩) (V10b p ns n (B + 1) KK (.slice t2ao t2n t2cp) tv) (PhR 12 (fun W => LgX w.heap.size w L 1 N p ns M (B + 1) BS n X cc W) KK) (fun i => [undef, undef, undef, undef, undef, undef, undef, undef, undef, undef, undef, undef, undef, undef, undef, undef, undef, undef, undef, undef, .bool false].getD i undef) (by kernel_rfl) rfl rfl ?hIr ?hputr ?stepr ?finr
    case hIr => exact ⟨H7.out.below (Below.refl _ _).drew, fun e => by cases e⟩
    case finr =>
      intro f W hP hV
      have y0 : f 0 = .bool false := hV 0 (by decide)
      have y1 : f 1 = .bool true := hV 1 (by decide)
      have y2 : f 2 = .bool true := hV 2 (by decide)
      have y3 : f 3 = .bool true := hV 3 (by decide)
      have y4 : f 4 = .bool true := hV 4 (by decide)
      have y5 : f 5 = .bool true := hV 5 (by decide)
      have y6 : f 6 = .slice t2ao t2n t2cp := hV 6 (by decide)
      have y7 : f 7 = tv := hV 7 (by decide)
      have y8 : f 8 = .bool true := hV 8 (by decide)
      have y9 : f 9 = .bool true := hV 9 (by decide)
      have y10 : f 10 = .bool true := hV 10 (by decide)
      have y11 : f 11 = .pointer (some ⟨B + 1, 0, none⟩) := hV 11 (by decide)
      have y13 : f 13 = .int .i64 (KK : Nat) := hV 13 (by decide)
      have y14 : f 14 = .int .i64 (n : Nat) := hV 14 (by decide)
      have y15 : f 15 = .int .i64 (ns : Nat) := hV 15 (by decide)
      have y16 : f 16 = .int .i64 ((ns : Int) - 1) := hV 16 (by decide)
      have y17 : f 17 = .int .i64 (KK : Nat) := hV 17 (by decide)
      have y18 : f 18 = .bool true := hV 18 (by decide)
      have y19 : f 19 = .bool true := hV 19 (by decide)
      have y20 : f 20 = .bool true := hV 20 (by decide)
      clear hV
      have HC : Hid (LgX w.heap.size w L 1 N p ns M (B + 1) BS n X cc W) := hP.p
      clear hP
      generalize f 0 = z0 at *
      subst y0
      generalize f 1 = z1 at *
      subst y1
      generalize f 2 = z2 at *
      subst y2
      generalize f 3 = z3 at *
      subst y3
      generalize f 4 = z4 at *
      subst y4
      generalize f 5 = z5 at *
      subst y5
      generalize f 6 = z6 at *
      subst y6
      generalize f 7 = z7 at *
      subst y7
      generalize f 8 = z8 at *
      subst y8
      generalize f 9 = z9 at *
      subst y9
      generalize f 10 = z10 at *
      subst y10
      generalize f 11 = z11 at *
      subst y11
      generalize f 12 = z12 at *
      generalize f 13 = z13 at *
      subst y13
      generalize f 14 = z14 at *
      subst y14
      generalize f 15 = z15 at *
      subst y15
      generalize f 16 = z16 at *
      subst y16
      generalize f 17 = z17 at *
      subst y17
      generalize f 18 = z18 at *
      subst y18
      generalize f 19 = z19 at *
      subst y19
      generalize f 20 = z20 at *
      subst y20
      go_wp2
      go_returns
      exact ⟨rfl, HC.out.bel⟩
    case hputr =>
      repeat (refine ⟨fun f v => rfl, ?_⟩)
      trivial
    case stepr =>
      refine ⟨?_, ?_⟩
      · intro done f W hP hdn hd K hK
        clear hd
        go_simp
        exact hK _ _ rfl (hP.step _ (by decide) hP.p)
      refine ⟨?_, ?_⟩
      · intro done f W hP hdn hd K hK
        have d0 := (hd.1 rfl).2
        have e0 : done 0 = true := (hd.1 rfl).1
        clear hd
        replace d0 : f 0 = .bool false := d0
        generalize f 0 = x0 at *
        subst d0
        clear e0
        go_simp
        exact hK _ _ rfl (hP.step _ (by decide) hP.p)
      refine ⟨?_, ?_⟩
      · intro done f W hP hdn hd K hK
        have d1 := (hd.1 rfl).2
        have e1 : done 1 = true := (hd.1 rfl).1
        clear hd
        replace d1 : f 1 = .bool true := d1
        generalize f 1 = x1 at *
        subst d1
        clear e1
        go_simp
        exact hK _ _ rfl (hP.step _ (by decide) hP.p)
      refine ⟨?_, ?_⟩
      · intro done f W hP hdn hd K hK
        have d2 := (hd.1 rfl).2
        have e2 : done 2 = true := (hd.1 rfl).1
        clear hd
        replace d2 : f 2 = .bool true := d2
        generalize f 2 = x2 at *
        subst d2
        clear e2
        have qb := hP.p.at' (r := (Xb + 1 + 1, Obj.cells #[.bool true] 4)) HBS.out.1
        have q : W.cell? ⟨((Xb + 1 + 1, Obj.cells #[.bool true] 4)).1, 0, none⟩ = some (.bool true) := F.cell_of qb 0
        replace q : W.cell? ⟨Xb + 1 + 1, 0, none⟩ = some (.bool true) := q
        clear qb
        go_simp
        exact hK _ _ rfl (hP.step _ (by decide) hP.p)
      refine ⟨?_, ?_⟩
      · intro done f W hP hdn hd K hK
        have d2 := (hd.1 rfl).2
        have e2 : done 2 = true := (hd.1 rfl).1
        have d3 := (hd.2.1 rfl).2
        have e3 : done 3 = true := (hd.2.1 rfl).1
        clear hd
        replace d2 : f 2 = .bool true := d2
        replace d3 : f 3 = .bool true := d3
        generalize f 2 = x2 at *
        subst d2
        clear e2
        generalize f 3 = x3 at *
        subst d3
        clear e3
        go_simp
        exact hK _ _ rfl (hP.step _ (by decide) hP.p)
      refine ⟨?_, ?_⟩
      · intro done f W hP hdn hd K hK
        have d4 := (hd.1 rfl).2
        have e4 : done 4 = true := (hd.1 rfl).1
        clear hd
        replace d4 : f 4 = .bool true := d4
        generalize f 4 = x4 at *
        subst d4
        clear e4
        go_simp
        exact hK _ _ rfl (hP.step _ (by decide) hP.p)
      refine ⟨?_, ?_⟩
      · intro done f W hP hdn hd K hK
        have d5 := (hd.1 rfl).2
        have e5 : done 5 = true := (hd.1 rfl).1
        clear hd
        replace d5 : f 5 = .bool true := d5
        generalize f 5 = x5 at *
        subst d5
        clear e5
        go_simp
        exact hK _ _ rfl (hP.step _ (by decide) hP.p)
      refine ⟨?_, ?_⟩
      · intro done f W hP hdn hd K hK
        have d5 := (hd.1 rfl).2
        have e5 : done 5 = true := (hd.1 rfl).1
        clear hd
        replace d5 : f 5 = .bool true := d5
        generalize f 5 = x5 at *
        subst d5
        clear e5
        have qb := hP.p.at' (r := (Xb + 1, Obj.cells #[tv] 30)) HBS.out.2.1
        have q : W.cell? ⟨((Xb + 1, Obj.cells #[tv] 30)).1, 0, none⟩ = some (tv) := F.cell_of qb 0
        replace q : W.cell? ⟨Xb + 1, 0, none⟩ = some (tv) := q
        clear qb
        go_simp
        exact hK _ _ rfl (hP.step _ (by decide) hP.p)
      refine ⟨?_, ?_⟩
      · intro done f W hP hdn hd K hK
        have d6 := (hd.1 rfl).2
        have e6 : done 6 = true := (hd.1 rfl).1
        have d7 := (hd.2.1 rfl).2
        have e7 : done 7 = true := (hd.2.1 rfl).1
        have d5 := (hd.2.2.2.1 rfl).2
        have e5 : done 5 = true := (hd.2.2.2.1 rfl).1
        clear hd
        replace d6 : f 6 = .slice t2ao t2n t2cp := d6
        replace d7 : f 7 = tv := d7
        replace d5 : f 5 = .bool true := d5
        generalize f 6 = x6 at *
        subst d6
        clear e6
        generalize f 7 = x7 at *
        subst d7
        clear e7
        generalize f 5 = x5 at *
        subst d5
        clear e5
        have hsm := same35O HTX.out.1 HTX.out.2.1 HTX.out.2.2 W (fun r hr => hP.p.at' (HBS.out.2.2.2.2.1 r hr)) (fun r hr => hP.p.at' (HBS.out.2.2.2.2.2 r hr))
        go_simp
        refine Calls.mono hsm ?_
        rintro er W' ⟨rfl, hb⟩
        exact hK _ _ rfl (hP.step _ (by decide) (hP.p.below hb))
      refine ⟨?_, ?_⟩
      · intro done f W hP hdn hd K hK
        have d5 := (hd.1 rfl).2
        have e5 : done 5 = true := (hd.1 rfl).1
        have d8 := (hd.2.1 rfl).2
        have e8 : done 8 = true := (hd.2.1 rfl).1
        clear hd
        replace d5 : f 5 = .bool true := d5
        replace d8 : f 8 = .bool true := d8
        generalize f 5 = x5 at *
        subst d5
        clear e5
        generalize f 8 = x8 at *
        subst d8
        clear e8
        go_simp
        exact hK _ _ rfl (hP.step _ (by decide) hP.p)
      refine ⟨?_, ?_⟩
      · intro done f W hP hdn hd K hK
        have d9 := (hd.1 rfl).2
        have e9 : done 9 = true := (hd.1 rfl).1
        clear hd
        replace d9 : f 9 = .bool true := d9
        generalize f 9 = x9 at *
        subst d9
        clear e9
        go_simp
        exact hK _ _ rfl (hP.step _ (by decide) hP.p)
      refine ⟨?_, ?_⟩
      · intro done f W hP hdn hd K hK
        have d10 := (hd.1 rfl).2
        have e10 : done 10 = true := (hd.1 rfl).1
        clear hd
        replace d10 : f 10 = .bool true := d10
        generalize f 10 = x10 at *
        subst d10
        clear e10
        have qb := hP.p.at' (r := (Xb, Obj.cells #[.pointer (some ⟨B + 1, 0, none⟩)] 62)) HBS.out.2.2.1
        have q : W.cell? ⟨((Xb, Obj.cells #[.pointer (some ⟨B + 1, 0, none⟩)] 62)).1, 0, none⟩ = some (.pointer (some ⟨B + 1, 0, none⟩)) := F.cell_of qb 0
        replace q : W.cell? ⟨Xb, 0, none⟩ = some (.pointer (some ⟨B + 1, 0, none⟩)) := q
        clear qb
        go_simp
        exact hK _ _ rfl (hP.step _ (by decide) hP.p)
      refine ⟨?_, ?_⟩
      · intro done f W hP hdn hd K hK
        have d11 := (hd.1 rfl).2
        have e11 : done 11 = true := (hd.1 rfl).1
        have d10 := (hd.2.2.1 rfl).2
        have e10 : done 10 = true := (hd.2.2.1 rfl).1
        clear hd
        replace d11 : f 11 = .pointer (some ⟨B + 1, 0, none⟩) := d11
        replace d10 : f 10 = .bool true := d10
        generalize f 11 = x11 at *
        subst d11
        clear e11
        generalize f 10 = x10 at *
        subst d10
        clear e10
        have hlv := hP.p.live
        rw [HK.out] at hlv
        go_simp
        refine Calls.mono hlv ?_
        rintro er W' ⟨v', rfl, ho, hB⟩
        obtain ⟨ao, cp, rfl⟩ := own_len ho
        exact hK _ _ trivial (hP.row ao cp hB)
      refine ⟨?_, ?_⟩
      · intro done f W hP hdn hd K hK
        have d12 := (hd.1 rfl).2
        have e12 : done 12 = true := (hd.1 rfl).1
        have d10 := (hd.2.1 rfl).2
        have e10 : done 10 = true := (hd.2.1 rfl).1
        clear hd
        replace d10 : f 10 = .bool true := d10
        generalize f 10 = x10 at *
        subst d10
        clear e10
        obtain ⟨ao, cp, hf⟩ := hP.r e12
        generalize f 12 = y12 at *
        subst hf
        go_simp
        exact hK _ _ rfl (hP.step _ (by decide) hP.p)
      refine ⟨?_, ?_⟩
      · intro done f W hP hdn hd K hK
        have d10 := (hd.1 rfl).2
        have e10 : done 10 = true := (hd.1 rfl).1
        clear hd
        replace d10 : f 10 = .bool true := d10
        generalize f 10 = x10 at *
        subst d10
        clear e10
        have qb := hP.p.at' (r := (w.heap.size, Obj.cells #[.int .i64 (n : Nat)] 3)) HBS.out.2.2.2.1
        have q : W.cell? ⟨((w.heap.size, Obj.cells #[.int .i64 (n : Nat)] 3)).1, 0, none⟩ = some (.int .i64 (n : Nat)) := F.cell_of qb 0
        replace q : W.cell? ⟨w.heap.size, 0, none⟩ = some (.int .i64 (n : Nat)) := q
        clear qb
        go_simp
        exact hK _ _ rfl (hP.step _ (by decide) hP.p)
      refine ⟨?_, ?_⟩
      · intro done f W hP hdn hd K hK
        have d10 := (hd.1 rfl).2
        have e10 : done 10 = true := (hd.1 rfl).1
        clear hd
        replace d10 : f 10 = .bool true := d10
        generalize f 10 = x10 at *
        subst d10
        clear e10
        go_simp
        exact hK _ _ rfl (hP.step _ (by decide) hP.p)
      refine ⟨?_, ?_⟩
      · intro done f W hP hdn hd K hK
        have d15 := (hd.1 rfl).2
        have e15 : done 15 = true := (hd.1 rfl).1
        have d10 := (hd.2.1 rfl).2
        have e10 : done 10 = true := (hd.2.1 rfl).1
        clear hd
        replace d15 : f 15 = .int .i64 (ns : Nat) := d15
        replace d10 : f 10 = .bool true := d10
        generalize f 15 = x15 at *
        subst d15
        clear e15
        generalize f 10 = x10 at *
        subst d10
        clear e10
        obtain ⟨b1, b2⟩ := HNS.out
        have b3 : IntKind.i64.wrap ((ns : Int) - 1) = (ns : Int) - 1 := by rw [IntKind.wrap_i64]; omega
        go_simp
        refine hK _ _ ?_ (hP.step _ (by decide) hP.p)
        show _ = Value.int _ _
        first | rfl | rw [b3]
      refine ⟨?_, ?_⟩
      · intro done f W hP hdn hd K hK
        have d14 := (hd.1 rfl).2
        have e14 : done 14 = true := (hd.1 rfl).1
        have d16 := (hd.2.1 rfl).2
        have e16 : done 16 = true := (hd.2.1 rfl).1
        have d10 := (hd.2.2.1 rfl).2
        have e10 : done 10 = true := (hd.2.2.1 rfl).1
        clear hd
        replace d14 : f 14 = .int .i64 (n : Nat) := d14
        replace d16 : f 16 = .int .i64 ((ns : Int) - 1) := d16
        replace d10 : f 10 = .bool true := d10
        generalize f 14 = x14 at *
        subst d14
        clear e14
        generalize f 16 = x16 at *
        subst d16
        clear e16
        generalize f 10 = x10 at *
        subst d10
        clear e10
        have hmin : min (n : Int) ((ns : Int) - 1) = (KK : Int) := HMIN.out
        go_simp
        exact hK _ _ rfl (hP.step _ (by decide) hP.p)
      refine ⟨?_, ?_⟩
      · intro done f W hP hdn hd K hK
        have d13 := (hd.1 rfl).2
        have e13 : done 13 = true := (hd.1 rfl).1
        have d17 := (hd.2.1 rfl).2
        have e17 : done 17 = true := (hd.2.1 rfl).1
        have d10 := (hd.2.2.1 rfl).2
        have e10 : done 10 = true := (hd.2.2.1 rfl).1
        clear hd
        replace d13 : f 13 = .int .i64 (KK : Nat) := d13
        replace d17 : f 17 = .int .i64 (KK : Nat) := d17
        replace d10 : f 10 = .bool true := d10
        generalize f 13 = x13 at *
        subst d13
        clear e13
        generalize f 17 = x17 at *
        subst d17
        clear e17
        generalize f 10 = x10 at *
        subst d10
        clear e10
        go_simp
        exact hK _ _ rfl (hP.step _ (by decide) hP.p)
      refine ⟨?_, ?_⟩
      · intro done f W hP hdn hd K hK
        have d10 := (hd.1 rfl).2
        have e10 : done 10 = true := (hd.1 rfl).1
        have d18 := (hd.2.1 rfl).2
        have e18 : done 18 = true := (hd.2.1 rfl).1
        clear hd
        replace d10 : f 10 = .bool true := d10
        replace d18 : f 18 = .bool true := d18
        generalize f 10 = x10 at *
        subst d10
        clear e10
        generalize f 18 = x18 at *
        subst d18
        clear e18
        go_simp
        exact hK _ _ rfl (hP.step _ (by decide) hP.p)
      refine ⟨?_, ?_⟩
      · intro done f W hP hdn hd K hK
        have d19 := (hd.1 rfl).2
        have e19 : done 19 = true := (hd.1 rfl).1
        clear hd
        replace d19 : f 19 = .bool true := d19
        generalize f 19 = x19 at *
        subst d19
        clear e19
        go_simp
        exact hK _ _ rfl (hP.step _ (by decide) hP.p)
      trivial
  case hputq =>
    repeat (refine ⟨fun f v => rfl, ?_⟩)
    trivial
  case stepq =>
    refine ⟨?_, ?_⟩
    · intro done f W hP hdn hd K hK
      clear hd
      have q := hP.v9' hdn
      generalize f 9 = y9 at *
      subst q
      go_simp
      exact hK _ _ rfl (hP.pure _ (by decide) (by decide) (by decide))
    refine ⟨?_, ?_⟩
    · intro done f W hP hdn hd K hK
      have d0 := (hd.1 rfl).2
      have e0 : done 0 = true := (hd.1 rfl).1
      clear hd
      replace d0 : f 0 = .int .i64 p0 := d0
      generalize f 0 = x0 at *
      subst d0
      clear e0
      go_simp
      exact hK _ _ rfl (hP.pure _ (by decide) (by decide) (by decide))
    refine ⟨?_, ?_⟩
    · intro done f W hP hdn hd K hK
      have d1 := (hd.1 rfl).2
      have e1 : done 1 = true := (hd.1 rfl).1
      clear hd
      replace d1 : f 1 = .int .i64 (min p0 6) := d1
      generalize f 1 = x1 at *
      subst d1
      clear e1
      go_simp
      exact hK _ _ rfl (hP.pure _ (by decide) (by decide) (by decide))
    refine ⟨?_, ?_⟩
    · intro done f W hP hdn hd K hK
      clear hd
      have q := hP.v10' hdn
      generalize f 10 = y10 at *
      subst q
      go_simp
      exact hK _ _ rfl (hP.pure _ (by decide) (by decide) (by decide))
    refine ⟨?_, ?_⟩
    · intro done f W hP hdn hd K hK
      have d3 := (hd.1 rfl).2
      have e3 : done 3 = true := (hd.1 rfl).1
      clear hd
      replace d3 : f 3 = .int .i64 p1 := d3
      generalize f 3 = x3 at *
      subst d3
      clear e3
      go_simp
      exact hK _ _ rfl (hP.pure _ (by decide) (by decide) (by decide))
    refine ⟨?_, ?_⟩
    · intro done f W hP hdn hd K hK
      have d4 := (hd.1 rfl).2
      have e4 : done 4 = true := (hd.1 rfl).1
      clear hd
      replace d4 : f 4 = .int .i64 (min p1 20) := d4
      generalize f 4 = x4 at *
      subst d4
      clear e4
      go_simp
      exact hK _ _ rfl (hP.pure _ (by decide) (by decide) (by decide))
    refine ⟨?_, ?_⟩
    · intro done f W hP hdn hd K hK
      clear hd
      have n11 : done 11 = false := hP.n11 (by decide) hdn
      have q : W.cell? ⟨w.heap.size, 0, none⟩ = some (.int .i64 n0) := F.cell_of (hP.tw.a n11).1 0
      go_simp
      exact hK _ _ rfl (hP.pure _ (by decide) (by decide) (by decide))
    refine ⟨?_, ?_⟩
    · intro done f W hP hdn hd K hK
      have d6 := (hd.1 rfl).2
      have e6 : done 6 = true := (hd.1 rfl).1
      clear hd
      replace d6 : f 6 = .int .i64 n0 := d6
      generalize f 6 = x6 at *
      subst d6
      clear e6
      go_simp
      exact hK _ _ rfl (hP.pure _ (by decide) (by decide) (by decide))
    refine ⟨?_, ?_⟩
    · intro done f W hP hdn hd K hK
      have d7 := (hd.1 rfl).2
      have e7 : done 7 = true := (hd.1 rfl).1
      clear hd
      replace d7 : f 7 = .int .i64 (min n0 40) := d7
      generalize f 7 = x7 at *
      subst d7
      clear e7
      go_simp
      exact hK _ _ rfl (hP.pure _ (by decide) (by decide) (by decide))
    refine ⟨?_, ?_⟩
    · intro done f W hP hdn hd K hK
      have d2 := (hd.1 rfl).2
      have e2 : done 2 = true := (hd.1 rfl).1
      have e0 : done 0 = true := (hd.2.1 rfl).1
      clear hd
      replace d2 : f 2 = .int .i64 (ns : Nat) := d2
      generalize f 2 = x2 at *
      subst d2
      clear e2
      go_simp
      exact hK _ _ rfl (hP.nine _ e0)
    refine ⟨?_, ?_⟩
    · intro done f W hP hdn hd K hK
      have d5 := (hd.1 rfl).2
      have e5 : done 5 = true := (hd.1 rfl).1
      have e3 : done 3 = true := (hd.2.2.2.2.2.1 rfl).1
      clear hd
      replace d5 : f 5 = .int .i64 (p : Nat) := d5
      generalize f 5 = x5 at *
      subst d5
      clear e5
      go_simp
      exact hK _ _ rfl (hP.ten _ e3)
    refine ⟨?_, ?_⟩
    · intro done f W hP hdn hd K hK
      have d8 := (hd.1 rfl).2
      have e8 : done 8 = true := (hd.1 rfl).1
      have e10 : done 10 = true := (hd.2.1 rfl).1
      have e0 : done 0 = true := (hd.2.2.1 rfl).1
      have e1 : done 1 = true := (hd.2.2.2.1 rfl).1
      have e2 : done 2 = true := (hd.2.2.2.2.1 rfl).1
      have e3 : done 3 = true := (hd.2.2.2.2.2.1 rfl).1
      have e4 : done 4 = true := (hd.2.2.2.2.2.2.1 rfl).1
      have e5 : done 5 = true := (hd.2.2.2.2.2.2.2.1 rfl).1
      have e6 : done 6 = true := (hd.2.2.2.2.2.2.2.2.1 rfl).1
      have e7 : done 7 = true := (hd.2.2.2.2.2.2.2.2.2.1 rfl).1
      have e9 : done 9 = true := (hd.2.2.2.2.2.2.2.2.2.2.2.1 rfl).1
      clear hd
      replace d8 : f 8 = .int .i64 (n : Nat) := d8
      generalize f 8 = x8 at *
      subst d8
      have hA := hP.tw.a hdn
      have q : W.cell? ⟨w.heap.size, 0, none⟩ = some (.int .i64 n0) := F.cell_of hA.1 0
      have q2 := F.frz_of hA.1 0
      have HX : Hid ((W.setCell ⟨w.heap.size, 0, none⟩ (.int .i64 (n : Nat))).heap[w.heap.size]? = some (.cells #[.int .i64 (n : Nat)] 3) ∧ Below w.heap.size w (W.setCell ⟨w.heap.size, 0, none⟩ (.int .i64 (n : Nat)))) := ⟨by rw [F.block_set hA.1]; rfl, hA.2.setCell (Nat.le_refl _) _⟩
      have hall : ∀ j, j < 11 → done j = true := fun j hj => match j, hj with
        | 0, _ => e0 | 1, _ => e1 | 2, _ => e2 | 3, _ => e3 | 4, _ => e4 | 5, _ => e5 | 6, _ => e6 | 7, _ => e7 | 8, _ => e8 | 9, _ => e9 | 10, _ => e10
      clear hA
      go_simp
      exact hK (.bool false) _ trivial (hP.eleven _ hall HX.out)
    trivial
end Go.Proofs.YtncfbocbigdhiaaGreat.U
