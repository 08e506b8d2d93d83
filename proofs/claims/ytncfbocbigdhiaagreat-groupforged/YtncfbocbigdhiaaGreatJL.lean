/- GroupFull as a call: of any numbers it returns true, and nothing that was there has turned. -/
import Derived.Test.YtncfbocbigdhiaaGreatJK
import Derived.Lib.MinMax
import Derived.Deep.QuietTactic
import Derived.BigQuiet
namespace Go.Proofs.YtncfbocbigdhiaaGreat
open Go.RowKit
section
variable {T : Nat} {w : World} {L : F.Loc} {rest : List (Nat × Obj)} {per n M Cb Sb i : Nat} {W W' : World}
theorem FS.guarded (h : FS T w L rest per n M Cb Sb i W) : FS T w L (F.gob W.heap.size rest) per n M Cb Sb i (F.G0 W) := by
  obtain ⟨h0, now, l, h1, h2, h3, h4, h5⟩ := h
  refine ⟨h0, now, l, h1, h2, h3, h4, h5.guarded.forget ?_⟩
  intro p hp
  simp only [F.gob, List.mem_cons] at hp ⊢
  rcases hp with hp | hp | hp | hp | hp
  · exact Or.inr (Or.inr (Or.inl hp))
  · exact Or.inr (Or.inr (Or.inr (Or.inl hp)))
  · exact Or.inl hp
  · exact Or.inr (Or.inl hp)
  · exact Or.inr (Or.inr (Or.inr (Or.inr hp)))
theorem FS.kt {B : Nat} (h : FS T w L (F.gob B rest) per n M Cb Sb i W) (hc : Cb ≠ B ∧ Cb ≠ B + 1) (hs : Sb ≠ B ∧ Sb ≠ B + 1) (hr : ∀ p ∈ rest, p.1 ≠ B ∧ p.1 ≠ B + 1) (k : F.KT B W W') : FS T w L rest per n M Cb Sb i W' := by
  obtain ⟨h0, now, l, h1, h2, h3, h4, h5⟩ := h
  have h6 : Dev T w L (4 + per) (F.gob B ((Cb, .cells #[.int .i64 (i : Nat)] 3) :: (Sb, .cells (Sg.cs ⟨M, 3, 2, 5, 4, per, 1 + i * (n + 1)⟩) 44) :: rest)) now (100 * i) W := h5.forget (by
    intro p hp
    simp only [F.gob, List.mem_cons] at hp ⊢
    rcases hp with hp | hp | hp | hp | hp
    · exact Or.inr (Or.inr (Or.inl hp))
    · exact Or.inr (Or.inr (Or.inr (Or.inl hp)))
    · exact Or.inl hp
    · exact Or.inr (Or.inl hp)
    · exact Or.inr (Or.inr (Or.inr (Or.inr hp))))
  refine ⟨h0, now, l, h1, h2, h3, h4, h6.kt ?_ k⟩
  intro p hp
  rcases List.mem_cons.1 hp with rfl | hp
  · exact hc
  · rcases List.mem_cons.1 hp with rfl | hp
    · exact hs
    · exact hr p hp
theorem FS.lts (h : FS T w L rest per n M Cb Sb i W) : Cb < W.heap.size ∧ Sb < W.heap.size ∧ ∀ p ∈ rest, p.1 < W.heap.size := by
  obtain ⟨h0, now, l, h1, h2, h3, h4, h5⟩ := h
  have := h5.lts
  exact ⟨this (Cb, .cells #[.int .i64 (i : Nat)] 3) (by simp), this (Sb, .cells (Sg.cs ⟨M, 3, 2, 5, 4, per, 1 + i * (n + 1)⟩) 44) (by simp), fun p hp => this p (by simp [hp])⟩
theorem FS.guard {Pb Nb : Nat} (hper : 8 ≤ per ∧ per ≤ 64) (hn : 1 ≤ n ∧ n ≤ 20) (h : FS T w L rest per n M Cb Sb 0 W)
    (hP : (Pb, .cells #[.pointer (some ⟨Sb, 0, none⟩)] 28) ∈ rest) (hN : (Nb, .cells #[.int .i64 (n : Nat)] 3) ∈ rest) (hM : (M, F.med L.P 1 1) ∈ rest) (hCS : Cb ≠ Sb) (hne : ∀ p ∈ rest, p.1 ≠ Sb) (hnc : ∀ p ∈ rest, p.1 ≠ Cb) :
    Calls Tryz.prog 15 #[.func (.func 32) #[] #[.pointer (some ⟨Pb, 0, none⟩), .pointer (some ⟨Nb, 0, none⟩), .pointer (some ⟨Cb, 0, none⟩)]] W fun e w' => e = .returned (.tuple #[.agg #[.int .i64 0, .int .i64 0], .bool false]) ∧ ∃ i, ¬ (1 + i * (n + 1) + n < per) ∧ FS T w L rest per n M Cb Sb i w' := by
  obtain ⟨l1, l2, l3⟩ := h.lts
  have hg := h.guarded
  have ho := op32 (Pb := Pb) (Nb := Nb) hper hn hg (by simp [F.gob, hP]) (by simp [F.gob, hN]) (by simp [F.gob, hM]) hCS (by
    intro p hp
    simp only [F.gob, List.mem_cons] at hp
    rcases hp with rfl | rfl | hp
    · show W.heap.size + 1 ≠ Sb; omega
    · show W.heap.size ≠ Sb; omega
    · exact hne p hp) (by
    intro p hp
    simp only [F.gob, List.mem_cons] at hp
    rcases hp with rfl | rfl | hp
    · show W.heap.size + 1 ≠ Cb; omega
    · show W.heap.size ≠ Cb; omega
    · exact hnc p hp)
  refine (F.guard_ok 32 _ (fun W' => ∃ i, ¬ (1 + i * (n + 1) + n < per) ∧ FS T w L (F.gob W.heap.size rest) per n M Cb Sb i W') W ent32 (ho.mono ?_)).mono ?_
  · rintro e W' ⟨rfl, i, h1, h2⟩
    exact ⟨rfl, h2.at' (p := (W.heap.size, F.bob)) (by simp [F.gob]), h2.at' (p := (W.heap.size + 1, F.iob)) (by simp [F.gob]), i, h1, h2⟩
  · rintro e w' ⟨rfl, W2, ⟨i, h1, h2⟩, hk⟩
    exact ⟨rfl, i, h1, h2.kt ⟨by omega, by omega⟩ ⟨by omega, by omega⟩ (fun p hp => by have := l3 p hp; exact ⟨by omega, by omega⟩) hk⟩
end
theorem Chn.med {now : Nat → ByteArray} {M M2 c j nm b p a a2 : Nat} {l : List (Nat × ByteArray)} {e : Nat} (h : Chn now ⟨M, c, j, nm, b, p, a⟩ l e) : Chn now ⟨M2, c, j, nm, b, p, a2⟩ l e := by
  induction h with
  | nil => exact Chn.nil
  | next h1 h2 ih => exact Chn.next ih ⟨h2.sz, h2.k1, h2.fit, h2.com, h2.pay⟩
theorem full_quo (per n i : Nat) (h1 : 1 + i * (n + 1) ≤ per) (h2 : ¬ (1 + i * (n + 1) + n < per)) : ((per : Int) - 1).tdiv ((n : Int) + 1) = (i : Int) := by
  have e1 : (per : Int) - 1 = ((per - 1 : Nat) : Int) := by omega
  have e2 : (n : Int) + 1 = ((n + 1 : Nat) : Int) := by omega
  rw [e1, e2, ← Int.ofNat_tdiv]
  congr 1
  refine Nat.div_eq_of_lt_le (by omega) ?_
  rw [Nat.succ_mul]; omega
/-- Two cuts: the first waits for what reads its own; the last is a store. -/
structure PhC (v : Value) (X0 X1 : World → Prop) (done : Nat → Bool) (f : Nat → Value) (W : World) : Prop where
  tw : F.Two 7 X0 X1 done f W
  v6 : done 6 = false → f 6 = v
  o6 : done 6 = true → done 0 = true
  o7 : done 7 = true → ∀ j, j < 7 → done j = true
section
variable {v : Value} {X0 X1 : World → Prop} {done : Nat → Bool} {f : Nat → Value} {W W' : World}
theorem PhC.start {f : Nat → Value} (h : X0 W) (hf : f 6 = v) : PhC v X0 X1 (fun _ => false) f W := ⟨F_two_start h, fun _ => hf, (fun e => by cases e), (fun e => by cases e)⟩
theorem PhC.v6' (h : PhC v X0 X1 done f W) (hd : done 0 = false) : f 6 = v := h.v6 (by
  cases e : done 6 with
  | false => rfl
  | true => rw [h.o6 e] at hd; cases hd)
theorem PhC.n7' (h : PhC v X0 X1 done f W) {j : Nat} (hj : j < 7) (hd : done j = false) : done 7 = false := by
  cases e : done 7 with
  | false => rfl
  | true => rw [h.o7 e j hj] at hd; cases hd
theorem upd_le (done : Nat → Bool) (k j : Nat) (h : done j = true) : F.updB done k j = true := by
  unfold F.updB
  split
  · rfl
  · exact h
theorem PhC.pure (h : PhC v X0 X1 done f W) {k : Nat} (u : Value) (hk : k ≠ 6) (hk7 : k ≠ 7) : PhC v X0 X1 (F.updB done k) (F.upd f k u) W := by
  have e6 : F.updB done k 6 = done 6 := if_neg (Ne.symm hk)
  have e7 : F.updB done k 7 = done 7 := if_neg (Ne.symm hk7)
  have f6 : F.upd f k u 6 = f 6 := if_neg (Ne.symm hk)
  exact ⟨h.tw.pure k hk7 u, by rw [e6, f6]; exact h.v6, by rw [e6]; exact fun e => upd_le _ _ _ (h.o6 e), by rw [e7]; exact fun e j hj => upd_le _ _ _ (h.o7 e j hj)⟩
theorem PhC.six (h : PhC v X0 X1 done f W) (h0 : done 0 = true) (u : Value) : PhC v X0 X1 (F.updB done 6) (F.upd f 6 u) W := by
  have e6 : F.updB done 6 6 = true := rfl
  have e7 : F.updB done 6 7 = done 7 := rfl
  exact ⟨h.tw.pure 6 (by decide) u, by rw [e6]; exact (fun e => by cases e), fun _ => h0, by rw [e7]; exact fun e j hj => upd_le _ _ _ (h.o7 e j hj)⟩
theorem PhC.seven (h : PhC v X0 X1 done f W) (ha : ∀ j, j < 7 → done j = true) (hX : X1 W') (u : Value) : PhC v X0 X1 (F.updB done 7) (F.upd f 7 u) W' := by
  have e6 : F.updB done 7 6 = true := ha 6 (by decide)
  exact ⟨h.tw.turn hX u, by rw [e6]; exact (fun e => by cases e), fun _ => ha 0 (by decide), fun _ j hj => upd_le _ _ _ (ha j hj)⟩
end
def V7 (p0 n0 : Int) (per n : Nat) : Nat → Value → Prop
  | 0, v => v = .int .i64 p0
  | 1, v => v = .int .i64 (min p0 64)
  | 2, v => v = .int .i64 (per : Nat)
  | 3, v => v = .int .i64 n0
  | 4, v => v = .int .i64 (min n0 20)
  | 5, v => v = .int .i64 (n : Nat)
  | 6, v => v = .int .i64 (per : Nat)
  | _, _ => True
set_option maxHeartbeats 4000000 in
set_option maxRecDepth 100000 in
theorem gfull_walk (p0 n0 : Int) (w : World) : Calls Tryz.prog 7 #[.int .i64 p0, .int .i64 n0] w fun e w' => e = .returned (.bool true) ∧ Below w.heap.size w w' := by
  have haw := awake11 (w.alloc (.cells #[.int .i64 n0] 3))
  obtain ⟨per, hper⟩ : ∃ m : Nat, max 8 (min p0 64) = (m : Int) := ⟨(max 8 (min p0 64)).toNat, by omega⟩
  obtain ⟨n, hn⟩ : ∃ m : Nat, max 1 (min n0 20) = (m : Int) := ⟨(max 1 (min n0 20)).toNat, by omega⟩
  have HP : Hid (8 ≤ per ∧ per ≤ 64) := ⟨by omega, by omega⟩
  have HN : Hid (1 ≤ n ∧ n ≤ 20) := ⟨by omega, by omega⟩
  have c0 : (w.alloc (.cells #[.int .i64 n0] 3)).heap[w.heap.size]? = some (.cells #[.int .i64 n0] 3) := F.heap_new _ _
  go_enter Tryz.func7, Tryz.ntmps7
  go_wp2_with fail
  go_call haw as e w1 ⟨rfl, hb1⟩
  have hlt0 : w.heap.size < (w.alloc (.cells #[.int .i64 n0] 3)).heap.size := F.getElem?_lt c0
  have c1 : w1.heap[w.heap.size]? = some (.cells #[.int .i64 n0] 3) := (hb1.block _ hlt0).trans c0
  have HB1 : Hid (Below w.heap.size w w1) := ((Below.refl _ _).alloc (Nat.le_refl _) _).trans (hb1.mono (Nat.le_of_lt hlt0))
  clear haw hb1 c0 hlt0
  go_wp2
  refine F.wp_region_pb (fun f => ⟨#[f 6, .int .i64 n0, undef, .pointer (some ⟨w.heap.size, 0, none⟩), .bool false, undef, undef, undef, undef, undef, undef, undef, undef, .bool true, .bool false, f 0, f 1, f 2, f 3, f 4, f 5, undef, undef, undef, undef, undef, undef, undef, undef, undef, undef, undef, undef, undef, undef, undef, undef, undef, undef, undef, undef, undef, undef, undef, undef, undef, undef, undef, undef, undef, undef, undef, undef, undef, undef, undef, undef, undef, undef, undef, undef, undef, undef, undef, undef, undef, undef, undef, undef, undef, undef, undef, undef, undef], []⟩) (V7 p0 n0 per n) (PhC (.int .i64 p0) (fun W => W.heap[w.heap.size]? = some (.cells #[.int .i64 n0] 3) ∧ Below w.heap.size w W) (fun W => W.heap[w.heap.size]? = some (.cells #[.int .i64 (n : Nat)] 3) ∧ Below w.heap.size w W)) (fun i => [undef, undef, undef, undef, undef, undef, .int .i64 p0, undef].getD i undef) (by kernel_rfl) rfl rfl ?hIq ?hputq ?stepq ?finq
  case hIq => exact PhC.start ⟨c1, HB1.out.drew⟩ rfl
  case finq =>
    intro f W hP hV
    have w0 : f 0 = .int .i64 p0 := hV 0 (by decide)
    have w1 : f 1 = .int .i64 (min p0 64) := hV 1 (by decide)
    have w2 : f 2 = .int .i64 (per : Nat) := hV 2 (by decide)
    have w3 : f 3 = .int .i64 n0 := hV 3 (by decide)
    have w4 : f 4 = .int .i64 (min n0 20) := hV 4 (by decide)
    have w5 : f 5 = .int .i64 (n : Nat) := hV 5 (by decide)
    have w6 : f 6 = .int .i64 (per : Nat) := hV 6 (by decide)
    clear hV
    obtain ⟨hB3, hB4⟩ := hP.tw.b rfl
    clear hP
    generalize f 0 = z0 at *
    subst w0
    generalize f 1 = z1 at *
    subst w1
    generalize f 2 = z2 at *
    subst w2
    generalize f 3 = z3 at *
    subst w3
    generalize f 4 = z4 at *
    subst w4
    generalize f 5 = z5 at *
    subst w5
    generalize f 6 = z6 at *
    subst w6
    have HBX : Hid (W.heap[w.heap.size]? = some (.cells #[.int .i64 (n : Nat)] 3) ∧ Below w.heap.size w W) := ⟨hB3, hB4⟩
    clear hB3 hB4 HB1
    clear c1 hper hn
    have hmk := F.made_any w.heap.size w W [(w.heap.size, .cells #[.int .i64 (n : Nat)] 3)] HBX.out.2 HBX.out.2.size (by
      intro p hp
      rw [List.mem_singleton.1 hp]
      exact ⟨HBX.out.1, F.apart_of (by decide), Nat.le_refl _⟩) 1 (by decide) (by decide) (4 + per) (by omega) (by have := HP.out; omega)
    have e4 : (4 : Int) + (per : Int) = ((4 + per : Nat) : Int) := by omega
    obtain ⟨hp8, hp64⟩ := HP.out
    rw [← e4] at hmk
    clear e4
    go_wp2_with fail
    go_call hmk as e w2 ⟨L, M0, rfl, o1⟩
    have hd1 := dev0 o1
    have hof := dev_of hd1 per
    clear hmk o1 hd1
    go_wp2_with fail
    go_call hof as e w3 ⟨S, M, rfl, hd2, hSM, hne2⟩
    have hl2 := hd2.lts
    have lS : S < w3.heap.size := hl2 (S, .cells (sg0 M per).cs 44) (by simp)
    have lM : M < w3.heap.size := hl2 (M, F.med L.P 1 1) (by simp)
    have lM0 : M0 < w3.heap.size := hl2 (M0, F.med L.P 1 1) (by simp)
    have lN : w.heap.size < w3.heap.size := hl2 (w.heap.size, .cells #[.int .i64 (n : Nat)] 3) (by simp)
    have nM0 : M0 ≠ S := hne2 (M0, F.med L.P 1 1) (by simp)
    have nN : w.heap.size ≠ S := hne2 (w.heap.size, .cells #[.int .i64 (n : Nat)] 3) (by simp)
    have hd3 := (hd2.alloc (.cells #[.pointer (some ⟨S, 0, none⟩)] 28) (F.apart_of (by decide))).alloc (.cells #[.int .i64 0] 3) (F.apart_of (by decide))
    have e5 : (w3.alloc (.cells #[.pointer (some ⟨S, 0, none⟩)] 28)).heap.size = w3.heap.size + 1 := by simp
    rw [e5] at hd3
    have hfs : FS w.heap.size w L [(w3.heap.size, .cells #[.pointer (some ⟨S, 0, none⟩)] 28), (M, F.med L.P 1 1), (M0, F.med L.P 1 1), (w.heap.size, .cells #[.int .i64 (n : Nat)] 3)] per n M (w3.heap.size + 1) S 0 ((w3.alloc (.cells #[.pointer (some ⟨S, 0, none⟩)] 28)).alloc (.cells #[.int .i64 0] 3)) := by
      have ez : 1 + 0 * (n + 1) = 1 := by omega
      refine ⟨by omega, fun _ => F.pad ⟨#[]⟩, [], by rw [ez]; exact Chn.nil, rfl, fun j _ => ksec0, fun j _ => rfl, ?_⟩
      rw [ez]
      refine hd3.forget ?_
      intro p hp
      simp only [List.mem_cons, List.not_mem_nil, or_false] at hp ⊢
      rcases hp with hp | hp | hp | hp | hp | hp
      · exact Or.inl hp
      · exact Or.inr (Or.inr (Or.inl hp))
      · exact Or.inr (Or.inl hp)
      · exact Or.inr (Or.inr (Or.inr (Or.inl hp)))
      · exact Or.inr (Or.inr (Or.inr (Or.inr (Or.inl hp))))
      · exact Or.inr (Or.inr (Or.inr (Or.inr (Or.inr hp))))
    have hgd := FS.guard (Pb := w3.heap.size) (Nb := w.heap.size) HP.out HN.out hfs (by simp) (by simp) (by simp) (by omega) (by
      intro p hp
      simp only [List.mem_cons, List.not_mem_nil, or_false] at hp
      rcases hp with rfl | rfl | rfl | rfl
      · show w3.heap.size ≠ S; omega
      · exact Ne.symm hSM
      · exact nM0
      · exact nN) (by
      intro p hp
      simp only [List.mem_cons, List.not_mem_nil, or_false] at hp
      rcases hp with rfl | rfl | rfl | rfl
      · show w3.heap.size ≠ w3.heap.size + 1; omega
      · show M ≠ w3.heap.size + 1; omega
      · show M0 ≠ w3.heap.size + 1; omega
      · show w.heap.size ≠ w3.heap.size + 1; omega)
    have hmf : ∀ (fn : Fn) (first cap : Array Value) (w : World), (Instr.makeFunc fn first cap).run Tryz.prog w = .ok (.func fn first cap) w := fun _ _ _ _ => rfl
    clear hof hd2 hl2 hne2 hd3 hfs hSM lM lM0 nM0 nN
    go_wp2_with fail
    go_call hgd as e w5 ⟨rfl, i, hfull, hF⟩
    obtain ⟨hle, now, l, hch, hlen, hks, hfr, hd5⟩ := hF
    have hd6 := hd5.alloc (.cells #[.int .i64 0, .int .i64 0] 37) (F.apart_of (by decide))
    have hof2 := dev_of hd6 per
    have HIQ : Hid (((per : Int) - 1).tdiv ((n : Int) + 1) = (i : Int)) := full_quo per n i hle hfull
    have HLE : Hid (1 + i * (n + 1) ≤ per) := hle
    have hi32 : i ≤ 32 := by
      have h1 : i * 2 ≤ i * (n + 1) := Nat.mul_le_mul_left i (by have := HN.out; omega)
      omega
    clear hgd hd5 hd6 e5 lS lN
    go_wp2_with fail
    go_call hof2 as e w6 ⟨S2, M2, rfl, hd7, hSM2, hne7⟩
    have hsc := scanned_all (Sb := S2) (sg0 M2 per) hd7 (by simp [sg0]) (by
      intro p hp cc fz e
      simp only [List.mem_cons, List.not_mem_nil, or_false] at hp
      rcases hp with rfl | rfl | rfl | rfl | rfl | rfl | rfl | rfl <;> (injection e with _ e _; exact absurd e (by decide))) (by
      intro p hp
      rcases List.mem_cons.1 hp with rfl | hp
      · exact Ne.symm hSM2
      · exact hne7 p hp) ⟨(by decide : (3 : Nat) < _), (by decide : (2 : Nat) < _), (by decide : (5 : Nat) < _)⟩ ⟨(by decide : (4 : Nat) ≤ _), (by show 1 ≤ per; omega), hp64⟩ (Nat.le_refl _) (by omega) (by omega) hks (hch.med) (fun _ => by
      have := hfr (4 + (1 + i * (n + 1))) (Nat.le_refl _)
      show (now (4 + (1 + i * (n + 1))))[0]? ≠ some 67
      rw [this, pad0]; decide)
    clear hof2 hd7 hSM2 hne7 hks hch hfr hle hfull
    go_wp2_with fail
    go_call hsc as e w8 ⟨v, ol, rfl, htx, -, hd8⟩
    obtain ⟨a, ha⟩ : ∃ a, a = 1 + i * (n + 1) := ⟨_, rfl⟩
    rw [← ha] at hd8
    have hal : a ≤ per := by rw [ha]; exact HLE.out
    clear ha
    have q1 : ∀ k, (w8.drewN k).cell? ⟨w3.heap.size + 1, 0, none⟩ = some (.int .i64 (i : Nat)) := fun k => F.cell_of (w := w8.drewN k) (hd8.at' (p := (w3.heap.size + 1, .cells #[.int .i64 (i : Nat)] 3)) (by simp)) 0
    have q2 : ∀ k, (w8.drewN k).cell? ⟨w.heap.size, 0, none⟩ = some (.int .i64 (n : Nat)) := fun k => F.cell_of (w := w8.drewN k) (hd8.at' (p := (w.heap.size, .cells #[.int .i64 (n : Nat)] 3)) (by simp)) 0
    have q3 : ∀ k, (w8.drewN k).cell? ⟨w3.heap.size, 0, none⟩ = some (.pointer (some ⟨S, 0, none⟩)) := fun k => F.cell_of (w := w8.drewN k) (hd8.at' (p := (w3.heap.size, .cells #[.pointer (some ⟨S, 0, none⟩)] 28)) (by simp)) 0
    have q4 : ∀ k, (w8.drewN k).cell? ⟨S, 6, none⟩ = some (.int .i64 (a : Nat)) := fun k => F.cell_of (w := w8.drewN k) (hd8.at' (p := (S, .cells (Sg.cs ⟨M, 3, 2, 5, 4, per, a⟩) 44)) (by simp)) 6
    have HB8 : Hid (Below w.heap.size w w8) := hd8.bel
    obtain ⟨ao, cp, hv⟩ : ∃ ao cp, v = .slice ao i cp := by
      have e : (l.map Prod.snd).length = i := by rw [List.length_map]; exact hlen
      rcases htx with ⟨rfl, h2, _⟩ | ⟨g, cap, cur, rfl, _⟩
      · rw [h2] at e
        have : i = 0 := e.symm
        rw [this]
        exact ⟨_, _, rfl⟩
      · rw [e]; exact ⟨_, _, rfl⟩
    have hq := HIQ.out
    obtain ⟨hn1, hn20⟩ := HN.out
    clear hsc hd8 htx hlen
    subst hv
    have hal2 : (a : Int) ≤ (per : Int) := by omega
    have d1 : decide ((a : Int) ≤ (per : Int)) = true := decide_eq_true hal2
    go_wp2_with fail
    go_quiet (fail)
    have hb := HB8.out
    go_wp2
    go_returns
    exact ⟨rfl, ⟨hb.os, hb.tape, hb.output, hb.size, hb.block⟩⟩
  case hputq =>
    repeat (refine ⟨fun f v => rfl, ?_⟩)
    trivial
  case stepq =>
    refine ⟨?_, ?_⟩
    · intro done f W hP hdn hd K hK
      clear hd
      have q := hP.v6' hdn
      generalize f 6 = y6 at *
      subst q
      go_simp
      exact hK _ _ rfl (hP.pure _ (by decide) (by decide))
    refine ⟨?_, ?_⟩
    · intro done f W hP hdn hd K hK
      have d0 := (hd.1 rfl).2
      have e0 : done 0 = true := (hd.1 rfl).1
      clear hd
      replace d0 : f 0 = .int .i64 p0 := d0
      generalize f 0 = x0 at *
      subst d0
      clear e0
      go_simp
      exact hK _ _ rfl (hP.pure _ (by decide) (by decide))
    refine ⟨?_, ?_⟩
    · intro done f W hP hdn hd K hK
      have d1 := (hd.1 rfl).2
      have e1 : done 1 = true := (hd.1 rfl).1
      clear hd
      replace d1 : f 1 = .int .i64 (min p0 64) := d1
      generalize f 1 = x1 at *
      subst d1
      clear e1
      go_simp
      exact hK _ _ rfl (hP.pure _ (by decide) (by decide))
    refine ⟨?_, ?_⟩
    · intro done f W hP hdn hd K hK
      clear hd
      have n7 : done 7 = false := hP.n7' (by decide) hdn
      have q : W.cell? ⟨w.heap.size, 0, none⟩ = some (.int .i64 n0) := F.cell_of (hP.tw.a n7).1 0
      go_simp
      exact hK _ _ rfl (hP.pure _ (by decide) (by decide))
    refine ⟨?_, ?_⟩
    · intro done f W hP hdn hd K hK
      have d3 := (hd.1 rfl).2
      have e3 : done 3 = true := (hd.1 rfl).1
      clear hd
      replace d3 : f 3 = .int .i64 n0 := d3
      generalize f 3 = x3 at *
      subst d3
      clear e3
      go_simp
      exact hK _ _ rfl (hP.pure _ (by decide) (by decide))
    refine ⟨?_, ?_⟩
    · intro done f W hP hdn hd K hK
      have d4 := (hd.1 rfl).2
      have e4 : done 4 = true := (hd.1 rfl).1
      clear hd
      replace d4 : f 4 = .int .i64 (min n0 20) := d4
      generalize f 4 = x4 at *
      subst d4
      clear e4
      go_simp
      exact hK _ _ rfl (hP.pure _ (by decide) (by decide))
    refine ⟨?_, ?_⟩
    · intro done f W hP hdn hd K hK
      have d2 := (hd.1 rfl).2
      have e2 : done 2 = true := (hd.1 rfl).1
      have e0 : done 0 = true := (hd.2.1 rfl).1
      clear hd
      replace d2 : f 2 = .int .i64 (per : Nat) := d2
      generalize f 2 = x2 at *
      subst d2
      clear e2
      go_simp
      exact hK _ _ rfl (hP.six e0 _)
    refine ⟨?_, ?_⟩
    · intro done f W hP hdn hd K hK
      have d5 := (hd.1 rfl).2
      have e5 : done 5 = true := (hd.1 rfl).1
      have e6 : done 6 = true := (hd.2.1 rfl).1
      have e0 : done 0 = true := (hd.2.2.1 rfl).1
      have e1 : done 1 = true := (hd.2.2.2.1 rfl).1
      have e2 : done 2 = true := (hd.2.2.2.2.1 rfl).1
      have e3 : done 3 = true := (hd.2.2.2.2.2.1 rfl).1
      have e4 : done 4 = true := (hd.2.2.2.2.2.2.1 rfl).1
      clear hd
      replace d5 : f 5 = .int .i64 (n : Nat) := d5
      generalize f 5 = x5 at *
      subst d5
      have hA := hP.tw.a hdn
      have q : W.cell? ⟨w.heap.size, 0, none⟩ = some (.int .i64 n0) := F.cell_of hA.1 0
      have q2 := F.frz_of hA.1 0
      have hX : (W.setCell ⟨w.heap.size, 0, none⟩ (.int .i64 (n : Nat))).heap[w.heap.size]? = some (.cells #[.int .i64 (n : Nat)] 3) ∧ Below w.heap.size w (W.setCell ⟨w.heap.size, 0, none⟩ (.int .i64 (n : Nat))) := ⟨by rw [F.block_set hA.1]; rfl, hA.2.setCell (Nat.le_refl _) _⟩
      have HX : Hid _ := hX
      have hall : ∀ j, j < 7 → done j = true := fun j hj => match j, hj with
        | 0, _ => e0 | 1, _ => e1 | 2, _ => e2 | 3, _ => e3 | 4, _ => e4 | 5, _ => e5 | 6, _ => e6
      clear hX hA
      go_simp
      exact hK (.bool false) _ trivial (hP.seven hall HX.out _)
    trivial
end Go.Proofs.YtncfbocbigdhiaaGreat
