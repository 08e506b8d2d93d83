/- SeglogTurns: its closure, as a call. -/
import Derived.Test.YtncfbocbigdhiaaGreatQMB
import Derived.Lib.MinMax
namespace Go.Proofs.YtncfbocbigdhiaaGreat.U
open Go Go.RowKit Go.Sort
theorem ent42 (args : Array Value) (W : World) : (callFunc 42 args).run Tryz.prog W = .ok (.enter 42 args) W := O.enter_of Tryz.func42 (by kernel_rfl) (by kernel_rfl) args W
theorem set_same {W : World} {B : Nat} {v : Value} {t : TypeId} (hb : W.heap[B]? = some (.cells #[v] t)) : Below W.heap.size W (W.setCell ⟨B, 0, none⟩ v) := by
  have hk := (Off.refl B W).set 0 v
  refine ⟨rfl, rfl, rfl, hk.size, fun k _ => ?_⟩
  by_cases e : k = B
  · subst e
    rw [F.block_set hb v, hb]; rfl
  · exact hk.block k e
def B42 (Gb Xb Nb Lb n : Nat) (rest : List (Nat × Obj)) : List (Nat × Obj) := (Gb, Obj.cells #[.bool true] 4) :: (Xb, Obj.cells #[.pointer (some ⟨Lb, 0, none⟩)] 62) :: (Nb, Obj.cells #[.int .i64 (n : Nat)] 3) :: rest
/-- Between two rounds. -/
structure T42 (T : Nat) (w : World) (L : F.Loc) (N p ns M Lb Sb : Nat) (B0 : List (Nat × Obj)) (i k : Nat) (c : Int) (W : World) : Prop where
  ex : ∃ X tv tl, X.length = k ∧ (∀ s ∈ X, s.2.length = 1) ∧ TxO tv (X.flatMap Prod.snd) tl ∧ (∀ r ∈ tl, ∀ s ∈ (Sb, Obj.cells #[tv] 30) :: B0, r.1 ≠ s.1) ∧ LgX T w L 1 N p ns M Lb (tl ++ (Sb, Obj.cells #[tv] 30) :: B0) i X c W
theorem conv2 (W : World) (G : Nat) (a b : Nat) (ha : a < 256) (hb : b < 256) (h : W.heap[G]? = some (.cells #[.int .u8 (a : Nat), .int .u8 (b : Nat)] 5)) : (convert 75 9 (.slice (some ⟨G, 0, none⟩) 2 2)).run Tryz.prog W = .ok (.string ⟨#[UInt8.ofNat a, UInt8.ofNat b]⟩) W := by
  have h := run_convert_bytes_back (P := Tryz.prog) W 75 9 5 ⟨G, 0, none⟩ 2 [UInt8.ofNat a, UInt8.ofNat b] Tryz.underlying75 Tryz.underlying5 Tryz.underlying9 (fun j hj => by
    rw [Addr.add_lit, Nat.zero_add, F.cell_of h]
    rcases j with _ | _ | j
    · simp [UInt8.toNat_ofNat']; omega
    · simp [UInt8.toNat_ofNat']; omega
    · simp at hj; omega)
  exact h
/-- A statement in which a call answers a row, whose first number another call takes; a store is its end. -/
structure PhL (A B C : World → Prop) (x0 : Nat) (done : Nat → Bool) (f : Nat → Value) (W : World) : Prop where
  a : done 12 = false → A W
  b : done 12 = true → done 14 = false → B W
  c : done 14 = true → C W
  r : done 9 = true → done 12 = false → ∃ g ln cp, f 9 = .slice (some ⟨g, 0, none⟩) (ln + 1) cp ∧ W.cell? ⟨g, 0, none⟩ = some (nv x0) ∧ (done 10 = true → f 10 = .pointer (some ⟨g, 0, none⟩))
  o : done 14 = true → done 12 = true
  k6 : done 6 = true → done 3 = true
  k9 : done 9 = true → done 6 = true
  k10 : done 10 = true → done 9 = true
  k11 : done 11 = true → done 10 = true
  k12 : done 12 = true → done 11 = true
section
variable {A B C : World → Prop} {x0 : Nat} {done : Nat → Bool} {f : Nat → Value} {W W' : World}
theorem PhL.start (h : A W) : PhL A B C x0 (fun _ => false) f W := ⟨fun _ => h, (fun e => by cases e), (fun e => by cases e), (fun e => by cases e), (fun e => by cases e), (fun e => by cases e), (fun e => by cases e), (fun e => by cases e), (fun e => by cases e), (fun e => by cases e)⟩
theorem PhL.n12 (h : PhL A B C x0 done f W) (hd : done 3 = false ∨ done 9 = false ∨ done 10 = false ∨ done 11 = false) : done 12 = false := by
  cases e : done 12 with
  | false => rfl
  | true =>
    have a := h.k12 e
    have b := h.k11 a
    have c := h.k10 b
    have d := h.k6 (h.k9 c)
    rcases hd with x | x | x | x
    · rw [d] at x; cases x
    · rw [c] at x; cases x
    · rw [b] at x; cases x
    · rw [a] at x; cases x
theorem PhL.n10 (h : PhL A B C x0 done f W) (hd : done 9 = false) : done 10 = false := by
  cases e : done 10 with
  | false => rfl
  | true => rw [h.k10 e] at hd; cases hd
theorem PhL.n14 (h : PhL A B C x0 done f W) (hd : done 12 = false) : done 14 = false := by
  cases e : done 14 with
  | false => rfl
  | true => rw [h.o e] at hd; cases hd
theorem upB_of {done : Nat → Bool} {j k : Nat} (h : F.updB done j k = true) (hk : k ≠ j) : done k = true := (if_neg hk).symm.trans h
theorem upB_le {done : Nat → Bool} {j k : Nat} (h : done k = true) : F.updB done j k = true := by
  unfold F.updB
  split
  · rfl
  · exact h
theorem PhL.pure (h : PhL A B C x0 done f W) (v : Value) {j : Nat} (h9 : 9 ≠ j) (h10 : 10 ≠ j) (h12 : 12 ≠ j) (h14 : 14 ≠ j) (h6 : 6 = j → done 3 = true) (h11 : 11 = j → done 10 = true) : PhL A B C x0 (F.updB done j) (F.upd f j v) W := by
  have e9 : F.updB done j 9 = done 9 := if_neg h9
  have e10 : F.updB done j 10 = done 10 := if_neg h10
  have e12 : F.updB done j 12 = done 12 := if_neg h12
  have e14 : F.updB done j 14 = done 14 := if_neg h14
  have f9 : F.upd f j v 9 = f 9 := if_neg h9
  have f10 : F.upd f j v 10 = f 10 := if_neg h10
  refine ⟨by rw [e12]; exact h.a, by rw [e12, e14]; exact h.b, by rw [e14]; exact h.c, by rw [e9, e10, e12, f9, f10]; exact h.r, by rw [e12, e14]; exact h.o, fun e => ?_, fun e => upB_le (h.k9 (by rw [← e9]; exact e)), fun e => by rw [e9]; exact h.k10 (by rw [← e10]; exact e), fun e => ?_, fun e => upB_le (h.k12 (by rw [← e12]; exact e))⟩
  · by_cases c : 6 = j
    · exact upB_le (h6 c)
    · exact upB_le (h.k6 (upB_of e c))
  · by_cases c : 11 = j
    · exact upB_le (h11 c)
    · exact upB_le (h.k11 (upB_of e c))
theorem PhL.nine (h : PhL A B C x0 done f W) (h9 : done 9 = false) (h6 : done 6 = true) (hA : A W') (g ln cp : Nat) (hc : W'.cell? ⟨g, 0, none⟩ = some (nv x0)) : PhL A B C x0 (F.updB done 9) (F.upd f 9 (.slice (some ⟨g, 0, none⟩) (ln + 1) cp)) W' := by
  have h12 := h.n12 (Or.inr (Or.inl h9))
  have h10 := h.n10 h9
  have n14 := h.n14 h12
  refine ⟨fun _ => hA, fun e => ?_, fun e => ?_, fun _ _ => ⟨g, ln, cp, rfl, hc, fun e => ?_⟩, h.o, h.k6, fun _ => h6, fun _ => rfl, h.k11, h.k12⟩
  · have e2 : done 12 = true := e
    rw [h12] at e2; cases e2
  · have e2 : done 14 = true := e
    rw [n14] at e2; cases e2
  · have e2 : done 10 = true := e
    rw [h10] at e2; cases e2
theorem PhL.ten (h : PhL A B C x0 done f W) (d9 : done 9 = true) {g ln cp : Nat} (h9 : f 9 = .slice (some ⟨g, 0, none⟩) (ln + 1) cp) (hc : W.cell? ⟨g, 0, none⟩ = some (nv x0)) : PhL A B C x0 (F.updB done 10) (F.upd f 10 (.pointer (some ⟨g, 0, none⟩))) W :=
  ⟨h.a, h.b, h.c, fun _ _ => ⟨g, ln, cp, h9, hc, fun _ => rfl⟩, h.o, h.k6, h.k9, fun _ => d9, fun _ => rfl, h.k12⟩
theorem PhL.twelve (h : PhL A B C x0 done f W) (v : Value) (hd : done 12 = false) (d11 : done 11 = true) (hB : B W') : PhL A B C x0 (F.updB done 12) (F.upd f 12 v) W' := by
  have n14 := h.n14 hd
  refine ⟨fun e => ?_, fun _ _ => hB, fun e => ?_, fun _ e => ?_, fun _ => rfl, h.k6, h.k9, h.k10, h.k11, fun _ => d11⟩
  · cases e
  · have e2 : done 14 = true := e
    rw [n14] at e2; cases e2
  · cases e
theorem PhL.end (h : PhL A B C x0 done f W) (v : Value) (h12 : done 12 = true) (hC : C W') : PhL A B C x0 (F.updB done 14) (F.upd f 14 v) W' := by
  refine ⟨fun e => ?_, fun _ e => ?_, fun _ => hC, fun _ e => ?_, fun _ => h12, h.k6, h.k9, h.k10, h.k11, h.k12⟩
  · have e2 : done 12 = false := e
    rw [h12] at e2; cases e2
  · cases e
  · have e2 : done 12 = false := e
    rw [h12] at e2; cases e2
end
def V42 (Lb x0 : Nat) : Nat → Value → Prop
  | 0, v => v = .bool true
  | 1, v => v = .bool true
  | 2, v => v = .pointer (some ⟨Lb, 0, none⟩)
  | 3, v => v = .bool false
  | 4, v => v = .bool true
  | 5, v => v = .bool true
  | 6, v => v = .bool true
  | 7, v => v = .pointer (some ⟨Lb, 0, none⟩)
  | 8, v => v = .pointer (some ⟨Lb, 0, none⟩)
  | 11, v => v = .int .i64 (x0 : Nat)
  | 12, v => v = .bool true
  | 13, v => v = .bool true
  | _, _ => True
/-- Where a walk is to stand still, whatever is tried. -/
structure StopS (p : Prop) : Prop where
  ex : p
theorem sappS {ops : Array Oper} {rest : List Oper} {o : Oper} {a : Act} {w : World} {Q : Exit → Act → World → Prop} (hgd : o.guard = none) (s x : Operand) (ho : o.op = .call { callee := .builtin .append, args := #[s, x], argTypes := #[30, 30] }) {v vx v' : Value} {W' : World} (hs : a.eval s = v) (hx : a.eval x = vx) (hr : (Builtin.append_ #[30, 30] o.type #[v, vx]).run Tryz.prog w = .ok v' W')
    (k : StopS (wpList Tryz.prog ops Q rest (a.put o.dst v') W')) : wpList Tryz.prog ops Q (o :: rest) a w := sapp hgd s x ho hs hx hr k.ex
set_option maxHeartbeats 8000000 in
set_option maxRecDepth 100000 in
theorem op42 {T : Nat} {w : World} {L : F.Loc} {N p ns M Lb Nb Gb Xb Sb n : Nat} {rest : List (Nat × Obj)} {c : Int} {W0 : World} (h : LgX T w L 1 N p ns M Lb ((Sb, Obj.cells #[.slice none 0 0] 30) :: B42 Gb Xb Nb Lb n rest) 0 [] c W0)
    (hM : (M, F.med L.P 1 1) ∈ rest) (hn : n ≤ 40) (hp : 8 ≤ p ∧ p ≤ 20) (hns : 2 ≤ ns ∧ ns ≤ 6) (hfit : 1 + ns * p ≤ N) (hN1 : N ≤ 1000) (hc : c ≤ 1000000) (hSb : ∀ r ∈ B42 Gb Xb Nb Lb n rest, r.1 ≠ Sb) :
    Calls Tryz.prog 42 #[.pointer (some ⟨Nb, 0, none⟩), .pointer (some ⟨Gb, 0, none⟩), .pointer (some ⟨Xb, 0, none⟩), .pointer (some ⟨Sb, 0, none⟩)] W0 fun e w' => e = .returned (.tuple #[]) ∧ T42 T w L N p ns M Lb Sb (B42 Gb Xb Nb Lb n rest) n (min n (ns - 1)) (c + 200 * n) w' := by
  have HB : Hid ((M, F.med L.P 1 1) ∈ rest ∧ (8 ≤ p ∧ p ≤ 20) ∧ (2 ≤ ns ∧ ns ≤ 6) ∧ 1 + ns * p ≤ N ∧ N ≤ 1000 ∧ c ≤ 1000000 ∧ (∀ r ∈ B42 Gb Xb Nb Lb n rest, r.1 ≠ Sb)) := ⟨hM, hp, hns, hfit, hN1, hc, hSb⟩
  have H0 : Hid (T42 T w L N p ns M Lb Sb (B42 Gb Xb Nb Lb n rest) 0 (min 0 (ns - 1)) (c + 200 * ((0 : Nat) : Int)) W0) := by
    refine ⟨[], _, [], by simp, (fun s hs => by cases hs), TxO.nil, (fun r hr => by cases hr), ?_⟩
    rw [show c + 200 * ((0 : Nat) : Int) = c by omega]
    exact h
  have qn : W0.cell? ⟨Nb, 0, none⟩ = some (.int .i64 (n : Nat)) := F.cell_of (h.at' (r := (Nb, Obj.cells #[.int .i64 (n : Nat)] 3)) (by simp [B42])) 0
  clear h hM hp hns hfit hN1 hc hSb
  go_enter Tryz.func42, Tryz.ntmps42
  go_wp2
  go_loopw [7] (fun iv wr => ∃ i : Nat, iv = .int .i64 (i : Nat) ∧ i ≤ n ∧ Hid (T42 T w L N p ns M Lb Sb (B42 Gb Xb Nb Lb n rest) i (min i (ns - 1)) (c + 200 * (i : Int)) wr)) (fun iv _ => n - (intOf iv).toNat)
  case atStart => exact ⟨0, rfl, Nat.zero_le _, H0.out⟩
  case round =>
    obtain ⟨i, rfl, hin, HI⟩ := hrel
    clear H0 qn
    rcases Nat.eq_or_lt_of_le hin with rfl | hlt
    · go_wp2
      go_returns
      exact ⟨rfl, HI.out⟩
    · obtain ⟨X, tv, tl, hX, h1, hT, hA, hL⟩ := HI.out
      have hltI : (i : Int) < (n : Int) := by omega
      have hXl : X.length < ns := by have := HB.out.2.2.1; omega
      obtain ⟨k, k1, k2, k3⟩ := least_free (X.map Prod.fst) ns (by rw [List.length_map]; exact hXl)
      have hst := hL.start ⟨HB.out.2.1.1, by have := HB.out.2.1; omega⟩ HB.out.2.2.2.1 HB.out.2.2.2.2.1 k k1 k2 k3 (by omega) (by have := HB.out.2.2.2.2.2.1; omega)
      have q1 : wr.cell? ⟨Gb, 0, none⟩ = some (.bool true) := F.cell_of (hL.at' (r := (Gb, Obj.cells #[.bool true] 4)) (by simp [B42])) 0
      have q2 : wr.cell? ⟨Xb, 0, none⟩ = some (.pointer (some ⟨Lb, 0, none⟩)) := F.cell_of (hL.at' (r := (Xb, Obj.cells #[.pointer (some ⟨Lb, 0, none⟩)] 62)) (by simp [B42])) 0
      obtain ⟨XS, hXS⟩ : ∃ XS, XS = X.flatMap Prod.snd := ⟨_, rfl⟩
      have hXL : XS.length = X.length := by
        rw [hXS]
        clear hX hT hA hL hXl k2 k3 hst hXS q1 q2
        induction X with
        | nil => rfl
        | cons a r ih => rw [List.flatMap_cons, List.length_append, h1 a (List.mem_cons_self ..), ih (fun s hs => h1 s (List.mem_cons_of_mem _ hs))]; simp; omega
      rw [← hXS] at hT
      have HYS : Hid (XS = X.flatMap Prod.snd ∧ XS.length ≤ 100) := ⟨hXS, by have := HB.out.2.2.1; omega⟩
      have HT : Hid (TxO tv XS tl ∧ (∀ r ∈ tl, ∀ s ∈ (Sb, Obj.cells #[tv] 30) :: B42 Gb Xb Nb Lb n rest, r.1 ≠ s.1)) := ⟨hT, hA⟩
      have HX : Hid (X.length = min i (ns - 1) ∧ (∀ s ∈ X, s.2.length = 1) ∧ k < ns ∧ k ∉ X.map Prod.fst) := ⟨hX, h1, k1, k2⟩
      clear hX h1 hT hA hL hXl k1 k2 k3 HI hXS hXL
      go_wp2_with fail
      go_call hst as e1 w1 ⟨rfl, h1⟩
      have hbg := h1.at' (r := (Gb, Obj.cells #[.bool true] 4)) (by simp [B42])
      have q3 : w1.cell? ⟨Gb, 0, none⟩ = some (.bool true) := F.cell_of hbg 0
      have z3 : w1.frozen? ⟨Gb, 0, none⟩ = false := F.frz_of hbg 0
      have h2 := h1.below (set_same hbg)
      have H2 : Hid _ := h2
      clear hst h1 q1 q2 hbg h2
      obtain ⟨s, hcv⟩ : ∃ s, (convert 75 9 (.slice (some ⟨w1.heap.size, 0, none⟩) 2 2)).run Tryz.prog ((w1.setCell ⟨Gb, 0, none⟩ (.bool true)).alloc (.cells #[.int .u8 (97 + (i : Int) % 26), .int .u8 (48 + (i : Int) / 26)] 5)) = .ok (.string s) ((w1.setCell ⟨Gb, 0, none⟩ (.bool true)).alloc (.cells #[.int .u8 (97 + (i : Int) % 26), .int .u8 (48 + (i : Int) / 26)] 5)) := by
        refine ⟨_, conv2 _ _ (97 + i % 26) (48 + i / 26) (by omega) (by omega) ?_⟩
        have e1 : 97 + (i : Int) % 26 = ((97 + i % 26 : Nat) : Int) := by omega
        have e2 : 48 + (i : Int) / 26 = ((48 + i / 26 : Nat) : Int) := by omega
        have e3 : (w1.setCell ⟨Gb, 0, none⟩ (.bool true)).heap.size = w1.heap.size := by simp [World.setCell]
        rw [e1, e2, ← e3]
        exact F.heap_new _ _
      have hpay := pay44 s 1 (by decide) (by decide) ((w1.setCell ⟨Gb, 0, none⟩ (.bool true)).alloc (.cells #[.int .u8 (97 + (i : Int) % 26), .int .u8 (48 + (i : Int) / 26)] 5))
      go_wp2_with fail
      go_call hpay as e3 w3 ⟨rfl, hb3⟩
      have h3 := (H2.out.below ((Below.refl _ _).alloc (Nat.le_refl _) _)).below hb3
      obtain ⟨x, hx⟩ : ∃ x, x = payN s 1 := ⟨_, rfl⟩
      have hxs : x.size = 63 * 1 := by rw [hx]; exact payN_size s 1
      rw [← hx]
      have q4 : w3.cell? ⟨Xb, 0, none⟩ = some (.pointer (some ⟨Lb, 0, none⟩)) := F.cell_of (h3.at' (r := (Xb, Obj.cells #[.pointer (some ⟨Lb, 0, none⟩)] 62)) (by simp [B42])) 0
      have hap := h3.append ⟨HB.out.2.1.1, by have := HB.out.2.1; omega⟩ (by have := HB.out.2.2.1; omega) HB.out.2.2.2.1 HB.out.2.2.2.2.1 x 1 (by decide) hxs (by rw [used_nil]; have := HB.out.2.1; omega) (by omega) (by have := HB.out.2.2.2.2.2.1; omega)
      have HXS : Hid (x.size = 63 * 1) := hxs
      clear hpay hcv hb3 h3 H2 hx q3 z3 hxs
      go_wp2_with fail
      go_call hap as e4 w4 ⟨rfl, h4⟩
      have q5 : w4.cell? ⟨Sb, 0, none⟩ = some tv := F.cell_of (h4.at' (r := (Sb, Obj.cells #[tv] 30)) (by simp)) 0
      have h5 := h4.below ((Below.refl _ w4).alloc (Nat.le_refl _) (.cells #[.string x] 9))
      obtain ⟨tv2, w5, hr5, tl2, hT2, hL2, hA2⟩ := h5.appO 30 (by simp [B42, HB.out.1]) HT.out.1 HT.out.2 w4.heap.size x (F.heap_new _ _) (by have := HYS.out.2; omega)
      obtain ⟨tao, m1, tcp, htv⟩ : ∃ ao m cp, tv = .slice ao m cp := by
        obtain ⟨a, b, c⟩ := HT.out.1.len
        exact ⟨a, _, b, c⟩
      have hbs := hL2.at' (r := (Sb, Obj.cells #[tv] 30)) (by simp)
      have q6 : w5.cell? ⟨Sb, 0, none⟩ = some tv := F.cell_of hbs 0
      have z6 : w5.frozen? ⟨Sb, 0, none⟩ = false := F.frz_of hbs 0
      have hL3 := (hL2.drop (base' := (Sb, Obj.cells #[tv] 30) :: (tl2 ++ B42 Gb Xb Nb Lb n rest)) (by simp [B42, HB.out.1]) (by
        intro r hr
        simp only [List.mem_cons, List.mem_append] at hr ⊢
        rcases hr with hr | hr | hr <;> simp [hr])).off (W' := w5.setCell ⟨Sb, 0, none⟩ tv2) (o' := Obj.cells #[tv2] 30) (by
        intro r hr
        rcases List.mem_append.1 hr with hr | hr
        · exact hA2 r hr (Sb, Obj.cells #[tv] 30) (by simp)
        · exact HB.out.2.2.2.2.2.2 r hr) (by simp [B42, HB.out.1]) ((Off.refl Sb _).set 0 _) (by rw [F.block_set hbs]; rfl) (F.apart_of (by decide)) (fun _ _ => cells_ne2 (by decide))
      obtain ⟨Y, hY⟩ : ∃ Y, Y = X ++ [(k, [] ++ [x])] := ⟨_, rfl⟩
      have HL3 : Hid (LgX T w L 1 N p ns M Lb (tl2 ++ (Sb, Obj.cells #[tv2] 30) :: B42 Gb Xb Nb Lb n rest) (i + 1) Y (c + 200 * (i : Int) + 102) (w5.setCell ⟨Sb, 0, none⟩ tv2)) := by
        rw [hY]
        exact (hL3.drop (by simp [B42, HB.out.1]) (by
          intro r hr
          simp only [List.mem_cons, List.mem_append] at hr ⊢
          rcases hr with hr | hr | hr <;> simp [hr])).more (by omega)
      have HY : Hid (Y.length = min i (ns - 1) + 1 ∧ (∀ s ∈ Y, s.2.length = 1) ∧ TxO tv2 (Y.flatMap Prod.snd) tl2 ∧ (∀ r ∈ tl2, ∀ s ∈ (Sb, Obj.cells #[tv2] 30) :: B42 Gb Xb Nb Lb n rest, r.1 ≠ s.1)) := by
        refine ⟨by rw [hY, List.length_append, HX.out.1]; rfl, fun s hs => ?_, ?_, fun r hr s hs => ?_⟩
        · rw [hY] at hs
          rcases List.mem_append.1 hs with hs | hs
          · exact HX.out.2.1 s hs
          · rw [List.mem_singleton.1 hs]; rfl
        · rw [hY, List.flatMap_append, ← HYS.out.1]; exact hT2
        · rcases List.mem_cons.1 hs with rfl | hs
          · exact hA2 r hr (Sb, Obj.cells #[tv] 30) (by simp)
          · exact hA2 r hr s (List.mem_cons_of_mem _ hs)
      obtain ⟨t2ao, m2, t2cp, htv2⟩ : ∃ ao m cp, tv2 = .slice ao m cp := by
        obtain ⟨a, b, c⟩ := hT2.len
        exact ⟨a, _, b, c⟩
      have HR5 : Hid _ := hr5
      clear hap h4 h5 hL2 hL3 hA2 hbs hT2 q4 hr5 hY HX HT HYS HXS
      subst htv
      subst htv2
      have hr5 := HR5.out
      go_wp2_with (first | refine sappS (v := .slice tao m1 tcp) (vx := .slice (some ⟨w4.heap.size, 0, none⟩) 1 1) rfl (.tmp 29) (.tmp 31) rfl rfl rfl hr5 ?_ | fail)
      refine ⟨?_⟩
      clear hr5 HR5
      have q7 : (w5.setCell ⟨Sb, 0, none⟩ (.slice t2ao m2 t2cp)).cell? ⟨Xb, 0, none⟩ = some (.pointer (some ⟨Lb, 0, none⟩)) := F.cell_of (HL3.out.at' (r := (Xb, Obj.cells #[.pointer (some ⟨Lb, 0, none⟩)] 62)) (by simp [B42])) 0
      have hfr := HL3.out.free (by have := HB.out.2.2.1; omega)
      go_wp2_with fail
      go_call hfr as e6 w6 ⟨rfl, h6⟩
      have H6 : Hid (LgX T w L 1 N p ns M Lb (tl2 ++ (Sb, Obj.cells #[.slice t2ao m2 t2cp] 30) :: B42 Gb Xb Nb Lb n rest) (i + 1) Y (c + 200 * (i : Int) + 102) w6) := h6
      clear hfr h6 q7 HL3
      by_cases hfull : Y.length = ns
      · have e0 : ns - Y.length = 0 := by omega
        rw [e0]
        go_wp2
        obtain ⟨x0, t0, Z, hZ⟩ : ∃ x0 t0 Z, Y = (x0, t0) :: Z := by
          cases hYY : Y with
          | nil => rw [hYY] at hfull; have := HB.out.2.2.1; simp at hfull; omega
          | cons a r => exact ⟨a.1, a.2, r, rfl⟩
        obtain ⟨cc, hcc⟩ : ∃ cc, cc = c + 200 * (i : Int) + 102 := ⟨_, rfl⟩
        have HCC : Hid (cc ≤ 50000000 ∧ cc = c + 200 * (i : Int) + 102) := ⟨by have := HB.out.2.2.2.2.2.1; omega, hcc⟩
        have HZ : Hid (Y = (x0, t0) :: Z ∧ Y.length = ns) := ⟨hZ, hfull⟩
        have HFULL : Hid (((x0, t0) :: Z).length = ns) := by show _ = ns; rw [← hZ]; exact hfull
        have HFULL2 : Hid (Z ≠ []) := by
          show Z ≠ []
          intro hz
          rw [hZ, hz] at hfull
          have := HB.out.2.2.1
          simp at hfull; omega
        have HCUT : Hid (∀ W, ∃ v', (Instr.slice 30 (.slice t2ao m2 t2cp) (some (.int .i64 1)) none none).run Tryz.prog W = .ok v' W ∧ TxO v' (Z.flatMap Prod.snd) tl2) := by
          intro W
          have hfm : Y.flatMap Prod.snd = t0 ++ Z.flatMap Prod.snd := by rw [hZ, List.flatMap_cons]
          have ht0 : t0.length = 1 := HY.out.2.1 (x0, t0) (by rw [hZ]; exact List.mem_cons_self ..)
          obtain ⟨v', h1, h2⟩ := HY.out.2.2.1.cut (by rw [hfm, List.length_append]; omega) W
          refine ⟨v', h1, ?_⟩
          rw [hfm] at h2
          have : (t0 ++ Z.flatMap Prod.snd).drop 1 = Z.flatMap Prod.snd := by
            rw [← ht0, List.drop_left]
          rw [this] at h2; exact h2
        have H7 : Hid (LgX T w L 1 N p ns M Lb (tl2 ++ (Sb, Obj.cells #[.slice t2ao m2 t2cp] 30) :: B42 Gb Xb Nb Lb n rest) (i + 1) ((x0, t0) :: Z) cc w6) := by
          have := H6.out
          rw [hZ, ← hcc] at this
          exact this
        clear H6 hZ hcc hfull e0
        refine F.wp_region_pb (fun f => ⟨#[.pointer (some ⟨Nb, 0, none⟩), .pointer (some ⟨Gb, 0, none⟩), .pointer (some ⟨Xb, 0, none⟩), .pointer (some ⟨Sb, 0, none⟩), .int .i64 (i : Int), .string x, .int .i64 (n : Int), .int .i64 (i : Int), .bool true, .int .i64 (i : Int), .bool true, .bool true, .pointer (some ⟨Lb, 0, none⟩), .bool true, .bool true, .int .i64 (i : Int), .int .i64 ((i : Int) % 26), .int .i64 (97 + (i : Int) % 26), .int .u8 (97 + (i : Int) % 26), .int .i64 (i : Int), .int .i64 ((i : Int) / 26), .int .i64 (48 + (i : Int) / 26), .int .u8 (48 + (i : Int) / 26), .slice (some ⟨w1.heap.size, 0, none⟩) 2 2, .string s, .string x, .pointer (some ⟨Lb, 0, none⟩), .string x, .agg #[.int .i64 (k : Int), .int .i64 ((used [] : Nat) : Int), .int .i64 1], .slice tao m1 tcp, .string x, .slice (some ⟨w4.heap.size, 0, none⟩) 1 1, .slice t2ao m2 t2cp, .pointer (some ⟨Lb, 0, none⟩), .int .i64 0, .bool true, f 0, f 1, f 2, f 3, f 4, f 5, f 6, f 7, f 8, f 9, f 10, f 11, f 12, f 13, u50, u51, u52], []⟩) (V42 Lb x0) (PhL (fun W => LgX T w L 1 N p ns M Lb (tl2 ++ (Sb, Obj.cells #[.slice t2ao m2 t2cp] 30) :: B42 Gb Xb Nb Lb n rest) (i + 1) ((x0, t0) :: Z) cc W) (fun W => LgX T w L 1 N p ns M Lb (tl2 ++ (Sb, Obj.cells #[.slice t2ao m2 t2cp] 30) :: B42 Gb Xb Nb Lb n rest) (i + 1) Z (cc + 2) W) (fun W => LgX T w L 1 N p ns M Lb (tl2 ++ (Sb, Obj.cells #[.slice t2ao m2 t2cp] 30) :: B42 Gb Xb Nb Lb n rest) (i + 1) Z (cc + 2) W) x0) (fun i => [u36, u37, u38, u39, u40, u41, u42, u43, u44, u45, u46, u47, u48, u49, undef].getD i undef) (by kernel_rfl) rfl rfl ?hIq ?hputq ?stepq ?finq
        case hIq => exact PhL.start (H7.out.below (Below.refl _ _).drew)
        case finq =>
          intro f W hP hV
          have y0 : f 0 = .bool true := hV 0 (by decide)
          have y1 : f 1 = .bool true := hV 1 (by decide)
          have y2 : f 2 = .pointer (some ⟨Lb, 0, none⟩) := hV 2 (by decide)
          have y3 : f 3 = .bool false := hV 3 (by decide)
          have y4 : f 4 = .bool true := hV 4 (by decide)
          have y5 : f 5 = .bool true := hV 5 (by decide)
          have y6 : f 6 = .bool true := hV 6 (by decide)
          have y7 : f 7 = .pointer (some ⟨Lb, 0, none⟩) := hV 7 (by decide)
          have y8 : f 8 = .pointer (some ⟨Lb, 0, none⟩) := hV 8 (by decide)
          have y11 : f 11 = .int .i64 (x0 : Nat) := hV 11 (by decide)
          have y12 : f 12 = .bool true := hV 12 (by decide)
          have y13 : f 13 = .bool true := hV 13 (by decide)
          clear hV
          have HC : Hid _ := hP.c rfl
          clear hP
          generalize f 0 = z0 at *
          subst y0
          generalize f 1 = z1 at *
          subst y1
          generalize f 2 = z2 at *
          subst y2
          generalize f 3 = z3 at *
          subst y3
          generalize f 4 = z4 at *
          subst y4
          generalize f 5 = z5 at *
          subst y5
          generalize f 6 = z6 at *
          subst y6
          generalize f 7 = z7 at *
          subst y7
          generalize f 8 = z8 at *
          subst y8
          generalize f 9 = z9 at *
          generalize f 10 = z10 at *
          generalize f 11 = z11 at *
          subst y11
          generalize f 12 = z12 at *
          subst y12
          generalize f 13 = z13 at *
          subst y13
          have HCX : Hid (LgX T w L 1 N p ns M Lb (tl2 ++ (Sb, Obj.cells #[.slice t2ao m2 t2cp] 30) :: B42 Gb Xb Nb Lb n rest) (i + 1) Z (cc + 2) W) := HC.out
          clear HC
          have qs : W.cell? ⟨Sb, 0, none⟩ = some (.slice t2ao m2 t2cp) := F.cell_of (HCX.out.at' (r := (Sb, Obj.cells #[.slice t2ao m2 t2cp] 30)) (by simp)) 0
          have zs : W.frozen? ⟨Sb, 0, none⟩ = false := F.frz_of (HCX.out.at' (r := (Sb, Obj.cells #[.slice t2ao m2 t2cp] 30)) (by simp)) 0
          obtain ⟨v3, hsl, hT3⟩ := HCUT.out W
          obtain ⟨t3ao, m3, t3cp, htv3⟩ : ∃ ao m cp, v3 = .slice ao m cp := by
            obtain ⟨a, b, c⟩ := hT3.len
            exact ⟨a, _, b, c⟩
          have hbs := HCX.out.at' (r := (Sb, Obj.cells #[.slice t2ao m2 t2cp] 30)) (by simp)
          have hL4 := (HCX.out.drop (base' := (Sb, Obj.cells #[.slice t2ao m2 t2cp] 30) :: (tl2 ++ B42 Gb Xb Nb Lb n rest)) (by simp [B42, HB.out.1]) (by
            intro r hr
            simp only [List.mem_cons, List.mem_append] at hr ⊢
            rcases hr with hr | hr | hr <;> simp [hr])).off (W' := W.setCell ⟨Sb, 0, none⟩ v3) (o' := Obj.cells #[v3] 30) (by
            intro r hr
            rcases List.mem_append.1 hr with hr | hr
            · exact HY.out.2.2.2 r hr (Sb, Obj.cells #[.slice t2ao m2 t2cp] 30) (by simp)
            · exact HB.out.2.2.2.2.2.2 r hr) (by simp [B42, HB.out.1]) ((Off.refl Sb _).set 0 _) (by rw [F.block_set hbs]; rfl) (F.apart_of (by decide)) (fun _ _ => cells_ne2 (by decide))
          have HE : Hid (T42 T w L N p ns M Lb Sb (B42 Gb Xb Nb Lb n rest) (i + 1) (min (i + 1) (ns - 1)) (c + 200 * ((i + 1 : Nat) : Int)) (W.setCell ⟨Sb, 0, none⟩ v3)) := by
            refine ⟨Z, v3, tl2, ?_, fun s hs => HY.out.2.1 s (by rw [HZ.out.1]; exact List.mem_cons_of_mem _ hs), hT3, fun r hr s hs => ?_, (hL4.drop (by simp [B42, HB.out.1]) (by
              intro r hr
              simp only [List.mem_cons, List.mem_append] at hr ⊢
              rcases hr with hr | hr | hr <;> simp [hr])).more (by have := HCC.out.2; omega)⟩
            · have := HY.out.1
              have h2 : Y.length = Z.length + 1 := by rw [HZ.out.1]; rfl
              have := HZ.out.2
              omega
            · rcases List.mem_cons.1 hs with rfl | hs
              · exact HY.out.2.2.2 r hr (Sb, Obj.cells #[.slice t2ao m2 t2cp] 30) (by simp)
              · exact HY.out.2.2.2 r hr s (List.mem_cons_of_mem _ hs)
          subst htv3
          clear hT3 hbs hL4 HCX HCUT HY HZ HFULL HFULL2 HCC
          go_wp2
          go_roundw
          case rel => exact ⟨i + 1, by congr 1, by omega, HE.out⟩
          case measure =>
            show n - ((i : Int) + 1).toNat < n - ((i : Nat) : Int).toNat
            omega
        case hputq =>
          repeat (refine ⟨fun f v => rfl, ?_⟩)
          trivial
        case stepq =>
          refine ⟨?_, ?_⟩
          · intro done f W hP hdn hd K hK
            clear hd
            have qb : W.heap[((Gb, Obj.cells #[.bool true] 4)).1]? = some ((Gb, Obj.cells #[.bool true] 4)).2 := by
              cases e12 : done 12 with
              | false => exact (hP.a e12).at' (r := (Gb, Obj.cells #[.bool true] 4)) (by simp [B42])
              | true =>
                cases e14 : done 14 with
                | false => exact (hP.b e12 e14).at' (r := (Gb, Obj.cells #[.bool true] 4)) (by simp [B42])
                | true => exact (hP.c e14).at' (r := (Gb, Obj.cells #[.bool true] 4)) (by simp [B42])
            have q : W.cell? ⟨Gb, 0, none⟩ = some (.bool true) := F.cell_of qb 0
            clear qb
            go_simp
            exact hK _ _ rfl (hP.pure _ (by decide) (by decide) (by decide) (by decide) (fun x => absurd x (by decide)) (fun x => absurd x (by decide)))
          refine ⟨?_, ?_⟩
          · intro done f W hP hdn hd K hK
            have d0 := (hd.1 rfl).2
            have e0 : done 0 = true := (hd.1 rfl).1
            clear hd
            replace d0 : f 0 = .bool true := d0
            generalize f 0 = x0 at *
            subst d0
            clear e0
            go_simp
            exact hK _ _ rfl (hP.pure _ (by decide) (by decide) (by decide) (by decide) (fun x => absurd x (by decide)) (fun x => absurd x (by decide)))
          refine ⟨?_, ?_⟩
          · intro done f W hP hdn hd K hK
            have d1 := (hd.1 rfl).2
            have e1 : done 1 = true := (hd.1 rfl).1
            clear hd
            replace d1 : f 1 = .bool true := d1
            generalize f 1 = x1 at *
            subst d1
            have qb : W.heap[((Xb, Obj.cells #[.pointer (some ⟨Lb, 0, none⟩)] 62)).1]? = some ((Xb, Obj.cells #[.pointer (some ⟨Lb, 0, none⟩)] 62)).2 := by
              cases e12 : done 12 with
              | false => exact (hP.a e12).at' (r := (Xb, Obj.cells #[.pointer (some ⟨Lb, 0, none⟩)] 62)) (by simp [B42])
              | true =>
                cases e14 : done 14 with
                | false => exact (hP.b e12 e14).at' (r := (Xb, Obj.cells #[.pointer (some ⟨Lb, 0, none⟩)] 62)) (by simp [B42])
                | true => exact (hP.c e14).at' (r := (Xb, Obj.cells #[.pointer (some ⟨Lb, 0, none⟩)] 62)) (by simp [B42])
            have q : W.cell? ⟨Xb, 0, none⟩ = some (.pointer (some ⟨Lb, 0, none⟩)) := F.cell_of qb 0
            clear qb
            go_simp
            exact hK _ _ rfl (hP.pure _ (by decide) (by decide) (by decide) (by decide) (fun x => absurd x (by decide)) (fun x => absurd x (by decide)))
          refine ⟨?_, ?_⟩
          · intro done f W hP hdn hd K hK
            have d2 := (hd.1 rfl).2
            have e2 : done 2 = true := (hd.1 rfl).1
            have d1 := (hd.2.2.1 rfl).2
            have e1 : done 1 = true := (hd.2.2.1 rfl).1
            clear hd
            replace d2 : f 2 = .pointer (some ⟨Lb, 0, none⟩) := d2
            replace d1 : f 1 = .bool true := d1
            generalize f 2 = x2 at *
            subst d2
            clear e2
            generalize f 1 = x1 at *
            subst d1
            clear e1
            have hst := LgX.start_none (hP.a (hP.n12 (Or.inl hdn))) HFULL.out
            go_simp
            refine Calls.mono hst ?_
            rintro er W' ⟨rfl, rfl⟩
            exact hK _ _ rfl (hP.pure _ (by decide) (by decide) (by decide) (by decide) (fun x => absurd x (by decide)) (fun x => absurd x (by decide)))
          refine ⟨?_, ?_⟩
          · intro done f W hP hdn hd K hK
            have d3 := (hd.1 rfl).2
            have e3 : done 3 = true := (hd.1 rfl).1
            have d1 := (hd.2.1 rfl).2
            have e1 : done 1 = true := (hd.2.1 rfl).1
            clear hd
            replace d3 : f 3 = .bool false := d3
            replace d1 : f 1 = .bool true := d1
            generalize f 3 = x3 at *
            subst d3
            clear e3
            generalize f 1 = x1 at *
            subst d1
            clear e1
            go_simp
            exact hK _ _ rfl (hP.pure _ (by decide) (by decide) (by decide) (by decide) (fun x => absurd x (by decide)) (fun x => absurd x (by decide)))
          refine ⟨?_, ?_⟩
          · intro done f W hP hdn hd K hK
            have d1 := (hd.1 rfl).2
            have e1 : done 1 = true := (hd.1 rfl).1
            have d4 := (hd.2.1 rfl).2
            have e4 : done 4 = true := (hd.2.1 rfl).1
            clear hd
            replace d1 : f 1 = .bool true := d1
            replace d4 : f 4 = .bool true := d4
            generalize f 1 = x1 at *
            subst d1
            clear e1
            generalize f 4 = x4 at *
            subst d4
            clear e4
            go_simp
            exact hK _ _ rfl (hP.pure _ (by decide) (by decide) (by decide) (by decide) (fun x => absurd x (by decide)) (fun x => absurd x (by decide)))
          refine ⟨?_, ?_⟩
          · intro done f W hP hdn hd K hK
            have d5 := (hd.1 rfl).2
            have e5 : done 5 = true := (hd.1 rfl).1
            have e3 : done 3 = true := (hd.2.1 rfl).1
            clear hd
            replace d5 : f 5 = .bool true := d5
            generalize f 5 = x5 at *
            subst d5
            clear e5
            go_simp
            exact hK _ _ rfl (hP.pure _ (by decide) (by decide) (by decide) (by decide) (fun _ => e3) (fun x => absurd x (by decide)))
          refine ⟨?_, ?_⟩
          · intro done f W hP hdn hd K hK
            have d6 := (hd.1 rfl).2
            have e6 : done 6 = true := (hd.1 rfl).1
            clear hd
            replace d6 : f 6 = .bool true := d6
            generalize f 6 = x6 at *
            subst d6
            clear e6
            have qb : W.heap[((Xb, Obj.cells #[.pointer (some ⟨Lb, 0, none⟩)] 62)).1]? = some ((Xb, Obj.cells #[.pointer (some ⟨Lb, 0, none⟩)] 62)).2 := by
              cases e12 : done 12 with
              | false => exact (hP.a e12).at' (r := (Xb, Obj.cells #[.pointer (some ⟨Lb, 0, none⟩)] 62)) (by simp [B42])
              | true =>
                cases e14 : done 14 with
                | false => exact (hP.b e12 e14).at' (r := (Xb, Obj.cells #[.pointer (some ⟨Lb, 0, none⟩)] 62)) (by simp [B42])
                | true => exact (hP.c e14).at' (r := (Xb, Obj.cells #[.pointer (some ⟨Lb, 0, none⟩)] 62)) (by simp [B42])
            have q : W.cell? ⟨Xb, 0, none⟩ = some (.pointer (some ⟨Lb, 0, none⟩)) := F.cell_of qb 0
            clear qb
            go_simp
            exact hK _ _ rfl (hP.pure _ (by decide) (by decide) (by decide) (by decide) (fun x => absurd x (by decide)) (fun x => absurd x (by decide)))
          refine ⟨?_, ?_⟩
          · intro done f W hP hdn hd K hK
            have d6 := (hd.1 rfl).2
            have e6 : done 6 = true := (hd.1 rfl).1
            clear hd
            replace d6 : f 6 = .bool true := d6
            generalize f 6 = x6 at *
            subst d6
            clear e6
            have qb : W.heap[((Xb, Obj.cells #[.pointer (some ⟨Lb, 0, none⟩)] 62)).1]? = some ((Xb, Obj.cells #[.pointer (some ⟨Lb, 0, none⟩)] 62)).2 := by
              cases e12 : done 12 with
              | false => exact (hP.a e12).at' (r := (Xb, Obj.cells #[.pointer (some ⟨Lb, 0, none⟩)] 62)) (by simp [B42])
              | true =>
                cases e14 : done 14 with
                | false => exact (hP.b e12 e14).at' (r := (Xb, Obj.cells #[.pointer (some ⟨Lb, 0, none⟩)] 62)) (by simp [B42])
                | true => exact (hP.c e14).at' (r := (Xb, Obj.cells #[.pointer (some ⟨Lb, 0, none⟩)] 62)) (by simp [B42])
            have q : W.cell? ⟨Xb, 0, none⟩ = some (.pointer (some ⟨Lb, 0, none⟩)) := F.cell_of qb 0
            clear qb
            go_simp
            exact hK _ _ rfl (hP.pure _ (by decide) (by decide) (by decide) (by decide) (fun x => absurd x (by decide)) (fun x => absurd x (by decide)))
          refine ⟨?_, ?_⟩
          · intro done f W hP hdn hd K hK
            have d8 := (hd.1 rfl).2
            have e8 : done 8 = true := (hd.1 rfl).1
            have d6 := (hd.2.2.1 rfl).2
            have e6 : done 6 = true := (hd.2.2.1 rfl).1
            clear hd
            replace d8 : f 8 = .pointer (some ⟨Lb, 0, none⟩) := d8
            replace d6 : f 6 = .bool true := d6
            generalize f 8 = x8 at *
            subst d8
            clear e8
            generalize f 6 = x6 at *
            subst d6
            have hA := hP.a (hP.n12 (Or.inr (Or.inl hdn)))
            have hlv := hA.live
            go_simp
            refine Calls.mono hlv ?_
            rintro er W' ⟨v', rfl, ho, hB⟩
            obtain ⟨g, cp, rfl, hc⟩ : ∃ g cp, v' = .slice (some ⟨g, 0, none⟩) (Z.length + 1) cp ∧ W'.cell? ⟨g, 0, none⟩ = some (nv x0) := by
              have ho0 := ho
              rcases ho.2 with ⟨_, h0⟩ | ⟨g, cap, cur, rfl, _⟩
              · simp at h0
              · exact ⟨g, cap, rfl, World.ownsRow.cellAt ho0 0 (by simp)⟩
            exact hK _ _ trivial (hP.nine hdn e6 hB g Z.length cp hc)
          refine ⟨?_, ?_⟩
          · intro done f W hP hdn hd K hK
            have d9 := (hd.1 rfl).2
            have e9 : done 9 = true := (hd.1 rfl).1
            have d6 := (hd.2.1 rfl).2
            have e6 : done 6 = true := (hd.2.1 rfl).1
            clear hd
            replace d6 : f 6 = .bool true := d6
            generalize f 6 = x6 at *
            subst d6
            clear e6
            obtain ⟨g, ln, cp, hf9, hc, _⟩ := hP.r e9 (hP.n12 (Or.inr (Or.inr (Or.inl hdn))))
            have hP2 := hP.ten e9 hf9 hc
            generalize f 9 = y9 at *
            subst hf9
            go_simp
            exact hK _ _ trivial hP2
          refine ⟨?_, ?_⟩
          · intro done f W hP hdn hd K hK
            have d10 := (hd.1 rfl).2
            have e10 : done 10 = true := (hd.1 rfl).1
            have d6 := (hd.2.1 rfl).2
            have e6 : done 6 = true := (hd.2.1 rfl).1
            clear hd
            replace d6 : f 6 = .bool true := d6
            generalize f 6 = x6 at *
            subst d6
            clear e6
            obtain ⟨g, ln, cp, hf9, hc, hf10⟩ := hP.r (hP.k10 e10) (hP.n12 (Or.inr (Or.inr (Or.inr hdn))))
            have hf10b := hf10 e10
            unfold nv at hc
            clear hf9 hf10
            generalize f 10 = y10 at *
            subst hf10b
            go_simp
            exact hK _ _ rfl (hP.pure _ (by decide) (by decide) (by decide) (by decide) (fun x => absurd x (by decide)) (fun _ => e10))
          refine ⟨?_, ?_⟩
          · intro done f W hP hdn hd K hK
            have d7 := (hd.1 rfl).2
            have e7 : done 7 = true := (hd.1 rfl).1
            have d11 := (hd.2.1 rfl).2
            have e11 : done 11 = true := (hd.2.1 rfl).1
            have d6 := (hd.2.2.2.1 rfl).2
            have e6 : done 6 = true := (hd.2.2.2.1 rfl).1
            clear hd
            replace d7 : f 7 = .pointer (some ⟨Lb, 0, none⟩) := d7
            replace d11 : f 11 = .int .i64 (x0 : Nat) := d11
            replace d6 : f 6 = .bool true := d6
            generalize f 7 = x7 at *
            subst d7
            clear e7
            generalize f 11 = x11 at *
            subst d11
            generalize f 6 = x6 at *
            subst d6
            clear e6
            have hA := hP.a hdn
            have hre := hA.reclaim (Y := []) HFULL2.out ⟨HB.out.2.1.1, by have := HB.out.2.1; omega⟩ HB.out.2.2.2.1 HB.out.2.2.2.2.1 (by omega) HCC.out.1
            go_simp
            refine Calls.mono hre ?_
            rintro er W' ⟨rfl, hB⟩
            exact hK _ _ rfl (hP.twelve _ hdn e11 hB)
          refine ⟨?_, ?_⟩
          · intro done f W hP hdn hd K hK
            have d6 := (hd.1 rfl).2
            have e6 : done 6 = true := (hd.1 rfl).1
            have d12 := (hd.2.1 rfl).2
            have e12 : done 12 = true := (hd.2.1 rfl).1
            clear hd
            replace d6 : f 6 = .bool true := d6
            replace d12 : f 12 = .bool true := d12
            generalize f 6 = x6 at *
            subst d6
            clear e6
            generalize f 12 = x12 at *
            subst d12
            clear e12
            go_simp
            exact hK _ _ rfl (hP.pure _ (by decide) (by decide) (by decide) (by decide) (fun x => absurd x (by decide)) (fun x => absurd x (by decide)))
          refine ⟨?_, ?_⟩
          · intro done f W hP hdn hd K hK
            have d13 := (hd.1 rfl).2
            have e13 : done 13 = true := (hd.1 rfl).1
            have e12 : done 12 = true := (hd.2.1 rfl).1
            clear hd
            replace d13 : f 13 = .bool true := d13
            generalize f 13 = x13 at *
            subst d13
            clear e13
            have hB := hP.b e12 hdn
            have hbg := hB.at' (r := (Gb, Obj.cells #[.bool true] 4)) (by simp [B42])
            have q : W.cell? ⟨Gb, 0, none⟩ = some (.bool true) := F.cell_of hbg 0
            have z : W.frozen? ⟨Gb, 0, none⟩ = false := F.frz_of hbg 0
            have HC : Hid _ := hP.end (W' := W.setCell ⟨Gb, 0, none⟩ (.bool true)) (.bool false) e12 (hB.below (set_same hbg))
            clear hB hbg hP
            go_simp
            exact hK (.bool false) _ trivial HC.out
          trivial
      · obtain ⟨d, hd⟩ : ∃ d, d + 1 = ns - Y.length := ⟨ns - Y.length - 1, by have := H6.out.len; omega⟩
        rw [← hd]
        have HE : Hid (T42 T w L N p ns M Lb Sb (B42 Gb Xb Nb Lb n rest) (i + 1) (min (i + 1) (ns - 1)) (c + 200 * ((i + 1 : Nat) : Int)) w6) := by
          refine ⟨Y, _, tl2, ?_, HY.out.2.1, HY.out.2.2.1, HY.out.2.2.2, H6.out.more (by omega)⟩
          have := HY.out.1
          have := H6.out.len
          omega
        have hd1 : ¬ ((d + 1 : Nat) : Int) = 0 := by omega
        clear H6 HY hfull hd
        go_wp2
        go_roundw
        case rel => exact ⟨i + 1, by congr 1, by omega, HE.out⟩
        case measure =>
          show n - ((i : Int) + 1).toNat < n - ((i : Nat) : Int).toNat
          omega
end Go.Proofs.YtncfbocbigdhiaaGreat.U
