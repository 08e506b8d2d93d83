/- Texts of this seat, one behind the other: WB, WC, WD. -/
import Derived.Test.YtncfbocbigdhiaaGreatUY
import Derived.Test.YtncfbocbigdhiaaGreatXY
import Derived.Laws.AppendOwnNone
/- An Append that may be broken off, under Guard, and the Crash behind it. -/
namespace Go.Proofs.YtncfbocbigdhiaaGreat.U
open Go Go.RowKit
/-- Of what is left, whatever a crash leaves of it, P holds. -/
def Pst (T : Nat) (w : World) (L : F.Loc) (q : Int) (oth : List (Nat × Obj)) (c : Int) (P : (Nat → ByteArray) → Prop) (W : World) : Prop :=
  ∃ st lv ats now sure, F.One T w L st lv oth W ∧ st.serial = 1 ∧ st.there = true ∧ st.n = 70 ∧ st.session = q ∧ 0 ≤ st.count ∧ st.count ≤ c ∧ F.Dv st ats now sure ∧ ∀ now', (∀ i, i < 70 → now' i = now i ∨ now' i = sure i) → P now'
/-- A device that may be armed, or halted. -/
def Md (T : Nat) (w : World) (L : F.Loc) (q : Int) (oth : List (Nat × Obj)) (now : Nat → ByteArray) (c : Int) (W : World) : Prop :=
  ∃ st lv ats m, F.One T w L st lv oth W ∧ st.n = 70 ∧ st.serial = 1 ∧ st.session = q ∧ st.there = true ∧ F.Mode.is m st ∧ m ≠ .over ∧ F.Dv st ats now now ∧ 0 ≤ st.count ∧ st.count ≤ c
section
variable {T : Nat} {w : World} {L : F.Loc} {q : Int} {oth oth2 : List (Nat × Obj)} {c : Int} {P P2 : (Nat → ByteArray) → Prop} {W W2 : World} {now : Nat → ByteArray}
theorem Pst.mono (h : Pst T w L q oth c P W) (ho : ∀ st lv, F.One T w L st lv oth W → F.One T w L st lv oth2 W2) : Pst T w L q oth2 c P W2 := by
  obtain ⟨st, lv, ats, now, sure, o, r⟩ := h
  exact ⟨st, lv, ats, now, sure, ho st lv o, r⟩
theorem Pst.weak (h : Pst T w L q oth c P W) (hp : ∀ now, P now → P2 now) : Pst T w L q oth c P2 W := by
  obtain ⟨st, lv, ats, now, sure, o, r1, r2, r3, r4, r5, r6, r7, r8⟩ := h
  exact ⟨st, lv, ats, now, sure, o, r1, r2, r3, r4, r5, r6, r7, fun n' h => hp _ (r8 n' h)⟩
theorem Pst.ones (h : Pst T w L q oth c P W) : ∃ st lv, F.One T w L st lv oth W := by
  obtain ⟨st, lv, ats, now, sure, o, r⟩ := h
  exact ⟨st, lv, o⟩
theorem Pst.at' (h : Pst T w L q oth c P W) {p : Nat × Obj} (hp : p ∈ oth) : W.heap[p.1]? = some p.2 := by
  obtain ⟨st, lv, o⟩ := h.ones
  exact (o.oth p hp).1
theorem Pst.lts (h : Pst T w L q oth c P W) : ∀ p ∈ oth, p.1 < W.heap.size := by
  obtain ⟨st, lv, o⟩ := h.ones
  exact o.lts
theorem Pst.bel (h : Pst T w L q oth c P W) : Below T w W := by
  obtain ⟨st, lv, o⟩ := h.ones
  exact o.below
theorem Md.ones (h : Md T w L q oth now c W) : ∃ st lv, F.One T w L st lv oth W := by
  obtain ⟨st, lv, ats, m, o, r⟩ := h
  exact ⟨st, lv, o⟩
theorem Md.at' (h : Md T w L q oth now c W) {p : Nat × Obj} (hp : p ∈ oth) : W.heap[p.1]? = some p.2 := by
  obtain ⟨st, lv, o⟩ := h.ones
  exact (o.oth p hp).1
theorem Md.lts (h : Md T w L q oth now c W) : ∀ p ∈ oth, p.1 < W.heap.size := by
  obtain ⟨st, lv, o⟩ := h.ones
  exact o.lts
theorem Md.bel (h : Md T w L q oth now c W) : Below T w W := by
  obtain ⟨st, lv, o⟩ := h.ones
  exact o.below
theorem Md.mono (h : Md T w L q oth now c W) (ho : ∀ st lv, F.One T w L st lv oth W → F.One T w L st lv oth2 W2) : Md T w L q oth2 now c W2 := by
  obtain ⟨st, lv, ats, m, o, r⟩ := h
  exact ⟨st, lv, ats, m, ho st lv o, r⟩
theorem Dev.md (h : Dev T w L q 70 oth now now c W) : Md T w L q oth now c W := by
  obtain ⟨st, lv, ats, o, r1, r2, r3, r4, r5, r6, r7, r8, _⟩ := h.ex
  exact ⟨st, lv, ats, .idle, o, r1, r2, r3, r4, r5, (fun e => by cases e), r6, r7, r8⟩
theorem Dev.halt (h : Dev T w L q 70 oth now now c W) (a : Int) (h0 : 0 ≤ a) (h1 : a ≤ 1000) : Calls Tryz.prog 22 #[.pointer (some ⟨L.P, 0, none⟩), .int .i64 a] W fun e w' => e = .returned (.tuple #[]) ∧ Md T w L q oth now c w' := by
  obtain ⟨st, lv, ats, o, r1, r2, r3, r4, ⟨i1, i2, i3⟩, r6, r7, r8, _⟩ := h.ex
  refine (o.halt22 a h0).mono ?_
  rintro e w' ⟨rfl, o2⟩
  exact ⟨rfl, _, _, ats, .halt a.toNat, o2, r1, r2, r3, r4, ⟨i1, i2, rfl, by show a = _; omega, by omega⟩, (fun e => by cases e), r6.same rfl rfl rfl rfl, r7, r8⟩
theorem Dev.arm (h : Dev T w L q 70 oth now now c W) (a : Int) (h0 : 0 ≤ a) (h1 : a ≤ 1000) (d : Bool) : Calls Tryz.prog 23 #[.pointer (some ⟨L.P, 0, none⟩), .int .i64 1, .int .i64 a, .bool d] W fun e w' => e = .returned (.int .i64 0) ∧ Md T w L q oth now c w' := by
  obtain ⟨st, lv, ats, o, r1, r2, r3, r4, ⟨i1, i2, i3⟩, r6, r7, r8, _⟩ := h.ex
  have q1 := o.arm a h0 d
  rw [r2] at q1
  refine q1.mono ?_
  rintro e w' ⟨rfl, o2⟩
  exact ⟨rfl, _, _, ats, .arm a.toNat d, o2, r1, (by first | exact r2 | rfl), r3, r4, ⟨i1, rfl, by show a = _; omega, rfl, i3, by omega⟩, (fun e => by cases e), r6.same rfl rfl rfl rfl, r7, r8⟩
theorem Pst.crash (h : Pst T w L q oth c P W) (hq : 0 ≤ q ∧ q ≤ 1000) (K o N : Nat) (cv : Value) (ch : Nat → Int) (hc : F.ChL K o N 0 cv) (hch : ∀ W, Below T w W → ∀ j, j < N → W.cell? ⟨K, o + j, none⟩ = some (.int .i64 (ch j))) :
    Calls Tryz.prog 25 #[.pointer (some ⟨L.P, 0, none⟩), cv] W fun e w' => e = .returned (.tuple #[]) ∧ ∃ now', P now' ∧ Dev T w L (q + 1) 70 oth now' now' c w' := by
  obtain ⟨st, lv, ats, now, sure, o1, q1, q2, q3, q4, q5, q6, hd1, hf⟩ := h
  refine (o1.crash_dv hd1 q2 (by omega) ⟨by omega, by omega⟩ K o N cv ch hc hch).mono ?_
  rintro e w' ⟨rfl, st2, now', o2, hd2, he, p1, p2, p3, p4, p5, p6, p7, p8, p9⟩
  rw [q3] at he
  exact ⟨rfl, now', hf now' he, st2, _, ats, o2, by rw [p4]; exact q3, by rw [p1]; exact q1, by rw [p2, q4], p3, ⟨p7, p5, p6⟩, hd2, by rw [p8]; exact q5, by rw [p8]; exact q6, trivial⟩
end
/-- An Append, in any mode, as a call of a closure over boxes. -/
theorem ent24 (args : Array Value) (W : World) : (callFunc 24 args).run Tryz.prog W = .ok (.enter 24 args) W := O.enter_of Tryz.func24 (by kernel_rfl) (by kernel_rfl) args W
theorem op24 {T : Nat} {w : World} {L : F.Loc} {q : Int} {oth : List (Nat × Obj)} {now : Nat → ByteArray} {c : Int} {W : World} {Sb Pb Fb : Nat} {s : Sg} {l : List (Nat × ByteArray)} {x : ByteArray} {k : Nat} (h : Md T w L q ((Sb, .cells s.cs 44) :: oth) now c W) (hm : (s.M, F.med L.P 1 q) ∈ oth) (hne : ∀ p ∈ oth, p.1 ≠ Sb)
    (hP : (Pb, Obj.cells #[.pointer (some ⟨Sb, 0, none⟩)] 28) ∈ oth) (hF : (Fb, Obj.cells #[.string x] 9) ∈ oth)
    (hg : Gl now 70 s l s.a) (hs : s.Ok) (hb : s.b + s.p ≤ 70) (hk : 1 ≤ k) (hroom : s.a + k < s.p) (hx : x.size = 63 * k) (hc : c ≤ 600000) :
    Calls Tryz.prog 24 #[.pointer (some ⟨Pb, 0, none⟩), .pointer (some ⟨Fb, 0, none⟩)] W fun e w' =>
      (e = .returned (.tuple #[]) ∧ Pst T w L q oth (c + 100) (fun n' => Gl n' 70 s (l ++ [(s.a, x)]) (s.a + 1 + k)) w') ∨
      (∃ E, e = .panicked [F.fl 1 E] ∧ Pst T w L q oth (c + 100) (fun n' => Gl n' 70 s l s.a ∨ Gl n' 70 s (l ++ [(s.a, x)]) (s.a + 1 + k)) w') := by
  have c1 : W.cell? ⟨Pb, 0, none⟩ = some (.pointer (some ⟨Sb, 0, none⟩)) := F.cell_of (h.at' (List.mem_cons_of_mem _ hP)) 0
  have c2 : W.cell? ⟨Fb, 0, none⟩ = some (.string x) := F.cell_of (h.at' (List.mem_cons_of_mem _ hF)) 0
  obtain ⟨st, lv, ats, m, o, r1, r2, r3, r4, r5, r6, r7, r8, r9⟩ := h
  have ha := append_md s o (by rw [r2, r3]; exact hm) hne hs x k hk hroom hx r7 (by omega) (by omega) r4 m r5 r6 ⟨r8, by omega⟩
  have ha2 : Calls Tryz.prog 17 #[.pointer (some ⟨Sb, 0, none⟩), .string x] W fun e w' =>
      (e = .returned (.int .i64 (s.a : Nat)) ∧ Pst T w L q oth (c + 100) (fun n' => Gl n' 70 s (l ++ [(s.a, x)]) (s.a + 1 + k)) w') ∨
      (∃ E, e = .panicked [F.fl 1 E] ∧ Pst T w L q oth (c + 100) (fun n' => Gl n' 70 s l s.a ∨ Gl n' 70 s (l ++ [(s.a, x)]) (s.a + 1 + k)) w') := by
    refine ha.mono ?_
    rintro e w' (⟨rfl, st', lv', o', kp, d0, d1, -, ats', hd'⟩ | ⟨E, rfl, st', lv', o', kp, d0, d1, ats', now2, sure2, hd', hb'⟩)
    · exact Or.inl ⟨rfl, st', lv', ats', _, _, o'.forget (fun p hp => List.mem_cons_of_mem _ hp), kp.serial.trans r2, kp.there.trans r4, kp.n.trans r1, kp.session.trans r3, by omega, by omega, hd', fun n' hn' => hg.done hs hx hk hroom hb (fun i hi => by rcases hn' i hi with e | e <;> exact e)⟩
    · exact Or.inr ⟨E, by rw [r2], st', lv', ats', _, _, o', kp.serial.trans r2, kp.there.trans r4, kp.n.trans r1, kp.session.trans r3, by omega, by omega, hd', fun n' hn' => hg.brk hs hx hk hroom hb hn' hb'⟩
  have HA : Hid _ := ha2
  clear ha ha2 o hm hne hP hF hg hs hb hk hroom hx hc r1 r2 r3 r4 r5 r6 r7 r8 r9
  have ha := HA.out
  go_enter Tryz.func24, Tryz.ntmps24
  go_wp2_with fail
  go_call ha as e w1 (⟨rfl, h1⟩ | ⟨E, rfl, h1⟩)
  · have H1 : Hid _ := h1
    clear ha h1 HA
    go_wp2
    go_returns
    exact Or.inl ⟨rfl, H1.out⟩
  · have H1 : Hid _ := h1
    clear ha h1 HA
    go_wp2
    exact ⟨rfl, Or.inr ⟨E, rfl, H1.out⟩⟩
theorem wguard {T : Nat} {w : World} {L : F.Loc} {q : Int} {oth : List (Nat × Obj)} {now : Nat → ByteArray} {c : Int} {W : World} {Sb Pb Fb : Nat} {s : Sg} {l : List (Nat × ByteArray)} {x : ByteArray} {k : Nat} (h : Md T w L q ((Sb, .cells s.cs 44) :: oth) now c W) (hm : (s.M, F.med L.P 1 q) ∈ oth) (hne : ∀ p ∈ oth, p.1 ≠ Sb)
    (hP : (Pb, Obj.cells #[.pointer (some ⟨Sb, 0, none⟩)] 28) ∈ oth) (hF : (Fb, Obj.cells #[.string x] 9) ∈ oth)
    (hg : Gl now 70 s l s.a) (hs : s.Ok) (hb : s.b + s.p ≤ 70) (hk : 1 ≤ k) (hroom : s.a + k < s.p) (hx : x.size = 63 * k) (hc : c ≤ 600000) :
    Calls Tryz.prog 15 #[.func (.func 24) #[] #[.pointer (some ⟨Pb, 0, none⟩), .pointer (some ⟨Fb, 0, none⟩)]] W fun e w' =>
      (e = .returned (.tuple #[.agg #[.int .i64 0, .int .i64 0], .bool false]) ∧ Pst T w L q oth (c + 100) (fun n' => Gl n' 70 s (l ++ [(s.a, x)]) (s.a + 1 + k)) w') ∨
      (∃ a b, e = .returned (.tuple #[.agg #[.int .i64 a, .int .i64 b], .bool true]) ∧ Pst T w L q oth (c + 100) (fun n' => Gl n' 70 s l s.a ∨ Gl n' 70 s (l ++ [(s.a, x)]) (s.a + 1 + k)) w') := by
  have hlt := h.lts
  have lS : Sb < W.heap.size := hlt (Sb, .cells s.cs 44) (List.mem_cons_self ..)
  have h1 : Md T w L q ((Sb, .cells s.cs 44) :: F.gob W.heap.size oth) now c (F.G0 W) := h.mono (fun st lv o => o.guarded.forget (by
    intro p hp
    simp only [F.gob, List.mem_cons] at hp ⊢
    rcases hp with hp | hp | hp | hp <;> simp [hp]))
  have ho := op24 (Pb := Pb) (Fb := Fb) h1 (by simp [F.gob, hm]) (by
    intro p hp
    simp only [F.gob, List.mem_cons] at hp
    rcases hp with rfl | rfl | hp
    · show W.heap.size + 1 ≠ Sb; omega
    · show W.heap.size ≠ Sb; omega
    · exact hne p hp) (by simp [F.gob, hP]) (by simp [F.gob, hF]) hg hs hb hk hroom hx hc
  refine (F.guard_any 24 _ (Pst T w L q (F.gob W.heap.size oth) (c + 100) (fun n' => Gl n' 70 s (l ++ [(s.a, x)]) (s.a + 1 + k))) (Pst T w L q (F.gob W.heap.size oth) (c + 100) (fun n' => Gl n' 70 s l s.a ∨ Gl n' 70 s (l ++ [(s.a, x)]) (s.a + 1 + k))) W ent24 (ho.mono ?_)).mono ?_
  · rintro e w' (⟨rfl, hE⟩ | ⟨E, rfl, hE⟩)
    · exact ⟨Or.inl ⟨rfl, hE⟩, hE.at' (p := (W.heap.size, F.bob)) (by simp [F.gob]), hE.at' (p := (W.heap.size + 1, F.iob)) (by simp [F.gob])⟩
    · exact ⟨Or.inr ⟨_, E, rfl, hE⟩, hE.at' (p := (W.heap.size, F.bob)) (by simp [F.gob]), hE.at' (p := (W.heap.size + 1, F.iob)) (by simp [F.gob])⟩
  · rintro e w' (⟨rfl, W2, hR, hk2⟩ | ⟨a, b, rfl, W2, hR, hk2⟩)
    · exact Or.inl ⟨rfl, hR.mono (fun st lv o => F.One.kt2 (B := W.heap.size) o (fun p hp => by have := hlt p (List.mem_cons_of_mem _ hp); exact ⟨by omega, by omega⟩) hk2)⟩
    · exact Or.inr ⟨a, b, rfl, hR.mono (fun st lv o => F.One.kt2 (B := W.heap.size) o (fun p hp => by have := hlt p (List.mem_cons_of_mem _ hp); exact ⟨by omega, by omega⟩) hk2)⟩
end Go.Proofs.YtncfbocbigdhiaaGreat.U

/- GroupWhole: the state between two rounds; the statement that makes the row of texts that are wanted anew, by phases. -/
namespace Go.Proofs.YtncfbocbigdhiaaGreat.U
open Go Go.RowKit
/-- Between two rounds: what lies there is what is wanted, and the one that was broken off last, perhaps. -/
def GI (T : Nat) (w : World) (L : F.Loc) (ol : List (Nat × Obj)) (per k : Nat) (want : List ByteArray) (last : ByteArray) (W : World) : Prop :=
  ∃ (q : Int) (now : Nat → ByteArray) (l : List (Nat × ByteArray)) (e : Nat), 0 ≤ q ∧ q ≤ 1 + (k : Int) ∧ Dev T w L q 70 ol now now (cB k : Nat) W ∧ Gl now 70 (sg0 0 per) l e ∧ l.length ≤ k ∧ (l.map Prod.snd = want ∨ (last.size ≠ 0 ∧ l.map Prod.snd = want ++ [last]))
theorem GI.ones {T : Nat} {w : World} {L : F.Loc} {ol : List (Nat × Obj)} {per k : Nat} {want : List ByteArray} {last : ByteArray} {W : World} (h : GI T w L ol per k want last W) : Below T w W := by
  obtain ⟨q, now, l, e, h1, h2, h3, _⟩ := h
  exact h3.bel
/-- A place's phases. -/
structure W36 (w8 : World) (wv : Value) (xs : List ByteArray) (y : ByteArray) (done : Nat → Bool) (f : Nat → Value) (W : World) : Prop where
  bel : Below w8.heap.size w8 W
  u : done 6 = false → f 6 = wv
  a : done 0 = true → done 2 = false → W.ownsRow w8.heap.size 9 1 (f 0) 0 []
  c : done 2 = true → done 5 = false → W.ownsRow w8.heap.size 9 1 (f 2) xs.length (xs.map .string)
  d : done 4 = true → done 5 = false → ∃ G, f 4 = .slice (some ⟨G, 0, none⟩) 1 1 ∧ W.heap[G]? = some (.cells #[.string y] 9) ∧ (done 0 = true → done 2 = false → (f 0).ownBlock ≠ some G)
  e : done 5 = true → W.ownsRow w8.heap.size 9 1 (f 5) (xs.length + 1) (xs.map .string ++ [.string y])
  s : done 6 = true → f 6 = f 5
  o2 : done 2 = true → done 0 = true ∧ done 1 = true
  o5 : done 5 = true → done 2 = true ∧ done 4 = true
  o6 : done 6 = true → done 5 = true
section
variable {w8 : World} {wv : Value} {xs : List ByteArray} {y : ByteArray} {done : Nat → Bool} {f : Nat → Value} {W W' : World}
theorem ub_ne {done : Nat → Bool} {i j : Nat} (h : j ≠ i) : F.updB done i j = done j := if_neg h
theorem ub_eq {done : Nat → Bool} {i : Nat} : F.updB done i i = true := if_pos rfl
theorem uv_ne {f : Nat → Value} {i j : Nat} {v : Value} (h : j ≠ i) : F.upd f i v j = f j := if_neg h
theorem uv_eq {f : Nat → Value} {i : Nat} {v : Value} : F.upd f i v i = v := if_pos rfl
theorem W36.start (hu : f 6 = wv) : W36 w8 wv xs y (fun _ => false) f w8.drew :=
  ⟨(Below.refl _ _).drew, fun _ => hu, (fun e => by cases e), (fun e => by cases e), (fun e => by cases e), (fun e => by cases e), (fun e => by cases e), (fun e => by cases e), (fun e => by cases e), (fun e => by cases e)⟩
theorem W36.pure (h : W36 w8 wv xs y done f W) {i : Nat} (hi : i = 1 ∨ i = 3) (v : Value) : W36 w8 wv xs y (F.updB done i) (F.upd f i v) W := by
  have n0 : (0 : Nat) ≠ i := by omega
  have n2 : (2 : Nat) ≠ i := by omega
  have n4 : (4 : Nat) ≠ i := by omega
  have n5 : (5 : Nat) ≠ i := by omega
  have n6 : (6 : Nat) ≠ i := by omega
  refine ⟨h.bel, ?_, ?_, ?_, ?_, ?_, ?_, ?_, ?_, ?_⟩ <;> simp only [ub_ne n0, ub_ne n2, ub_ne n4, ub_ne n5, ub_ne n6, uv_ne n0, uv_ne n2, uv_ne n4, uv_ne n5, uv_ne n6]
  · exact h.u
  · exact h.a
  · exact h.c
  · exact h.d
  · exact h.e
  · exact h.s
  · intro e
    refine ⟨(h.o2 e).1, ?_⟩
    rcases hi with rfl | rfl
    · exact ub_eq
    · rw [ub_ne (by decide)]; exact (h.o2 e).2
  · exact h.o5
  · exact h.o6
theorem W36.not6 (h : W36 w8 wv xs y done f W) (h1 : done 1 = false) : done 6 = false := by
  cases e : done 6 with
  | false => rfl
  | true => rw [(h.o2 (h.o5 (h.o6 e)).1).2] at h1; cases h1
/-- The empty row is made. -/
theorem W36.s0 (h : W36 w8 wv xs y done f W) (h0 : done 0 = false) : W36 w8 wv xs y (F.updB done 0) (F.upd f 0 (.slice (some ⟨W.heap.size, 0, none⟩) 0 0)) (W.alloc (.cells #[] 9)) := by
  have e2 : done 2 = false := by cases e : done 2 with | false => rfl | true => rw [(h.o2 e).1] at h0; cases h0
  have e5 : done 5 = false := by cases e : done 5 with | false => rfl | true => rw [(h.o5 e).1] at e2; cases e2
  have e6 : done 6 = false := by cases e : done 6 with | false => rfl | true => rw [h.o6 e] at e5; cases e5
  have hsz : w8.heap.size ≤ W.heap.size := h.bel.size
  refine ⟨h.bel.alloc hsz _, ?_, ?_, ?_, ?_, ?_, ?_, ?_, ?_, ?_⟩ <;> simp only [ub_ne (show (2 : Nat) ≠ 0 by decide), ub_ne (show (4 : Nat) ≠ 0 by decide), ub_ne (show (5 : Nat) ≠ 0 by decide), ub_ne (show (6 : Nat) ≠ 0 by decide), uv_ne (show (2 : Nat) ≠ 0 by decide), uv_ne (show (4 : Nat) ≠ 0 by decide), uv_ne (show (5 : Nat) ≠ 0 by decide), uv_ne (show (6 : Nat) ≠ 0 by decide), ub_eq, uv_eq, e2, e5, e6]
  · exact fun _ => h.u e6
  · exact fun _ _ => ⟨rfl, Or.inr ⟨W.heap.size, 0, #[], rfl, hsz, F.heap_new _ _, Nat.le_refl _, by decide, rfl, rfl⟩⟩
  · exact (fun e => by cases e)
  · intro h4 _
    obtain ⟨G, g1, g2, _⟩ := h.d h4 e5
    have hlt := F.getElem?_lt g2
    refine ⟨G, g1, ((((Below.refl W.heap.size W).alloc (Nat.le_refl _) _).block _ hlt)).trans g2, fun _ _ e => ?_⟩
    have : W.heap.size = G := Option.some.inj e
    omega
  · exact (fun e => by cases e)
  · exact (fun e => by cases e)
  · exact (fun e => by cases e)
  · exact (fun e => by cases e)
  · exact (fun e => by cases e)
/-- The row of the one text is made. -/
theorem W36.s4 (h : W36 w8 wv xs y done f W) (h4 : done 4 = false) : W36 w8 wv xs y (F.updB done 4) (F.upd f 4 (.slice (some ⟨W.heap.size, 0, none⟩) 1 1)) (W.alloc (.cells #[.string y] 9)) := by
  have e5 : done 5 = false := by cases e : done 5 with | false => rfl | true => rw [(h.o5 e).2] at h4; cases h4
  have e6 : done 6 = false := by cases e : done 6 with | false => rfl | true => rw [h.o6 e] at e5; cases e5
  have hsz : w8.heap.size ≤ W.heap.size := h.bel.size
  refine ⟨h.bel.alloc hsz _, ?_, ?_, ?_, ?_, ?_, ?_, ?_, ?_, ?_⟩ <;> simp only [ub_ne (show (0 : Nat) ≠ 4 by decide), ub_ne (show (2 : Nat) ≠ 4 by decide), ub_ne (show (5 : Nat) ≠ 4 by decide), ub_ne (show (6 : Nat) ≠ 4 by decide), uv_ne (show (0 : Nat) ≠ 4 by decide), uv_ne (show (2 : Nat) ≠ 4 by decide), uv_ne (show (5 : Nat) ≠ 4 by decide), uv_ne (show (6 : Nat) ≠ 4 by decide), ub_eq, uv_eq, e5, e6]
  · exact fun _ => h.u e6
  · exact fun a b => (h.a a b).alloc _
  · exact fun a _ => (h.c a e5).alloc _
  · refine fun _ _ => ⟨W.heap.size, rfl, F.heap_new _ _, fun a b e => ?_⟩
    have hr := h.a a b
    rcases hr.2 with ⟨h1, _⟩ | ⟨g, cap, cur, h1, h2, h3, _⟩
    · rw [h1] at e; cases e
    · rw [h1] at e
      have e' : g = W.heap.size := Option.some.inj e
      have := F.getElem?_lt h3
      omega
  · exact (fun e => by cases e)
  · exact (fun e => by cases e)
  · rw [ub_ne (show (1 : Nat) ≠ 4 by decide)]; exact h.o2
  · exact (fun e => by cases e)
  · exact (fun e => by cases e)
theorem own_ge {B : Nat} {v : Value} {n : Nat} {zs : List Value} (h : W.ownsRow B 9 1 v n zs) : ∀ k, v.ownBlock = some k → B ≤ k := by
  intro k e
  rcases h.2 with ⟨h1, _⟩ | ⟨g, cap, cur, h1, h2, _⟩
  · rw [h1] at e; cases e
  · rw [h1] at e
    have : g = k := Option.some.inj e
    omega
/-- What is wanted is copied. -/
theorem W36.s2 (h : W36 w8 wv xs y done f W) (h0 : done 0 = true) (h1 : done 1 = true) (h2 : done 2 = false) {v' : Value} (ho : W'.ownsRow w8.heap.size 9 1 v' xs.length (xs.map .string)) (hg : W.grownBy W' (f 0).ownBlock) : W36 w8 wv xs y (F.updB done 2) (F.upd f 2 v') W' := by
  have e5 : done 5 = false := by cases e : done 5 with | false => rfl | true => rw [(h.o5 e).1] at h2; cases h2
  have e6 : done 6 = false := by cases e : done 6 with | false => rfl | true => rw [h.o6 e] at e5; cases e5
  refine ⟨h.bel.grown hg h.bel.size (own_ge (h.a h0 h2)), ?_, ?_, ?_, ?_, ?_, ?_, ?_, ?_, ?_⟩ <;> simp only [ub_ne (show (0 : Nat) ≠ 2 by decide), ub_ne (show (4 : Nat) ≠ 2 by decide), ub_ne (show (5 : Nat) ≠ 2 by decide), ub_ne (show (6 : Nat) ≠ 2 by decide), uv_ne (show (0 : Nat) ≠ 2 by decide), uv_ne (show (4 : Nat) ≠ 2 by decide), uv_ne (show (5 : Nat) ≠ 2 by decide), uv_ne (show (6 : Nat) ≠ 2 by decide), ub_eq, uv_eq, e5, e6]
  · exact fun _ => h.u e6
  · exact fun _ e => by cases e
  · exact fun _ _ => ho
  · intro h4 _
    obtain ⟨G, g1, g2, g3⟩ := h.d h4 e5
    refine ⟨G, g1, ?_, fun _ e => by cases e⟩
    have hlt := F.getElem?_lt g2
    exact (hg.block G hlt (fun e => g3 h0 h2 e.symm)).trans g2
  · exact (fun e => by cases e)
  · exact (fun e => by cases e)
  · rw [ub_ne (show (1 : Nat) ≠ 2 by decide)]; exact fun _ => ⟨h0, h1⟩
  · exact (fun e => by cases e)
  · exact (fun e => by cases e)
/-- The one text is appended. -/
theorem W36.s5 (h : W36 w8 wv xs y done f W) (h2 : done 2 = true) (h4 : done 4 = true) (h5 : done 5 = false) {v' : Value} (ho : W'.ownsRow w8.heap.size 9 1 v' (xs.length + 1) (xs.map .string ++ [.string y])) (hg : W.grownBy W' (f 2).ownBlock) : W36 w8 wv xs y (F.updB done 5) (F.upd f 5 v') W' := by
  have e6 : done 6 = false := by cases e : done 6 with | false => rfl | true => rw [h.o6 e] at h5; cases h5
  refine ⟨h.bel.grown hg h.bel.size (own_ge (h.c h2 h5)), ?_, ?_, ?_, ?_, ?_, ?_, ?_, ?_, ?_⟩ <;> simp only [ub_ne (show (0 : Nat) ≠ 5 by decide), ub_ne (show (2 : Nat) ≠ 5 by decide), ub_ne (show (4 : Nat) ≠ 5 by decide), ub_ne (show (6 : Nat) ≠ 5 by decide), uv_ne (show (0 : Nat) ≠ 5 by decide), uv_ne (show (2 : Nat) ≠ 5 by decide), uv_ne (show (4 : Nat) ≠ 5 by decide), uv_ne (show (6 : Nat) ≠ 5 by decide), ub_eq, uv_eq, h2, h4, e6]
  · exact fun _ => h.u e6
  · exact fun _ e => by cases e
  · exact fun _ e => by cases e
  · exact fun _ e => by cases e
  · exact fun _ => ho
  · exact (fun e => by cases e)
  · rw [ub_ne (show (1 : Nat) ≠ 5 by decide)]; exact fun _ => h.o2 h2
  · exact fun _ => ⟨trivial, trivial⟩
  · exact (fun e => by cases e)
theorem W36.s6 (h : W36 w8 wv xs y done f W) (h5 : done 5 = true) : W36 w8 wv xs y (F.updB done 6) (F.upd f 6 (f 5)) W := by
  refine ⟨h.bel, ?_, ?_, ?_, ?_, ?_, ?_, ?_, ?_, ?_⟩ <;> simp only [ub_ne (show (0 : Nat) ≠ 6 by decide), ub_ne (show (2 : Nat) ≠ 6 by decide), ub_ne (show (4 : Nat) ≠ 6 by decide), ub_ne (show (5 : Nat) ≠ 6 by decide), uv_ne (show (0 : Nat) ≠ 6 by decide), uv_ne (show (2 : Nat) ≠ 6 by decide), uv_ne (show (4 : Nat) ≠ 6 by decide), uv_ne (show (5 : Nat) ≠ 6 by decide), ub_eq, uv_eq]
  · exact (fun e => by cases e)
  · exact h.a
  · exact h.c
  · exact h.d
  · exact h.e
  · exact fun _ => trivial
  · rw [ub_ne (show (1 : Nat) ≠ 6 by decide)]; exact h.o2
  · exact h.o5
  · exact fun _ => h5
end
/-- The row of what is wanted is appended to the empty one. -/
theorem tapp_row {o : Oper} {a : Act} {K : Act → World → Prop} {Q : Exit → Act → World → Prop} {W : World} (s x : Operand) (ho : o.op = .call { callee := .builtin .append, args := #[s, x], argTypes := #[30, 30] }) {T1 : Nat} {v u : Value} {xs : List ByteArray} {ol : List (Nat × Obj)} (hs : a.eval s = v) (hx : a.eval x = u) (hu : Txs u xs ol) (hol : ∀ p ∈ ol, W.heap[p.1]? = some p.2) (hown : W.ownsRow T1 9 1 v 0 []) (hT : T1 ≤ W.heap.size) (hl : xs.length ≤ 1000)
    (hK : ∀ v' W', W'.ownsRow T1 9 1 v' xs.length (xs.map .string) → W.grownBy W' v.ownBlock → K (a.put o.dst v') W') : Oper.wp Tryz.prog o a W K Q := by
  obtain ⟨i, hi, hz, hsz, hby⟩ := info_parts tinfo
  rcases hu with ⟨rfl, rfl, rfl⟩ | ⟨g, cap, cur, rfl, rfl, h1, h2, h3, h4⟩
  · have hrun := run_append_owned_none (P := Tryz.prog) (w := W) T1 30 o.type 9 i 1 Tryz.underlying30 hi v 0 [] hown
    unfold Oper.wp execOp
    simp only [ho, resolve, invoke, builtin, Sem.run_bind, Sem.run_pure, Result.andThen_ok, List.map_toArray, List.map_cons, List.map_nil, hs, hx, hrun]
    exact hK v W hown (World.grownBy.refl _ _)
  · have hg := hol (g, .cells cur 9) (List.mem_singleton.2 rfl)
    replace hg : W.heap[g]? = some (.cells cur 9) := hg
    obtain ⟨v', W', hr, r2, r3, r4, r5⟩ := run_append_own_at (P := Tryz.prog) W T1 30 o.type 9 i (.string ⟨#[]⟩) 1 16 Tryz.underlying30 hi hz hsz hby (by kernel_rfl) (by decide) v 0 [] hown ⟨g, 0, none⟩ xs.length cap (xs.map .string) (by rw [List.length_map, Nat.mul_one]) (fun j z hj => by
      have e0 : (⟨g, 0, none⟩ : Addr).add j = ⟨g, j, none⟩ := by
        simp [Addr.add]
        exact fun h => h.symm
      have hj2 : j < xs.length := by
        have := (List.getElem?_eq_some_iff.1 hj).1
        rwa [List.length_map] at this
      rw [e0]
      have hc := F.cell_of hg j
      rw [hc]
      rw [← h4, List.getElem?_take_of_lt hj2] at hj
      rw [← hj]
      simp) (fun z hz => by
        obtain ⟨b, _, rfl⟩ := List.mem_map.1 hz
        rfl) (by unfold maxLen; omega) (by omega) hT
    rw [Nat.zero_add, List.nil_append] at r2
    unfold Oper.wp execOp
    simp only [ho, resolve, invoke, builtin, Sem.run_bind, Sem.run_pure, Result.andThen_ok, List.map_toArray, List.map_cons, List.map_nil, hs, hx, hr]
    exact hK v' W' r2 r3
end Go.Proofs.YtncfbocbigdhiaaGreat.U

/- GroupWhole's walk. -/
namespace Go.Proofs.YtncfbocbigdhiaaGreat.U
open Go Go.RowKit
/-- A Put, as it came in. -/
structure PutAt (W : World) (LK a : Nat) (p : PutsP.T6) : Prop where
  c0 : W.cell? ⟨LK, a, none⟩ = some (.string p.tx)
  c1 : W.cell? ⟨LK, a + 1, none⟩ = some (.int .i64 p.sz)
  c2 : W.cell? ⟨LK, a + 2, none⟩ = some (.int .i64 p.af)
  c3 : W.cell? ⟨LK, a + 3, none⟩ = some (.bool p.dn)
  c4 : W.cell? ⟨LK, a + 4, none⟩ = some (.bool p.dd)
  c5 : W.cell? ⟨LK, a + 5, none⟩ = some (.slice p.ca p.cn p.cc)
  ok : PutsP.T6.Ok W p
/-- A block's code, with what comes behind it as a name. -/
theorem wp_block_hide3 {P : Program} {id : Nat} {c : Code} {K : Act → World → Prop} {Q : Exit → Act → World → Prop} {a : Act} {w : World}
    (h : ∀ Q0 : Exit → Act → World → Prop, (∀ a w, K a w → Q0 .normal a w) → (∀ a w, K a w → Q0 (.exit id) a w) → (∀ a w, Q .ret a w → Q0 .ret a w) → c.wp P Q0 a w) : (Code.block id c).wp P (Exit.then K Q) a w :=
  wp_block (h _ (fun _ _ hk => hk) (fun a w hk => by
    show (if id = id then Exit.then K Q .normal a w else _)
    rw [if_pos rfl]; exact hk) (fun _ _ hk => hk))
theorem cut_choice (ca : Option Addr) (cn cc CK cO : Nat) (hle : cn ≤ cc) (hmx : cc ≤ 9223372036854775807) (hat : 0 < cn → ca = some ⟨CK, cO, none⟩) : ∃ c, F.ChL CK cO (min cn 20) 0 c ∧ ∀ W, (Instr.slice 31 (.slice ca cn cc) none (some (.int .i64 20)) none).run Tryz.prog W = .ok c W ∨ cn ≤ 20 := by
  rcases Nat.lt_or_ge 20 cn with hcn | hcn
  · refine ⟨.slice (if cc = 0 then ca else ca.map (·.add 0)) (min cn 20) cc, ⟨_, cc, rfl, by omega, hmx, fun h => ?_⟩, fun W => Or.inl ?_⟩
    · rw [if_neg (by omega), hat (by omega)]
      rfl
    · have hi3 : (Tryz.prog.info? 3).isSome = true := by kernel_rfl
      obtain ⟨i3, hi3⟩ := Option.isSome_iff_exists.1 hi3
      have hb : (0 : Int) ≤ 20 ∧ (20 : Int) ≤ (cc : Int) := by omega
      have hb2 : 20 ≤ cc := by omega
      have hm : min cn 20 = 20 := by omega
      rw [hm]
      simp [Instr.slice, run_underlying Tryz.underlying31, Instr.sliceBounds, Instr.sliceBound, asIntOf, sizeOf, typeInfo, hb2, hi3]
      intro h
      omega
  · exact ⟨.slice ca (min cn 20) cc, ⟨ca, cc, rfl, by omega, hmx, fun h => by rw [hat (by omega)]; rfl⟩, fun W => Or.inr hcn⟩
theorem own_txs {W : World} {B : Nat} {v : Value} {zs : List ByteArray} (hz : 0 < zs.length) (h : W.ownsRow B 9 1 v zs.length (zs.map .string)) : ∃ g cur, B ≤ g ∧ W.heap[g]? = some (.cells cur 9) ∧ Txs v zs [(g, .cells cur 9)] := by
  rcases h.2 with ⟨_, h0⟩ | ⟨g, cap, cur, h1, h2, h3, h4, h5, h6, h7⟩
  · omega
  · rw [Nat.mul_one] at h6 h7
    exact ⟨g, cur, h2, h3, Or.inr ⟨g, cap, cur, h1, rfl, h4, h5, h6, h7⟩⟩
theorem rows_apart {W : World} {v : Value} {xs : List ByteArray} {ol oth : List (Nat × Obj)} (h : Txs v xs ol) (hol : ∀ p ∈ ol, W.heap[p.1]? = some p.2) (hoth : ∀ p ∈ oth, W.heap[p.1]? = some p.2) (h9 : ∀ q ∈ oth, ∀ c fz, q.2 ≠ .cells c 9 fz) : ∀ p ∈ ol, ∀ q ∈ oth, p.1 ≠ q.1 := by
  intro p hp q hq e
  obtain ⟨c, hc⟩ := h.ty p hp
  have a := hol p hp
  have b := hoth q hq
  rw [e, b] at a
  have e2 := Option.some.inj a
  rw [hc] at e2
  exact h9 q hq _ _ e2
/-- What is left by an Append that was broken off, or ended. -/
def Brk (M per en n : Nat) (l : List (Nat × ByteArray)) (x : ByteArray) (b : Bool) (n' : Nat → ByteArray) : Prop := (b = true ∧ Gl n' 70 { sg0 M per with a := en } l en) ∨ Gl n' 70 { sg0 M per with a := en } (l ++ [(en, x)]) (en + 1 + n)
def V36 (wv : Value) (y : ByteArray) : Nat → Value → Prop
  | 1, v => v = wv
  | 3, v => v = .string y
  | _, _ => True
theorem tl_ne {a b : ByteArray} (h : ¬ a = b) : (a.toList == b.toList) = false := by
  rw [Lib.toList_data, Lib.toList_data]
  exact beq_false_of_ne (fun e => h (ByteArray.ext (Array.ext' e)))
theorem tl_ie {a : ByteArray} (h : ¬ a = ⟨#[]⟩) : a.toList.isEmpty = false := by
  cases e : a.toList with
  | nil =>
    have h2 : a.data.toList = [] := by rw [← Lib.toList_data]; exact e
    exact absurd (ByteArray.ext (Array.ext' h2)) h
  | cons b l => rfl
set_option maxHeartbeats 16000000 in
set_option maxRecDepth 100000 in
theorem whole_walk (p0 : Int) (la : Option Addr) (ln lc LK lO : Nat) (hla : 0 < ln → la = some ⟨LK, lO, none⟩) (act : Nat → PutsP.T6) (w : World)
    (hrow : ∀ W, Below w.heap.size w W → ∀ j, j < ln → PutAt W LK (lO + j * 6) (act j)) :
    Calls Tryz.prog 4 #[.int .i64 p0, .slice la ln lc] w fun e w' => e = .returned (.bool true) ∧ Below w.heap.size w w' := by
  have haw := awake11 w
  obtain ⟨per, hper⟩ : ∃ m : Nat, max 8 (min p0 64) = (m : Int) := ⟨(max 8 (min p0 64)).toNat, by omega⟩
  have HP : Hid (8 ≤ per ∧ per ≤ 64) := ⟨by omega, by omega⟩
  have HLA : Hid _ := hla
  obtain ⟨T, hT⟩ : ∃ T, T = w.heap.size := ⟨_, rfl⟩
  rw [← hT] at hrow
  have HROW : Hid _ := hrow
  clear hla hrow
  go_enter Tryz.func4, Tryz.ntmps4
  go_wp2_with fail
  go_call haw as e w1 ⟨rfl, hb1⟩
  have hmk := F.made_any w.heap.size w w1 [] hb1 hb1.size (by intro p hp; cases hp) 1 (by decide) (by decide) 70 (by decide) (by decide)
  clear haw hb1
  rw [← hT] at hmk
  have HT : Hid _ := hT
  clear hT
  go_wp2_with fail
  go_call hmk as e w2 ⟨L, M0, rfl, o1⟩
  have H0 : Hid (GI T w L [] per 0 [] ⟨#[]⟩ w2) :=
    ⟨1, _, [], 1, by decide, by decide, (Dev.ofV (V.dev0 o1)).forget (fun p hp => by cases hp), gl0 0 per 70 (by have := HP.out.1; omega), Nat.le_refl _, Or.inl rfl⟩
  clear hmk o1
  go_wp2
  go_loopw [7, 8, 9] (fun wv lv iv wr => ∃ (k : Nat) (want : List ByteArray) (last : ByteArray) (ol : List (Nat × Obj)), k ≤ ln ∧ k ≤ 20 ∧ Hid (Txs wv want ol) ∧ lv = .string last ∧ iv = .int .i64 (k : Nat) ∧ Hid (GI T w L ol per k want last wr)) (fun _ _ iv _ => 20 - (intOf iv).toNat)
  case atStart => exact ⟨0, [], ⟨#[]⟩, [], by omega, by omega, Txs.nil, rfl, rfl, H0⟩
  case round =>
    clear H0
    obtain ⟨k, want, last, ol, hk1, hk2, HM, rfl, rfl, HI⟩ := hrel
    by_cases hk20 : k < 20
    · obtain ⟨q, now, l, en, q0, q1, hD, hG, hl, hw⟩ := HI.out
      clear HI
      have hof := dev_of hD per
      have HG : Hid (Gl now 70 (sg0 0 per) l en) := hG
      have HL : Hid (0 ≤ q ∧ q ≤ 1 + (k : Int) ∧ l.length ≤ k) := ⟨q0, q1, hl⟩
      have HW : Hid (l.map Prod.snd = want ∨ (last.size ≠ 0 ∧ l.map Prod.snd = want ++ [last])) := hw
      clear hD hG hl hw q0 q1
      refine wp_seq_k (fun K0 hK0 => ?_)
      have HK0 : Hid _ := hK0
      clear hK0
      go_wp2
      refine HK0.out _ _ ?_
      clear HK0
      refine wp_seq_k (fun K1 hK1 => ?_)
      have HEND : Hid (k < ln → ∀ (wv2 : Value) (want2 : List ByteArray) (last2 : ByteArray) (ol2 : List (Nat × Obj)) (x4 x10 x11 x12 x13 x14 x15 x16 x17 x29 x30 x31 x32 x33 x34 x35 x36 x37 x38 x39 x40 x41 x42 x43 x44 x45 x46 x47 x48 x49 x50 x51 x52 x53 x54 x55 x56 x57 x58 x59 x60 x61 x62 x63 x64 x65 x66 x67 x68 x69 x70 x71 x72 x73 x74 x75 x76 x77 x78 x79 x80 x81 x82 x83 x84 x85 x86 x87 x88 x89 x90 x91 x92 x93 x94 x95 x96 x97 x98 x99 x100 x101 x102 x103 x104 x105 x106 x107 x108 x109 x110 x111 x112 x113 x114 x115 x116 x117 x118 x119 x120 x121 x122 x123 x124 x125 x126 x127 x128 x129 x130 x131 x132 x133 x134 x135 x136 x137 x138 x139 x140 x141 : Value) (W : World), Txs wv2 want2 ol2 → GI T w L ol2 per (k + 1) want2 last2 W → K1 ⟨#[.int .i64 (per : Nat), .slice la ln lc, undef, undef, x4, .pointer (some ⟨L.P, 0, none⟩), .pointer (some ⟨M0, 0, none⟩), wv2, .string last2, .int .i64 (k : Nat), x10, x11, x12, x13, x14, x15, x16, x17, .bool true, .bool false, .int .i64 p0, .int .i64 (min p0 64), .int .i64 (per : Nat), .tuple #[.pointer (some ⟨L.P, 0, none⟩), .pointer (some ⟨M0, 0, none⟩)], .tuple #[.pointer (some ⟨L.P, 0, none⟩), .pointer (some ⟨M0, 0, none⟩)], .pointer (some ⟨L.P, 0, none⟩), .pointer (some ⟨M0, 0, none⟩), .pointer (some ⟨L.P, 0, none⟩), .bool false, x29, x30, x31, x32, x33, x34, x35, x36, x37, x38, x39, x40, x41, x42, x43, x44, x45, x46, x47, x48, x49, x50, x51, x52, x53, x54, x55, x56, x57, x58, x59, x60, x61, x62, x63, x64, x65, x66, x67, x68, x69, x70, x71, x72, x73, x74, x75, x76, x77, x78, x79, x80, x81, x82, x83, x84, x85, x86, x87, x88, x89, x90, x91, x92, x93, x94, x95, x96, x97, x98, x99, x100, x101, x102, x103, x104, x105, x106, x107, x108, x109, x110, x111, x112, x113, x114, x115, x116, x117, x118, x119, x120, x121, x122, x123, x124, x125, x126, x127, x128, x129, x130, x131, x132, x133, x134, x135, x136, x137, x138, x139, x140, x141], []⟩ W) := by
        intro hkl wv2 want2 last2 ol2 x4 x10 x11 x12 x13 x14 x15 x16 x17 x29 x30 x31 x32 x33 x34 x35 x36 x37 x38 x39 x40 x41 x42 x43 x44 x45 x46 x47 x48 x49 x50 x51 x52 x53 x54 x55 x56 x57 x58 x59 x60 x61 x62 x63 x64 x65 x66 x67 x68 x69 x70 x71 x72 x73 x74 x75 x76 x77 x78 x79 x80 x81 x82 x83 x84 x85 x86 x87 x88 x89 x90 x91 x92 x93 x94 x95 x96 x97 x98 x99 x100 x101 x102 x103 x104 x105 x106 x107 x108 x109 x110 x111 x112 x113 x114 x115 x116 x117 x118 x119 x120 x121 x122 x123 x124 x125 x126 x127 x128 x129 x130 x131 x132 x133 x134 x135 x136 x137 x138 x139 x140 x141 W g1 g2
        have G1 : Hid (Txs wv2 want2 ol2) := g1
        have G2 : Hid (GI T w L ol2 per (k + 1) want2 last2 W) := g2
        clear g1 g2
        refine hK1 _ _ ?_
        go_wp2
        go_roundw
        case rel => exact ⟨k + 1, want2, last2, ol2, by omega, by omega, G1, rfl, rfl, G2⟩
        case measure => simp only [intOf]; omega
      clear hK1
      refine wp_block_hide3 (fun Q0 hQn hQx hQr => ?_)
      have HQN : Hid _ := hQn
      have HQX : Hid _ := hQx
      have HQR : Hid _ := hQr
      clear hQn hQx hQr
      refine wp_seq_k (fun K12 hK12 => ?_)
      have HK12 : Hid _ := hK12
      clear hK12
      go_wp2_with fail
      go_call hof as e w3 ⟨S, M, rfl, hd2, hSM, hne2⟩
      have hl2 := hd2.lts
      have lS : S < w3.heap.size := hl2 (S, .cells (sg0 M per).cs 44) (by simp)
      have lM : M < w3.heap.size := hl2 (M, F.med L.P 1 q) (by simp)
      obtain ⟨Pb, hPb⟩ : ∃ Pb, Pb = w3.heap.size := ⟨_, rfl⟩
      have hd3 := (hd2.alloc (.cells #[.pointer (some ⟨S, 0, none⟩)] 28) (F.apart_of (by decide))).forget (oth' := (S, .cells (sg0 M per).cs 44) :: (w3.heap.size, .cells #[.pointer (some ⟨S, 0, none⟩)] 28) :: (M, F.med L.P 1 q) :: ol) (by
        intro p hp
        simp only [List.mem_cons] at hp ⊢
        rcases hp with hp | hp | hp | hp <;> simp [hp])
      have c3 : (w3.alloc (.cells #[.pointer (some ⟨S, 0, none⟩)] 28)).cell? ⟨w3.heap.size, 0, none⟩ = some (.pointer (some ⟨S, 0, none⟩)) := F.cell_of (hd3.at' (p := (w3.heap.size, .cells #[.pointer (some ⟨S, 0, none⟩)] 28)) (by simp)) 0
      have HN : Hid (S < Pb ∧ M < Pb ∧ S ≠ M ∧ (∀ p ∈ ol, p.1 ≠ S) ∧ ∀ p ∈ ol, p.1 < Pb) := ⟨by omega, by omega, hSM, fun p hp => hne2 p hp, fun p hp => by have := hl2 p (by simp [hp]); omega⟩
      rw [← hPb] at hd3 c3
      have hsc := scanned_all (Sb := S) (sg0 M per) hd3 (by simp [sg0]) (by
        intro p hp c fz e
        simp only [List.mem_cons] at hp
        rcases hp with rfl | rfl | hp
        · injection e with _ e _; exact absurd e (by decide)
        · unfold F.med at e; injection e with _ e _; exact absurd e (by decide)
        · obtain ⟨c', hc'⟩ := HM.out.ty p hp
          rw [hc'] at e; injection e with _ e _; exact absurd e (by decide)) (by
        intro p hp
        simp only [List.mem_cons] at hp
        rcases hp with rfl | rfl | hp
        · show Pb ≠ S; have := HN.out.1; omega
        · exact fun e => hSM e.symm
        · exact hne2 p hp) ⟨(by decide : (3 : Nat) < _), (by decide : (2 : Nat) < _), (by decide : (5 : Nat) < _)⟩ ⟨(by decide : (4 : Nat) ≤ _), by show 1 ≤ per; have := HP.out; omega, HP.out.2⟩ (by show 4 + per ≤ 70; have := HP.out; omega) (by decide) (by have := cB_le k (by omega); omega) HG.out.ks (Chn.segM HG.out.ch M 1) (Gl.ends (s := sg0 M per) (HG.out.seg M 1) (by show 4 + per ≤ 70; have := HP.out; omega))
      clear hof hd2 hl2 hSM hne2 lS lM hd3
      go_wp2
      rw [← hPb]
      refine HK12.out _ _ ?_
      clear HK12
      generalize w3.alloc (.cells #[.pointer (some ⟨S, 0, none⟩)] 28) = w3' at *
      clear hPb
      refine wp_seq_k (fun K13 hK13 => ?_)
      have HK13 : Hid _ := hK13
      clear hK13
      go_wp2
      refine HK13.out _ _ ?_
      clear HK13
      refine wp_seq_k (fun K15 hK15 => ?_)
      have HK15 : Hid _ := hK15
      clear hK15
      go_wp2_with fail
      go_call hsc as er w4 ⟨v2, ol2, rfl, ht2, hap2, hd4⟩
      have HT2 : Hid (Txs v2 (l.map Prod.snd) ol2) := ht2
      have HA2 : Hid _ := hap2
      have HD4 : Hid _ := hd4
      clear hsc ht2 hap2 hd4 c3
      go_wp2
      refine HK15.out _ _ ?_
      clear HK15
      refine wp_seq_k (fun K16 hK16 => ?_)
      have HK16 : Hid _ := hK16
      clear hK16
      go_wp2
      refine HK16.out _ _ ?_
      clear HK16
      refine wp_seq_k (fun K18 hK18 => ?_)
      have H18 : Hid (∀ (wv3 : Value) (olw : List (Nat × Obj)) (x4 x13 x14 x15 x16 x17 x29 x30 x31 x32 x33 x34 x35 x36 x37 x38 x39 x40 x41 x42 x43 x44 x45 x46 x47 x48 x49 x50 x51 x52 x53 x54 x55 x56 x57 x58 x59 x60 x61 x62 x63 x64 x65 x66 x67 x68 x69 x70 x71 x72 x73 x74 x75 x76 x77 x78 x79 x80 x81 x82 x83 x84 x85 x86 x87 x88 x89 x90 x91 x92 x93 x94 x95 x96 x97 x98 x99 x100 x101 x102 x103 x104 x105 x106 x107 x108 x109 x110 x111 x112 x113 x114 x115 x116 x117 x118 x119 x120 x121 x122 x123 x124 x125 x126 x127 x128 x129 x130 x131 x132 x133 x134 x135 x136 x137 x138 x139 x140 x141 : Value), Txs wv3 (l.map Prod.snd) olw → (∀ p ∈ olw, p ∈ ol2 ∨ p ∈ ol) → K18 ⟨#[.int .i64 (per : Nat), .slice la ln lc, undef, undef, x4, .pointer (some ⟨L.P, 0, none⟩), .pointer (some ⟨M0, 0, none⟩), wv3, .string last, .int .i64 (k : Nat), .pointer (some ⟨Pb, 0, none⟩), v2, .bool true, x13, x14, x15, x16, x17, .bool true, .bool false, .int .i64 p0, .int .i64 (min p0 64), .int .i64 (per : Nat), .tuple #[.pointer (some ⟨L.P, 0, none⟩), .pointer (some ⟨M0, 0, none⟩)], .tuple #[.pointer (some ⟨L.P, 0, none⟩), .pointer (some ⟨M0, 0, none⟩)], .pointer (some ⟨L.P, 0, none⟩), .pointer (some ⟨M0, 0, none⟩), .pointer (some ⟨L.P, 0, none⟩), .bool false, x29, x30, x31, x32, x33, x34, x35, x36, x37, x38, x39, x40, x41, x42, x43, x44, x45, x46, x47, x48, x49, x50, x51, x52, x53, x54, x55, x56, x57, x58, x59, x60, x61, x62, x63, x64, x65, x66, x67, x68, x69, x70, x71, x72, x73, x74, x75, x76, x77, x78, x79, x80, x81, x82, x83, x84, x85, x86, x87, x88, x89, x90, x91, x92, x93, x94, x95, x96, x97, x98, x99, x100, x101, x102, x103, x104, x105, x106, x107, x108, x109, x110, x111, x112, x113, x114, x115, x116, x117, x118, x119, x120, x121, x122, x123, x124, x125, x126, x127, x128, x129, x130, x131, x132, x133, x134, x135, x136, x137, x138, x139, x140, x141], []⟩ w4) := by
        intro wv3 olw x4 x13 x14 x15 x16 x17 x29 x30 x31 x32 x33 x34 x35 x36 x37 x38 x39 x40 x41 x42 x43 x44 x45 x46 x47 x48 x49 x50 x51 x52 x53 x54 x55 x56 x57 x58 x59 x60 x61 x62 x63 x64 x65 x66 x67 x68 x69 x70 x71 x72 x73 x74 x75 x76 x77 x78 x79 x80 x81 x82 x83 x84 x85 x86 x87 x88 x89 x90 x91 x92 x93 x94 x95 x96 x97 x98 x99 x100 x101 x102 x103 x104 x105 x106 x107 x108 x109 x110 x111 x112 x113 x114 x115 x116 x117 x118 x119 x120 x121 x122 x123 x124 x125 x126 x127 x128 x129 x130 x131 x132 x133 x134 x135 x136 x137 x138 x139 x140 x141 g1 g2
        have HTW : Hid (Txs wv3 (l.map Prod.snd) olw) := g1
        have HOW : Hid (∀ p ∈ olw, p ∈ ol2 ∨ p ∈ ol) := g2
        clear g1 g2
        refine hK18 _ _ ?_
        clear hK18 HW
        have hsm := same_yes HT2.out HTW.out (by rw [List.length_map]; have := HL.out.2.2; omega) w4 (fun p hp => HD4.out.at' (by simp [hp])) (fun p hp => HD4.out.at' (by rcases HOW.out p hp with h | h <;> simp [h]))
        refine wp_seq_k (fun K20 hK20 => ?_)
        have HK20 : Hid _ := hK20
        clear hK20
        go_wp2_with fail
        go_call hsm as er w5 ⟨rfl, hb5⟩
        have HD5 : Hid (Dev T w L q 70 (ol2 ++ (S, .cells (Sg.cs { sg0 M per with a := en }) 44) :: (Pb, .cells #[.pointer (some ⟨S, 0, none⟩)] 28) :: (M, F.med L.P 1 q) :: ol) now now ((cB k : Nat) + (130 * l.length + 66)) w5) := HD4.out.below hb5
        clear hsm hb5 HD4
        go_wp2
        refine HK20.out _ _ ?_
        clear HK20
        by_cases hkl : k = ln
        · have HBL : Hid (Below T w w5) := HD5.out.bel
          have hkI : (k : Int) = (ln : Int) := by omega
          clear HEND HQN HQX
          go_wp2
          refine HQR.out _ _ ?_
          go_returns
          refine ⟨rfl, ?_⟩
          have := HBL.out
          rw [HT.out] at this
          exact this
        · have hkln : k < ln := by omega
          have hkI : ¬ (k : Int) = (ln : Int) := by omega
          obtain rfl := HLA.out (by omega)
          have HTR : Hid (∀ W, Below T w W → PutAt W LK (lO + k * 6) (act k)) := fun W hb => HROW.out W hb k hkln
          refine wp_seq_k (fun K22 hK22 => ?_)
          have HK22 : Hid _ := hK22
          clear hK22
          go_wp2
          refine HK22.out _ _ ?_
          clear HK22
          refine wp_seq_k (fun K24 hK24 => ?_)
          have HK24 : Hid _ := hK24
          clear hK24
          go_wp2
          refine HK24.out _ _ ?_
          clear HK24
          refine wp_seq_k (fun K25 hK25 => ?_)
          have HK25 : Hid _ := hK25
          clear hK25
          obtain ⟨z0, z1, z2, z3, z4, z5, zok⟩ := HTR.out w5 HD5.out.bel
          have hk3 : (k : Int) < (ln : Int) := by omega
          go_wp2_with (first | refine wpList_load_mid rfl 33 _ rfl LK (lO + k * 6) rfl [.string (act k).tx, .int .i64 (act k).sz, .int .i64 (act k).af, .bool (act k).dn, .bool (act k).dd, .slice (act k).ca (act k).cn (act k).cc] _ (by intro j u hj; rcases j with _ | _ | _ | _ | _ | _ | j <;> simp at hj <;> subst hj <;> first | exact z0 | exact z1 | exact z2 | exact z3 | exact z4 | exact z5) Tryz.underlying33 rfl (by kernel_rfl) ?_ | fail)
          refine HK25.out _ _ ?_
          clear HK25 z0 z1 z2 z3 z4 z5 zok
          obtain ⟨X, hX⟩ : ∃ X, X = w5.heap.size := ⟨_, rfl⟩
          have hl5 := HD5.out.lts
          have lPb : Pb < w5.heap.size := hl5 (Pb, .cells #[.pointer (some ⟨S, 0, none⟩)] 28) (by simp)
          have lolw : ∀ p ∈ olw, p.1 < w5.heap.size := fun p hp => hl5 p (by rcases HOW.out p hp with h | h <;> simp [h])
          have hd6 : Dev T w L q 70 ((S, .cells (Sg.cs { sg0 M per with a := en }) 44) :: (Pb, .cells #[.pointer (some ⟨S, 0, none⟩)] 28) :: (M, F.med L.P 1 q) :: (X, .cells #[.string (act k).tx, .int .i64 (act k).sz, .int .i64 (act k).af, .bool (act k).dn, .bool (act k).dd, .slice (act k).ca (act k).cn (act k).cc] 33) :: olw) now now ((cB k : Nat) + (130 * l.length + 66)) (w5.alloc (.cells #[.string (act k).tx, .int .i64 (act k).sz, .int .i64 (act k).af, .bool (act k).dn, .bool (act k).dd, .slice (act k).ca (act k).cn (act k).cc] 33)) := by
            rw [hX]
            refine (HD5.out.alloc (.cells #[.string (act k).tx, .int .i64 (act k).sz, .int .i64 (act k).af, .bool (act k).dn, .bool (act k).dd, .slice (act k).ca (act k).cn (act k).cc] 33) (F.apart_of (by decide))).forget ?_
            intro p hp
            simp only [List.mem_append, List.mem_cons] at hp ⊢
            rcases hp with hp | hp | hp | hp | hp
            · simp [hp]
            · simp [hp]
            · simp [hp]
            · simp [hp]
            · rcases HOW.out p hp with h | h <;> simp [h]
          rw [← hX]
          generalize w5.alloc (.cells #[.string (act k).tx, .int .i64 (act k).sz, .int .i64 (act k).af, .bool (act k).dn, .bool (act k).dd, .slice (act k).ca (act k).cn (act k).cc] 33) = W6 at *
          have HNX : Hid (S < Pb ∧ M < Pb ∧ S ≠ M ∧ Pb < X ∧ (∀ p ∈ olw, p.1 < X)) := ⟨HN.out.1, HN.out.2.1, HN.out.2.2.1, by omega, fun p hp => by have := lolw p hp; omega⟩
          have hnS : ∀ p ∈ olw, p.1 ≠ S := fun p hp => by
            rcases HOW.out p hp with h | h
            · exact HA2.out p h (S, Obj.cells (Sg.cs { sg0 M per with a := en }) 44) (by simp)
            · exact HN.out.2.2.2.1 p h
          have HNS : Hid (∀ p ∈ olw, p.1 ≠ S) := hnS
          have HD6 : Hid _ := hd6
          have c1 : W6.cell? ⟨X, 1, none⟩ = some (.int .i64 (act k).sz) := F.cell_of (hd6.at' (p := (X, .cells #[.string (act k).tx, .int .i64 (act k).sz, .int .i64 (act k).af, .bool (act k).dn, .bool (act k).dd, .slice (act k).ca (act k).cn (act k).cc] 33)) (by simp)) 1
          clear hd6 hX hl5 lPb lolw hnS HD5
          obtain ⟨n, hn⟩ : ∃ n : Nat, max 1 (min (act k).sz 9) = (n : Int) := ⟨(max 1 (min (act k).sz 9)).toNat, by omega⟩
          have hn1 : 1 ≤ n := by omega
          have hn9 : n ≤ 9 := by omega
          refine wp_seq_k (fun K26 hK26 => ?_)
          have HK26 : Hid _ := hK26
          clear hK26
          go_wp2
          refine HK26.out _ _ ?_
          clear HK26 c1 hn
          refine wp_seq_k (fun K27 hK27 => ?_)
          have HK27 : Hid _ := hK27
          clear hK27
          have cPb : W6.cell? ⟨Pb, 0, none⟩ = some (.pointer (some ⟨S, 0, none⟩)) := F.cell_of (HD6.out.at' (p := (Pb, .cells #[.pointer (some ⟨S, 0, none⟩)] 28)) (by simp)) 0
          have hen : en ≤ per := HG.out.fit
          have hp64 : per ≤ 64 := HP.out.2
          by_cases hroom : en + n < per
          · have hrc := dev_room { sg0 M per with a := en } HD6.out (List.mem_cons_self ..) (n : Int) ⟨by show per ≤ 1000; omega, by show en ≤ 1000; omega⟩ true (decide_eq_true ⟨by omega, by show (n : Int) < (per : Nat) - (en : Nat); omega⟩)
            go_wp2_with fail
            go_call hrc as er w7 ⟨rfl, hd7⟩
            have HD7 : Hid _ := hd7
            clear hrc hd7 cPb HD6 HQX
            go_wp2
            refine HK27.out _ _ ?_
            clear HK27
            refine wp_seq_k (fun K28 hK28 => ?_)
            have H28 : Hid (∀ (x4 x15 x16 x17 x29 x30 x31 x32 x33 x34 x35 x36 x37 x38 x39 x40 x41 x42 x43 x44 x45 x46 x47 x48 x49 x50 x51 x52 x53 x54 x55 x56 x57 x58 x59 x60 x61 x62 x63 x64 x65 x66 x67 x68 x69 x70 x71 x72 x73 x74 x75 x76 x77 x78 x79 x80 x81 x82 x83 x84 x85 x86 x87 x88 x89 x90 x91 x92 x93 x94 x95 x96 x97 x98 x99 x100 x101 x102 x103 x104 x105 x106 x107 x108 x109 x110 x111 x112 x113 x114 x115 x116 x117 x118 x119 x120 x121 x122 x123 x124 x125 x126 x127 x128 x129 x130 x131 x132 x133 x134 x135 x136 x137 x138 x139 x140 x141 : Value) (W : World), Md T w L q ((S, .cells (Sg.cs { sg0 M per with a := en }) 44) :: (Pb, .cells #[.pointer (some ⟨S, 0, none⟩)] 28) :: (M, F.med L.P 1 q) :: (X, .cells #[.string (act k).tx, .int .i64 (act k).sz, .int .i64 (act k).af, .bool (act k).dn, .bool (act k).dd, .slice (act k).ca (act k).cn (act k).cc] 33) :: olw) now ((cB k : Nat) + (130 * l.length + 66)) W → K28 ⟨#[.int .i64 (per : Nat), .slice (some ⟨LK, lO, none⟩) ln lc, undef, undef, x4, .pointer (some ⟨L.P, 0, none⟩), .pointer (some ⟨M0, 0, none⟩), wv3, .string ⟨#[]⟩, .int .i64 (k : Nat), .pointer (some ⟨Pb, 0, none⟩), v2, .bool true, .pointer (some ⟨X, 0, none⟩), .int .i64 (n : Nat), x15, x16, x17, .bool true, .bool false, .int .i64 p0, .int .i64 (min p0 64), .int .i64 (per : Nat), .tuple #[.pointer (some ⟨L.P, 0, none⟩), .pointer (some ⟨M0, 0, none⟩)], .tuple #[.pointer (some ⟨L.P, 0, none⟩), .pointer (some ⟨M0, 0, none⟩)], .pointer (some ⟨L.P, 0, none⟩), .pointer (some ⟨M0, 0, none⟩), .pointer (some ⟨L.P, 0, none⟩), .bool false, x29, x30, x31, x32, x33, x34, x35, x36, x37, x38, x39, x40, x41, x42, x43, x44, x45, x46, x47, x48, x49, x50, x51, x52, x53, x54, x55, x56, x57, x58, x59, x60, x61, x62, x63, x64, x65, x66, x67, x68, x69, x70, x71, x72, x73, x74, x75, x76, x77, x78, x79, x80, x81, x82, x83, x84, x85, x86, x87, x88, x89, x90, x91, x92, x93, x94, x95, x96, x97, x98, x99, x100, x101, x102, x103, x104, x105, x106, x107, x108, x109, x110, x111, x112, x113, x114, x115, x116, x117, x118, x119, x120, x121, x122, x123, x124, x125, x126, x127, x128, x129, x130, x131, x132, x133, x134, x135, x136, x137, x138, x139, x140, x141], []⟩ W) := by
              intro x4 x15 x16 x17 x29 x30 x31 x32 x33 x34 x35 x36 x37 x38 x39 x40 x41 x42 x43 x44 x45 x46 x47 x48 x49 x50 x51 x52 x53 x54 x55 x56 x57 x58 x59 x60 x61 x62 x63 x64 x65 x66 x67 x68 x69 x70 x71 x72 x73 x74 x75 x76 x77 x78 x79 x80 x81 x82 x83 x84 x85 x86 x87 x88 x89 x90 x91 x92 x93 x94 x95 x96 x97 x98 x99 x100 x101 x102 x103 x104 x105 x106 x107 x108 x109 x110 x111 x112 x113 x114 x115 x116 x117 x118 x119 x120 x121 x122 x123 x124 x125 x126 x127 x128 x129 x130 x131 x132 x133 x134 x135 x136 x137 x138 x139 x140 x141 W g1
              have G1 : Hid (Md T w L q ((S, .cells (Sg.cs { sg0 M per with a := en }) 44) :: (Pb, .cells #[.pointer (some ⟨S, 0, none⟩)] 28) :: (M, F.med L.P 1 q) :: (X, .cells #[.string (act k).tx, .int .i64 (act k).sz, .int .i64 (act k).af, .bool (act k).dn, .bool (act k).dd, .slice (act k).ca (act k).cn (act k).cc] 33) :: olw) now ((cB k : Nat) + (130 * l.length + 66)) W) := g1
              clear g1
              refine hK28 _ _ ?_
              clear hK28 HD7
              refine wp_seq_k (fun K32 hK32 => ?_)
              have HK32 : Hid _ := hK32
              clear hK32
              have c0 : W.cell? ⟨X, 0, none⟩ = some (.string (act k).tx) := F.cell_of (G1.out.at' (p := (X, .cells #[.string (act k).tx, .int .i64 (act k).sz, .int .i64 (act k).af, .bool (act k).dn, .bool (act k).dd, .slice (act k).ca (act k).cn (act k).cc] 33)) (by simp)) 0
              have hpy := pay_any (act k).tx n hn1 (by omega) W
              go_wp2_with fail
              go_call hpy as er w7 ⟨rfl, hb7⟩
              have g7 : Md T w L q ((S, .cells (Sg.cs { sg0 M per with a := en }) 44) :: (Pb, .cells #[.pointer (some ⟨S, 0, none⟩)] 28) :: (M, F.med L.P 1 q) :: (X, .cells #[.string (act k).tx, .int .i64 (act k).sz, .int .i64 (act k).af, .bool (act k).dn, .bool (act k).dd, .slice (act k).ca (act k).cn (act k).cc] 33) :: (w7.heap.size, .cells #[.string (payN (act k).tx n)] 9) :: olw) now ((cB k : Nat) + (130 * l.length + 66)) (w7.alloc (.cells #[.string (payN (act k).tx n)] 9)) := G1.out.mono (fun st lv o => ((o.ofBelow hb7).alloc (.cells #[.string (payN (act k).tx n)] 9) (F.apart_of (by decide))).forget (by
                intro p hp
                simp only [List.mem_cons] at hp ⊢
                rcases hp with hp | hp | hp | hp | hp | hp <;> simp [hp]))
              have hl7 : X < w7.heap.size := by
                have h1 := G1.out.lts (X, .cells #[.string (act k).tx, .int .i64 (act k).sz, .int .i64 (act k).af, .bool (act k).dn, .bool (act k).dd, .slice (act k).ca (act k).cn (act k).cc] 33) (by simp)
                have h2 : X < W.heap.size := h1
                have := hb7.size
                omega
              clear hpy hb7 c0
              go_wp2
              refine HK32.out _ _ ?_
              clear HK32
              generalize w7.alloc (.cells #[.string (payN (act k).tx n)] 9) = W7 at *
              generalize w7.heap.size = Nb at *
              have HG7 : Hid (Md T w L q ((S, .cells (Sg.cs { sg0 M per with a := en }) 44) :: (Pb, .cells #[.pointer (some ⟨S, 0, none⟩)] 28) :: (M, F.med L.P 1 q) :: (X, .cells #[.string (act k).tx, .int .i64 (act k).sz, .int .i64 (act k).af, .bool (act k).dn, .bool (act k).dd, .slice (act k).ca (act k).cn (act k).cc] 33) :: (Nb, .cells #[.string (payN (act k).tx n)] 9) :: olw) now ((cB k : Nat) + (130 * l.length + 66)) W7) := g7
              have hgd := wguard (Pb := Pb) (Fb := Nb) (x := payN (act k).tx n) (s := { sg0 M per with a := en }) (l := l) (k := n) g7 (by simp [sg0]) (by
                intro p hp
                simp only [List.mem_cons] at hp
                have hx := HNX.out
                rcases hp with rfl | rfl | rfl | rfl | hp
                · show Pb ≠ S; omega
                · show M ≠ S; omega
                · show X ≠ S; omega
                · show Nb ≠ S; omega
                · exact HNS.out p hp) (by simp) (by simp) (HG.out.seg M en) ⟨(by decide : (3 : Nat) < _), (by decide : (2 : Nat) < _), (by decide : (5 : Nat) < _), (by decide : (4 : Nat) ≤ _), HP.out.1, HP.out.2, HG.out.ch.lt.1, HG.out.fit⟩ (by show 4 + per ≤ 70; omega) hn1 hroom (payN_size _ _) (by have := cB_le k (by omega); have := HL.out.2.2; omega)
              have HNX7 : Hid (X < Nb) := hl7
              have cb1 : W7.cell? ⟨Nb, 0, none⟩ = some (.string (payN (act k).tx n)) := F.cell_of (g7.at' (p := (Nb, .cells #[.string (payN (act k).tx n)] 9)) (by simp)) 0
              clear g7 hl7 G1
              refine wp_seq_k (fun K34 hK34 => ?_)
              have H34 : Hid (∀ (wv4 : Value) (want4 : List ByteArray) (last4 : ByteArray) (ol4 : List (Nat × Obj)) (x4 x16 x17 x29 x30 x31 x32 x33 x34 x35 x36 x37 x38 x39 x40 x41 x42 x43 x44 x45 x46 x47 x48 x49 x50 x51 x52 x53 x54 x55 x56 x57 x58 x59 x60 x61 x62 x63 x64 x65 x66 x67 x68 x69 x70 x71 x72 x73 x74 x75 x76 x77 x78 x79 x80 x81 x82 x83 x84 x85 x86 x87 x88 x89 x90 x91 x92 x93 x94 x95 x96 x97 x98 x99 x100 x101 x102 x103 x104 x105 x106 x107 x108 x109 x110 x111 x112 x113 x114 x115 x116 x117 x118 x119 x120 x121 x122 x123 x124 x125 x126 x127 x128 x129 x130 x131 x132 x133 x134 x135 x136 x137 x138 x139 x140 x141 : Value) (W : World), Txs wv4 want4 ol4 → (∀ p ∈ ol4, p.1 ≠ X) → Pst T w L q ((X, .cells #[.string (act k).tx, .int .i64 (act k).sz, .int .i64 (act k).af, .bool (act k).dn, .bool (act k).dd, .slice (act k).ca (act k).cn (act k).cc] 33) :: ol4) ((cB k : Nat) + (130 * l.length + 66) + 100) (fun n' => ∃ l' e', Gl n' 70 (sg0 0 per) l' e' ∧ l'.length ≤ k + 1 ∧ (l'.map Prod.snd = want4 ∨ (last4.size ≠ 0 ∧ l'.map Prod.snd = want4 ++ [last4]))) W → K34 ⟨#[.int .i64 (per : Nat), .slice (some ⟨LK, lO, none⟩) ln lc, undef, undef, x4, .pointer (some ⟨L.P, 0, none⟩), .pointer (some ⟨M0, 0, none⟩), wv4, .string last4, .int .i64 (k : Nat), .pointer (some ⟨Pb, 0, none⟩), v2, .bool true, .pointer (some ⟨X, 0, none⟩), .int .i64 (n : Nat), .pointer (some ⟨Nb, 0, none⟩), x16, x17, .bool true, .bool false, .int .i64 p0, .int .i64 (min p0 64), .int .i64 (per : Nat), .tuple #[.pointer (some ⟨L.P, 0, none⟩), .pointer (some ⟨M0, 0, none⟩)], .tuple #[.pointer (some ⟨L.P, 0, none⟩), .pointer (some ⟨M0, 0, none⟩)], .pointer (some ⟨L.P, 0, none⟩), .pointer (some ⟨M0, 0, none⟩), .pointer (some ⟨L.P, 0, none⟩), .bool false, x29, x30, x31, x32, x33, x34, x35, x36, x37, x38, x39, x40, x41, x42, x43, x44, x45, x46, x47, x48, x49, x50, x51, x52, x53, x54, x55, x56, x57, x58, x59, x60, x61, x62, x63, x64, x65, x66, x67, x68, x69, x70, x71, x72, x73, x74, x75, x76, x77, x78, x79, x80, x81, x82, x83, x84, x85, x86, x87, x88, x89, x90, x91, x92, x93, x94, x95, x96, x97, x98, x99, x100, x101, x102, x103, x104, x105, x106, x107, x108, x109, x110, x111, x112, x113, x114, x115, x116, x117, x118, x119, x120, x121, x122, x123, x124, x125, x126, x127, x128, x129, x130, x131, x132, x133, x134, x135, x136, x137, x138, x139, x140, x141], []⟩ W) := by
                intro wv4 want4 last4 ol4 x4 x16 x17 x29 x30 x31 x32 x33 x34 x35 x36 x37 x38 x39 x40 x41 x42 x43 x44 x45 x46 x47 x48 x49 x50 x51 x52 x53 x54 x55 x56 x57 x58 x59 x60 x61 x62 x63 x64 x65 x66 x67 x68 x69 x70 x71 x72 x73 x74 x75 x76 x77 x78 x79 x80 x81 x82 x83 x84 x85 x86 x87 x88 x89 x90 x91 x92 x93 x94 x95 x96 x97 x98 x99 x100 x101 x102 x103 x104 x105 x106 x107 x108 x109 x110 x111 x112 x113 x114 x115 x116 x117 x118 x119 x120 x121 x122 x123 x124 x125 x126 x127 x128 x129 x130 x131 x132 x133 x134 x135 x136 x137 x138 x139 x140 x141 W g2 g4 g3
                have G2 : Hid (Txs wv4 want4 ol4) := g2
                have HCB : Hid ((((cB k : Nat) : Int) + (130 * l.length + 66) + 100) ≤ ((cB (k + 1) : Nat) : Int)) := by
                  have e : cB (k + 1) = cB k + (130 * k + 300) := rfl
                  rw [e]
                  have := HL.out.2.2
                  have h : (((cB k : Nat) : Int) + (130 * l.length + 66) + 100) ≤ ((cB k + (130 * k + 300) : Nat) : Int) := by omega
                  exact h
                clear g2
                refine hK34 _ _ ?_
                clear hK34 hgd HG7 cb1
                have c5 : W.cell? ⟨X, 5, none⟩ = some (.slice (act k).ca (act k).cn (act k).cc) := F.cell_of (g3.at' (p := (X, .cells #[.string (act k).tx, .int .i64 (act k).sz, .int .i64 (act k).af, .bool (act k).dn, .bool (act k).dd, .slice (act k).ca (act k).cn (act k).cc] 33)) (by simp)) 5
                have f5 : W.frozen? ⟨X, 5, none⟩ = false := F.frz_of (g3.at' (p := (X, .cells #[.string (act k).tx, .int .i64 (act k).sz, .int .i64 (act k).af, .bool (act k).dn, .bool (act k).dd, .slice (act k).ca (act k).cn (act k).cc] 33)) (by simp)) 5
                have htr := (HTR.out W g3.bel).ok
                have HX2 : Hid (∀ (cv : Value) (w9 : World) (now' : Nat → ByteArray), (∃ l' e', Gl now' 70 (sg0 0 per) l' e' ∧ l'.length ≤ k + 1 ∧ (l'.map Prod.snd = want4 ∨ (last4.size ≠ 0 ∧ l'.map Prod.snd = want4 ++ [last4]))) → Dev T w L (q + 1) 70 ((X, .cells #[.string (act k).tx, .int .i64 (act k).sz, .int .i64 (act k).af, .bool (act k).dn, .bool (act k).dd, cv] 33) :: ol4) now' now' ((cB (k + 1) : Nat)) w9 → GI T w L ol4 per (k + 1) want4 last4 w9) := by
                  intro cv w9 now' h hd
                  obtain ⟨l', e', j1, j2, j3⟩ := h
                  exact ⟨q + 1, now', l', e', by have := HL.out.1; omega, by have := HL.out.2.1; omega, hd.forget (fun p hp => List.mem_cons_of_mem _ hp), j1, j2, j3⟩
                by_cases hcn : 20 < (act k).cn
                · obtain ⟨cv, hcv, hcr⟩ := cut_choice (act k).ca (act k).cn (act k).cc (act k).CK (act k).cO htr.le htr.mx htr.at0
                  replace hcr : ∀ W, (Instr.slice 31 (.slice (act k).ca (act k).cn (act k).cc) none (some (.int .i64 20)) none).run Tryz.prog W = .ok cv W := fun W => by
                    rcases hcr W with h | h
                    · exact h
                    · omega
                  obtain ⟨ao5, cp5, hcve, hc1, hc2, hc3⟩ := hcv
                  have hcv : F.ChL (act k).CK (act k).cO (min (act k).cn 20) 0 cv := ⟨ao5, cp5, hcve, hc1, hc2, hc3⟩
                  subst hcve
                  have g5 : Pst T w L q ((X, .cells #[.string (act k).tx, .int .i64 (act k).sz, .int .i64 (act k).af, .bool (act k).dn, .bool (act k).dd, (.slice ao5 (min (act k).cn 20 - 0) cp5)] 33) :: ol4) ((cB k : Nat) + (130 * l.length + 66) + 100) _ (W.setCell ⟨X, 5, none⟩ (.slice ao5 (min (act k).cn 20 - 0) cp5)) := g3.mono (fun sta lva o => o.other g4 rfl rfl rfl (by simp [World.setCell]) (fun j _ hj => Below.heap_setCell _ _ _ _ (by exact hj)) (by rw [F.block_set (o.oth _ (List.mem_cons_self ..)).1]; rfl) (F.apart_of (by decide)))
                  have c6 : (W.setCell ⟨X, 5, none⟩ (.slice ao5 (min (act k).cn 20 - 0) cp5)).cell? ⟨X, 5, none⟩ = some (.slice ao5 (min (act k).cn 20 - 0) cp5) := F.cell_of (g5.at' (p := (X, .cells #[.string (act k).tx, .int .i64 (act k).sz, .int .i64 (act k).af, .bool (act k).dn, .bool (act k).dd, (.slice ao5 (min (act k).cn 20 - 0) cp5)] 33)) (by simp)) 5
                  have hcr2 := g5.crash (by have := HL.out; omega) (act k).CK (act k).cO (min (act k).cn 20) (.slice ao5 (min (act k).cn 20 - 0) cp5) (act k).ch hcv (fun W hb j hj => (HTR.out W hb).ok.row j (by omega))
                  have hcn2 : (20 : Int) < ((act k).cn : Int) := by omega
                  clear g3 htr g5 hcv hc1 hc2 hc3
                  generalize (act k).ca = cak at *
                  generalize (act k).cn = cnk at *
                  generalize (act k).cc = cck at *
                  go_wp2_with fail
                  go_call hcr2 as er w9 ⟨rfl, now', hp9, hd9⟩
                  have HWS : Hid (GI T w L ol4 per (k + 1) want4 last4 w9) := HX2.out _ _ _ hp9 (hd9.more HCB.out)
                  clear hp9 hd9 hcr2 HX2
                  go_wp2
                  exact HQN.out _ _ (HEND.out hkln wv4 want4 last4 ol4 _ _ _ _ _ _ _ _ _ _ _ _ _ _ _ _ _ _ _ _ _ _ _ _ _ _ _ _ _ _ _ _ _ _ _ _ _ _ _ _ _ _ _ _ _ _ _ _ _ _ _ _ _ _ _ _ _ _ _ _ _ _ _ _ _ _ _ _ _ _ _ _ _ _ _ _ _ _ _ _ _ _ _ _ _ _ _ _ _ _ _ _ _ _ _ _ _ _ _ _ _ _ _ _ _ _ _ _ _ _ _ _ _ _ _ _ _ _ _ _ _ _ w9 G2.out HWS.out)
                · have hcr2 := g3.crash (by have := HL.out; omega) (act k).CK (act k).cO (act k).cn (.slice (act k).ca (act k).cn (act k).cc) (act k).ch ⟨(act k).ca, (act k).cc, rfl, by have := htr.le; omega, htr.mx, fun h => by have := htr.at0 (by omega); simpa using this⟩ (fun W hb j hj => (HTR.out W hb).ok.row j hj)
                  have hcn2 : ¬ (20 : Int) < ((act k).cn : Int) := by omega
                  clear g3 htr
                  generalize (act k).ca = cak at *
                  generalize (act k).cn = cnk at *
                  generalize (act k).cc = cck at *
                  go_wp2_with fail
                  go_call hcr2 as er w9 ⟨rfl, now', hp9, hd9⟩
                  have HWS : Hid (GI T w L ol4 per (k + 1) want4 last4 w9) := HX2.out _ _ _ hp9 (hd9.more HCB.out)
                  clear hp9 hd9 hcr2 HX2
                  go_wp2
                  exact HQN.out _ _ (HEND.out hkln wv4 want4 last4 ol4 _ _ _ _ _ _ _ _ _ _ _ _ _ _ _ _ _ _ _ _ _ _ _ _ _ _ _ _ _ _ _ _ _ _ _ _ _ _ _ _ _ _ _ _ _ _ _ _ _ _ _ _ _ _ _ _ _ _ _ _ _ _ _ _ _ _ _ _ _ _ _ _ _ _ _ _ _ _ _ _ _ _ _ _ _ _ _ _ _ _ _ _ _ _ _ _ _ _ _ _ _ _ _ _ _ _ _ _ _ _ _ _ _ _ _ _ _ _ _ _ _ _ w9 G2.out HWS.out)
              clear hK34
              refine wp_seq_k (fun K33 hK33 => ?_)
              have H33 : Hid (∀ (b : Bool) (x4 x16 x29 x30 x31 x32 x33 x34 x35 x36 x37 x38 x39 x40 x41 x42 x43 x44 x45 x46 x47 x48 x49 x50 x51 x52 x53 x54 x55 x56 x57 x58 x59 x60 x61 x62 x63 x64 x65 x66 x67 x68 x69 x70 x71 x72 x73 x74 x75 x76 x77 x78 x79 x80 x81 x82 x83 x84 x85 x86 x87 x88 x89 x90 x91 x92 x93 x94 x95 x96 x97 x98 x99 x100 x101 x102 x103 x104 x105 x106 x107 x108 x109 x110 x111 x112 x113 x114 x115 x116 x117 x118 x119 x120 x121 x122 x123 x124 x125 x126 x127 x128 x129 x130 x131 x132 x133 x134 x135 x136 x137 x138 x139 x140 x141 : Value) (W : World), Pst T w L q ((Pb, .cells #[.pointer (some ⟨S, 0, none⟩)] 28) :: (M, F.med L.P 1 q) :: (X, .cells #[.string (act k).tx, .int .i64 (act k).sz, .int .i64 (act k).af, .bool (act k).dn, .bool (act k).dd, .slice (act k).ca (act k).cn (act k).cc] 33) :: (Nb, .cells #[.string (payN (act k).tx n)] 9) :: olw) ((cB k : Nat) + (130 * l.length + 66) + 100) (Brk M per en n l (payN (act k).tx n) b) W → K33 ⟨#[.int .i64 (per : Nat), .slice (some ⟨LK, lO, none⟩) ln lc, undef, undef, x4, .pointer (some ⟨L.P, 0, none⟩), .pointer (some ⟨M0, 0, none⟩), wv3, .string ⟨#[]⟩, .int .i64 (k : Nat), .pointer (some ⟨Pb, 0, none⟩), v2, .bool true, .pointer (some ⟨X, 0, none⟩), .int .i64 (n : Nat), .pointer (some ⟨Nb, 0, none⟩), x16, .bool b, .bool true, .bool false, .int .i64 p0, .int .i64 (min p0 64), .int .i64 (per : Nat), .tuple #[.pointer (some ⟨L.P, 0, none⟩), .pointer (some ⟨M0, 0, none⟩)], .tuple #[.pointer (some ⟨L.P, 0, none⟩), .pointer (some ⟨M0, 0, none⟩)], .pointer (some ⟨L.P, 0, none⟩), .pointer (some ⟨M0, 0, none⟩), .pointer (some ⟨L.P, 0, none⟩), .bool false, x29, x30, x31, x32, x33, x34, x35, x36, x37, x38, x39, x40, x41, x42, x43, x44, x45, x46, x47, x48, x49, x50, x51, x52, x53, x54, x55, x56, x57, x58, x59, x60, x61, x62, x63, x64, x65, x66, x67, x68, x69, x70, x71, x72, x73, x74, x75, x76, x77, x78, x79, x80, x81, x82, x83, x84, x85, x86, x87, x88, x89, x90, x91, x92, x93, x94, x95, x96, x97, x98, x99, x100, x101, x102, x103, x104, x105, x106, x107, x108, x109, x110, x111, x112, x113, x114, x115, x116, x117, x118, x119, x120, x121, x122, x123, x124, x125, x126, x127, x128, x129, x130, x131, x132, x133, x134, x135, x136, x137, x138, x139, x140, x141], []⟩ W) := by
                intro b x4 x16 x29 x30 x31 x32 x33 x34 x35 x36 x37 x38 x39 x40 x41 x42 x43 x44 x45 x46 x47 x48 x49 x50 x51 x52 x53 x54 x55 x56 x57 x58 x59 x60 x61 x62 x63 x64 x65 x66 x67 x68 x69 x70 x71 x72 x73 x74 x75 x76 x77 x78 x79 x80 x81 x82 x83 x84 x85 x86 x87 x88 x89 x90 x91 x92 x93 x94 x95 x96 x97 x98 x99 x100 x101 x102 x103 x104 x105 x106 x107 x108 x109 x110 x111 x112 x113 x114 x115 x116 x117 x118 x119 x120 x121 x122 x123 x124 x125 x126 x127 x128 x129 x130 x131 x132 x133 x134 x135 x136 x137 x138 x139 x140 x141 W g1
                have G1 : Hid (Pst T w L q ((Pb, .cells #[.pointer (some ⟨S, 0, none⟩)] 28) :: (M, F.med L.P 1 q) :: (X, .cells #[.string (act k).tx, .int .i64 (act k).sz, .int .i64 (act k).af, .bool (act k).dn, .bool (act k).dd, .slice (act k).ca (act k).cn (act k).cc] 33) :: (Nb, .cells #[.string (payN (act k).tx n)] 9) :: olw) ((cB k : Nat) + (130 * l.length + 66) + 100) (Brk M per en n l (payN (act k).tx n) b) W) := g1
                clear g1
                refine hK33 _ _ ?_
                clear hK33 hgd HG7 cb1
                have c8 : W.cell? ⟨Nb, 0, none⟩ = some (.string (payN (act k).tx n)) := F.cell_of (G1.out.at' (p := (Nb, .cells #[.string (payN (act k).tx n)] 9)) (by simp)) 0
                have hsz : (payN (act k).tx n).size ≠ 0 := by rw [payN_size]; omega
                have HSZ : Hid _ := hsz
                clear hsz
                cases b with
                | true =>
                  have P2 : Hid (Pst T w L q ((X, .cells #[.string (act k).tx, .int .i64 (act k).sz, .int .i64 (act k).af, .bool (act k).dn, .bool (act k).dd, .slice (act k).ca (act k).cn (act k).cc] 33) :: olw) ((cB k : Nat) + (130 * l.length + 66) + 100) (fun n' => ∃ l' e', Gl n' 70 (sg0 0 per) l' e' ∧ l'.length ≤ k + 1 ∧ (l'.map Prod.snd = l.map Prod.snd ∨ ((payN (act k).tx n).size ≠ 0 ∧ l'.map Prod.snd = l.map Prod.snd ++ [payN (act k).tx n]))) W) := (G1.out.mono (fun st lv o => o.forget (oth' := (X, .cells #[.string (act k).tx, .int .i64 (act k).sz, .int .i64 (act k).af, .bool (act k).dn, .bool (act k).dd, .slice (act k).ca (act k).cn (act k).cc] 33) :: olw) (by
                    intro p hp
                    simp only [List.mem_cons] at hp ⊢
                    rcases hp with hp | hp <;> simp [hp]))).weak (by
                    rintro n' (⟨-, h⟩ | h)
                    · exact ⟨l, en, h.seg 0 1, by have := HL.out.2.2; omega, Or.inl rfl⟩
                    · exact ⟨l ++ [(en, payN (act k).tx n)], en + 1 + n, h.seg 0 1, by rw [List.length_append]; have := HL.out.2.2; show l.length + 1 ≤ _; omega, Or.inr ⟨HSZ.out, by rw [List.map_append]; rfl⟩⟩)
                  clear G1
                  go_wp2
                  exact H34.out wv3 (l.map Prod.snd) (payN (act k).tx n) olw _ _ _ _ _ _ _ _ _ _ _ _ _ _ _ _ _ _ _ _ _ _ _ _ _ _ _ _ _ _ _ _ _ _ _ _ _ _ _ _ _ _ _ _ _ _ _ _ _ _ _ _ _ _ _ _ _ _ _ _ _ _ _ _ _ _ _ _ _ _ _ _ _ _ _ _ _ _ _ _ _ _ _ _ _ _ _ _ _ _ _ _ _ _ _ _ _ _ _ _ _ _ _ _ _ _ _ _ _ _ _ _ _ _ _ _ W HTW.out (fun p hp => by have := HNX.out.2.2.2.2 p hp; omega) P2.out
                | false =>
                  have HOL8 : Hid (∀ p ∈ olw, W.heap[p.1]? = some p.2) := fun p hp => G1.out.at' (by simp [hp])
                  have HNB8 : Hid (W.heap[Nb]? = some (.cells #[.string (payN (act k).tx n)] 9)) := G1.out.at' (p := (Nb, .cells #[.string (payN (act k).tx n)] 9)) (by simp)
                  clear c8
                  go_wp2_with fail
                  refine F.wp_region_pb (fun f => ⟨#[.int .i64 (per : Nat), .slice (some ⟨LK, lO, none⟩) ln lc, undef, undef, x4, .pointer (some ⟨L.P, 0, none⟩), .pointer (some ⟨M0, 0, none⟩), f 6, .string ⟨#[]⟩, .int .i64 (k : Nat), .pointer (some ⟨Pb, 0, none⟩), v2, .bool true, .pointer (some ⟨X, 0, none⟩), .int .i64 (n : Nat), .pointer (some ⟨Nb, 0, none⟩), x16, .bool false, .bool true, .bool false, .int .i64 p0, .int .i64 (min p0 64), .int .i64 (per : Nat), .tuple #[.pointer (some ⟨L.P, 0, none⟩), .pointer (some ⟨M0, 0, none⟩)], .tuple #[.pointer (some ⟨L.P, 0, none⟩), .pointer (some ⟨M0, 0, none⟩)], .pointer (some ⟨L.P, 0, none⟩), .pointer (some ⟨M0, 0, none⟩), .pointer (some ⟨L.P, 0, none⟩), .bool false, x29, x30, x31, x32, x33, x34, x35, x36, x37, x38, x39, x40, x41, x42, x43, x44, x45, x46, x47, x48, x49, x50, x51, x52, x53, x54, x55, x56, x57, x58, x59, x60, x61, x62, x63, x64, x65, x66, x67, x68, x69, x70, x71, x72, x73, x74, x75, x76, x77, x78, x79, x80, x81, x82, x83, x84, x85, x86, x87, x88, x89, x90, x91, x92, x93, x94, x95, x96, x97, x98, x99, x100, x101, x102, x103, x104, x105, x106, x107, x108, x109, x110, x111, x112, x113, x114, x115, x116, x117, x118, x119, x120, x121, .bool false, x123, f 0, f 1, f 2, f 3, f 4, f 5, x130, x131, x132, x133, x134, x135, x136, x137, x138, x139, x140, x141], []⟩) (V36 wv3 (payN (act k).tx n)) (W36 W wv3 (l.map Prod.snd) (payN (act k).tx n)) (fun i => [x124, x125, x126, x127, x128, x129, wv3].getD i undef) (by kernel_rfl) rfl rfl ?hI36 ?hput36 ?step36 ?fin36
                  case hI36 => exact W36.start rfl
                  case fin36 =>
                    intro f W9 hP hV
                    have h6 := hP.s rfl
                    have he := hP.e rfl
                    have hb9 := hP.bel
                    have u1 : f 1 = wv3 := hV 1 (by decide)
                    have u3 : f 3 = .string (payN (act k).tx n) := hV 3 (by decide)
                    clear hV hP
                    rw [← h6] at he
                    generalize f 6 = wv4 at *
                    clear h6 u1 u3
                    rw [List.length_map] at he
                    have hel : (l.map Prod.snd ++ [payN (act k).tx n]).length = l.length + 1 := by simp
                    rw [← hel, show (l.map Prod.snd).map Value.string ++ [Value.string (payN (act k).tx n)] = (l.map Prod.snd ++ [payN (act k).tx n]).map Value.string by simp] at he
                    obtain ⟨g, cur, g1, g2, g3⟩ := own_txs (by rw [hel]; omega) he
                    have hX8 : X < W.heap.size := G1.out.lts (X, .cells #[.string (act k).tx, .int .i64 (act k).sz, .int .i64 (act k).af, .bool (act k).dn, .bool (act k).dd, .slice (act k).ca (act k).cn (act k).cc] 33) (by simp)
                    have P2 : Pst T w L q ((X, .cells #[.string (act k).tx, .int .i64 (act k).sz, .int .i64 (act k).af, .bool (act k).dn, .bool (act k).dd, .slice (act k).ca (act k).cn (act k).cc] 33) :: [(g, .cells cur 9)]) ((cB k : Nat) + (130 * l.length + 66) + 100) (fun n' => ∃ l' e', Gl n' 70 (sg0 0 per) l' e' ∧ l'.length ≤ k + 1 ∧ (l'.map Prod.snd = l.map Prod.snd ++ [payN (act k).tx n] ∨ ((⟨#[]⟩ : ByteArray).size ≠ 0 ∧ l'.map Prod.snd = l.map Prod.snd ++ [payN (act k).tx n] ++ [⟨#[]⟩]))) W9 := (G1.out.mono (fun st lv o => ((o.ofBelow hb9).addS g2 (by have h1 := o.bP; have h2 := F.getElem?_lt o.pool; omega)).forget (oth' := (X, .cells #[.string (act k).tx, .int .i64 (act k).sz, .int .i64 (act k).af, .bool (act k).dn, .bool (act k).dd, .slice (act k).ca (act k).cn (act k).cc] 33) :: [(g, .cells cur 9)]) (by
                      intro p hp
                      simp only [List.mem_cons, List.not_mem_nil, or_false] at hp ⊢
                      rcases hp with hp | hp <;> simp [hp]))).weak (by
                      rintro n' (⟨h, -⟩ | h)
                      · cases h
                      · exact ⟨l ++ [(en, payN (act k).tx n)], en + 1 + n, h.seg 0 1, by rw [List.length_append]; have := HL.out.2.2; show l.length + 1 ≤ _; omega, Or.inl (by rw [List.map_append]; rfl)⟩)
                    have P3 : Hid (Pst T w L q ((X, .cells #[.string (act k).tx, .int .i64 (act k).sz, .int .i64 (act k).af, .bool (act k).dn, .bool (act k).dd, .slice (act k).ca (act k).cn (act k).cc] 33) :: [(g, .cells cur 9)]) ((cB k : Nat) + (130 * l.length + 66) + 100) (fun n' => ∃ l' e', Gl n' 70 (sg0 0 per) l' e' ∧ l'.length ≤ k + 1 ∧ (l'.map Prod.snd = l.map Prod.snd ++ [payN (act k).tx n] ∨ ((⟨#[]⟩ : ByteArray).size ≠ 0 ∧ l'.map Prod.snd = l.map Prod.snd ++ [payN (act k).tx n] ++ [⟨#[]⟩]))) W9) := P2
                    have P4 : Hid (Txs wv4 (l.map Prod.snd ++ [payN (act k).tx n]) [(g, .cells cur 9)]) := g3
                    have P5 : Hid (∀ p ∈ [(g, Obj.cells cur 9)], p.1 ≠ X) := fun p hp => by rw [List.mem_singleton.1 hp]; show g ≠ X; omega
                    clear P2 g3 g1 g2 he hb9 hX8 hel
                    first
                      | exact H34.out wv4 (l.map Prod.snd ++ [payN (act k).tx n]) ⟨#[]⟩ [(g, .cells cur 9)] _ _ _ _ _ _ _ _ _ _ _ _ _ _ _ _ _ _ _ _ _ _ _ _ _ _ _ _ _ _ _ _ _ _ _ _ _ _ _ _ _ _ _ _ _ _ _ _ _ _ _ _ _ _ _ _ _ _ _ _ _ _ _ _ _ _ _ _ _ _ _ _ _ _ _ _ _ _ _ _ _ _ _ _ _ _ _ _ _ _ _ _ _ _ _ _ _ _ _ _ _ _ _ _ _ _ _ _ _ _ _ _ _ _ _ _ W9 P4.out P5.out P3.out
                      | (go_wp2
                         exact H34.out wv4 (l.map Prod.snd ++ [payN (act k).tx n]) ⟨#[]⟩ [(g, .cells cur 9)] _ _ _ _ _ _ _ _ _ _ _ _ _ _ _ _ _ _ _ _ _ _ _ _ _ _ _ _ _ _ _ _ _ _ _ _ _ _ _ _ _ _ _ _ _ _ _ _ _ _ _ _ _ _ _ _ _ _ _ _ _ _ _ _ _ _ _ _ _ _ _ _ _ _ _ _ _ _ _ _ _ _ _ _ _ _ _ _ _ _ _ _ _ _ _ _ _ _ _ _ _ _ _ _ _ _ _ _ _ _ _ _ _ _ _ _ W9 P4.out P5.out P3.out)
                  case hput36 =>
                    repeat (refine ⟨fun f v => rfl, ?_⟩)
                    trivial
                  case step36 =>
                    refine ⟨?_, ?_⟩
                    · intro done f W hP hdn hd K hK
                      clear hd
                      have hs := hP.s0 hdn
                      go_simp
                      exact hK _ _ trivial hs
                    refine ⟨?_, ?_⟩
                    · intro done f W hP hdn hd K hK
                      clear hd
                      go_simp
                      exact hK _ _ (hP.u (hP.not6 hdn)) (hP.pure (Or.inl rfl) _)
                    refine ⟨?_, ?_⟩
                    · intro done f W hP hdn hd K hK
                      have e0 : done 0 = true := (hd.1 rfl).1
                      have d1 := (hd.2.1 rfl).2
                      have e1 : done 1 = true := (hd.2.1 rfl).1
                      clear hd
                      replace d1 : f 1 = wv3 := d1
                      have hol : ∀ p ∈ olw, W.heap[p.1]? = some p.2 := fun p hp => (hP.bel.block p.1 (F.getElem?_lt (HOL8.out p hp))).trans (HOL8.out p hp)
                      refine go_ifp (by rfl) ?_
                      refine tapp_row _ _ rfl rfl d1 HTW.out hol (hP.a e0 hdn) hP.bel.size (by rw [List.length_map]; have := HL.out.2.2; omega) ?_
                      intro v' W' q1 q2
                      exact hK _ _ trivial (hP.s2 e0 e1 hdn q1 q2)
                    refine ⟨?_, ?_⟩
                    · intro done f W hP hdn hd K hK
                      clear hd
                      have qq : W.cell? ⟨Nb, 0, none⟩ = some (.string (payN (act k).tx n)) := F.cell_of ((hP.bel.block Nb (F.getElem?_lt HNB8.out)).trans HNB8.out) 0
                      go_simp
                      exact hK _ _ rfl (hP.pure (Or.inr rfl) _)
                    refine ⟨?_, ?_⟩
                    · intro done f W hP hdn hd K hK
                      have d3 := (hd.1 rfl).2
                      clear hd
                      replace d3 : f 3 = .string (payN (act k).tx n) := d3
                      have hs := hP.s4 hdn
                      generalize f 3 = x3 at *
                      subst d3
                      go_simp
                      exact hK _ _ trivial hs
                    refine ⟨?_, ?_⟩
                    · intro done f W hP hdn hd K hK
                      have e2 : done 2 = true := (hd.1 rfl).1
                      have e4 : done 4 = true := (hd.2.1 rfl).1
                      clear hd
                      obtain ⟨G, g8, gcc, _⟩ := hP.d e4 hdn
                      have hown := hP.c e2 hdn
                      refine go_ifp (by rfl) ?_
                      refine tapp (xs := l.map Prod.snd) _ _ rfl rfl g8 gcc hown hP.bel.size (by rw [List.length_map]; have := HL.out.2.2; omega) ?_
                      intro v' W' q1 q2
                      exact hK _ _ trivial (hP.s5 e2 e4 hdn q1 q2)
                    refine ⟨?_, ?_⟩
                    · intro done f W hP hdn hd K hK
                      have e5 : done 5 = true := (hd.1 rfl).1
                      clear hd
                      go_simp
                      exact hK _ _ trivial (hP.s6 e5)
                    trivial
              clear hK33
              go_wp2_with fail
              go_call hgd as er w8 (⟨rfl, hP⟩ | ⟨ea, eb, rfl, hP⟩)
              · have PP : Hid (Pst T w L q ((Pb, .cells #[.pointer (some ⟨S, 0, none⟩)] 28) :: (M, F.med L.P 1 q) :: (X, .cells #[.string (act k).tx, .int .i64 (act k).sz, .int .i64 (act k).af, .bool (act k).dn, .bool (act k).dd, .slice (act k).ca (act k).cn (act k).cc] 33) :: (Nb, .cells #[.string (payN (act k).tx n)] 9) :: olw) ((cB k : Nat) + (130 * l.length + 66) + 100) (Brk M per en n l (payN (act k).tx n) false) (w8.alloc (.cells #[.int .i64 0, .int .i64 0] 37))) := (hP.mono (fun st lv o => (o.alloc (.cells #[.int .i64 0, .int .i64 0] 37) (F.apart_of (by decide))).forget (fun p hp => List.mem_cons_of_mem _ hp))).weak (fun _ h => Or.inr h)
                clear hgd hP HG7 cb1
                go_wp2
                exact H33.out false _ _ _ _ _ _ _ _ _ _ _ _ _ _ _ _ _ _ _ _ _ _ _ _ _ _ _ _ _ _ _ _ _ _ _ _ _ _ _ _ _ _ _ _ _ _ _ _ _ _ _ _ _ _ _ _ _ _ _ _ _ _ _ _ _ _ _ _ _ _ _ _ _ _ _ _ _ _ _ _ _ _ _ _ _ _ _ _ _ _ _ _ _ _ _ _ _ _ _ _ _ _ _ _ _ _ _ _ _ _ _ _ _ _ _ _ PP.out
              · have PP : Hid (Pst T w L q ((Pb, .cells #[.pointer (some ⟨S, 0, none⟩)] 28) :: (M, F.med L.P 1 q) :: (X, .cells #[.string (act k).tx, .int .i64 (act k).sz, .int .i64 (act k).af, .bool (act k).dn, .bool (act k).dd, .slice (act k).ca (act k).cn (act k).cc] 33) :: (Nb, .cells #[.string (payN (act k).tx n)] 9) :: olw) ((cB k : Nat) + (130 * l.length + 66) + 100) (Brk M per en n l (payN (act k).tx n) true) (w8.alloc (.cells #[.int .i64 ea, .int .i64 eb] 37))) := (hP.mono (fun st lv o => (o.alloc (.cells #[.int .i64 ea, .int .i64 eb] 37) (F.apart_of (by decide))).forget (fun p hp => List.mem_cons_of_mem _ hp))).weak (fun _ h => by rcases h with h | h; exact Or.inl ⟨rfl, h⟩; exact Or.inr h)
                clear hgd hP HG7 cb1
                go_wp2
                exact H33.out true _ _ _ _ _ _ _ _ _ _ _ _ _ _ _ _ _ _ _ _ _ _ _ _ _ _ _ _ _ _ _ _ _ _ _ _ _ _ _ _ _ _ _ _ _ _ _ _ _ _ _ _ _ _ _ _ _ _ _ _ _ _ _ _ _ _ _ _ _ _ _ _ _ _ _ _ _ _ _ _ _ _ _ _ _ _ _ _ _ _ _ _ _ _ _ _ _ _ _ _ _ _ _ _ _ _ _ _ _ _ _ _ _ _ _ _ PP.out
            clear hK28
            have c2 : w7.cell? ⟨X, 2, none⟩ = some (.int .i64 (act k).af) := F.cell_of (HD7.out.at' (p := (X, .cells #[.string (act k).tx, .int .i64 (act k).sz, .int .i64 (act k).af, .bool (act k).dn, .bool (act k).dd, .slice (act k).ca (act k).cn (act k).cc] 33)) (by simp)) 2
            have c3 : w7.cell? ⟨X, 3, none⟩ = some (.bool (act k).dn) := F.cell_of (HD7.out.at' (p := (X, .cells #[.string (act k).tx, .int .i64 (act k).sz, .int .i64 (act k).af, .bool (act k).dn, .bool (act k).dd, .slice (act k).ca (act k).cn (act k).cc] 33)) (by simp)) 3
            have c4 : w7.cell? ⟨X, 4, none⟩ = some (.bool (act k).dd) := F.cell_of (HD7.out.at' (p := (X, .cells #[.string (act k).tx, .int .i64 (act k).sz, .int .i64 (act k).af, .bool (act k).dn, .bool (act k).dd, .slice (act k).ca (act k).cn (act k).cc] 33)) (by simp)) 4
            by_cases haf : 0 ≤ (act k).af
            · have haf2 : (act k).af ≥ 0 := haf
              cases hdn : (act k).dn with
              | true =>
                rw [hdn] at c3
                have hhl := HD7.out.halt (min (act k).af 20) (by omega) (by omega)
                clear HD7
                go_wp2_with fail
                go_call hhl as er w8 ⟨rfl, m8⟩
                have M8 : Hid (Md T w L q ((S, .cells (Sg.cs { sg0 M per with a := en }) 44) :: (Pb, .cells #[.pointer (some ⟨S, 0, none⟩)] 28) :: (M, F.med L.P 1 q) :: (X, .cells #[.string (act k).tx, .int .i64 (act k).sz, .int .i64 (act k).af, .bool (act k).dn, .bool (act k).dd, .slice (act k).ca (act k).cn (act k).cc] 33) :: olw) now ((cB k : Nat) + (130 * l.length + 66)) w8) := m8
                clear hhl m8 c2 c3 c4
                go_wp2
                exact H28.out _ _ _ _ _ _ _ _ _ _ _ _ _ _ _ _ _ _ _ _ _ _ _ _ _ _ _ _ _ _ _ _ _ _ _ _ _ _ _ _ _ _ _ _ _ _ _ _ _ _ _ _ _ _ _ _ _ _ _ _ _ _ _ _ _ _ _ _ _ _ _ _ _ _ _ _ _ _ _ _ _ _ _ _ _ _ _ _ _ _ _ _ _ _ _ _ _ _ _ _ _ _ _ _ _ _ _ _ _ _ _ _ _ _ _ _ _ _ M8.out
              | false =>
                rw [hdn] at c3
                have har := HD7.out.arm (min (act k).af 20) (by omega) (by omega) (act k).dd
                clear HD7
                go_wp2_with fail
                go_call har as er w8 ⟨rfl, m8⟩
                have M8 : Hid (Md T w L q ((S, .cells (Sg.cs { sg0 M per with a := en }) 44) :: (Pb, .cells #[.pointer (some ⟨S, 0, none⟩)] 28) :: (M, F.med L.P 1 q) :: (X, .cells #[.string (act k).tx, .int .i64 (act k).sz, .int .i64 (act k).af, .bool (act k).dn, .bool (act k).dd, .slice (act k).ca (act k).cn (act k).cc] 33) :: olw) now ((cB k : Nat) + (130 * l.length + 66)) w8) := m8
                clear har m8 c2 c3 c4
                go_wp2
                exact H28.out _ _ _ _ _ _ _ _ _ _ _ _ _ _ _ _ _ _ _ _ _ _ _ _ _ _ _ _ _ _ _ _ _ _ _ _ _ _ _ _ _ _ _ _ _ _ _ _ _ _ _ _ _ _ _ _ _ _ _ _ _ _ _ _ _ _ _ _ _ _ _ _ _ _ _ _ _ _ _ _ _ _ _ _ _ _ _ _ _ _ _ _ _ _ _ _ _ _ _ _ _ _ _ _ _ _ _ _ _ _ _ _ _ _ _ _ _ _ M8.out
            · have haf2 : ¬ (act k).af ≥ 0 := haf
              go_wp2
              exact H28.out _ _ _ _ _ _ _ _ _ _ _ _ _ _ _ _ _ _ _ _ _ _ _ _ _ _ _ _ _ _ _ _ _ _ _ _ _ _ _ _ _ _ _ _ _ _ _ _ _ _ _ _ _ _ _ _ _ _ _ _ _ _ _ _ _ _ _ _ _ _ _ _ _ _ _ _ _ _ _ _ _ _ _ _ _ _ _ _ _ _ _ _ _ _ _ _ _ _ _ _ _ _ _ _ _ _ _ _ _ _ _ _ _ _ _ _ _ _ HD7.out.md
          · have hrc := dev_room { sg0 M per with a := en } HD6.out (List.mem_cons_self ..) (n : Int) ⟨by show per ≤ 1000; omega, by show en ≤ 1000; omega⟩ false (decide_eq_false (by show ¬ ((0 : Int) < (n : Int) ∧ (n : Int) < (per : Nat) - (en : Nat)); omega))
            go_wp2_with fail
            go_call hrc as er w7 ⟨rfl, hd7⟩
            have HGI : Hid (GI T w L olw per (k + 1) (l.map Prod.snd) ⟨#[]⟩ w7) := ⟨q, now, l, en, HL.out.1, by have := HL.out.2.1; omega, (hd7.forget (oth' := olw) (fun p hp => by simp [hp])).more (by
              have e : cB (k + 1) = cB k + (130 * k + 300) := rfl
              rw [e]
              have := HL.out.2.2
              have h : (((cB k : Nat) : Int) + (130 * l.length + 66)) ≤ ((cB k + (130 * k + 300) : Nat) : Int) := by omega
              exact h), HG.out, by have := HL.out.2.2; omega, Or.inl rfl⟩
            clear hrc hd7 cPb HD6 HK27
            go_wp2
            exact HQX.out _ _ (HEND.out hkln wv3 (l.map Prod.snd) ⟨#[]⟩ olw _ _ _ _ _ _ _ _ _ _ _ _ _ _ _ _ _ _ _ _ _ _ _ _ _ _ _ _ _ _ _ _ _ _ _ _ _ _ _ _ _ _ _ _ _ _ _ _ _ _ _ _ _ _ _ _ _ _ _ _ _ _ _ _ _ _ _ _ _ _ _ _ _ _ _ _ _ _ _ _ _ _ _ _ _ _ _ _ _ _ _ _ _ _ _ _ _ _ _ _ _ _ _ _ _ _ _ _ _ _ _ _ _ _ _ _ _ _ _ _ _ _ w7 HTW.out HGI.out)
      clear hK18
      obtain ⟨ao2, cp2, g2, hv2, ha2, hc2⟩ := HT2.out.cell (W := w4) (fun p hp => HD4.out.at' (by simp [hp]))
      obtain ⟨ao1, cp1, hv1⟩ := HM.out.sl
      by_cases hlz : last = ⟨#[]⟩
      · subst hlz
        have hgw : l.map Prod.snd = want := by
          rcases HW.out with h | ⟨h, _⟩
          · exact h
          · exact absurd rfl h
        have HTM : Hid (Txs u7 (l.map Prod.snd) ol) := by have := HM.out; rw [← hgw] at this; exact this
        subst hv2
        subst hv1
        clear hgw hc2 ha2
        generalize (l.map Prod.snd).length = len2 at *
        go_wp2
        exact H18.out _ ol _ _ _ _ _ _ _ _ _ _ _ _ _ _ _ _ _ _ _ _ _ _ _ _ _ _ _ _ _ _ _ _ _ _ _ _ _ _ _ _ _ _ _ _ _ _ _ _ _ _ _ _ _ _ _ _ _ _ _ _ _ _ _ _ _ _ _ _ _ _ _ _ _ _ _ _ _ _ _ _ _ _ _ _ _ _ _ _ _ _ _ _ _ _ _ _ _ _ _ _ _ _ _ _ _ _ _ _ _ _ _ _ _ _ _ _ _ _ _ HTM.out (fun p hp => Or.inr hp)
      · have hne := hlz
        by_cases hgw : l.map Prod.snd = want
        · have HTM : Hid (Txs u7 (l.map Prod.snd) ol) := by have := HM.out; rw [← hgw] at this; exact this
          have hlen : ¬ ((l.map Prod.snd).length : Int) = (want.length : Int) + 1 := by rw [hgw]; omega
          have hwl : want.length ≤ 20 := by rw [← hgw, List.length_map]; have := HL.out.2.2; omega
          have hbq := tl_ie hne
          subst hv2
          subst hv1
          clear hgw hc2 ha2
          generalize (l.map Prod.snd).length = len2 at *
          generalize want.length = len1 at *
          go_wp2
          exact H18.out _ ol _ _ _ _ _ _ _ _ _ _ _ _ _ _ _ _ _ _ _ _ _ _ _ _ _ _ _ _ _ _ _ _ _ _ _ _ _ _ _ _ _ _ _ _ _ _ _ _ _ _ _ _ _ _ _ _ _ _ _ _ _ _ _ _ _ _ _ _ _ _ _ _ _ _ _ _ _ _ _ _ _ _ _ _ _ _ _ _ _ _ _ _ _ _ _ _ _ _ _ _ _ _ _ _ _ _ _ _ _ _ _ _ _ _ _ _ _ _ _ HTM.out (fun p hp => Or.inr hp)
        · have hgx : l.map Prod.snd = want ++ [last] := by
            rcases HW.out with h | ⟨_, h⟩
            · exact absurd h hgw
            · exact h
          have hlen : (l.map Prod.snd).length = want.length + 1 := by rw [hgx]; simp
          have hwl : want.length ≤ 20 := by have := HL.out.2.2; rw [List.length_map] at hlen; omega
          have hcl : w4.cell? ⟨g2, want.length, none⟩ = some (.string last) := by
            have := hc2 want.length (by omega)
            rw [this]
            congr 2
            have h3 : (l.map Prod.snd)[want.length]? = some last := by rw [hgx]; simp
            rw [List.getElem?_eq_getElem (by omega)] at h3
            exact Option.some.inj h3
          have hbq := tl_ie hne
          obtain rfl := ha2 (by omega)
          subst hv2
          subst hv1
          rw [hlen] at *
          clear hgw hgx hc2 hlz
          generalize want.length = len1 at *
          go_wp2
          exact H18.out _ ol2 _ _ _ _ _ _ _ _ _ _ _ _ _ _ _ _ _ _ _ _ _ _ _ _ _ _ _ _ _ _ _ _ _ _ _ _ _ _ _ _ _ _ _ _ _ _ _ _ _ _ _ _ _ _ _ _ _ _ _ _ _ _ _ _ _ _ _ _ _ _ _ _ _ _ _ _ _ _ _ _ _ _ _ _ _ _ _ _ _ _ _ _ _ _ _ _ _ _ _ _ _ _ _ _ _ _ _ _ _ _ _ _ _ _ _ _ _ _ _ (by have := HT2.out; exact this) (fun p hp => Or.inl hp)
    · have hk : k = 20 := by omega
      subst hk
      obtain ⟨q, now, l, en, q0, q1, hD, hG, hl, hw⟩ := HI.out
      have HBL : Hid (Below T w wr) := hD.bel
      clear hD hG hl hw q0 q1 HI
      by_cases hln : (20 : Nat) = ln
      · have h20 : (20 : Int) ≤ (ln : Int) := by omega
        go_wp2
        go_returns
        refine ⟨rfl, ?_⟩
        have := HBL.out
        rw [HT.out] at this
        exact this
      · have h20 : (20 : Int) ≤ (ln : Int) := by omega
        go_wp2
        go_returns
        refine ⟨rfl, ?_⟩
        have := HBL.out
        rw [HT.out] at this
        exact this
end Go.Proofs.YtncfbocbigdhiaaGreat.U
