/- FlashKeeps: the walk. -/
import Derived.Test.YtiohkdpmgkobiaaFA
import Derived.Test.YtiohkdpmgkobiaaR2
namespace Go.Proofs.Ytiohkdpmgkobiaa
open Go.RowKit
def FKV (N : Nat) : Nat → Value → Prop
  | 0, v => v = .int .i64 (N : Int)
  | 2, v => v = .int .i64 (N : Int)
  | _, _ => True
/-- Two rows of texts are made, in either order. -/
structure KPh (T0 : Nat) (w : World) (L : Loc) (N HB : Nat) (done : Nat → Bool) (f : Nat → Value) (W : World) : Prop where
  ex : ∃ l, One T0 w L (st0 5 N) (.slice none 0 0) (l ++ [(HB, .cells #[.int .i64 5, .int .i64 1] 30)]) W ∧
    (done 1 = true → ∃ A, f 1 = .slice (some ⟨A, 0, none⟩) N N ∧ (A, Obj.cells (strs (fun _ => ⟨#[]⟩) N) 9) ∈ l) ∧ (done 3 = true → ∃ A, f 3 = .slice (some ⟨A, 0, none⟩) N N ∧ (A, Obj.cells (strs (fun _ => ⟨#[]⟩) N) 9) ∈ l)
  ne : done 1 = true → done 3 = true → f 1 ≠ f 3
  e4 : done 4 = true → f 4 = f 1 ∧ done 1 = true
  e5 : done 5 = true → f 5 = f 3 ∧ done 3 = true
section
variable {T0 : Nat} {w : World} {L : Loc} {N HB : Nat} {done : Nat → Bool} {f : Nat → Value} {W : World}
theorem KPh.start {f : Nat → Value} {w4 : World} (h : One T0 w L (st0 5 N) (.slice none 0 0) [(w4.heap.size, .cells #[.int .i64 5, .int .i64 1] 30)] W) : KPh T0 w L N w4.heap.size (fun _ => false) f W.drew :=
  ⟨⟨[], h.ofBelow ⟨rfl, rfl, rfl, Nat.le_refl _, fun _ _ => rfl⟩, (fun e => by cases e), (fun e => by cases e)⟩, fun e => (by cases e), fun e => (by cases e), fun e => (by cases e)⟩
theorem KPh.pure (h : KPh T0 w L N HB done f W) (k : Nat) (hk : k ≠ 1 ∧ k ≠ 3 ∧ k ≠ 4 ∧ k ≠ 5) (v : Value) : KPh T0 w L N HB (updB done k) (upd f k v) W := by
  have a : ∀ j, j ≠ k → updB done k j = done j := fun j hj => if_neg hj
  have b : ∀ j, j ≠ k → upd f k v j = f j := fun j hj => if_neg hj
  have h1 := Ne.symm hk.1; have h3 := Ne.symm hk.2.1; have h4 := Ne.symm hk.2.2.1; have h5 := Ne.symm hk.2.2.2
  obtain ⟨l, o, p1, p3⟩ := h.ex
  exact ⟨⟨l, o, by rw [a 1 h1, b 1 h1]; exact p1, by rw [a 3 h3, b 3 h3]; exact p3⟩, by rw [a 1 h1, a 3 h3, b 1 h1, b 3 h3]; exact h.ne, by rw [a 1 h1, a 4 h4, b 1 h1, b 4 h4]; exact h.e4, by rw [a 3 h3, a 5 h5, b 3 h3, b 5 h5]; exact h.e5⟩
theorem KPh.mk1 (h : KPh T0 w L N HB done f W) (h1 : done 1 = false) : KPh T0 w L N HB (updB done 1) (upd f 1 (.slice (some ⟨W.heap.size, 0, none⟩) N N)) (W.alloc (.cells (strs (fun _ => ⟨#[]⟩) N) 9)) := by
  have a : ∀ j, j ≠ 1 → updB done 1 j = done j := fun j hj => if_neg hj
  have b : ∀ j v, j ≠ 1 → upd f 1 v j = f j := fun j v hj => if_neg hj
  obtain ⟨l, o, p1, p3⟩ := h.ex
  have o2 := o.alloc (.cells (strs (fun _ => ⟨#[]⟩) N) 9) (apart_of (by decide))
  have hl := o.lts
  refine ⟨⟨(W.heap.size, .cells (strs (fun _ => ⟨#[]⟩) N) 9) :: l, o2, fun _ => ⟨_, rfl, List.mem_cons_self ..⟩, fun e => ?_⟩, fun _ e => ?_, fun e => ?_, fun e => ?_⟩
  · rw [a 3 (by decide)] at e; rw [b 3 _ (by decide)]
    obtain ⟨A, q1, q2⟩ := p3 e
    exact ⟨A, q1, List.mem_cons_of_mem _ q2⟩
  · rw [a 3 (by decide)] at e; rw [b 3 _ (by decide)]
    obtain ⟨A, q1, q2⟩ := p3 e
    rw [q1]
    show Value.slice (some ⟨W.heap.size, 0, none⟩) N N ≠ _
    intro e2
    injection e2 with e2 _ _; injection e2 with e2; injection e2 with e2 _ _
    have := hl _ (List.mem_append_left _ q2)
    omega
  · rw [a 4 (by decide)] at e; rw [(h.e4 e).2] at h1; cases h1
  · rw [a 5 (by decide)] at e; rw [b 5 _ (by decide), b 3 _ (by decide), a 3 (by decide)]; exact h.e5 e
theorem KPh.mk3 (h : KPh T0 w L N HB done f W) (h3 : done 3 = false) : KPh T0 w L N HB (updB done 3) (upd f 3 (.slice (some ⟨W.heap.size, 0, none⟩) N N)) (W.alloc (.cells (strs (fun _ => ⟨#[]⟩) N) 9)) := by
  have a : ∀ j, j ≠ 3 → updB done 3 j = done j := fun j hj => if_neg hj
  have b : ∀ j v, j ≠ 3 → upd f 3 v j = f j := fun j v hj => if_neg hj
  obtain ⟨l, o, p1, p3⟩ := h.ex
  have o2 := o.alloc (.cells (strs (fun _ => ⟨#[]⟩) N) 9) (apart_of (by decide))
  have hl := o.lts
  refine ⟨⟨(W.heap.size, .cells (strs (fun _ => ⟨#[]⟩) N) 9) :: l, o2, fun e => ?_, fun _ => ⟨_, rfl, List.mem_cons_self ..⟩⟩, fun e _ => ?_, fun e => ?_, fun e => ?_⟩
  · rw [a 1 (by decide)] at e; rw [b 1 _ (by decide)]
    obtain ⟨A, q1, q2⟩ := p1 e
    exact ⟨A, q1, List.mem_cons_of_mem _ q2⟩
  · rw [a 1 (by decide)] at e; rw [b 1 _ (by decide)]
    obtain ⟨A, q1, q2⟩ := p1 e
    rw [q1]
    show _ ≠ Value.slice (some ⟨W.heap.size, 0, none⟩) N N
    intro e2
    injection e2 with e2 _ _; injection e2 with e2; injection e2 with e2 _ _
    have := hl _ (List.mem_append_left _ q2)
    omega
  · rw [a 4 (by decide)] at e; rw [b 4 _ (by decide), b 1 _ (by decide), a 1 (by decide)]; exact h.e4 e
  · rw [a 5 (by decide)] at e; rw [(h.e5 e).2] at h3; cases h3
theorem KPh.as4 (h : KPh T0 w L N HB done f W) (h1 : done 1 = true) : KPh T0 w L N HB (updB done 4) (upd f 4 (f 1)) W := by
  have a : ∀ j, j ≠ 4 → updB done 4 j = done j := fun j hj => if_neg hj
  have b : ∀ j v, j ≠ 4 → upd f 4 v j = f j := fun j v hj => if_neg hj
  obtain ⟨l, o, p1, p3⟩ := h.ex
  exact ⟨⟨l, o, by rw [a 1 (by decide), b 1 _ (by decide)]; exact p1, by rw [a 3 (by decide), b 3 _ (by decide)]; exact p3⟩, by rw [a 1 (by decide), a 3 (by decide), b 1 _ (by decide), b 3 _ (by decide)]; exact h.ne, fun _ => ⟨by rw [b 1 _ (by decide)]; rfl, by rw [a 1 (by decide)]; exact h1⟩, by rw [a 5 (by decide), a 3 (by decide), b 5 _ (by decide), b 3 _ (by decide)]; exact h.e5⟩
theorem One.setStr {b0 : Nat} {w0 : World} {L : Loc} {st : St} {lv : Value} {oth : List (Nat × Obj)} {w : World} {A N : Nat} {f : Nat → ByteArray} (h : One b0 w0 L st lv ((A, .cells (strs f N) 9) :: oth) w) (hne : ∀ p ∈ oth, p.1 ≠ A) (i : Nat) (hi : i < N) (s : ByteArray) :
    One b0 w0 L st lv ((A, .cells (strs (updS f i s) N) 9) :: oth) (w.setCell ⟨A, i, none⟩ (.string s)) := by
  refine h.other hne rfl rfl rfl (by simp [World.setCell]) (fun k _ hk => Below.heap_setCell _ _ _ _ (by exact hk)) ?_ (apart_of (by decide))
  rw [block_set (h.oth _ (List.mem_cons_self ..)).1, strs_set f N i s hi]
theorem One.swap {b0 : Nat} {w0 : World} {L : Loc} {st : St} {lv : Value} {oth : List (Nat × Obj)} {w : World} {p q : Nat × Obj} (h : One b0 w0 L st lv (p :: q :: oth) w) : One b0 w0 L st lv (q :: p :: oth) w := h.forget (by
  intro x hx
  simp at hx ⊢
  rcases hx with h | h | h
  · exact Or.inr (Or.inl h)
  · exact Or.inl h
  · exact Or.inr (Or.inr h))
/-- Where the writes stand: each row is what sectors are, and were. -/
def FKI (T0 : Nat) (w : World) (L : Loc) (N A B HB k : Nat) (W : World) : Prop :=
  ∃ st lv ats now sure, One T0 w L st lv [(A, .cells (strs sure N) 9), (B, .cells (strs now N) 9), (HB, .cells #[.int .i64 5, .int .i64 1] 30)] W ∧ Dv st ats now sure ∧ Kept (st0 5 N) st ∧ 0 ≤ st.count ∧ st.count ≤ (2 * k : Nat)
theorem copy_strs (w : World) (ty : TypeId) (A B N : Nat) (f g : Nat → ByteArray) (hA : w.heap[A]? = some (.cells (strs f N) 9)) (hB : w.heap[B]? = some (.cells (strs g N) 9)) :
    (Builtin.copy_ #[22, 22] ty #[.slice (some ⟨A, 0, none⟩) N N, .slice (some ⟨B, 0, none⟩) N N]).run Try.prog w = .ok (goInt N) (w.setRow A (strs g N)) := by
  have hcl : (strs g N).toList.length = N := by rw [Array.length_toList, strs_size]
  have hl := run_loadCells_list (P := Try.prog) w ⟨B, 0, none⟩ (strs g N).toList (fun j v hj => by rw [Addr.add_mid, Nat.zero_add, cell_of hB]; simpa using hj)
  have hst := run_storeCells_at Try.prog A 0 9 (strs g N).toList 0 (strs f N) w hA (by rw [hcl, strs_size]; omega) (by
    intro v hv
    unfold strs at hv
    simp at hv
    obtain ⟨i, _, rfl⟩ := hv
    rfl)
  obtain ⟨i, hi, hz, hs, hb⟩ := info_parts info9
  rw [hcl] at hl
  have e : (List.take 0 (strs f N).toList ++ (strs g N).toList ++ List.drop (0 + N) (strs f N).toList).toArray = strs g N := by
    rw [List.take_zero, List.nil_append, List.drop_eq_nil_of_le (by rw [Array.length_toList, strs_size]; omega), List.append_nil]
  rw [hcl] at hst
  simp only [Nat.add_zero] at hst
  rw [e] at hst
  simp [Builtin.copy_, run_underlying Try.underlying22, Builtin.lenOf, Builtin.firstCells, sizeOf, typeInfo, hi, hs, hl, hst]
/-- Where the reads stand. -/
def FKJ (T0 : Nat) (w : World) (L : Loc) (st2 : St) (N A B HB : Nat) (now sure : Nat → ByteArray) (m : Nat) (W : World) : Prop :=
  ∃ lv c, One T0 w L { st2 with count := c } lv [(HB, .cells #[.int .i64 5, .int .i64 2] 30), (A, .cells (strs sure N) 9), (B, .cells (strs now N) 9)] W ∧ 0 ≤ c ∧ c ≤ 1000 + (m : Nat)
theorem KPh.as5 (h : KPh T0 w L N HB done f W) (h3 : done 3 = true) : KPh T0 w L N HB (updB done 5) (upd f 5 (f 3)) W := by
  have a : ∀ j, j ≠ 5 → updB done 5 j = done j := fun j hj => if_neg hj
  have b : ∀ j v, j ≠ 5 → upd f 5 v j = f j := fun j v hj => if_neg hj
  obtain ⟨l, o, p1, p3⟩ := h.ex
  exact ⟨⟨l, o, by rw [a 1 (by decide), b 1 _ (by decide)]; exact p1, by rw [a 3 (by decide), b 3 _ (by decide)]; exact p3⟩, by rw [a 1 (by decide), a 3 (by decide), b 1 _ (by decide), b 3 _ (by decide)]; exact h.ne, by rw [a 4 (by decide), a 1 (by decide), b 4 _ (by decide), b 1 _ (by decide)]; exact h.e4, fun _ => ⟨by rw [b 3 _ (by decide)]; rfl, by rw [a 3 (by decide)]; exact h3⟩⟩
end
set_option maxHeartbeats 4000000 in
set_option maxRecDepth 100000 in
theorem fk_walk (n : Int) (ta : Option Addr) (tn tcap KT oT : Nat) (tx : Nat → ByteArray) (ca : Option Addr) (cn ccap KC oC : Nat) (ch : Nat → Int) (w : World)
    (hta : 0 < tn → ta = some ⟨KT, oT, none⟩) (htn : tn ≤ tcap) (htm : tcap ≤ 9223372036854775807) (htx : ∀ j, j < tn → w.cell? ⟨KT, oT + j, none⟩ = some (.string (tx j)))
    (hca : 0 < cn → ca = some ⟨KC, oC, none⟩) (hcn : cn ≤ ccap) (hcm : ccap ≤ 9223372036854775807) (hcx : ∀ j, j < cn → w.cell? ⟨KC, oC + j, none⟩ = some (.int .i64 (ch j))) :
    Calls Try.prog 3 #[.int .i64 n, .slice ta tn tcap, .slice ca cn ccap] w fun e w' => e = .returned (.bool true) ∧ Below w.heap.size w w' := by
  obtain ⟨N, hN, hN1, hN8⟩ : ∃ N : Nat, (n % 8 + 1 : Int) = N ∧ 1 ≤ N ∧ N ≤ 8 := ⟨(n % 8 + 1).toNat, by omega, by omega, by omega⟩
  have hand := i64_and7 n
  have hN2 : (1 : Int) + n % 8 = (N : Nat) := by omega
  have hmk := mk_strs N (by omega)
  have HTX : Hid _ := htx
  have HCX : Hid _ := hcx
  have HTA : Hid _ := hta
  have HCA : Hid _ := hca
  clear htx hcx hta hca hN
  go_enter Try.func3, Try.ntmps3
  go_wp2_with fail
  go_call (awake5 w) as e w1 ⟨rfl, hb1⟩
  go_wp2_with fail
  go_call (new_any w1) as e w2 ⟨rfl, h2⟩
  have hs1 := hb1.size
  have hA := add_one w.heap.size w1.heap.size w w2 [] (by rw [h2]; exact Below.alloc hb1 hb1.size _) hb1.size (by rw [h2]; exact heap_new _ _) (by intro p hp; cases hp) 5 (by decide) (by decide) N hN1 (by omega)
  clear h2 hb1
  generalize hT : w.heap.size = T0 at *
  have HT : Hid _ := hT
  generalize w1.heap.size = PP at *
  clear hT
  go_wp2_with fail
  go_call hA as e w3 ⟨rfl, L, hLP, o3⟩
  clear hA
  subst hLP
  go_wp2_with fail
  go_call (o3.open_ok rfl) as e w4 ⟨rfl, o4⟩
  have o5 := o4.alloc (.cells #[.int .i64 5, .int .i64 1] 30) (apart_of (by decide))
  have O5 : Hid _ := o5
  clear o3 o4 o5
  go_wp2
  refine wp_region_pb (fun f => ⟨#[.int .i64 (N : Int), .slice ta tn tcap, .slice ca cn ccap, undef, undef, undef, .bool false, .pointer (some ⟨L.P, 0, none⟩), .pointer (some ⟨w4.heap.size, 0, none⟩), .int .i64 0, f 4, f 5, undef, undef, undef, undef, undef, undef, undef, undef, undef, .bool true, .bool false, .int .i64 n, .int .i64 (n % 8), .int .i64 (N : Int), .pointer (some ⟨L.P, 0, none⟩), .pointer (some ⟨L.P, 0, none⟩), .bool false, .bool false, .pointer (some ⟨L.P, 0, none⟩), .int .i64 (N : Int), .int .i64 0, .bool false, .bool false, .tuple #[.agg #[.int .i64 (st0 5 N).serial, .int .i64 (st0 5 N).session], .int .i64 0], .pointer (some ⟨L.P, 0, none⟩), .tuple #[.agg #[.int .i64 (st0 5 N).serial, .int .i64 (st0 5 N).session], .int .i64 0], .agg #[.int .i64 (st0 5 N).serial, .int .i64 (st0 5 N).session], .int .i64 0, f 0, f 1, f 2, f 3, undef, undef, undef, undef, undef, undef, undef, undef, undef, undef, undef, undef, undef, undef, undef, undef, undef, undef, undef, undef, undef, undef, undef, undef, undef, undef, undef, undef, undef, undef, undef, undef, undef, undef, undef, undef, undef, undef, undef, undef, undef, undef, undef, undef, undef, undef, undef, undef, undef, undef, undef, undef, undef, undef, undef, undef, undef, undef, undef, undef, undef, undef, undef, undef, undef, undef, undef, undef, undef, undef, undef, undef, undef, undef, undef, undef, undef, undef, undef, undef, undef, undef, undef, undef, undef, undef, undef, undef, undef, undef, undef, undef, undef, undef, undef, undef, undef, undef, undef, undef, undef, undef, undef, undef, undef, undef, undef, undef, undef, undef], []⟩) (FKV N) (KPh T0 w L N w4.heap.size) (fun i => [undef, undef, undef, undef, undef, undef].getD i undef) (by kernel_rfl) rfl rfl ?hIk ?hputk ?stepk ?fink
  case hIk => exact KPh.start O5.out
  case fink =>
    intro f W hP hV
    have v0 : f 0 = .int .i64 (N : Int) := hV 0 (by decide)
    have v2 : f 2 = .int .i64 (N : Int) := hV 2 (by decide)
    obtain ⟨l, o, p1, p3⟩ := hP.ex
    obtain ⟨A, q1, qA⟩ := p1 rfl
    obtain ⟨B, q3, qB⟩ := p3 rfl
    have v4 : f 4 = .slice (some ⟨A, 0, none⟩) N N := (hP.e4 rfl).1.trans q1
    have v5 : f 5 = .slice (some ⟨B, 0, none⟩) N N := (hP.e5 rfl).1.trans q3
    have hAB : ¬ A = B := fun e => hP.ne rfl rfl (by rw [q1, q3, e])
    generalize f 0 = x0 at *
    subst v0
    generalize f 2 = x2 at *
    subst v2
    generalize f 1 = x1 at *
    subst q1
    generalize f 3 = x3 at *
    subst q3
    generalize f 4 = x4 at *
    subst v4
    generalize f 5 = x5 at *
    subst v5
    have O6 : Hid (One T0 w L (st0 5 N) (.slice none 0 0) [(A, .cells (strs (fun _ => ⟨#[]⟩) N) 9), (B, .cells (strs (fun _ => ⟨#[]⟩) N) 9), (w4.heap.size, .cells #[.int .i64 5, .int .i64 1] 30)] W) := o.forget (by
      intro p hp
      simp at hp
      rcases hp with rfl | rfl | rfl
      · exact List.mem_append_left _ qA
      · exact List.mem_append_left _ qB
      · exact List.mem_append_right _ (List.mem_singleton.2 rfl))
    have hHA : ¬ A = w4.heap.size ∧ ¬ B = w4.heap.size := by
      have h1 := (O6.out.oth _ (List.mem_cons_self ..)).1
      have h2 := (O6.out.oth _ (List.mem_cons_of_mem _ (List.mem_cons_self ..))).1
      have h3 := (O6.out.oth (w4.heap.size, .cells #[.int .i64 5, .int .i64 1] 30) (by simp)).1
      refine ⟨fun e => ?_, fun e => ?_⟩
      · rw [e, h3] at h1; injection h1 with h1; injection h1 with _ h1 _; exact absurd h1 (by decide)
      · rw [e, h3] at h2; injection h2 with h2; injection h2 with _ h2 _; exact absurd h2 (by decide)
    clear hP hV o p1 p3 qA qB O5
    obtain ⟨hHA1, hHA2⟩ := hHA
    generalize w4.heap.size = HB at *
    have hZ : (pad ⟨#[]⟩).size = 64 := pad_size _ (by decide)
    obtain ⟨z, hz⟩ : ∃ z, z = pad ⟨#[]⟩ := ⟨_, rfl⟩
    rw [← hz] at hZ
    have hfl : ∀ W, Calls Try.prog 16 #[.string ⟨#[]⟩] W fun e w' => e = .returned (.string z) ∧ Below W.heap.size W w' := fun W => by rw [hz]; exact fill_any ⟨#[]⟩ (by decide) W
    have HZ : Hid (z = pad ⟨#[]⟩) := hz
    clear hz
    have HF : Hid _ := hfl
    clear hfl hmk
    have H1 : Hid (∃ f g : Nat → ByteArray, One T0 w L (st0 5 N) (.slice none 0 0) [(A, .cells (strs f N) 9), (B, .cells (strs g N) 9), (HB, .cells #[.int .i64 5, .int .i64 1] 30)] W ∧ ∀ j, j < 0 → f j = z ∧ g j = z) := ⟨_, _, O6.out, fun j hj => absurd hj (Nat.not_lt_zero _)⟩
    clear O6
    go_wp2
    go_loopw [46] (fun i wr => ∃ k : Nat, k ≤ N ∧ i = .int .i64 (k : Nat) ∧ Hid (∃ f g : Nat → ByteArray, One T0 w L (st0 5 N) (.slice none 0 0) [(A, .cells (strs f N) 9), (B, .cells (strs g N) 9), (HB, .cells #[.int .i64 5, .int .i64 1] 30)] wr ∧ ∀ j, j < k → f j = z ∧ g j = z)) (fun i _ => N - (intOf i).toNat)
    case atStart => exact ⟨0, by omega, rfl, H1⟩
    case round =>
      clear H1
      obtain ⟨k, hk, rfl, HR⟩ := hrel
      rcases Nat.lt_or_ge k N with hkN | hkN
      · go_wp2_with fail
        go_call (HF.out _) as e wa ⟨rfl, ba⟩
        go_wp2_with fail
        go_call (HF.out _) as e wb ⟨rfl, bb⟩
        have HR2 : Hid _ := HR.out
        obtain ⟨f1, g1, oR, hR⟩ := HR.out
        have oS := (oR.ofBelow ba).ofBelow bb
        clear HR HR2 oR ba bb
        have kA := (oS.oth _ (List.mem_cons_self ..)).1
        have kB := (oS.oth _ (List.mem_cons_of_mem _ (List.mem_cons_self ..))).1
        have cA : wb.cell? ⟨A, k, none⟩ = some (.string (f1 k)) := by rw [cell_of kA]; exact strs_get _ _ _ hkN
        have cB : wb.cell? ⟨B, k, none⟩ = some (.string (g1 k)) := by rw [cell_of kB]; exact strs_get _ _ _ hkN
        have fA := frz_of kA k
        have fB := frz_of kB k
        have oN := ((oS.setStr (by intro p hp; simp at hp; rcases hp with rfl | rfl; exact fun e => hAB e.symm; exact fun e => hHA1 e.symm) k hkN z).swap.setStr (by intro p hp; simp at hp; rcases hp with rfl | rfl; exact hAB; exact fun e => hHA2 e.symm) k hkN z).swap
        have ON : Hid _ := oN
        have HRR : Hid _ := hR
        clear oS oN kA kB hR
        go_wp2
        go_roundw
        case rel =>
          refine ⟨k + 1, by omega, rfl, ⟨_, _, ON.out, fun j hj => ?_⟩⟩
          unfold updS
          by_cases e : j = k
          · rw [if_pos e, if_pos e]; exact ⟨rfl, rfl⟩
          · rw [if_neg e, if_neg e]; exact HRR.out j (by omega)
        case measure => simp only [intOf]; omega
      · obtain rfl : k = N := by omega
        obtain ⟨f1, g1, oR, hR⟩ := HR.out
        clear HR HF
        have e1 : strs f1 k = strs (fun _ => z) k := strs_ext _ _ _ (fun i hi => (hR i hi).1)
        have e2 : strs g1 k = strs (fun _ => z) k := strs_ext _ _ _ (fun i hi => (hR i hi).2)
        rw [e1, e2] at oR
        have H0 : Hid (FKI T0 w L k A B HB 0 wr) := by
          refine ⟨st0 5 k, .slice none 0 0, fun _ => 0, fun _ => z, fun _ => z, oR, ?_, ⟨rfl, rfl, rfl, rfl, rfl, rfl, rfl, rfl, rfl, rfl⟩, by show (0 : Int) ≤ 0; omega, by show (0 : Int) ≤ _; omega⟩
          have := dv0 5 k
          rw [← HZ.out] at this
          exact this
        clear hR e1 e2 oR
        go_wp2
        go_loopw [13] (fun i wr => ∃ j : Nat, j ≤ 30 ∧ i = .int .i64 (j : Nat) ∧ Hid (FKI T0 w L k A B HB j wr)) (fun i _ => 30 - (intOf i).toNat)
        case atStart => exact ⟨0, by omega, rfl, H0⟩
        case round =>
          clear H0
          obtain ⟨j, hj, rfl, HI⟩ := hrel
          by_cases hjt : j < tn ∧ j < 30
          · obtain ⟨hjt1, hjt2⟩ := hjt
            obtain rfl := HTA.out (by omega)
            have hKT : KT < T0 := by rw [← HT.out]; exact World.block_lt_of_cell? w _ (HTX.out j hjt1)
            obtain ⟨st, lv, ats, now, sure, oR, hD, hKp, hc0, hc1⟩ := HI.out
            have cT : wr.cell? ⟨KT, oT + j, none⟩ = some (.string (tx j)) := (oR.below.cell (by exact hKT)).trans (HTX.out j hjt1)
            go_wp2_with fail
            go_call (fill_all (tx j) _) as e wa ⟨s, rfl, hs, ba⟩
            have oS := oR.ofBelow ba
            have OS : Hid _ := oS
            have HD : Hid _ := hD
            have HK : Hid _ := hKp
            have HC : Hid _ := And.intro hc0 hc1
            have kH := (oS.oth (HB, .cells #[.int .i64 5, .int .i64 1] 30) (by simp)).1
            have cH0 : wa.cell? ⟨HB, 0, none⟩ = some (.int .i64 5) := cell_of kH 0
            have cH1 : wa.cell? ⟨HB, 1, none⟩ = some (.int .i64 1) := cell_of kH 1
            obtain ⟨q, hqE, hqk⟩ : ∃ q : Nat, (wrap64 (((s[0]'(by omega)).toNat : Nat) : Int)).tmod (k : Int) = (q : Nat) ∧ q < k := by
              have h256 := (s[0]'(by omega)).toNat_lt
              refine ⟨(s[0]'(by omega)).toNat % k, ?_, Nat.mod_lt _ (by omega)⟩
              have : wrap64 (((s[0]'(by omega)).toNat : Nat) : Int) = ((s[0]'(by omega)).toNat : Nat) := by
                unfold wrap64; omega
              rw [this]
              exact Int.ofNat_tmod _ _
            have hpw := oS.pwrite_dv hD q s hs (by rw [hKp.down]; rfl) (by rw [hKp.there]; rfl) (by rw [hKp.aw]; rfl) (by rw [hKp.hw]; rfl) (by rw [hKp.n]; exact hqk) (by rw [hKp.n]; show k ≤ 4096; omega) ⟨hc0, by omega⟩
            rw [hKp.serial, hKp.session] at hpw
            replace hpw : Calls Try.prog 17 #[.pointer (some ⟨L.P, 0, none⟩), .agg #[.int .i64 5, .int .i64 1], .int .i64 (q : Nat), .string s] wa _ := hpw
            clear oR oS ba hD hKp hc0 hc1 HI cT kH OS HD
            go_wp2_with fail
            go_call hpw as e wb ⟨rfl, st2, lv2, ats2, o2, hD2, hK2, hc2⟩
            have kB := (o2.oth _ (List.mem_cons_of_mem _ (List.mem_cons_self ..))).1
            have cB : wb.cell? ⟨B, q, none⟩ = some (.string (now q)) := by rw [cell_of kB]; exact strs_get _ _ _ hqk
            have fB := frz_of kB q
            have o3 := (o2.swap.setStr (by intro p hp; simp at hp; rcases hp with rfl | rfl; exact hAB; exact fun e => hHA2 e.symm) q hqk s).swap
            have O3 : Hid _ := o3
            have HD2 : Hid _ := hD2
            have HK2 : Hid _ := hK2
            have HC2 : Hid _ := hc2
            have kH2 := (o2.oth (HB, .cells #[.int .i64 5, .int .i64 1] 30) (by simp)).1
            have cW0 : wb.cell? ⟨HB, 0, none⟩ = some (.int .i64 5) := cell_of kH2 0
            have cW1 : wb.cell? ⟨HB, 1, none⟩ = some (.int .i64 1) := cell_of kH2 1
            have hk3 : Kept (st0 5 k) st2 := ⟨hK2.serial.trans HK.out.serial, hK2.session.trans HK.out.session, hK2.there.trans HK.out.there, hK2.n.trans HK.out.n, hK2.aw.trans HK.out.aw, hK2.al.trans HK.out.al, hK2.ad.trans HK.out.ad, hK2.hw.trans HK.out.hw, hK2.hl.trans HK.out.hl, hK2.down.trans HK.out.down⟩
            have hc3 : 0 ≤ st2.count ∧ st2.count ≤ (2 * j + 1 : Nat) := by have := HC.out; omega
            have HK3 : Hid _ := hk3
            have HC3 : Hid _ := hc3
            by_cases hbit : (bits .and .u8 (((s[1]'(by omega)).toNat : Nat) : Int) 3 == 0) = true
            · have hpf := o3.pflush_dv hD2 (by rw [hk3.down]; rfl) (by rw [hk3.there]; rfl) (by rw [hk3.aw]; rfl) (by rw [hk3.hw]; rfl) ⟨hc3.1, by omega⟩
              rw [hk3.serial, hk3.session] at hpf
              replace hpf : Calls Try.prog 18 #[.pointer (some ⟨L.P, 0, none⟩), .agg #[.int .i64 5, .int .i64 1]] _ _ := hpf
              clear hpw o2 o3 hD2 hK2 hc2 kB cH0 cH1 kH2 hk3 hc3
              go_wp2_with fail
              go_call hpf as e wc ⟨rfl, st4, lv4, o4, hD4, hK4, hc4⟩
              have kA4 := (o4.oth _ (List.mem_cons_self ..)).1
              have kB4 := (o4.oth _ (List.mem_cons_of_mem _ (List.mem_cons_self ..))).1
              have hcp := copy_strs wc 3 A B k _ _ kA4 kB4
              have o5 : One T0 w L st4 lv4 [(A, .cells (strs (updS now q s) k) 9), (B, .cells (strs (updS now q s) k) 9), (HB, .cells #[.int .i64 5, .int .i64 1] 30)] (wc.setRow A (strs (updS now q s) k)) :=
                o4.other (by intro p hp; simp at hp; rcases hp with rfl | rfl; exact fun e => hAB e.symm; exact fun e => hHA1 e.symm) rfl rfl rfl (by simp [World.setRow]) (fun i _ hi => setRow_other wc A i _ (by omega)) (setRow_heap wc A _ _ 9 _ kA4) (apart_of (by decide))
              have H5 : Hid (FKI T0 w L k A B HB (j + 1) (wc.setRow A (strs (updS now q s) k))) := by
                refine ⟨st4, lv4, _, _, _, o5, hD4, ⟨hK4.serial.trans HK3.out.serial, hK4.session.trans HK3.out.session, hK4.there.trans HK3.out.there, hK4.n.trans HK3.out.n, hK4.aw.trans HK3.out.aw, hK4.al.trans HK3.out.al, hK4.ad.trans HK3.out.ad, hK4.hw.trans HK3.out.hw, hK4.hl.trans HK3.out.hl, hK4.down.trans HK3.out.down⟩, ?_, ?_⟩
                · have := HC3.out; omega
                · have := HC3.out; omega
              clear hpf o4 o5 hD4 hK4 hc4 kA4 kB4 hbit cW0 cW1 cB fB O3 HD2 HK2 HC2 HK3 HC3 HK HC
              go_wp2
              go_roundw
              case rel => exact ⟨j + 1, by omega, rfl, H5⟩
              case measure => simp only [intOf]; omega
            · have H5 : Hid (FKI T0 w L k A B HB (j + 1) (wb.setCell ⟨B, q, none⟩ (.string s))) := ⟨st2, lv2, _, _, _, o3, hD2, hk3, hc3.1, by omega⟩
              clear hpw o2 o3 hD2 hK2 hc2 kB cH0 cH1 kH2 hk3 hc3
              go_wp2
              go_roundw
              case rel => exact ⟨j + 1, by omega, rfl, H5⟩
              case measure => simp only [intOf]; omega
          · have hjx : ¬ (j < tn ∧ j < 30) := hjt
            clear hjt
            obtain ⟨st, lv, ats, now, sure, oR, hD, hKp, hc0, hc1⟩ := HI.out
            rcases Nat.lt_or_ge j tn with hj1 | hj1
            · have hj2 : ¬ j < 30 := fun h => hjx ⟨hj1, h⟩
              clear hjx
              rcases Nat.lt_or_ge 12 cn with hcc | hcc
              · obtain rfl := HCA.out (by omega)
                have hch : ∀ W, Below T0 w W → ∀ j, j < 12 → W.cell? ⟨KC, oC + j, none⟩ = some (.int .i64 (ch j)) := fun W hW j hj => by
                  have h1 := HCX.out j (by omega)
                  have h2 : KC < T0 := by rw [← HT.out]; exact World.block_lt_of_cell? w _ h1
                  exact (hW.cell (by exact h2)).trans h1
                have hC : ChL KC oC 12 0 (.slice (some ⟨KC, oC, none⟩) 12 ccap) := ⟨_, _, rfl, by omega, hcm, fun h0 => by rfl⟩
                have hcr := oR.crash_dv hD (by rw [hKp.there]; rfl) (by rw [hKp.n]; show k ≤ 4096; omega) (by rw [hKp.session]; show (0 : Int) ≤ 1 ∧ (1 : Int) ≤ 1000000; omega) KC oC 12 (.slice (some ⟨KC, oC, none⟩) 12 ccap) ch hC hch
                have HKp : Hid _ := hKp
                have HCc : Hid _ := And.intro hc0 hc1
                clear HI oR hD hKp hc0 hc1 hch hC
                go_wp2_with fail
                go_call hcr as e wc ⟨rfl, st2, now2, o2, hD2, hnow, e1, e2, e3, e4, e5, e6, e7, e8, e9⟩
                clear hcr
                rw [HKp.out.serial] at e1
                rw [HKp.out.session] at e2
                rw [HKp.out.n] at e4 hnow
                replace e1 : st2.serial = 5 := e1
                replace e2 : st2.session = 2 := e2
                replace e4 : st2.n = k := e4
                replace hnow : ∀ i, i < k → now2 i = now i ∨ now2 i = sure i := hnow
                have hc2 : 0 ≤ st2.count ∧ st2.count ≤ 1000 := by have := HCc.out; omega
                have hgo := o2.pread_gone 1 0 e7 (by rw [e2, e3]; rfl)
                rw [e1] at hgo
                replace hgo : Calls Try.prog 20 #[.pointer (some ⟨L.P, 0, none⟩), .agg #[.int .i64 5, .int .i64 1], .int .i64 0] wc _ := hgo
                have kH := (o2.oth (HB, .cells #[.int .i64 5, .int .i64 1] 30) (by simp)).1
                have cH0 : wc.cell? ⟨HB, 0, none⟩ = some (.int .i64 5) := cell_of kH 0
                have cH1 : wc.cell? ⟨HB, 1, none⟩ = some (.int .i64 1) := cell_of kH 1
                have HD2 : Hid _ := hD2
                have HNW : Hid _ := hnow
                have HE : Hid (st2.serial = 5 ∧ st2.session = 2 ∧ st2.there = true ∧ st2.n = k ∧ st2.aw = false ∧ st2.hw = false ∧ st2.down = false ∧ st2.ln = 0) := ⟨e1, e2, e3, e4, e5, e6, e7, e9⟩
                have HC2 : Hid _ := hc2
                clear o2 kH hD2 hnow e1 e2 e3 e4 e5 e6 e7 e8 e9 hc2 HKp HCc
                go_wp2_with fail
                go_call hgo as e wd ⟨rfl, o3⟩
                clear hgo cH0 cH1
                have hop := o3.open_ok HE.out.2.2.1
                rw [HE.out.1, HE.out.2.1] at hop
                clear o3
                go_wp2_with fail
                go_call hop as e we ⟨rfl, o4⟩
                clear hop
                have kH := (o4.oth (HB, .cells #[.int .i64 5, .int .i64 1] 30) (by simp)).1
                have cH0 : we.cell? ⟨HB, 0, none⟩ = some (.int .i64 5) := cell_of kH 0
                have cH1 : we.cell? ⟨HB, 1, none⟩ = some (.int .i64 1) := cell_of kH 1
                have fH0 := frz_of kH 0
                have fH1 := frz_of kH 1
                have o5 : One T0 w L st2 (.slice none 0 0) [(HB, .cells #[.int .i64 5, .int .i64 2] 30), (A, .cells (strs sure k) 9), (B, .cells (strs now k) 9)] ((we.setCell ⟨HB, 0, none⟩ (.int .i64 5)).setCell ⟨HB, 1, none⟩ (.int .i64 2)) := by
                  have o4' : One T0 w L st2 (.slice none 0 0) [(HB, .cells #[.int .i64 5, .int .i64 1] 30), (A, .cells (strs sure k) 9), (B, .cells (strs now k) 9)] we := o4.forget (by intro p hp; simp at hp ⊢; rcases hp with h | h | h <;> simp [h])
                  refine o4'.other (by intro p hp; simp at hp; rcases hp with rfl | rfl; exact hHA1; exact hHA2) rfl rfl rfl (by simp [World.setCell]) (fun k _ hk => ?_) ?_ (apart_of (by decide))
                  · rw [Below.heap_setCell _ _ _ _ (by exact hk), Below.heap_setCell _ _ _ _ (by exact hk)]
                  · rw [block_set (block_set kH _) _]; rfl
                have H6 : Hid (FKJ T0 w L st2 k A B HB now sure 0 ((we.setCell ⟨HB, 0, none⟩ (.int .i64 5)).setCell ⟨HB, 1, none⟩ (.int .i64 2))) := ⟨_, st2.count, o5, HC2.out.1, by have := HC2.out; omega⟩
                clear o4 o5 kH
                go_wp2
                clear cH0 cH1 fH0 fH1
                generalize (we.setCell ⟨HB, 0, none⟩ (.int .i64 5)).setCell ⟨HB, 1, none⟩ (.int .i64 2) = wf at *
                go_loopw [122] (fun i wr => ∃ m : Nat, m ≤ k ∧ i = .int .i64 (m : Nat) ∧ Hid (FKJ T0 w L st2 k A B HB now sure m wr)) (fun i _ => k - (intOf i).toNat)
                case atStart => exact ⟨0, by omega, rfl, H6⟩
                case round =>
                  clear H6
                  obtain ⟨m, hm, rfl, HJ⟩ := hrel
                  obtain ⟨lv6, c6, o6, hc6, hc7⟩ := HJ.out
                  rcases Nat.lt_or_ge m k with hmk | hmk
                  · have hdv : Dv { st2 with count := c6 } ats now2 now2 := HD2.out.same rfl rfl rfl rfl
                    have hrd := o6.pread_ok m HE.out.2.2.2.2.2.2.1 HE.out.2.2.1 HE.out.2.2.2.2.1 HE.out.2.2.2.2.2.1 (by show m < st2.n; rw [HE.out.2.2.2.1]; exact hmk) hdv.ok (by show st2.n ≤ _; rw [HE.out.2.2.2.1]; omega) ⟨hc6, by show c6 ≤ 1000000; omega⟩
                    rw [hdv.nw m (by show m < st2.n; rw [HE.out.2.2.2.1]; exact hmk)] at hrd
                    replace hrd : Calls Try.prog 20 #[.pointer (some ⟨L.P, 0, none⟩), .agg #[.int .i64 st2.serial, .int .i64 st2.session], .int .i64 (m : Nat)] _ _ := hrd
                    rw [show (#[.pointer (some ⟨L.P, 0, none⟩), .agg #[.int .i64 st2.serial, .int .i64 st2.session], .int .i64 (m : Nat)] : Array Value) = #[.pointer (some ⟨L.P, 0, none⟩), .agg #[.int .i64 5, .int .i64 2], .int .i64 (m : Nat)] by rw [HE.out.1, HE.out.2.1]] at hrd
                    have kH := (o6.oth (HB, .cells #[.int .i64 5, .int .i64 2] 30) (by simp)).1
                    have cH0 : wr.cell? ⟨HB, 0, none⟩ = some (.int .i64 5) := cell_of kH 0
                    have cH1 : wr.cell? ⟨HB, 1, none⟩ = some (.int .i64 2) := cell_of kH 1
                    clear o6 HJ kH hdv
                    go_wp2_with fail
                    go_call hrd as e wg ⟨rfl, lv8, o8⟩
                    have kA := (o8.oth (A, .cells (strs sure k) 9) (by simp)).1
                    have kB := (o8.oth (B, .cells (strs now k) 9) (by simp)).1
                    have cA : wg.cell? ⟨A, m, none⟩ = some (.string (sure m)) := by rw [cell_of kA]; exact strs_get _ _ _ hmk
                    have cB : wg.cell? ⟨B, m, none⟩ = some (.string (now m)) := by rw [cell_of kB]; exact strs_get _ _ _ hmk
                    have H8 : Hid (FKJ T0 w L st2 k A B HB now sure (m + 1) wg) := ⟨lv8, c6 + 1, o8, by omega, by omega⟩
                    have hor := HNW.out m hmk
                    clear hrd o8 kA kB cH0 cH1
                    by_cases hse : now2 m = sure m
                    · rw [hse]
                      clear hor hse
                      go_wp2
                      go_roundw
                      case rel => exact ⟨m + 1, by omega, rfl, H8⟩
                      case measure => simp only [intOf]; omega
                    · have hno : now2 m = now m := hor.resolve_right hse
                      rw [hno]
                      rw [hno] at hse
                      clear hor hno
                      go_wp2
                      all_goals (
                        go_roundw
                        case rel => exact ⟨m + 1, by omega, rfl, H8⟩
                        case measure => simp only [intOf]; omega)
                  · have hlo := o6.loose_any
                    have e1 : ({ st2 with count := c6 } : St).serial = 5 := HE.out.1
                    have e2 : ({ st2 with count := c6 } : St).ln = 0 := HE.out.2.2.2.2.2.2.2
                    rw [e1, e2] at hlo
                    have HB6 : Hid (Below T0 w wr) := o6.below
                    obtain rfl : m = k := by omega
                    clear o6 HJ e1 e2
                    go_wp2_with fail
                    go_call hlo as e wg ⟨rfl, rfl⟩
                    clear hlo
                    go_wp2
                    go_returns
                    exact ⟨rfl, by rw [HT.out]; exact HB6.out⟩
              · have hc12 : ¬ 12 < cn := by omega
                have hch : ∀ W, Below T0 w W → ∀ j, j < cn → W.cell? ⟨KC, oC + j, none⟩ = some (.int .i64 (ch j)) := fun W hW j hj => by
                  have h1 := HCX.out j (by omega)
                  have h2 : KC < T0 := by rw [← HT.out]; exact World.block_lt_of_cell? w _ h1
                  exact (hW.cell (by exact h2)).trans h1
                have hC : ChL KC oC cn 0 (.slice ca cn ccap) := ⟨_, _, rfl, by omega, hcm, fun h0 => by rw [HCA.out (by omega)]; rfl⟩
                have hcr := oR.crash_dv hD (by rw [hKp.there]; rfl) (by rw [hKp.n]; show k ≤ 4096; omega) (by rw [hKp.session]; show (0 : Int) ≤ 1 ∧ (1 : Int) ≤ 1000000; omega) KC oC cn (.slice ca cn ccap) ch hC hch
                have HKp : Hid _ := hKp
                have HCc : Hid _ := And.intro hc0 hc1
                clear HI oR hD hKp hc0 hc1 hch hC
                go_wp2_with fail
                go_call hcr as e wc ⟨rfl, st2, now2, o2, hD2, hnow, e1, e2, e3, e4, e5, e6, e7, e8, e9⟩
                clear hcr
                rw [HKp.out.serial] at e1
                rw [HKp.out.session] at e2
                rw [HKp.out.n] at e4 hnow
                replace e1 : st2.serial = 5 := e1
                replace e2 : st2.session = 2 := e2
                replace e4 : st2.n = k := e4
                replace hnow : ∀ i, i < k → now2 i = now i ∨ now2 i = sure i := hnow
                have hc2 : 0 ≤ st2.count ∧ st2.count ≤ 1000 := by have := HCc.out; omega
                have hgo := o2.pread_gone 1 0 e7 (by rw [e2, e3]; rfl)
                rw [e1] at hgo
                replace hgo : Calls Try.prog 20 #[.pointer (some ⟨L.P, 0, none⟩), .agg #[.int .i64 5, .int .i64 1], .int .i64 0] wc _ := hgo
                have kH := (o2.oth (HB, .cells #[.int .i64 5, .int .i64 1] 30) (by simp)).1
                have cH0 : wc.cell? ⟨HB, 0, none⟩ = some (.int .i64 5) := cell_of kH 0
                have cH1 : wc.cell? ⟨HB, 1, none⟩ = some (.int .i64 1) := cell_of kH 1
                have HD2 : Hid _ := hD2
                have HNW : Hid _ := hnow
                have HE : Hid (st2.serial = 5 ∧ st2.session = 2 ∧ st2.there = true ∧ st2.n = k ∧ st2.aw = false ∧ st2.hw = false ∧ st2.down = false ∧ st2.ln = 0) := ⟨e1, e2, e3, e4, e5, e6, e7, e9⟩
                have HC2 : Hid _ := hc2
                clear o2 kH hD2 hnow e1 e2 e3 e4 e5 e6 e7 e8 e9 hc2 HKp HCc
                go_wp2_with fail
                go_call hgo as e wd ⟨rfl, o3⟩
                clear hgo cH0 cH1
                have hop := o3.open_ok HE.out.2.2.1
                rw [HE.out.1, HE.out.2.1] at hop
                clear o3
                go_wp2_with fail
                go_call hop as e we ⟨rfl, o4⟩
                clear hop
                have kH := (o4.oth (HB, .cells #[.int .i64 5, .int .i64 1] 30) (by simp)).1
                have cH0 : we.cell? ⟨HB, 0, none⟩ = some (.int .i64 5) := cell_of kH 0
                have cH1 : we.cell? ⟨HB, 1, none⟩ = some (.int .i64 1) := cell_of kH 1
                have fH0 := frz_of kH 0
                have fH1 := frz_of kH 1
                have o5 : One T0 w L st2 (.slice none 0 0) [(HB, .cells #[.int .i64 5, .int .i64 2] 30), (A, .cells (strs sure k) 9), (B, .cells (strs now k) 9)] ((we.setCell ⟨HB, 0, none⟩ (.int .i64 5)).setCell ⟨HB, 1, none⟩ (.int .i64 2)) := by
                  have o4' : One T0 w L st2 (.slice none 0 0) [(HB, .cells #[.int .i64 5, .int .i64 1] 30), (A, .cells (strs sure k) 9), (B, .cells (strs now k) 9)] we := o4.forget (by intro p hp; simp at hp ⊢; rcases hp with h | h | h <;> simp [h])
                  refine o4'.other (by intro p hp; simp at hp; rcases hp with rfl | rfl; exact hHA1; exact hHA2) rfl rfl rfl (by simp [World.setCell]) (fun k _ hk => ?_) ?_ (apart_of (by decide))
                  · rw [Below.heap_setCell _ _ _ _ (by exact hk), Below.heap_setCell _ _ _ _ (by exact hk)]
                  · rw [block_set (block_set kH _) _]; rfl
                have H6 : Hid (FKJ T0 w L st2 k A B HB now sure 0 ((we.setCell ⟨HB, 0, none⟩ (.int .i64 5)).setCell ⟨HB, 1, none⟩ (.int .i64 2))) := ⟨_, st2.count, o5, HC2.out.1, by have := HC2.out; omega⟩
                clear o4 o5 kH
                go_wp2
                clear cH0 cH1 fH0 fH1
                generalize (we.setCell ⟨HB, 0, none⟩ (.int .i64 5)).setCell ⟨HB, 1, none⟩ (.int .i64 2) = wf at *
                go_loopw [122] (fun i wr => ∃ m : Nat, m ≤ k ∧ i = .int .i64 (m : Nat) ∧ Hid (FKJ T0 w L st2 k A B HB now sure m wr)) (fun i _ => k - (intOf i).toNat)
                case atStart => exact ⟨0, by omega, rfl, H6⟩
                case round =>
                  clear H6
                  obtain ⟨m, hm, rfl, HJ⟩ := hrel
                  obtain ⟨lv6, c6, o6, hc6, hc7⟩ := HJ.out
                  rcases Nat.lt_or_ge m k with hmk | hmk
                  · have hdv : Dv { st2 with count := c6 } ats now2 now2 := HD2.out.same rfl rfl rfl rfl
                    have hrd := o6.pread_ok m HE.out.2.2.2.2.2.2.1 HE.out.2.2.1 HE.out.2.2.2.2.1 HE.out.2.2.2.2.2.1 (by show m < st2.n; rw [HE.out.2.2.2.1]; exact hmk) hdv.ok (by show st2.n ≤ _; rw [HE.out.2.2.2.1]; omega) ⟨hc6, by show c6 ≤ 1000000; omega⟩
                    rw [hdv.nw m (by show m < st2.n; rw [HE.out.2.2.2.1]; exact hmk)] at hrd
                    replace hrd : Calls Try.prog 20 #[.pointer (some ⟨L.P, 0, none⟩), .agg #[.int .i64 st2.serial, .int .i64 st2.session], .int .i64 (m : Nat)] _ _ := hrd
                    rw [show (#[.pointer (some ⟨L.P, 0, none⟩), .agg #[.int .i64 st2.serial, .int .i64 st2.session], .int .i64 (m : Nat)] : Array Value) = #[.pointer (some ⟨L.P, 0, none⟩), .agg #[.int .i64 5, .int .i64 2], .int .i64 (m : Nat)] by rw [HE.out.1, HE.out.2.1]] at hrd
                    have kH := (o6.oth (HB, .cells #[.int .i64 5, .int .i64 2] 30) (by simp)).1
                    have cH0 : wr.cell? ⟨HB, 0, none⟩ = some (.int .i64 5) := cell_of kH 0
                    have cH1 : wr.cell? ⟨HB, 1, none⟩ = some (.int .i64 2) := cell_of kH 1
                    clear o6 HJ kH hdv
                    go_wp2_with fail
                    go_call hrd as e wg ⟨rfl, lv8, o8⟩
                    have kA := (o8.oth (A, .cells (strs sure k) 9) (by simp)).1
                    have kB := (o8.oth (B, .cells (strs now k) 9) (by simp)).1
                    have cA : wg.cell? ⟨A, m, none⟩ = some (.string (sure m)) := by rw [cell_of kA]; exact strs_get _ _ _ hmk
                    have cB : wg.cell? ⟨B, m, none⟩ = some (.string (now m)) := by rw [cell_of kB]; exact strs_get _ _ _ hmk
                    have H8 : Hid (FKJ T0 w L st2 k A B HB now sure (m + 1) wg) := ⟨lv8, c6 + 1, o8, by omega, by omega⟩
                    have hor := HNW.out m hmk
                    clear hrd o8 kA kB cH0 cH1
                    by_cases hse : now2 m = sure m
                    · rw [hse]
                      clear hor hse
                      go_wp2
                      go_roundw
                      case rel => exact ⟨m + 1, by omega, rfl, H8⟩
                      case measure => simp only [intOf]; omega
                    · have hno : now2 m = now m := hor.resolve_right hse
                      rw [hno]
                      rw [hno] at hse
                      clear hor hno
                      go_wp2
                      all_goals (
                        go_roundw
                        case rel => exact ⟨m + 1, by omega, rfl, H8⟩
                        case measure => simp only [intOf]; omega)
                  · have hlo := o6.loose_any
                    have e1 : ({ st2 with count := c6 } : St).serial = 5 := HE.out.1
                    have e2 : ({ st2 with count := c6 } : St).ln = 0 := HE.out.2.2.2.2.2.2.2
                    rw [e1, e2] at hlo
                    have HB6 : Hid (Below T0 w wr) := o6.below
                    obtain rfl : m = k := by omega
                    clear o6 HJ e1 e2
                    go_wp2_with fail
                    go_call hlo as e wg ⟨rfl, rfl⟩
                    clear hlo
                    go_wp2
                    go_returns
                    exact ⟨rfl, by rw [HT.out]; exact HB6.out⟩
            · have hj2 : ¬ j < tn := by omega
              clear hjx
              rcases Nat.lt_or_ge 12 cn with hcc | hcc
              · obtain rfl := HCA.out (by omega)
                have hch : ∀ W, Below T0 w W → ∀ j, j < 12 → W.cell? ⟨KC, oC + j, none⟩ = some (.int .i64 (ch j)) := fun W hW j hj => by
                  have h1 := HCX.out j (by omega)
                  have h2 : KC < T0 := by rw [← HT.out]; exact World.block_lt_of_cell? w _ h1
                  exact (hW.cell (by exact h2)).trans h1
                have hC : ChL KC oC 12 0 (.slice (some ⟨KC, oC, none⟩) 12 ccap) := ⟨_, _, rfl, by omega, hcm, fun h0 => by rfl⟩
                have hcr := oR.crash_dv hD (by rw [hKp.there]; rfl) (by rw [hKp.n]; show k ≤ 4096; omega) (by rw [hKp.session]; show (0 : Int) ≤ 1 ∧ (1 : Int) ≤ 1000000; omega) KC oC 12 (.slice (some ⟨KC, oC, none⟩) 12 ccap) ch hC hch
                have HKp : Hid _ := hKp
                have HCc : Hid _ := And.intro hc0 hc1
                clear HI oR hD hKp hc0 hc1 hch hC
                go_wp2_with fail
                go_call hcr as e wc ⟨rfl, st2, now2, o2, hD2, hnow, e1, e2, e3, e4, e5, e6, e7, e8, e9⟩
                clear hcr
                rw [HKp.out.serial] at e1
                rw [HKp.out.session] at e2
                rw [HKp.out.n] at e4 hnow
                replace e1 : st2.serial = 5 := e1
                replace e2 : st2.session = 2 := e2
                replace e4 : st2.n = k := e4
                replace hnow : ∀ i, i < k → now2 i = now i ∨ now2 i = sure i := hnow
                have hc2 : 0 ≤ st2.count ∧ st2.count ≤ 1000 := by have := HCc.out; omega
                have hgo := o2.pread_gone 1 0 e7 (by rw [e2, e3]; rfl)
                rw [e1] at hgo
                replace hgo : Calls Try.prog 20 #[.pointer (some ⟨L.P, 0, none⟩), .agg #[.int .i64 5, .int .i64 1], .int .i64 0] wc _ := hgo
                have kH := (o2.oth (HB, .cells #[.int .i64 5, .int .i64 1] 30) (by simp)).1
                have cH0 : wc.cell? ⟨HB, 0, none⟩ = some (.int .i64 5) := cell_of kH 0
                have cH1 : wc.cell? ⟨HB, 1, none⟩ = some (.int .i64 1) := cell_of kH 1
                have HD2 : Hid _ := hD2
                have HNW : Hid _ := hnow
                have HE : Hid (st2.serial = 5 ∧ st2.session = 2 ∧ st2.there = true ∧ st2.n = k ∧ st2.aw = false ∧ st2.hw = false ∧ st2.down = false ∧ st2.ln = 0) := ⟨e1, e2, e3, e4, e5, e6, e7, e9⟩
                have HC2 : Hid _ := hc2
                clear o2 kH hD2 hnow e1 e2 e3 e4 e5 e6 e7 e8 e9 hc2 HKp HCc
                go_wp2_with fail
                go_call hgo as e wd ⟨rfl, o3⟩
                clear hgo cH0 cH1
                have hop := o3.open_ok HE.out.2.2.1
                rw [HE.out.1, HE.out.2.1] at hop
                clear o3
                go_wp2_with fail
                go_call hop as e we ⟨rfl, o4⟩
                clear hop
                have kH := (o4.oth (HB, .cells #[.int .i64 5, .int .i64 1] 30) (by simp)).1
                have cH0 : we.cell? ⟨HB, 0, none⟩ = some (.int .i64 5) := cell_of kH 0
                have cH1 : we.cell? ⟨HB, 1, none⟩ = some (.int .i64 1) := cell_of kH 1
                have fH0 := frz_of kH 0
                have fH1 := frz_of kH 1
                have o5 : One T0 w L st2 (.slice none 0 0) [(HB, .cells #[.int .i64 5, .int .i64 2] 30), (A, .cells (strs sure k) 9), (B, .cells (strs now k) 9)] ((we.setCell ⟨HB, 0, none⟩ (.int .i64 5)).setCell ⟨HB, 1, none⟩ (.int .i64 2)) := by
                  have o4' : One T0 w L st2 (.slice none 0 0) [(HB, .cells #[.int .i64 5, .int .i64 1] 30), (A, .cells (strs sure k) 9), (B, .cells (strs now k) 9)] we := o4.forget (by intro p hp; simp at hp ⊢; rcases hp with h | h | h <;> simp [h])
                  refine o4'.other (by intro p hp; simp at hp; rcases hp with rfl | rfl; exact hHA1; exact hHA2) rfl rfl rfl (by simp [World.setCell]) (fun k _ hk => ?_) ?_ (apart_of (by decide))
                  · rw [Below.heap_setCell _ _ _ _ (by exact hk), Below.heap_setCell _ _ _ _ (by exact hk)]
                  · rw [block_set (block_set kH _) _]; rfl
                have H6 : Hid (FKJ T0 w L st2 k A B HB now sure 0 ((we.setCell ⟨HB, 0, none⟩ (.int .i64 5)).setCell ⟨HB, 1, none⟩ (.int .i64 2))) := ⟨_, st2.count, o5, HC2.out.1, by have := HC2.out; omega⟩
                clear o4 o5 kH
                go_wp2
                clear cH0 cH1 fH0 fH1
                generalize (we.setCell ⟨HB, 0, none⟩ (.int .i64 5)).setCell ⟨HB, 1, none⟩ (.int .i64 2) = wf at *
                go_loopw [122] (fun i wr => ∃ m : Nat, m ≤ k ∧ i = .int .i64 (m : Nat) ∧ Hid (FKJ T0 w L st2 k A B HB now sure m wr)) (fun i _ => k - (intOf i).toNat)
                case atStart => exact ⟨0, by omega, rfl, H6⟩
                case round =>
                  clear H6
                  obtain ⟨m, hm, rfl, HJ⟩ := hrel
                  obtain ⟨lv6, c6, o6, hc6, hc7⟩ := HJ.out
                  rcases Nat.lt_or_ge m k with hmk | hmk
                  · have hdv : Dv { st2 with count := c6 } ats now2 now2 := HD2.out.same rfl rfl rfl rfl
                    have hrd := o6.pread_ok m HE.out.2.2.2.2.2.2.1 HE.out.2.2.1 HE.out.2.2.2.2.1 HE.out.2.2.2.2.2.1 (by show m < st2.n; rw [HE.out.2.2.2.1]; exact hmk) hdv.ok (by show st2.n ≤ _; rw [HE.out.2.2.2.1]; omega) ⟨hc6, by show c6 ≤ 1000000; omega⟩
                    rw [hdv.nw m (by show m < st2.n; rw [HE.out.2.2.2.1]; exact hmk)] at hrd
                    replace hrd : Calls Try.prog 20 #[.pointer (some ⟨L.P, 0, none⟩), .agg #[.int .i64 st2.serial, .int .i64 st2.session], .int .i64 (m : Nat)] _ _ := hrd
                    rw [show (#[.pointer (some ⟨L.P, 0, none⟩), .agg #[.int .i64 st2.serial, .int .i64 st2.session], .int .i64 (m : Nat)] : Array Value) = #[.pointer (some ⟨L.P, 0, none⟩), .agg #[.int .i64 5, .int .i64 2], .int .i64 (m : Nat)] by rw [HE.out.1, HE.out.2.1]] at hrd
                    have kH := (o6.oth (HB, .cells #[.int .i64 5, .int .i64 2] 30) (by simp)).1
                    have cH0 : wr.cell? ⟨HB, 0, none⟩ = some (.int .i64 5) := cell_of kH 0
                    have cH1 : wr.cell? ⟨HB, 1, none⟩ = some (.int .i64 2) := cell_of kH 1
                    clear o6 HJ kH hdv
                    go_wp2_with fail
                    go_call hrd as e wg ⟨rfl, lv8, o8⟩
                    have kA := (o8.oth (A, .cells (strs sure k) 9) (by simp)).1
                    have kB := (o8.oth (B, .cells (strs now k) 9) (by simp)).1
                    have cA : wg.cell? ⟨A, m, none⟩ = some (.string (sure m)) := by rw [cell_of kA]; exact strs_get _ _ _ hmk
                    have cB : wg.cell? ⟨B, m, none⟩ = some (.string (now m)) := by rw [cell_of kB]; exact strs_get _ _ _ hmk
                    have H8 : Hid (FKJ T0 w L st2 k A B HB now sure (m + 1) wg) := ⟨lv8, c6 + 1, o8, by omega, by omega⟩
                    have hor := HNW.out m hmk
                    clear hrd o8 kA kB cH0 cH1
                    by_cases hse : now2 m = sure m
                    · rw [hse]
                      clear hor hse
                      go_wp2
                      go_roundw
                      case rel => exact ⟨m + 1, by omega, rfl, H8⟩
                      case measure => simp only [intOf]; omega
                    · have hno : now2 m = now m := hor.resolve_right hse
                      rw [hno]
                      rw [hno] at hse
                      clear hor hno
                      go_wp2
                      all_goals (
                        go_roundw
                        case rel => exact ⟨m + 1, by omega, rfl, H8⟩
                        case measure => simp only [intOf]; omega)
                  · have hlo := o6.loose_any
                    have e1 : ({ st2 with count := c6 } : St).serial = 5 := HE.out.1
                    have e2 : ({ st2 with count := c6 } : St).ln = 0 := HE.out.2.2.2.2.2.2.2
                    rw [e1, e2] at hlo
                    have HB6 : Hid (Below T0 w wr) := o6.below
                    obtain rfl : m = k := by omega
                    clear o6 HJ e1 e2
                    go_wp2_with fail
                    go_call hlo as e wg ⟨rfl, rfl⟩
                    clear hlo
                    go_wp2
                    go_returns
                    exact ⟨rfl, by rw [HT.out]; exact HB6.out⟩
              · have hc12 : ¬ 12 < cn := by omega
                have hch : ∀ W, Below T0 w W → ∀ j, j < cn → W.cell? ⟨KC, oC + j, none⟩ = some (.int .i64 (ch j)) := fun W hW j hj => by
                  have h1 := HCX.out j (by omega)
                  have h2 : KC < T0 := by rw [← HT.out]; exact World.block_lt_of_cell? w _ h1
                  exact (hW.cell (by exact h2)).trans h1
                have hC : ChL KC oC cn 0 (.slice ca cn ccap) := ⟨_, _, rfl, by omega, hcm, fun h0 => by rw [HCA.out (by omega)]; rfl⟩
                have hcr := oR.crash_dv hD (by rw [hKp.there]; rfl) (by rw [hKp.n]; show k ≤ 4096; omega) (by rw [hKp.session]; show (0 : Int) ≤ 1 ∧ (1 : Int) ≤ 1000000; omega) KC oC cn (.slice ca cn ccap) ch hC hch
                have HKp : Hid _ := hKp
                have HCc : Hid _ := And.intro hc0 hc1
                clear HI oR hD hKp hc0 hc1 hch hC
                go_wp2_with fail
                go_call hcr as e wc ⟨rfl, st2, now2, o2, hD2, hnow, e1, e2, e3, e4, e5, e6, e7, e8, e9⟩
                clear hcr
                rw [HKp.out.serial] at e1
                rw [HKp.out.session] at e2
                rw [HKp.out.n] at e4 hnow
                replace e1 : st2.serial = 5 := e1
                replace e2 : st2.session = 2 := e2
                replace e4 : st2.n = k := e4
                replace hnow : ∀ i, i < k → now2 i = now i ∨ now2 i = sure i := hnow
                have hc2 : 0 ≤ st2.count ∧ st2.count ≤ 1000 := by have := HCc.out; omega
                have hgo := o2.pread_gone 1 0 e7 (by rw [e2, e3]; rfl)
                rw [e1] at hgo
                replace hgo : Calls Try.prog 20 #[.pointer (some ⟨L.P, 0, none⟩), .agg #[.int .i64 5, .int .i64 1], .int .i64 0] wc _ := hgo
                have kH := (o2.oth (HB, .cells #[.int .i64 5, .int .i64 1] 30) (by simp)).1
                have cH0 : wc.cell? ⟨HB, 0, none⟩ = some (.int .i64 5) := cell_of kH 0
                have cH1 : wc.cell? ⟨HB, 1, none⟩ = some (.int .i64 1) := cell_of kH 1
                have HD2 : Hid _ := hD2
                have HNW : Hid _ := hnow
                have HE : Hid (st2.serial = 5 ∧ st2.session = 2 ∧ st2.there = true ∧ st2.n = k ∧ st2.aw = false ∧ st2.hw = false ∧ st2.down = false ∧ st2.ln = 0) := ⟨e1, e2, e3, e4, e5, e6, e7, e9⟩
                have HC2 : Hid _ := hc2
                clear o2 kH hD2 hnow e1 e2 e3 e4 e5 e6 e7 e8 e9 hc2 HKp HCc
                go_wp2_with fail
                go_call hgo as e wd ⟨rfl, o3⟩
                clear hgo cH0 cH1
                have hop := o3.open_ok HE.out.2.2.1
                rw [HE.out.1, HE.out.2.1] at hop
                clear o3
                go_wp2_with fail
                go_call hop as e we ⟨rfl, o4⟩
                clear hop
                have kH := (o4.oth (HB, .cells #[.int .i64 5, .int .i64 1] 30) (by simp)).1
                have cH0 : we.cell? ⟨HB, 0, none⟩ = some (.int .i64 5) := cell_of kH 0
                have cH1 : we.cell? ⟨HB, 1, none⟩ = some (.int .i64 1) := cell_of kH 1
                have fH0 := frz_of kH 0
                have fH1 := frz_of kH 1
                have o5 : One T0 w L st2 (.slice none 0 0) [(HB, .cells #[.int .i64 5, .int .i64 2] 30), (A, .cells (strs sure k) 9), (B, .cells (strs now k) 9)] ((we.setCell ⟨HB, 0, none⟩ (.int .i64 5)).setCell ⟨HB, 1, none⟩ (.int .i64 2)) := by
                  have o4' : One T0 w L st2 (.slice none 0 0) [(HB, .cells #[.int .i64 5, .int .i64 1] 30), (A, .cells (strs sure k) 9), (B, .cells (strs now k) 9)] we := o4.forget (by intro p hp; simp at hp ⊢; rcases hp with h | h | h <;> simp [h])
                  refine o4'.other (by intro p hp; simp at hp; rcases hp with rfl | rfl; exact hHA1; exact hHA2) rfl rfl rfl (by simp [World.setCell]) (fun k _ hk => ?_) ?_ (apart_of (by decide))
                  · rw [Below.heap_setCell _ _ _ _ (by exact hk), Below.heap_setCell _ _ _ _ (by exact hk)]
                  · rw [block_set (block_set kH _) _]; rfl
                have H6 : Hid (FKJ T0 w L st2 k A B HB now sure 0 ((we.setCell ⟨HB, 0, none⟩ (.int .i64 5)).setCell ⟨HB, 1, none⟩ (.int .i64 2))) := ⟨_, st2.count, o5, HC2.out.1, by have := HC2.out; omega⟩
                clear o4 o5 kH
                go_wp2
                clear cH0 cH1 fH0 fH1
                generalize (we.setCell ⟨HB, 0, none⟩ (.int .i64 5)).setCell ⟨HB, 1, none⟩ (.int .i64 2) = wf at *
                go_loopw [122] (fun i wr => ∃ m : Nat, m ≤ k ∧ i = .int .i64 (m : Nat) ∧ Hid (FKJ T0 w L st2 k A B HB now sure m wr)) (fun i _ => k - (intOf i).toNat)
                case atStart => exact ⟨0, by omega, rfl, H6⟩
                case round =>
                  clear H6
                  obtain ⟨m, hm, rfl, HJ⟩ := hrel
                  obtain ⟨lv6, c6, o6, hc6, hc7⟩ := HJ.out
                  rcases Nat.lt_or_ge m k with hmk | hmk
                  · have hdv : Dv { st2 with count := c6 } ats now2 now2 := HD2.out.same rfl rfl rfl rfl
                    have hrd := o6.pread_ok m HE.out.2.2.2.2.2.2.1 HE.out.2.2.1 HE.out.2.2.2.2.1 HE.out.2.2.2.2.2.1 (by show m < st2.n; rw [HE.out.2.2.2.1]; exact hmk) hdv.ok (by show st2.n ≤ _; rw [HE.out.2.2.2.1]; omega) ⟨hc6, by show c6 ≤ 1000000; omega⟩
                    rw [hdv.nw m (by show m < st2.n; rw [HE.out.2.2.2.1]; exact hmk)] at hrd
                    replace hrd : Calls Try.prog 20 #[.pointer (some ⟨L.P, 0, none⟩), .agg #[.int .i64 st2.serial, .int .i64 st2.session], .int .i64 (m : Nat)] _ _ := hrd
                    rw [show (#[.pointer (some ⟨L.P, 0, none⟩), .agg #[.int .i64 st2.serial, .int .i64 st2.session], .int .i64 (m : Nat)] : Array Value) = #[.pointer (some ⟨L.P, 0, none⟩), .agg #[.int .i64 5, .int .i64 2], .int .i64 (m : Nat)] by rw [HE.out.1, HE.out.2.1]] at hrd
                    have kH := (o6.oth (HB, .cells #[.int .i64 5, .int .i64 2] 30) (by simp)).1
                    have cH0 : wr.cell? ⟨HB, 0, none⟩ = some (.int .i64 5) := cell_of kH 0
                    have cH1 : wr.cell? ⟨HB, 1, none⟩ = some (.int .i64 2) := cell_of kH 1
                    clear o6 HJ kH hdv
                    go_wp2_with fail
                    go_call hrd as e wg ⟨rfl, lv8, o8⟩
                    have kA := (o8.oth (A, .cells (strs sure k) 9) (by simp)).1
                    have kB := (o8.oth (B, .cells (strs now k) 9) (by simp)).1
                    have cA : wg.cell? ⟨A, m, none⟩ = some (.string (sure m)) := by rw [cell_of kA]; exact strs_get _ _ _ hmk
                    have cB : wg.cell? ⟨B, m, none⟩ = some (.string (now m)) := by rw [cell_of kB]; exact strs_get _ _ _ hmk
                    have H8 : Hid (FKJ T0 w L st2 k A B HB now sure (m + 1) wg) := ⟨lv8, c6 + 1, o8, by omega, by omega⟩
                    have hor := HNW.out m hmk
                    clear hrd o8 kA kB cH0 cH1
                    by_cases hse : now2 m = sure m
                    · rw [hse]
                      clear hor hse
                      go_wp2
                      go_roundw
                      case rel => exact ⟨m + 1, by omega, rfl, H8⟩
                      case measure => simp only [intOf]; omega
                    · have hno : now2 m = now m := hor.resolve_right hse
                      rw [hno]
                      rw [hno] at hse
                      clear hor hno
                      go_wp2
                      all_goals (
                        go_roundw
                        case rel => exact ⟨m + 1, by omega, rfl, H8⟩
                        case measure => simp only [intOf]; omega)
                  · have hlo := o6.loose_any
                    have e1 : ({ st2 with count := c6 } : St).serial = 5 := HE.out.1
                    have e2 : ({ st2 with count := c6 } : St).ln = 0 := HE.out.2.2.2.2.2.2.2
                    rw [e1, e2] at hlo
                    have HB6 : Hid (Below T0 w wr) := o6.below
                    obtain rfl : m = k := by omega
                    clear o6 HJ e1 e2
                    go_wp2_with fail
                    go_call hlo as e wg ⟨rfl, rfl⟩
                    clear hlo
                    go_wp2
                    go_returns
                    exact ⟨rfl, by rw [HT.out]; exact HB6.out⟩
  case hputk =>
    repeat (refine ⟨fun f v => rfl, ?_⟩)
    trivial
  case stepk =>
    refine ⟨?_, ?_⟩
    · intro done f W hP hdn hd K hK
      clear hd
      go_simp
      exact hK _ _ rfl (hP.pure _ (by decide) _)
    refine ⟨?_, ?_⟩
    · intro done f W hP hdn hd K hK
      have d0 := (hd.1 rfl).2
      have e0 : done 0 = true := (hd.1 rfl).1
      clear hd
      replace d0 : f 0 = .int .i64 (N : Int) := d0
      generalize f 0 = x0 at *
      subst d0
      clear e0
      have hdn1 : done 1 = false := hdn
      go_simp
      exact hK _ _ trivial (hP.mk1 hdn1)
    refine ⟨?_, ?_⟩
    · intro done f W hP hdn hd K hK
      clear hd
      go_simp
      exact hK _ _ rfl (hP.pure _ (by decide) _)
    refine ⟨?_, ?_⟩
    · intro done f W hP hdn hd K hK
      have d2 := (hd.1 rfl).2
      have e2 : done 2 = true := (hd.1 rfl).1
      clear hd
      replace d2 : f 2 = .int .i64 (N : Int) := d2
      generalize f 2 = x2 at *
      subst d2
      clear e2
      have hdn3 : done 3 = false := hdn
      go_simp
      exact hK _ _ trivial (hP.mk3 hdn3)
    refine ⟨?_, ?_⟩
    · intro done f W hP hdn hd K hK
      have d1 := (hd.1 rfl).2
      have e1 : done 1 = true := (hd.1 rfl).1
      clear hd
      go_simp
      exact hK _ _ trivial (hP.as4 e1)
    refine ⟨?_, ?_⟩
    · intro done f W hP hdn hd K hK
      have d3 := (hd.1 rfl).2
      have e3 : done 3 = true := (hd.1 rfl).1
      clear hd
      go_simp
      exact hK _ _ trivial (hP.as5 e3)
    trivial
end Go.Proofs.Ytiohkdpmgkobiaa
