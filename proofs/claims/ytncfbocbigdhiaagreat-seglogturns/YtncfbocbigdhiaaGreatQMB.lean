/- Texts of this seat, one behind the other. -/
import Derived.Test.YtncfbocbigdhiaaGreatQM
import Derived.Deep.AppendSrc
/- A log in memory and its segments on the device, together; a row of texts that may begin anywhere in its array. -/
namespace Go.Proofs.YtncfbocbigdhiaaGreat.U
open Go Go.RowKit Go.Sort
/-- What a log in memory knows of its segments. -/
structure Lm (M p ns : Nat) (g : Nat → Hd) (xs : List Nat) (e : Nat → Nat) (l : Lg) : Prop where
  eM : l.M = M
  ec : l.c = 3
  ej : l.j = 7
  ep : l.p = p
  ens : l.ns = ns
  elv : l.lv = xs
  enu : ∀ k ∈ xs, l.nu k = (g k).n
  ea : ∀ k ∈ xs, l.a k = e k
  em : ∀ i, i < ns → (g i).n ≤ l.m
section
variable {now : Nat → ByteArray} {n M p ns B : Nat} {g : Nat → Hd} {xs : List Nat} {gs : Nat → List (Nat × ByteArray)} {e : Nat → Nat} {l : Lg}
theorem Lm.of (h : Opn M 3 7 p B ns g xs e xs.length l) (hi : Im now n p ns g xs gs e) : Lm M p ns g xs e l := by
  refine ⟨h.eM, h.ec, h.ej, h.ep, h.ens, h.elv, h.enu, fun k hk => ?_, fun i hin => ?_⟩
  · obtain ⟨m, hm, rfl⟩ := List.getElem_of_mem hk
    exact h.ea m hm hm
  · rw [h.em]
    rcases hi.hd i hin with ⟨_, h2⟩ | ⟨_, h2, _⟩
    · rw [h2]; exact Nat.zero_le _
    · exact le_mxN 3 g ns i hin h2
theorem Lm.start (h : Lm M p ns g xs e l) (k S : Nat) (hk : k ∉ xs) : Lm M p ns (fun i => if i = k then ⟨3, 7, l.m + 1, false⟩ else g i) (xs ++ [k]) (fun i => if i = k then 1 else e i) (l.up k S (l.m + 1)) := by
  have hne : ∀ i ∈ xs, i ≠ k := fun i hi e => hk (e ▸ hi)
  refine ⟨h.eM, h.ec, h.ej, h.ep, h.ens, by show l.lv ++ [k] = _; rw [h.elv], fun i hi => ?_, fun i hi => ?_, fun i hi => ?_⟩
  · show (if i = k then l.m + 1 else l.nu i) = (if i = k then (⟨3, 7, l.m + 1, false⟩ : Hd) else g i).n
    by_cases c : i = k
    · rw [if_pos c, if_pos c]
    · rw [if_neg c, if_neg c]
      rcases List.mem_append.1 hi with hi | hi
      · exact h.enu i hi
      · exact absurd (List.mem_singleton.1 hi) c
  · show (if i = k then 1 else l.a i) = (if i = k then 1 else e i)
    by_cases c : i = k
    · rw [if_pos c, if_pos c]
    · rw [if_neg c, if_neg c]
      rcases List.mem_append.1 hi with hi | hi
      · exact h.ea i hi
      · exact absurd (List.mem_singleton.1 hi) c
  · show (if i = k then (⟨3, 7, l.m + 1, false⟩ : Hd) else g i).n ≤ max l.m (l.m + 1)
    by_cases c : i = k
    · rw [if_pos c]; show l.m + 1 ≤ _; omega
    · rw [if_neg c]; have := h.em i hi; omega
theorem Lm.reclaim (h : Lm M p ns g xs e l) (k : Nat) (nd : xs.Nodup) : Lm M p ns (fun i => if i = k then ⟨3, 7, (g k).n, true⟩ else g i) (xs.erase k) e (l.rm k) := by
  have hx : ∀ i ∈ xs.erase k, i ≠ k ∧ i ∈ xs := fun i hi => (nd.mem_erase_iff).1 hi
  refine ⟨h.eM, h.ec, h.ej, h.ep, h.ens, by show l.lv.erase k = _; rw [h.elv], fun i hi => ?_, fun i hi => h.ea i (hx i hi).2, fun i hi => ?_⟩
  · show l.nu i = (if i = k then (⟨3, 7, (g k).n, true⟩ : Hd) else g i).n
    rw [if_neg (hx i hi).1]; exact h.enu i (hx i hi).2
  · show (if i = k then (⟨3, 7, (g k).n, true⟩ : Hd) else g i).n ≤ l.m
    by_cases c : i = k
    · rw [if_pos c]; subst c; exact h.em i hi
    · rw [if_neg c]; exact h.em i hi
theorem Lm.append (h : Lm M p ns g xs e l) (i k : Nat) (hi : i ∈ xs) : Lm M p ns g xs (fun j => if j = i then e i + 1 + k else e j) (l.to i (l.a i + 1 + k)) := by
  refine ⟨h.eM, h.ec, h.ej, h.ep, h.ens, h.elv, h.enu, fun j hj => ?_, h.em⟩
  show (if j = i then l.a i + 1 + k else l.a j) = (if j = i then e i + 1 + k else e j)
  by_cases c : j = i
  · rw [if_pos c, if_pos c, h.ea i hi]
  · rw [if_neg c, if_neg c]; exact h.ea j hj
theorem Lm.sg (h : Lm M p ns g xs e l) (i : Nat) (hi : i ∈ xs) : l.sg i = ⟨M, 3, 7, (g i).n, 1 + i * p, p, e i⟩ := by
  unfold Lg.sg; rw [h.eM, h.ec, h.ej, h.ep, h.enu i hi, h.ea i hi]
end
theorem sub_len : ∀ (a b : List Nat), a.Nodup → (∀ x ∈ a, x ∈ b) → a.length ≤ b.length
  | [], _, _, _ => Nat.zero_le _
  | x :: a, b, ha, h => by
    have hx := h x (List.mem_cons_self ..)
    have h2 := sub_len a (b.erase x) (List.nodup_cons.1 ha).2 (fun y hy => by
      have hne : y ≠ x := fun e => (List.nodup_cons.1 ha).1 (e ▸ hy)
      exact (List.mem_erase_of_ne hne).2 (h y (List.mem_cons_of_mem _ hy)))
    rw [List.length_erase_of_mem hx] at h2
    have := List.length_pos_of_mem hx
    simp only [List.length_cons]
    omega
/-- The least that isn't there. -/
theorem least_free (xs : List Nat) (ns : Nat) (h : xs.length < ns) : ∃ k, k < ns ∧ k ∉ xs ∧ ∀ j, j < k → j ∈ xs := by
  have key : ∀ m, (∀ j, j < m → j ∈ xs) ∨ ∃ k, k < m ∧ k ∉ xs ∧ ∀ j, j < k → j ∈ xs := by
    intro m
    induction m with
    | zero => exact Or.inl (fun j hj => absurd hj (Nat.not_lt_zero _))
    | succ m ih =>
      rcases ih with ih | ⟨k, h1, h2, h3⟩
      · by_cases hm : m ∈ xs
        · exact Or.inl (fun j hj => by
            rcases Nat.lt_or_ge j m with c | c
            · exact ih j c
            · obtain rfl : j = m := by omega
              exact hm)
        · exact Or.inr ⟨m, Nat.lt_succ_self m, hm, ih⟩
      · exact Or.inr ⟨k, by omega, h2, h3⟩
  rcases key ns with h1 | h1
  · have := sub_len (List.range ns) xs List.nodup_range (fun x hx => h1 x (List.mem_range.1 hx))
    rw [List.length_range] at this
    omega
  · exact h1
/-- Texts, as they lie, from some place of an array on. -/
def TxO (v : Value) (xs : List ByteArray) (ol : List (Nat × Obj)) : Prop :=
  (v = .slice none 0 0 ∧ xs = [] ∧ ol = []) ∨ ∃ g off cap cur, v = .slice (some ⟨g, off, none⟩) xs.length cap ∧ ol = [(g, .cells cur 9)] ∧ xs.length ≤ cap ∧ cap ≤ maxLen ∧ off + cap ≤ cur.size ∧ (cur.toList.drop off).take xs.length = xs.map .string
theorem TxO.nil : TxO (.slice none 0 0) [] [] := Or.inl ⟨rfl, rfl, rfl⟩
theorem TxO.of {v : Value} {xs : List ByteArray} {ol : List (Nat × Obj)} (h : Txs v xs ol) : TxO v xs ol := by
  rcases h with h | ⟨g, cap, cur, h1, h2, h3, h4, h5, h6⟩
  · exact Or.inl h
  · exact Or.inr ⟨g, 0, cap, cur, h1, h2, h3, h4, by omega, by rw [List.drop_zero]; exact h6⟩
theorem TxO.len {v : Value} {xs : List ByteArray} {ol : List (Nat × Obj)} (h : TxO v xs ol) : ∃ ao cp, v = .slice ao xs.length cp := by
  rcases h with ⟨rfl, rfl, rfl⟩ | ⟨g, off, cap, cur, rfl, _⟩
  · exact ⟨_, _, rfl⟩
  · exact ⟨_, _, rfl⟩
theorem TxO.cellN {v : Value} {xs : List ByteArray} {ol : List (Nat × Obj)} (h : TxO v xs ol) {W : World} (ho : ∀ p ∈ ol, W.heap[p.1]? = some p.2) :
    ∃ ao cp g off, v = .slice ao xs.length cp ∧ (0 < xs.length → ao = some ⟨g, off, none⟩) ∧ ∀ k j (hj : j < xs.length), (W.drewN k).cell? ⟨g, off + j, none⟩ = some (.string xs[j]) := by
  rcases h with ⟨rfl, rfl, rfl⟩ | ⟨g, off, cap, cur, rfl, rfl, h1, h2, h3, h4⟩
  · exact ⟨none, 0, 0, 0, rfl, fun h => absurd h (Nat.lt_irrefl _), fun _ j hj => absurd hj (Nat.not_lt_zero _)⟩
  · have o1 := ho (g, .cells cur 9) (List.mem_singleton.2 rfl)
    refine ⟨_, _, g, off, rfl, fun _ => rfl, fun k j hj => ?_⟩
    rw [F.cell_of (w := W.drewN k) o1]
    have := congrArg (fun l => l[j]?) h4
    simp only [List.getElem?_take_of_lt hj, List.getElem?_map, List.getElem?_drop, Array.getElem?_toList, List.getElem?_eq_getElem hj] at this
    exact this
/-- It is cut at its head. -/
theorem TxO.cut {v : Value} {xs : List ByteArray} {ol : List (Nat × Obj)} (h : TxO v xs ol) (hx : 0 < xs.length) (W : World) : ∃ v', (Instr.slice 30 v (some (.int .i64 1)) none none).run Tryz.prog W = .ok v' W ∧ TxO v' (xs.drop 1) ol := by
  rcases h with ⟨rfl, rfl, rfl⟩ | ⟨g, off, cap, cur, rfl, rfl, h1, h2, h3, h4⟩
  · exact absurd hx (Nat.lt_irrefl _)
  · have hi9 : (Tryz.prog.info? 9).map (·.size) = some 1 := by kernel_rfl
    obtain ⟨i9, hi9, hs9⟩ : ∃ i, Tryz.prog.info? 9 = some i ∧ i.size = 1 := by
      cases h : Tryz.prog.info? 9 with
      | none => rw [h] at hi9; cases hi9
      | some i => rw [h] at hi9; exact ⟨i, rfl, Option.some.inj hi9⟩
    have hm : cap ≤ 9223372036854775807 := h2
    have hb : (0 : Int) ≤ 1 ∧ (1 : Int) ≤ (xs.length : Int) := by omega
    have hb2 : 1 ≤ xs.length := hx
    refine ⟨.slice (if cap = 1 then some ⟨g, off, none⟩ else some ⟨g, off + 1, none⟩) (xs.length - 1) (cap - 1), ?_, ?_⟩
    · simp [Instr.slice, run_underlying Tryz.underlying30, Instr.sliceBounds, Instr.sliceBound, asIntOf, sizeOf, typeInfo, hb2, hi9, hs9, Addr.add]
      exact fun hh => absurd hh (by omega)
    · have hd : xs.length - 1 = (xs.drop 1).length := by rw [List.length_drop]
      have h5 : ((cur.toList.drop off).drop 1).take (xs.length - 1) = (xs.drop 1).map .string := by
        rw [← List.drop_take, h4, List.map_drop]
      rw [List.drop_drop] at h5
      rw [hd] at h5 ⊢
      by_cases hc : cap = 1
      · have h0 : (xs.drop 1).length = 0 := by rw [List.length_drop]; omega
        have h00 := List.eq_nil_of_length_eq_zero h0
        rw [if_pos hc]
        exact Or.inr ⟨g, off, cap - 1, cur, rfl, rfl, by omega, by omega, by omega, by rw [h0, h00]; simp⟩
      · rw [if_neg hc]
        exact Or.inr ⟨g, off + 1, cap - 1, cur, rfl, rfl, by rw [← hd]; omega, by omega, by omega, h5⟩
/-- An append of a text, on a row that may begin anywhere. -/
theorem setCells_one (W : World) (g o : Nat) (v : Value) : W.setCells g o [v] = W.setCell ⟨g, o, none⟩ v := rfl
theorem run_appO (ty : TypeId) {v : Value} {xs : List ByteArray} {ol : List (Nat × Obj)} (h : TxO v xs ol) {W : World} (ho : ∀ p ∈ ol, W.heap[p.1]? = some p.2) (G : Nat) (y : ByteArray) (hG : W.heap[G]? = some (.cells #[.string y] 9)) (hl : xs.length ≤ 1000) :
    ∃ v' W', (Builtin.append_ #[30, 30] ty #[v, .slice (some ⟨G, 0, none⟩) 1 1]).run Tryz.prog W = .ok v' W' ∧
      ((∃ g off cur, ol = [(g, .cells cur 9)] ∧ W' = W.setCell ⟨g, off + xs.length, none⟩ (.string y) ∧ TxO v' (xs ++ [y]) [(g, .cells (cur.setIfInBounds (off + xs.length) (.string y)) 9)]) ∨
       (∃ cur, W' = W.drew.alloc (.cells cur 9) ∧ TxO v' (xs ++ [y]) [(W.heap.size, .cells cur 9)])) := by
  obtain ⟨i, hi, hz, hsz, hby⟩ := info_parts tinfo
  have hsrc : Src Tryz.prog i.size 30 (.slice (some ⟨G, 0, none⟩) 1 1) 1 [.string y] W := by
    rw [hsz]
    refine Src.ofSlice W Tryz.underlying30 ⟨G, 0, none⟩ 1 1 [.string y] rfl (fun j u hj => ?_) (fun u hu => by simp at hu; rw [hu]; rfl)
    rcases j with _ | j
    · simp at hj; subst hj
      have : (⟨G, 0, none⟩ : Addr).add 0 = ⟨G, 0, none⟩ := by simp [Addr.add]
      rw [this, F.cell_of hG]; rfl
    · simp at hj
  have grown : ∀ (base : Option Addr) (cap : Nat), v = .slice base xs.length cap → cap < xs.length + 1 → (Builtin.firstCells i.size xs.length (.slice base xs.length cap)).run Tryz.prog W.drew = .ok (xs.map Value.string).toArray W.drew →
      ∃ v' W', (Builtin.append_ #[30, 30] ty #[v, .slice (some ⟨G, 0, none⟩) 1 1]).run Tryz.prog W = .ok v' W' ∧ ∃ cur, W' = W.drew.alloc (.cells cur 9) ∧ TxO v' (xs ++ [y]) [(W.heap.size, .cells cur 9)] := by
    rintro base cap rfl hc hold
    have hr := run_append_grow_src (P := Tryz.prog) W 30 30 ty 9 i (.string ⟨#[]⟩) Tryz.underlying30 hi hz base xs.length cap (xs.map .string) hold _ 1 _ hsrc hc (by omega) (growslice_fits (by omega) (by rw [hby]; omega))
    have hge := grownCap_ge W (xs.length + 1) cap 9
    have hcm := grownCap_le_maxLen W (xs.length + 1) cap 9 (by unfold maxLen; omega)
    refine ⟨_, _, hr, _, rfl, Or.inr ⟨W.heap.size, 0, _, _, by rw [List.length_append]; rfl, rfl, by rw [List.length_append]; exact hge, hcm, ?_, ?_⟩⟩
    · have hz1 : (Value.string ⟨#[]⟩).cells.size = 1 := rfl
      rw [Array.size_append, List.size_toArray, size_zeroCells, hz1, List.length_append, List.length_map]
      simp only [List.length_singleton]
      omega
    · rw [List.drop_zero, Array.toList_append, List.toList_toArray, List.length_append, List.map_append]
      rw [List.take_append_of_le_length (by simp)]
      rw [List.take_of_length_le (by simp)]
      rfl
  rcases h with ⟨rfl, rfl, rfl⟩ | ⟨g, off, cap, cur, rfl, rfl, h1, h2, h3, h4⟩
  · obtain ⟨v', W', hr, cur, hW, ht⟩ := grown none 0 rfl (by simp) (run_firstCells_none W.drew i.size 0 0 0)
    exact ⟨v', W', hr, Or.inr ⟨cur, hW, ht⟩⟩
  · have o1 := ho (g, .cells cur 9) (List.mem_singleton.2 rfl)
    rcases Nat.lt_or_ge xs.length cap with hc | hc
    · have hr := run_append_room_src (P := Tryz.prog) W 30 30 ty 9 i Tryz.underlying30 hi g off xs.length cap _ 1 _ hsrc hc (fun j hj => by
        have hj0 : j = 0 := by simpa using hj
        subst hj0
        rw [hsz, F.cell_of o1, Array.getElem?_eq_getElem (by omega)]; rfl) (fun j hj => F.frz_of o1 _)
      rw [hsz, Nat.mul_one, setCells_one] at hr
      refine ⟨_, _, hr, Or.inl ⟨g, off, cur, rfl, rfl, Or.inr ⟨g, off, cap, _, by rw [List.length_append]; rfl, rfl, by rw [List.length_append]; exact hc, h2, by simp; exact h3, ?_⟩⟩⟩
      rw [Array.toList_setIfInBounds, List.length_append, List.map_append]
      show (List.drop off (cur.toList.set (off + xs.length) (.string y))).take (xs.length + 1) = xs.map .string ++ [.string y]
      have hcl : cur.toList.length = cur.size := Array.length_toList
      rw [← h4]
      apply List.ext_getElem?
      intro k
      rcases Nat.lt_trichotomy k xs.length with a | a | a
      · rw [List.getElem?_append_left (by rw [List.length_take, List.length_drop]; omega), List.getElem?_take_of_lt (by omega), List.getElem?_take_of_lt a, List.getElem?_drop, List.getElem?_drop, List.getElem?_set_ne (by omega)]
      · have hl2 : (List.take xs.length (List.drop off cur.toList)).length = xs.length := by rw [List.length_take, List.length_drop]; omega
        rw [a, List.getElem?_append_right (by omega), hl2, Nat.sub_self, List.getElem?_take_of_lt (by omega), List.getElem?_drop, List.getElem?_set_self (by omega)]
        rfl
      · have hl2 : (List.take xs.length (List.drop off cur.toList)).length = xs.length := by rw [List.length_take, List.length_drop]; omega
        rw [List.getElem?_append_right (by omega), hl2, List.getElem?_eq_none (by rw [List.length_take]; omega), List.getElem?_eq_none (by simp; omega)]
    · have hcap : cap = xs.length := by omega
      obtain ⟨v', W', hr, cur2, hW, ht⟩ := grown (some ⟨g, off, none⟩) cap rfl (by omega) (run_firstCells_some W.drew i.size xs.length ⟨g, off, none⟩ xs.length cap (xs.map .string) (by rw [hsz]; simp) (fun j u hu => by
        have hj : j < xs.length := by have := (List.getElem?_eq_some_iff.1 hu).1; simpa using this
        rw [Addr.add_lit]
        show W.cell? _ = some u
        rw [F.cell_of o1, ← hu, ← h4, List.getElem?_take_of_lt hj, List.getElem?_drop, Array.getElem?_toList]))
      exact ⟨v', W', hr, Or.inr ⟨cur2, hW, ht⟩⟩
section
variable {T : Nat} {w : World} {L : F.Loc} {q : Int} {n Lb : Nat} {l : Lg} {v : Value} {ol rest : List (Nat × Obj)} {now su : Nat → ByteArray} {c : Int} {W W' : World}
/-- The same beside a log. -/
theorem LgI.appO {tv : Value} {xs : List ByteArray} {tl : List (Nat × Obj)} (ty : TypeId) (h : LgI T w L q n Lb l v ol (tl ++ rest) now su c W) (hm : (l.M, F.med L.P 1 q) ∈ rest) (ht : TxO tv xs tl) (hd : ∀ p ∈ tl, ∀ r ∈ rest, p.1 ≠ r.1) (G : Nat) (y : ByteArray) (hG : W.heap[G]? = some (.cells #[.string y] 9)) (hl : xs.length ≤ 1000) :
    ∃ tv' W', (Builtin.append_ #[30, 30] ty #[tv, .slice (some ⟨G, 0, none⟩) 1 1]).run Tryz.prog W = .ok tv' W' ∧ ∃ tl', TxO tv' (xs ++ [y]) tl' ∧ LgI T w L q n Lb l v ol (tl' ++ rest) now su c W' ∧ ∀ p ∈ tl', ∀ r ∈ rest, p.1 ≠ r.1 := by
  obtain ⟨tv', W', hr, hc⟩ := run_appO ty ht (fun p hp => h.dv.at' (by simp [hp])) G y hG hl
  refine ⟨tv', W', hr, ?_⟩
  rcases hc with ⟨g, off, cur, rfl, rfl, h2⟩ | ⟨cur, rfl, h2⟩
  · have hb := h.dv.at' (p := (g, .cells cur 9)) (by simp)
    refine ⟨_, h2, ?_, fun p hp r hr => ?_⟩
    · exact LgI.off (o := .cells cur 9) (o' := .cells (cur.setIfInBounds (off + xs.length) (.string y)) 9) h (fun p hp => (hd (g, .cells cur 9) (List.mem_singleton.2 rfl) p hp).symm) hm ((Off.refl g _).set _ _) (F.block_set hb _) (F.apart_of (by decide)) (fun _ _ => cells_ne2 (by decide))
    · rw [List.mem_singleton.1 hp]; exact hd (g, .cells cur 9) (List.mem_singleton.2 rfl) r hr
  · have h3 := (h.below (Below.refl _ _).drew).hold (.cells cur 9) (F.apart_of (by decide)) (fun _ _ => cells_ne2 (by decide))
    refine ⟨_, h2, h3.drop (by simp [hm]) (fun p hp => ?_), fun p hp r hr => ?_⟩
    · rcases List.mem_append.1 hp with hp | hp
      · rw [List.mem_singleton.1 hp]; exact List.mem_cons_self ..
      · simp [hp]
    · rw [List.mem_singleton.1 hp]
      have := h.lt r (by simp [hr])
      show W.heap.size ≠ r.1; omega
end
/-- An append whose end is known, in a walk. -/
theorem sapp {ops : Array Oper} {rest : List Oper} {o : Oper} {a : Act} {w : World} {Q : Exit → Act → World → Prop} (hgd : o.guard = none) (s x : Operand) (ho : o.op = .call { callee := .builtin .append, args := #[s, x], argTypes := #[30, 30] }) {v vx v' : Value} {W' : World} (hs : a.eval s = v) (hx : a.eval x = vx) (hr : (Builtin.append_ #[30, 30] o.type #[v, vx]).run Tryz.prog w = .ok v' W')
    (k : Stop (wpList Tryz.prog ops Q rest (a.put o.dst v') W')) : wpList Tryz.prog ops Q (o :: rest) a w := by
  refine wpList_plain hgd fun K hK => ?_
  unfold Oper.wp execOp
  simp only [ho, resolve, invoke, builtin, Sem.run_bind, Sem.run_pure, Result.andThen_ok, List.map_toArray, List.map_cons, List.map_nil, hs, hx, hr]
  exact hK _ _ k
end Go.Proofs.YtncfbocbigdhiaaGreat.U

/- A log told as the document tells it: its live segments, by place, each with its payloads; its calls in these words. -/
namespace Go.Proofs.YtncfbocbigdhiaaGreat.U
open Go Go.RowKit Go.Sort
/-- Where the next group of a segment comes. -/
def used (ts : List ByteArray) : Nat := 1 + (ts.map (fun x => 1 + x.size / 63)).sum
theorem used_nil : used [] = 1 := rfl
theorem used_snoc (ts : List ByteArray) (x : ByteArray) : used (ts ++ [x]) = used ts + (1 + x.size / 63) := by
  unfold used
  rw [List.map_append, List.sum_append]
  simp
  omega
/-- A log on a device. -/
structure LgX (T : Nat) (w : World) (L : F.Loc) (q : Int) (N p ns M Lb : Nat) (base : List (Nat × Obj)) (b : Nat) (X : List (Nat × List ByteArray)) (c : Int) (W : World) : Prop where
  ex : ∃ nw g gs e l v ol, Im nw N p ns g (X.map Prod.fst) gs e ∧ Lm M p ns g (X.map Prod.fst) e l ∧ l.m ≤ b ∧ (∀ s ∈ X, (gs s.1).map Prod.snd = s.2 ∧ e s.1 = used s.2) ∧ LgI T w L q N Lb l v ol base nw nw c W
section
variable {T : Nat} {w : World} {L : F.Loc} {q : Int} {N p ns M Lb : Nat} {base base' : List (Nat × Obj)} {b : Nat} {X : List (Nat × List ByteArray)} {c c' : Int} {W W' : World}
theorem LgX.lift (h : LgX T w L q N p ns M Lb base b X c W) (f : ∀ l v ol nw, l.M = M → LgI T w L q N Lb l v ol base nw nw c W → LgI T w L q N Lb l v ol base' nw nw c' W') : LgX T w L q N p ns M Lb base' b X c' W' := by
  obtain ⟨nw, g, gs, e, l, v, ol, h1, h2, h3, h4, h5⟩ := h
  exact ⟨nw, g, gs, e, l, v, ol, h1, h2, h3, h4, f l v ol nw h2.eM h5⟩
theorem LgX.below (h : LgX T w L q N p ns M Lb base b X c W) (hb : Below W.heap.size W W') : LgX T w L q N p ns M Lb base b X c W' := h.lift (fun _ _ _ _ _ h => h.below hb)
theorem LgX.more (h : LgX T w L q N p ns M Lb base b X c W) (hc : c ≤ c') : LgX T w L q N p ns M Lb base b X c' W := h.lift (fun _ _ _ _ _ h => h.more hc)
theorem LgX.drop (h : LgX T w L q N p ns M Lb base b X c W) (hm : (M, F.med L.P 1 q) ∈ base') (hs : ∀ r ∈ base', r ∈ base) : LgX T w L q N p ns M Lb base' b X c W := h.lift (fun l _ _ _ hM h => h.drop (by rw [hM]; exact hm) hs)
theorem LgX.hold (h : LgX T w L q N p ns M Lb base b X c W) (o : Obj) (ho : F.Obj.apart o) (h5 : ∀ c fz, o ≠ .cells c 5 fz) : LgX T w L q N p ns M Lb ((W.heap.size, o) :: base) b X c (W.alloc o) := h.lift (fun _ _ _ _ _ h => h.hold o ho h5)
theorem LgX.off {B : Nat} {o o' : Obj} (h : LgX T w L q N p ns M Lb ((B, o) :: base) b X c W) (hne : ∀ r ∈ base, r.1 ≠ B) (hm : (M, F.med L.P 1 q) ∈ base) (k : Off B W W') (hb : W'.heap[B]? = some o') (ho : F.Obj.apart o') (h5 : ∀ c fz, o' ≠ .cells c 5 fz) : LgX T w L q N p ns M Lb ((B, o') :: base) b X c W' := h.lift (fun l _ _ _ hM h => h.off hne (by rw [hM]; exact hm) k hb ho h5)
theorem LgX.at' (h : LgX T w L q N p ns M Lb base b X c W) {r : Nat × Obj} (hr : r ∈ base) : W.heap[r.1]? = some r.2 := by
  obtain ⟨nw, g, gs, e, l, v, ol, h1, h2, h3, h4, h5⟩ := h
  exact h5.dv.at' (by simp [hr])
theorem LgX.lt (h : LgX T w L q N p ns M Lb base b X c W) : ∀ r ∈ base, r.1 < W.heap.size := by
  obtain ⟨nw, g, gs, e, l, v, ol, h1, h2, h3, h4, h5⟩ := h
  exact h5.lt
theorem LgX.bel (h : LgX T w L q N p ns M Lb base b X c W) : Below T w W := by
  obtain ⟨nw, g, gs, e, l, v, ol, h1, h2, h3, h4, h5⟩ := h
  exact h5.dv.bel
theorem LgX.len (h : LgX T w L q N p ns M Lb base b X c W) : X.length ≤ ns := by
  obtain ⟨nw, g, gs, e, l, v, ol, h1, h2, h3, h4, h5⟩ := h
  have := h1.len
  rw [List.length_map] at this
  exact this
theorem LgX.appO {tv : Value} {xs : List ByteArray} {tl : List (Nat × Obj)} (ty : TypeId) (h : LgX T w L q N p ns M Lb (tl ++ base) b X c W) (hm : (M, F.med L.P 1 q) ∈ base) (ht : TxO tv xs tl) (hd : ∀ r ∈ tl, ∀ s ∈ base, r.1 ≠ s.1) (G : Nat) (y : ByteArray) (hG : W.heap[G]? = some (.cells #[.string y] 9)) (hl : xs.length ≤ 1000) :
    ∃ tv' W', (Builtin.append_ #[30, 30] ty #[tv, .slice (some ⟨G, 0, none⟩) 1 1]).run Tryz.prog W = .ok tv' W' ∧ ∃ tl', TxO tv' (xs ++ [y]) tl' ∧ LgX T w L q N p ns M Lb (tl' ++ base) b X c W' ∧ ∀ r ∈ tl', ∀ s ∈ base, r.1 ≠ s.1 := by
  obtain ⟨nw, g, gs, e, l, v, ol, h1, h2, h3, h4, h5⟩ := h
  obtain ⟨tv', W', hr, tl', a1, a2, a3⟩ := h5.appO ty (by rw [h2.eM]; exact hm) ht hd G y hG hl
  exact ⟨tv', W', hr, tl', a1, ⟨nw, g, gs, e, l, v, ol, h1, h2, h3, h4, a2⟩, a3⟩
theorem LgX.free (h : LgX T w L q N p ns M Lb base b X c W) (hns : ns ≤ 100) : Calls Tryz.prog 46 #[.pointer (some ⟨Lb, 0, none⟩)] W fun e w' => e = .returned (.int .i64 ((ns - X.length : Nat) : Int)) ∧ LgX T w L q N p ns M Lb base b X c w' := by
  have hl := h.len
  have h0 := h
  obtain ⟨nw, g, gs, e, l, v, ol, h1, h2, h3, h4, h5⟩ := h
  have e1 : l.lv.length = X.length := by rw [h2.elv, List.length_map]
  have := free_any h5.lz (by rw [h2.ens]; omega) (by rw [h2.ens, e1]; exact hl)
  rw [h2.ens, e1] at this
  exact this.mono (fun er w' hh => ⟨hh.1, h0.below hh.2⟩)
theorem LgX.live (h : LgX T w L q N p ns M Lb base b X c W) : Calls Tryz.prog 48 #[.pointer (some ⟨Lb, 0, none⟩)] W fun e w' => ∃ v', e = .returned v' ∧ w'.ownsRow W.heap.size 3 1 v' X.length ((X.map Prod.fst).map nv) ∧ LgX T w L q N p ns M Lb base b X c w' := by
  have h0 := h
  obtain ⟨nw, g, gs, e, l, v, ol, h1, h2, h3, h4, h5⟩ := h
  have := live_any h5
  rw [h2.elv, List.length_map] at this
  exact this.mono (fun er w' ⟨v', a1, a2, a3⟩ => ⟨v', a1, a2, h0.below a3⟩)
theorem lv_pt {n : Nat} {l : Lg} {v : Value} {ol rest : List (Nat × Obj)} {now su : Nat → ByteArray} (h : LgI T w L q n Lb l v ol rest now su c W) (i : Nat) (hi : i < l.ns) : (i ∉ l.lv → l.pt i = none) ∧ (i ∈ l.lv → l.pt i ≠ none) := by
  refine ⟨fun hn => ?_, (h.pn i hi).1⟩
  cases hp : l.pt i with
  | none => rfl
  | some S => exact absurd ((h.pn i hi).2 (by rw [hp]; exact fun x => by cases x)) hn
/-- A segment is started. -/
theorem LgX.start (h : LgX T w L q N p ns M Lb base b X c W) (hp : 8 ≤ p ∧ p ≤ 64) (hN : 1 + ns * p ≤ N) (hN1 : N ≤ 1000) (k : Nat) (hk : k < ns) (hkx : k ∉ X.map Prod.fst) (hlt : ∀ j, j < k → j ∈ X.map Prod.fst) (hb : b + 1 < 18446744073709551616) (hc : c ≤ 50000000) :
    Calls Tryz.prog 43 #[.pointer (some ⟨Lb, 0, none⟩)] W fun e w' => e = .returned (.bool true) ∧ LgX T w L q N p ns M Lb base (b + 1) (X ++ [(k, [])]) (c + 2) w' := by
  obtain ⟨nw, g, gs, e, l, v, ol, h1, h2, h3, h4, h5⟩ := h
  have hseg := seg_lt (p := p) hk
  have hst := start_yes h5 k (by rw [h2.ens]; exact hk) ((lv_pt h5 k (by rw [h2.ens]; exact hk)).1 (by rw [h2.elv]; exact hkx)) (fun j hj => (lv_pt h5 j (by rw [h2.ens]; omega)).2 (by rw [h2.elv]; exact hlt j hj)) (by omega) (by rw [h2.ep]; omega) hN1 hc
  refine hst.mono ?_
  rintro er w' ⟨rfl, S, v', ol', h6⟩
  rw [h2.ep, h2.ec, h2.ej] at h6
  refine ⟨rfl, _, (fun i => if i = k then ⟨3, 7, l.m + 1, false⟩ else g i), (fun i => if i = k then [] else gs i), (fun i => if i = k then 1 else e i), _, v', ol', ?_, ?_, ?_, ?_, h6⟩
  · have := h1.start hp.1 k l.m hk hkx h2.em (by omega)
    rw [List.map_append]
    exact this
  · have := h2.start k S hkx
    rw [List.map_append]
    exact this
  · show max l.m (l.m + 1) ≤ b + 1; omega
  · intro s hs
    show (if s.1 = k then [] else gs s.1).map Prod.snd = s.2 ∧ (if s.1 = k then 1 else e s.1) = used s.2
    rcases List.mem_append.1 hs with hs | hs
    · have hne : s.1 ≠ k := fun e => hkx (e ▸ List.mem_map.2 ⟨s, hs, rfl⟩)
      rw [if_neg hne, if_neg hne]; exact h4 s hs
    · rw [List.mem_singleton.1 hs]
      rw [if_pos rfl, if_pos rfl]; exact ⟨rfl, rfl⟩
/-- None is free. -/
theorem LgX.start_none (h : LgX T w L q N p ns M Lb base b X c W) (hX : X.length = ns) :
    Calls Tryz.prog 43 #[.pointer (some ⟨Lb, 0, none⟩)] W fun e w' => e = .returned (.bool false) ∧ w' = W := by
  obtain ⟨nw, g, gs, e, l, v, ol, h1, h2, h3, h4, h5⟩ := h
  refine start_no h5 (fun i hi => (lv_pt h5 i hi).2 ?_)
  rw [h2.elv]
  rw [h2.ens] at hi
  by_cases hm : i ∈ X.map Prod.fst
  · exact hm
  · have := sub_len (i :: X.map Prod.fst) (List.range ns) (List.nodup_cons.2 ⟨hm, h1.nd⟩) (fun x hx => by
      rcases List.mem_cons.1 hx with rfl | hx
      · exact List.mem_range.2 hi
      · exact List.mem_range.2 (h1.lt x hx))
    rw [List.length_range, List.length_cons, List.length_map] at this
    omega
/-- A group is appended to the current one. -/
theorem LgX.append {Y : List (Nat × List ByteArray)} {i : Nat} {ts : List ByteArray} (h : LgX T w L q N p ns M Lb base b (Y ++ [(i, ts)]) c W) (hp : 8 ≤ p ∧ p ≤ 64) (hns : ns ≤ 100) (hN : 1 + ns * p ≤ N) (hN1 : N ≤ 1000) (x : ByteArray) (k : Nat) (hk : 1 ≤ k) (hx : x.size = 63 * k) (hroom : used ts + k < p) (hb : b < 18446744073709551616) (hc : c ≤ 50000000) :
    Calls Tryz.prog 45 #[.pointer (some ⟨Lb, 0, none⟩), .string x] W fun e w' => e = .returned (.agg #[.int .i64 (i : Nat), .int .i64 (used ts : Nat), .int .i64 (k : Nat)]) ∧ LgX T w L q N p ns M Lb base b (Y ++ [(i, ts ++ [x])]) (c + 100) w' := by
  obtain ⟨nw, g, gs, e, l, v, ol, h1, h2, h3, h4, h5⟩ := h
  have hmi : i ∈ (Y ++ [(i, ts)]).map Prod.fst := by simp
  have hin := h1.lt i hmi
  have hseg := seg_lt (p := p) hin
  obtain ⟨e1, e2⟩ := h4 (i, ts) (by simp)
  have hla := h2.ea i hmi
  have hlv : l.lv = Y.map Prod.fst ++ [i] := by rw [h2.elv, List.map_append]; rfl
  have ha := append_any h5 i (by rw [hlv]; simp) (by simp only [hlv]; simp) x k hk (by rw [hla, h2.ep, e2]; exact hroom) hx (by rw [h2.ep]; omega) hN1 (by
    rw [h2.enu i hmi]
    have := h2.em i hin; omega) hc
  rw [hla, e2] at ha
  refine ha.mono ?_
  rintro er w' ⟨rfl, h6⟩
  rw [h2.sg i hmi] at h6
  have hfst : (Y ++ [(i, ts ++ [x])]).map Prod.fst = (Y ++ [(i, ts)]).map Prod.fst := by simp
  have hap := h1.append hp hns i M k x hmi hx hk (by rw [e2]; exact hroom)
  have hmm := h2.append i k hmi
  rw [hla, e2] at hmm
  rw [e2] at h6 hap
  refine ⟨rfl, _, g, _, _, l.to i (used ts + 1 + k), v, ol, by rw [hfst]; exact hap, by rw [hfst]; exact hmm, h3, ?_, h6⟩
  intro s hs
  show (if s.1 = i then gs i ++ [(used ts, x)] else gs s.1).map Prod.snd = s.2 ∧ (if s.1 = i then used ts + 1 + k else e s.1) = used s.2
  rcases List.mem_append.1 hs with hs | hs
  · have hnd := h1.nd
    rw [List.map_append] at hnd
    have hne : s.1 ≠ i := by
      have := (List.nodup_append.1 hnd).2.2 s.1 (List.mem_map.2 ⟨s, hs, rfl⟩) i (by simp)
      exact this
    rw [if_neg hne, if_neg hne]; exact h4 s (List.mem_append_left _ hs)
  · rw [List.mem_singleton.1 hs]
    rw [if_pos rfl, if_pos rfl, List.map_append, e1, used_snoc, hx]
    exact ⟨rfl, by omega⟩
/-- A segment that isn't the current one is freed. -/
theorem LgX.reclaim {Y Z : List (Nat × List ByteArray)} {i : Nat} {ts : List ByteArray} (h : LgX T w L q N p ns M Lb base b (Y ++ (i, ts) :: Z) c W) (hZ : Z ≠ []) (hp : 8 ≤ p ∧ p ≤ 64) (hN : 1 + ns * p ≤ N) (hN1 : N ≤ 1000) (hb : b < 18446744073709551616) (hc : c ≤ 50000000) :
    Calls Tryz.prog 47 #[.pointer (some ⟨Lb, 0, none⟩), .int .i64 (i : Nat)] W fun e w' => e = .returned (.bool true) ∧ LgX T w L q N p ns M Lb base b (Y ++ Z) (c + 2) w' := by
  obtain ⟨nw, g, gs, e, l, v, ol, h1, h2, h3, h4, h5⟩ := h
  have hmi : i ∈ (Y ++ (i, ts) :: Z).map Prod.fst := by simp
  have hin := h1.lt i hmi
  have hseg := seg_lt (p := p) hin
  have hzl : 0 < Z.length := by cases Z with
    | nil => exact absurd rfl hZ
    | cons a r => simp
  have hlv : l.lv = Y.map Prod.fst ++ i :: Z.map Prod.fst := by rw [h2.elv, List.map_append]; rfl
  have hlen : l.lv.length = Y.length + 1 + Z.length := by rw [hlv]; simp; omega
  obtain ⟨k1, k2, k3, k4⟩ := h1.hok i hmi
  have hr := reclaim_yes h5 i Y.length (by omega) (by simp only [hlv]; rw [List.getElem_append_right (by simp)]; simp) (by rw [h2.enu i hmi]; exact k1.n0) (by rw [h2.enu i hmi]; exact k1.n) (by rw [h2.ep]; omega) hN1 hc
  refine hr.mono ?_
  rintro er w' ⟨rfl, v', ol', h6⟩
  rw [h2.ep, h2.ec, h2.ej, h2.enu i hmi] at h6
  have hnd := h1.nd
  have hfst : (Y ++ Z).map Prod.fst = ((Y ++ (i, ts) :: Z).map Prod.fst).erase i := by
    rw [List.map_append, List.map_append, List.map_cons] at *
    have hni : i ∉ Y.map Prod.fst := fun hm => (List.nodup_append.1 hnd).2.2 i hm i (List.mem_cons_self ..) rfl
    rw [List.erase_append_right _ hni, List.erase_cons_head]
  have hne : ∀ s ∈ Y ++ Z, s ∈ Y ++ (i, ts) :: Z := by
    intro s hs
    rcases List.mem_append.1 hs with hs | hs <;> simp [hs]
  refine ⟨rfl, _, _, gs, e, l.rm i, v', ol', by rw [hfst]; exact h1.reclaim hp.1 i hmi, by rw [hfst]; exact h2.reclaim i hnd, h3, fun s hs => h4 s (hne s hs), h6⟩
end
end Go.Proofs.YtncfbocbigdhiaaGreat.U

/- Open, once more, in the document's words; rows of texts held against each other. -/
namespace Go.Proofs.YtncfbocbigdhiaaGreat.U
open Go Go.RowKit Go.Sort
/-- A device with segments of a log. -/
structure DvX (T : Nat) (w : World) (L : F.Loc) (q : Int) (N p ns : Nat) (base : List (Nat × Obj)) (b : Nat) (X : List (Nat × List ByteArray)) (c : Int) (W : World) : Prop where
  ex : ∃ nw su g gs e, Im nw N p ns g (X.map Prod.fst) gs e ∧ (∀ i, i < ns → (g i).n ≤ b) ∧ (∀ s ∈ X, (gs s.1).map Prod.snd = s.2 ∧ e s.1 = used s.2) ∧ Dev T w L q N base nw su c W
theorem allX_of {gs : Nat → List (Nat × ByteArray)} {e : Nat → Nat} : ∀ {X : List (Nat × List ByteArray)}, (∀ s ∈ X, (gs s.1).map Prod.snd = s.2 ∧ e s.1 = used s.2) → allX gs (X.map Prod.fst) = X.flatMap Prod.snd
  | [], _ => rfl
  | s :: X, h => by
    have h1 := allX_of (X := X) (fun s hs => h s (List.mem_cons_of_mem _ hs))
    unfold allX at h1 ⊢
    rw [List.map_cons, List.flatMap_cons, List.flatMap_cons, h1, (h s (List.mem_cons_self ..)).1]
section
variable {T : Nat} {w : World} {L : F.Loc} {q : Int} {N p ns M Lb : Nat} {base base' : List (Nat × Obj)} {b : Nat} {X : List (Nat × List ByteArray)} {c c' : Int} {W W' : World}
/-- A device is opened. -/
theorem DvX.open (h : DvX T w L q N p ns base b X c W) (h5 : ∀ r ∈ base, ∀ c fz, r.2 ≠ .cells c 5 fz) (hp : 8 ≤ p ∧ p ≤ 20) (hns : 2 ≤ ns ∧ ns ≤ 6) (hfit : 1 + ns * p ≤ N) (hn1 : N ≤ 1000) (hc : c ≤ 1000000) (hb : b < 18446744073709551616) :
    Calls Tryz.prog 34 #[.pointer (some ⟨L.P, 0, none⟩), .int .i64 (ns : Nat), .int .i64 (p : Nat)] W fun r w' => ∃ M B tv tl, r = .returned (.tuple #[.pointer (some ⟨B + 1, 0, none⟩), tv]) ∧ Txs tv (X.flatMap Prod.snd) tl ∧ LgX T w L q N p ns M (B + 1) (tl ++ (M, F.med L.P 1 q) :: base) b X (c + 9000) w' ∧ (∀ r ∈ tl, ∀ s ∈ (M, F.med L.P 1 q) :: base, r.1 ≠ s.1) := by
  obtain ⟨nw, su, g, gs, e, h1, h2, h3, h4⟩ := h
  refine (open34 h4 h5 h1 hp hns hfit hn1 hc (fun i hi => by have := mxN_le 3 g b i (fun j hj => h2 j (by omega)); omega)).mono ?_
  rintro r w' ⟨M, B, l, v, ol, tv, tl, rfl, a1, a2, a3, a4⟩
  rw [allX_of h3] at a2
  refine ⟨M, B, tv, tl, rfl, a2, ⟨nw, g, gs, e, l, v, ol, h1, Lm.of a1 h1, ?_, h3, a3⟩, a4⟩
  rw [a1.em]; exact mxN_le 3 g b ns h2
/-- A device is opened beside a log that is at work on it. -/
theorem LgX.open2 (h : LgX T w L q N p ns M Lb base b X c W) (hp : 8 ≤ p ∧ p ≤ 20) (hns : 2 ≤ ns ∧ ns ≤ 6) (hfit : 1 + ns * p ≤ N) (hn1 : N ≤ 1000) (hc : c ≤ 1000000) (hb : b < 18446744073709551616) (hM : (M, F.med L.P 1 q) ∈ base) :
    Calls Tryz.prog 34 #[.pointer (some ⟨L.P, 0, none⟩), .int .i64 (ns : Nat), .int .i64 (p : Nat)] W fun r w' => ∃ B tv tl, r = .returned (.tuple #[.pointer (some ⟨B + 1, 0, none⟩), tv]) ∧ Txs tv (X.flatMap Prod.snd) tl ∧ LgX T w L q N p ns M Lb (tl ++ base) b X (c + 9000) w' ∧ (∀ r ∈ tl, ∀ s ∈ base, r.1 ≠ s.1) := by
  obtain ⟨nw, g, gs, e, l, v, ol, h1, h2, h3, h4, h5⟩ := h
  refine (open34 h5.dv h5.h5all h1 hp hns hfit hn1 hc (fun i hi => by have := mxN_le 3 g l.m i (fun j hj => h2.em j (by omega)); omega)).mono ?_
  rintro r w' ⟨M2, B, l2, v2, ol2, tv, tl, rfl, a1, a2, a3, a4⟩
  rw [allX_of h4] at a2
  have hmem : ∀ r ∈ (Lb, Obj.cells (l.cs v) 128) :: (l.G, Obj.cells l.row 28) :: (ol ++ (l.objs ++ base)), r ∈ tl ++ (M2, F.med L.P 1 q) :: ((Lb, Obj.cells (l.cs v) 128) :: (l.G, Obj.cells l.row 28) :: (ol ++ (l.objs ++ base))) := fun r hr => List.mem_append_right _ (List.mem_cons_of_mem _ hr)
  refine ⟨B, tv, tl, rfl, a2, ⟨nw, g, gs, e, l, v, ol, h1, h2, h3, h4, h5.ok, h5.pl, a3.dv.forget ?_, List.mem_append_right _ h5.md, h5.pn, h5.nd, h5.inj, ?_, ?_⟩, fun r hr s hs => a4 r hr s (by simp [hs])⟩
  · intro r hr
    refine List.mem_cons_of_mem _ (List.mem_cons_of_mem _ (List.mem_append_right _ (List.mem_append_right _ ?_)))
    simp only [List.mem_cons, List.mem_append] at hr ⊢
    rcases hr with hr | hr | hr | hr | hr | hr <;> simp [hr]
  · intro r hr s hs
    rcases List.mem_append.1 hs with hs | hs
    · refine fun e2 => a4 s hs r ?_ e2.symm
      simp only [List.mem_cons, List.mem_append] at hr ⊢
      rcases hr with hr | hr | hr | hr <;> simp [hr]
    · exact h5.ap r hr s hs
  · intro r hr
    rcases List.mem_append.1 hr with hr | hr
    · obtain ⟨c', hc'⟩ := a2.ty r hr
      rw [hc']; exact fun _ _ => cells_ne2 (by decide)
    · exact h5.h5 r hr
end
set_option maxHeartbeats 2000000 in
set_option maxRecDepth 100000 in
theorem same35O {v u : Value} {xs : List ByteArray} {ol ol2 : List (Nat × Obj)} (h : TxO v xs ol) (h2 : TxO u xs ol2) (hl : xs.length ≤ 1000) (W : World) (ho : ∀ p ∈ ol, W.heap[p.1]? = some p.2) (ho2 : ∀ p ∈ ol2, W.heap[p.1]? = some p.2) :
    Calls Tryz.prog 35 #[v, u] W fun e w' => e = .returned (.bool true) ∧ Below W.heap.size W w' := by
  obtain ⟨ao, cp, g, of1, rfl, ha, hc⟩ := h.cellN ho
  obtain ⟨ao2, cp2, g2, of2, rfl, ha2, hc2⟩ := h2.cellN ho2
  have HA : Hid _ := ha
  have HA2 : Hid _ := ha2
  have HC : Hid _ := hc
  have HC2 : Hid _ := hc2
  obtain ⟨n, hn⟩ : ∃ n, n = xs.length := ⟨_, rfl⟩
  have HN : Hid _ := hn
  rw [← hn] at hl ⊢
  clear h h2 ho ho2 ha ha2 hc hc2 hn
  go_enter Tryz.func35, Tryz.ntmps35
  go_wp2
  go_loopw [13] (fun iv wr => ∃ i : Nat, iv = .int .i64 (i : Nat) ∧ i ≤ n ∧ Hid (∃ k, wr = W.drewN k)) (fun iv _ => n - (intOf iv).toNat)
  case atStart => exact ⟨0, rfl, Nat.zero_le _, ⟨0, rfl⟩⟩
  case round =>
    obtain ⟨i, rfl, hin, HW⟩ := hrel
    rcases Nat.eq_or_lt_of_le hin with rfl | hlt
    · go_wp2
      go_returns
      obtain ⟨k, rfl⟩ := HW.out
      exact ⟨rfl, ⟨rfl, rfl, rfl, Nat.le_refl _, fun _ _ => rfl⟩⟩
    · obtain ⟨k, hk⟩ := HW.out
      have hi : i < xs.length := by rw [← HN.out]; exact hlt
      obtain rfl := HA.out (by omega)
      obtain rfl := HA2.out (by omega)
      obtain ⟨x, hx⟩ : ∃ x, x = xs[i] := ⟨_, rfl⟩
      have q1 : ∀ m, (wr.drewN m).cell? ⟨g, of1 + i, none⟩ = some (.string x) := fun m => by rw [hx, hk]; exact HC.out (k + m) i hi
      have q2 : ∀ m, (wr.drewN m).cell? ⟨g2, of2 + i, none⟩ = some (.string x) := fun m => by rw [hx, hk]; exact HC2.out (k + m) i hi
      clear hx hk
      go_wp2_with fail
      go_quiet (fail)
      have HW2 : Hid (∃ k2, wr.drewN nq = W.drewN k2) := by
        obtain ⟨k, hk⟩ := HW.out
        exact ⟨k + nq, by rw [hk]; first | rfl | (simp [World.drewN]; omega) | simp⟩
      clear q1 q2
      go_wp2
      go_roundw
      case rel => exact ⟨i + 1, by congr 1, by omega, HW2⟩
      case measure =>
        show n - ((i : Int) + 1).toNat < n - ((i : Nat) : Int).toNat
        omega
end Go.Proofs.YtncfbocbigdhiaaGreat.U
