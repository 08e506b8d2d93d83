/- What the library's Clone, Sort, Compact, SortStableFunc make of a row of numbers; rank's order, and its top. -/
import Derived.Test.YtbbapaphfijpcaaDoorD
import Derived.Lib.MinMax
namespace Go.Proofs.YtbbapaphfijpcaaDoor
open Go.RowKit Go.Sort Go.Lib
theorem clone24 {v : Value} {l : List Int} {w : World} (h : Rd v l w) (hl : l.length ≤ 64) :
    Calls Tryd.prog 24 #[v] w fun e w' => ∃ v', e = .returned v' ∧ Own w.heap.size v' l w' ∧ Below w.heap.size w w' := by
  obtain ⟨ao, cp, rfl, h2, h3⟩ := h
  cases l with
  | nil =>
    cases ao with
    | none =>
      have hcon := Any.slices_Clone_int_nil Tryd.lays15 0 cp w
      change Calls Tryd.prog 24 _ _ _ at hcon
      refine hcon.mono ?_
      rintro e w' ⟨rfl, rfl⟩
      exact ⟨_, rfl, World.ownsRow_nil _ _ _ _, Below.refl _ _⟩
    | some a =>
      have hcon := Any.slices_Clone_int_zero Tryd.lays15 a cp w
      change Calls Tryd.prog 24 _ _ _ at hcon
      refine hcon.mono ?_
      rintro e w' ⟨v', rfl, h4, -, h5⟩
      exact ⟨_, rfl, h4, h5⟩
  | cons x t =>
    obtain ⟨b, o, rfl, h4, h5⟩ := h3 (by simp)
    have hcon := Any.slices_Clone_int Tryd.lays15 b o (x :: t).length cp (x :: t) w (Nat.le_refl _) (by omega) h5
    change Calls Tryd.prog 24 _ _ _ at hcon
    refine hcon.mono ?_
    rintro e w' ⟨v', rfl, h4, -, h5⟩
    rw [List.take_length] at h4
    exact ⟨_, rfl, h4, h5⟩
theorem sort22 {T : Nat} {v : Value} {l : List Int} {w : World} (h : Own T v l w) (hl : l.length ≤ 64) :
    Calls Tryd.prog 22 #[v] w fun e w' => e = .returned (.tuple #[]) ∧ Own T v (asc l) w' ∧ w.grownBy w' v.ownBlock := by
  rcases h.cases with ⟨rfl, rfl⟩ | ⟨g, cap, cur, rfl, h2, h3, h4, h5, h6, h7⟩
  · have hcon := Any.slices_Sort_int_none Tryd.lays189 none 0 w
    change Calls Tryd.prog 22 _ _ _ at hcon
    refine hcon.mono ?_
    rintro e w' ⟨rfl, rfl⟩
    exact ⟨rfl, by rw [show asc [] = [] from List.mergeSort_nil]; exact World.ownsRow_nil _ _ _ _, rfl, rfl, rfl, Nat.le_refl _, fun _ _ _ => rfl⟩
  · have hH : Holds (Value.int .i64) w g 0 l.toArray := by
      intro j hj
      have hj' : j < l.length := by simpa using hj
      have e : (cur.toList.take l.length)[j]? = (l.map (Value.int .i64))[j]? := by rw [h7]
      rw [List.getElem?_take_of_lt hj'] at e
      refine ⟨?_, frz_of h3 _⟩
      rw [Nat.zero_add, cell_of h3 j, ← Array.getElem?_toList, e]
      simp [hj']
    have hcon := Any.slices_Sort_int Tryd.lays189 g 0 cap l w hH (getElem?_lt h3) (by omega)
    change Calls Tryd.prog 22 _ _ _ at hcon
    refine hcon.mono ?_
    rintro e w' ⟨rfl, n, os, rfl⟩
    refine ⟨rfl, ?_, grown_put _⟩
    have hz : (asc l).length = l.length := (asc_perm l).length_eq
    have := Own.put (n := n) (os := os) h2 h3 h5 h6 (asc l) [] (by simp; omega)
    rw [List.append_nil, hz] at this
    exact this
theorem comp_len (zs : List Int) : (compact zs).length ≤ zs.length := by
  unfold compact compactUpTo
  rw [List.length_map]
  refine Nat.le_trans (List.length_filter_le _ _) ?_
  simp
theorem compact25 {T : Nat} {v : Value} {l : List Int} {w : World} (h : Own T v l w) (hl : l.length ≤ 64) :
    Calls Tryd.prog 25 #[v] w fun e w' => ∃ v', e = .returned v' ∧ Own T v' (compact l) w' ∧ v'.ownBlock = v.ownBlock ∧ w.grownBy w' v.ownBlock := by
  rcases h.cases with ⟨rfl, rfl⟩ | ⟨g, cap, cur, rfl, h2, h3, h4, h5, h6, h7⟩
  · have hcon := Any.slices_Compact_int_empty Tryd.lays20 none 0 w
    change Calls Tryd.prog 25 _ _ _ at hcon
    refine hcon.mono ?_
    rintro e w' ⟨rfl, rfl⟩
    exact ⟨_, rfl, World.ownsRow_nil _ _ _ _, rfl, rfl, rfl, rfl, Nat.le_refl _, fun _ _ _ => rfl⟩
  · have hH : Holds (Value.int .i64) w g 0 l.toArray := by
      intro j hj
      have hj' : j < l.length := by simpa using hj
      have e : (cur.toList.take l.length)[j]? = (l.map (Value.int .i64))[j]? := by rw [h7]
      rw [List.getElem?_take_of_lt hj'] at e
      refine ⟨?_, frz_of h3 _⟩
      rw [Nat.zero_add, cell_of h3 j, ← Array.getElem?_toList, e]
      simp [hj']
    have hcon := Any.slices_Compact_int Tryd.lays20 g 0 cap l w hH (by omega) h4
    change Calls Tryd.prog 25 _ _ _ at hcon
    refine hcon.mono ?_
    rintro e w' ⟨rfl, n, rfl⟩
    refine ⟨_, rfl, ?_, rfl, ?_⟩
    · have := Own.put (n := n) (os := #[]) h2 h3 h5 h6 (compact l) (List.replicate (l.length - (compact l).length) 0) (by have := comp_len l; simp; omega)
      rw [grow_empty] at this
      exact this
    · have := grown_put (w := w) (g := g) (n := n) (os := #[]) (compact l ++ List.replicate (l.length - (compact l).length) 0).toArray
      rw [grow_empty] at this
      exact this
/-- The closure's part in the sort. -/
theorem cmp_lays {k : ByteArray} {V X g n : Nat} {v : Value} {w : World} (ht : Tab w) (hw : Wg k v X w) (hV : w.heap[V]? = some (.cells #[v] 41)) (h0 : g ≠ 0) (h1 : g ≠ X) (h2 : g ≠ V) (hg : g < w.heap.size) :
    CmpLays1 Tryd.prog 27 #[.pointer (some ⟨V, 0, none⟩)] (Value.int .i64) (fun x y => cmpN (wt k y) (wt k x)) g 0 n w := by
  intro m os dk _ x y
  have hk := grown_put (w := w) (g := g) (n := m) (os := os) dk
  have hb : ∀ j o, j ≠ g → w.heap[j]? = some o → (sortWorld (Value.int .i64) w g 0 m dk os).heap[j]? = some o := fun j o hj e =>
    (hk.block j (getElem?_lt e) (fun e => hj (by injection e))).trans e
  have hc : ∀ o v, w.cell? ⟨0, o, none⟩ = some v → (sortWorld (Value.int .i64) w g 0 m dk os).cell? ⟨0, o, none⟩ = some v := fun o v e =>
    hk.cell e (fun e => h0 (by injection e with e; exact e.symm))
  have ht' : Tab (sortWorld (Value.int .i64) w g 0 m dk os) := ⟨hc _ _ ht.c0, hc _ _ ht.c1, hc _ _ ht.c2, hc _ _ ht.c3, hc _ _ ht.c4, hc _ _ ht.c5, hc _ _ ht.c6, hc _ _ ht.c7, hc _ _ ht.c8⟩
  have h := clos27 k x y V X v _ ht' ⟨hw.1, hb _ _ (Ne.symm h1) hw.2⟩ (hb _ _ (Ne.symm h2) hV)
  exact h.mono fun e w' ⟨a, b⟩ => ⟨a, b.grow⟩
set_option maxHeartbeats 1000000 in
theorem stable26 {T : Nat} {k : ByteArray} {V X : Nat} {f v : Value} {l : List Int} {w : World} (h : Own T v l w) (hl : l.length ≤ 19) (ht : Tab w) (hw : Wg k f X w) (hV : w.heap[V]? = some (.cells #[f] 41)) (hT : 0 < T)
    (hn : l.Pairwise (· < ·)) (hb : ∀ x ∈ l, 0 ≤ x ∧ x ≤ 1000) :
    Calls Tryd.prog 26 #[v, .func (.func 27) #[] #[.pointer (some ⟨V, 0, none⟩)]] w fun e w' => e = .returned (.tuple #[]) ∧ Own T v (ord (wt k) l) w' ∧ w.grownBy w' v.ownBlock := by
  have mixed : Tryd.prog.follows .mixedOrders = true := by kernel_rfl
  have hins : Calls Tryd.prog 52 #[v, .int .i64 0, .int .i64 (l.length : Nat), .func (.func 27) #[] #[.pointer (some ⟨V, 0, none⟩)]] w fun e w' => e = .returned (.tuple #[]) ∧ Own T v (ord (wt k) l) w' ∧ w.grownBy w' v.ownBlock := by
    rcases h.cases with ⟨rfl, rfl⟩ | ⟨g, cap, cur, rfl, h2, h3, h4, h5, h6, h7⟩
    · go_enter Tryd.func52, Tryd.ntmps52
      go_wp2
      go_rounds 1
      go_end0
      exact ⟨rfl, World.ownsRow_nil _ _ _ _, rfl, rfl, rfl, Nat.le_refl _, fun _ _ _ => rfl⟩
    · have hH : Holds (Value.int .i64) w g 0 l.toArray := by
        intro j hj
        have hj' : j < l.length := by simpa using hj
        have e : (cur.toList.take l.length)[j]? = (l.map (Value.int .i64))[j]? := by rw [h7]
        rw [List.getElem?_take_of_lt hj'] at e
        refine ⟨?_, frz_of h3 _⟩
        rw [Nat.zero_add, cell_of h3 j, ← Array.getElem?_toList, e]
        simp [hj']
      have hg := getElem?_lt h3
      have n1 : g ≠ X := fun e => by
        have := hw.2; rw [← e, h3] at this; injection this with this; injection this with _ e _; exact absurd e (by decide)
      have n2 : g ≠ V := fun e => by
        have := hV; rw [← e, h3] at this; injection this with this; injection this with _ e _; exact absurd e (by decide)
      have eg : ∀ args w, (callFunc 27 args).run Tryd.prog w = .ok (.enter 27 args) w := enters_of Tryd.func27 (by kernel_rfl) rfl
      have hcon := Any.insertionSortCmpFunc_s Tryd.lays52 (Value.int .i64) (fun x y => cmpN (wt k y) (wt k x)) 27 #[.pointer (some ⟨V, 0, none⟩)] g 0 cap 0 l.toArray.size l.toArray l.toArray w w eg (cmp_lays ht hw hV (by omega) n1 n2 hg) ⟨fun _ => rfl, hH, hg⟩ rfl (SW.start hH) (Nat.zero_le _) (Nat.le_refl _) (by simp; omega)
      change Calls Tryd.prog 52 _ _ _ at hcon
      have ez : l.toArray.size = l.length := by simp
      rw [ez] at hcon
      refine hcon.mono ?_
      rintro e w' ⟨rfl, n, os, rfl⟩
      have hs := insertionSort_holds (lt := ltOf fun x y : Int => cmpN (wt k y) (wt k x)) (swo_cmp k) l.toArray 0 l.toArray.size (Nat.zero_le _) (Nat.le_refl _)
      have ho := sort_ord k l.toArray _ (by simpa using hn) (by simpa using hb) hs.1 hs.2
      rw [ez] at ho
      have hz : (ord (wt k) l).length = l.length := by
        have := hs.1.1
        rw [← ho, Array.length_toList]
        simpa using this
      refine ⟨rfl, ?_, grown_put _⟩
      have := Own.put (n := n) (os := os) h2 h3 h5 h6 (ord (wt k) l) [] (by simp; omega)
      rw [List.append_nil, hz, ← ho] at this
      rw [← ho]
      simpa [sortWorld] using this
  obtain ⟨ao, cp, e⟩ : ∃ ao cp, v = .slice ao l.length cp := by
    rcases h.cases with ⟨rfl, rfl⟩ | ⟨g, cap, cur, rfl, _⟩
    · exact ⟨_, _, rfl⟩
    · exact ⟨_, _, rfl⟩
  subst e
  have hst : Calls Tryd.prog 37 #[.slice ao l.length cp, .int .i64 (l.length : Nat), .func (.func 27) #[] #[.pointer (some ⟨V, 0, none⟩)]] w fun e w' => e = .returned (.tuple #[]) ∧ Own T (.slice ao l.length cp) (ord (wt k) l) w' ∧ w.grownBy w' (Value.slice ao l.length cp).ownBlock := by
    have h20 : ¬ (20 : Int) ≤ (l.length : Int) := by omega
    have h21 : ¬ (20 : Int) < (l.length : Int) := by omega
    clear h hw hV ht
    go_enter Tryd.func37, Tryd.ntmps37
    go_wp2_with fail
    refine wp_loop_rounds 1 ?_
    rw [rounds_succ]
    go_wp2_with fail
    go_call hins as e w1 ⟨rfl, h1, h2⟩
    go_wp2_with fail
    refine wp_loop_rounds 1 ?_
    rw [rounds_succ]
    go_wp2_with fail
    go_end0
    exact ⟨rfl, h1, h2⟩
  clear hins h hw hV ht
  go_enter Tryd.func26, Tryd.ntmps26
  go_wp2_with fail
  go_call hst as e w1 ⟨rfl, h1, h2⟩
  go_wp2_with fail
  go_end0
  exact ⟨rfl, h1, h2⟩
/-- Nothing that was there has turned, but a row. -/
theorem below_grown {T : Nat} {w w1 w2 : World} {g : Option Nat} (h : Below T w w1) (hg : w1.grownBy w2 g) (ht : T ≤ w1.heap.size) (hr : ∀ k, g = some k → T ≤ k) : Below T w w2 :=
  h.trans ⟨hg.os, hg.tape, hg.output, hg.size, fun k hk => hg.block k (by omega) (fun e => by have := hr k e.symm; omega)⟩
theorem Own.blk {T : Nat} {v : Value} {l : List Int} {w : World} (h : Own T v l w) : ∀ k, v.ownBlock = some k → T ≤ k := fun k e => (World.ownsRow.lt h k e).1
theorem Own.ne {T : Nat} {v : Value} {l : List Int} {w : World} (h : Own T v l w) {b : Nat} {c : Array Value} {t : TypeId} (hb : w.heap[b]? = some (.cells c t)) (ht : t ≠ 3) : some b ≠ v.ownBlock := by
  rcases h.cases with ⟨rfl, rfl⟩ | ⟨g, cap, cur, rfl, h2, h3, _⟩
  · simp [Value.ownBlock]
  · intro e
    have : b = g := by simpa [Value.ownBlock] using e
    rw [this, h3] at hb
    injection hb with hb
    injection hb with _ e _
    exact ht e.symm
set_option maxHeartbeats 1000000 in
theorem sorted18 {k : ByteArray} {X : Nat} {f v : Value} {l : List Int} {w : World} (h : Rd v l w) (hl : l.length ≤ 64) (ht : Tab w) (hw : Wg k f X w) (hb : ∀ x ∈ l, 0 ≤ x ∧ x ≤ 1000) (hd : (compact (asc l)).length ≤ 19) :
    Calls Tryd.prog 18 #[v, f] w fun e w' => ∃ v', e = .returned v' ∧ Own w.heap.size v' (ord (wt k) l) w' ∧ Below w.heap.size w w' := by
  obtain ⟨ao, cp, rfl, -⟩ := id h
  obtain rfl : f = _ := hw.1
  have hb1 : Below w.heap.size w (w.alloc (.cells #[.func (.func 30) #[] #[.pointer (some ⟨X, 0, none⟩)]] 41)) := (Below.refl _ _).alloc (Nat.le_refl _) _
  have h1 := clone24 (h.below hb1) hl
  have ht1 := ht.below ht.size hb1
  have hw1 : Wg k _ X (w.alloc (.cells #[.func (.func 30) #[] #[.pointer (some ⟨X, 0, none⟩)]] 41)) := ⟨hw.1, (hb1.block X (getElem?_lt hw.2)).trans hw.2⟩
  have hV1 := heap_new w (.cells #[.func (.func 30) #[] #[.pointer (some ⟨X, 0, none⟩)]] 41)
  have HB : Hid (∀ x ∈ l, 0 ≤ x ∧ x ≤ 1000) := hb
  have HW : Hid (Wg k (.func (.func 30) #[] #[.pointer (some ⟨X, 0, none⟩)]) X (w.alloc (.cells #[.func (.func 30) #[] #[.pointer (some ⟨X, 0, none⟩)]] 41))) := hw1
  have HV : Hid _ := hV1
  have HT : Hid _ := ht1
  have H0 : Hid (0 < w.heap.size) := ht.size
  have HB1 : Hid _ := hb1
  clear h hb hw hw1 hV1 ht ht1 hb1
  go_enter Tryd.func18, Tryd.ntmps18
  go_wp2_with fail
  go_call h1 as e w1 ⟨v1, rfl, o1, b1⟩
  have o1' : Own w.heap.size v1 l w1 := o1.mono (HB1.out.size)
  have h2 := sort22 o1' hl
  have B1 : Hid (Below w.heap.size w w1) := HB1.out.trans (b1.mono HB1.out.size)
  have W1 : Hid (Wg k (.func (.func 30) #[] #[.pointer (some ⟨X, 0, none⟩)]) X w1) := ⟨HW.out.1, (b1.block X (getElem?_lt HW.out.2)).trans HW.out.2⟩
  have V1 : Hid _ := (b1.block _ (getElem?_lt HV.out)).trans HV.out
  have T1 : Hid (Tab w1) := HT.out.below HT.out.size b1
  have O1 : Hid (Own w.heap.size v1 l w1) := o1'
  clear o1 o1' b1 h1 HW HV HT HB1
  go_wp2_with fail
  go_call h2 as e w2 ⟨rfl, o2, g2⟩
  have h3 := compact25 o2 (by rw [(asc_perm l).length_eq]; exact hl)
  have B2 : Hid (Below w.heap.size w w2) := below_grown B1.out g2 B1.out.size O1.out.blk
  have nX1 := O1.out.ne W1.out.2 (by decide)
  have nV1 := O1.out.ne V1.out (by decide)
  have W2 : Hid (Wg k (.func (.func 30) #[] #[.pointer (some ⟨X, 0, none⟩)]) X w2) := ⟨W1.out.1, (g2.block X (getElem?_lt W1.out.2) nX1).trans W1.out.2⟩
  have V2 : Hid _ := (g2.block _ (getElem?_lt V1.out) nV1).trans V1.out
  have T2 : Hid (Tab w2) := T1.out.below H0.out ⟨g2.os, g2.tape, g2.output, g2.size, fun k hk => g2.block k (Nat.lt_of_lt_of_le hk B1.out.size) (fun e => by have := O1.out.blk k e.symm; omega)⟩
  have O2 : Hid (Own w.heap.size v1 (asc l) w2) := o2
  clear o2 g2 h2 W1 V1 T1 B1 O1 nX1 nV1
  go_wp2_with fail
  go_call h3 as e w3 ⟨v3, rfl, o3, e3, g3⟩
  have hca := comp_asc l
  have B3 : Hid (Below w.heap.size w w3) := below_grown B2.out g3 B2.out.size O2.out.blk
  have nX2 := O2.out.ne W2.out.2 (by decide)
  have nV2 := O2.out.ne V2.out (by decide)
  have w3' : Wg k (.func (.func 30) #[] #[.pointer (some ⟨X, 0, none⟩)]) X w3 := ⟨W2.out.1, (g3.block X (getElem?_lt W2.out.2) nX2).trans W2.out.2⟩
  have v3' := (g3.block _ (getElem?_lt V2.out) nV2).trans V2.out
  have t3' : Tab w3 := T2.out.below H0.out ⟨g3.os, g3.tape, g3.output, g3.size, fun k hk => g3.block k (Nat.lt_of_lt_of_le hk B2.out.size) (fun e => by have := O2.out.blk k e.symm; omega)⟩
  have h4 := stable26 o3 hd t3' w3' v3' H0.out hca.1 (fun x hx => HB.out x ((hca.2 x).1 hx))
  have HE : Hid (ord (wt k) (compact (asc l)) = ord (wt k) l) := ord_congr hca.2
  have O3 : Hid (Own w.heap.size v3 (compact (asc l)) w3) := o3
  clear o3 g3 h3 W2 V2 T2 B2 O2 nX2 nV2 w3' v3' t3' hca e3
  go_wp2_with fail
  go_call h4 as e w4 ⟨rfl, o4, g4⟩
  go_wp2
  go_ret
  rw [HE.out] at o4
  exact ⟨_, rfl, o4, below_grown B3.out g4 B3.out.size O3.out.blk⟩
end Go.Proofs.YtbbapaphfijpcaaDoor
