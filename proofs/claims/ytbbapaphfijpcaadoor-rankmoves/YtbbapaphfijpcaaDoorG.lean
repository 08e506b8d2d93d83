/- rank's Order, Top, and what moves, as calls; the document's order. -/
import Derived.Test.YtbbapaphfijpcaaDoorF
namespace Go.Proofs.YtbbapaphfijpcaaDoor
open Go.RowKit Go.Sort Go.Lib
theorem Own.kept {T : Nat} {v : Value} {l : List Int} {w w' : World} {g : Option Nat} (h : Own T v l w) (hg : w.grownBy w' g) (hne : v.ownBlock = none ∨ v.ownBlock ≠ g) : Own T v l w' := World.ownsRow.kept h hg hne
theorem comp_le {l : List Int} (h : l.length ≤ 19) : (compact (asc l)).length ≤ 19 := by
  have h1 := comp_len (asc l)
  have h2 := (asc_perm l).length_eq
  omega
set_option maxHeartbeats 1000000 in
theorem order11 {k : ByteArray} {v : Value} {l : List Int} {w : World} (hk : k.size ≤ 9223372036854775807) (h : Rd v l w) (hl : l.length ≤ 64) (ht : Tab w) (hb : ∀ x ∈ l, 0 ≤ x ∧ x ≤ 1000) (hd : (compact (asc l)).length ≤ 19) :
    Calls Tryd.prog 11 #[.string k, v] w fun e w' => ∃ v', e = .returned v' ∧ Own w.heap.size v' (ord (wt k) l) w' ∧ Below w.heap.size w w' := by
  obtain ⟨ao, cp, rfl, -⟩ := id h
  have h1 := weighing19 k hk w ht
  have HR : Hid (Rd (.slice ao l.length cp) l w) := h
  have HT : Hid (Tab w) := ht
  have HB : Hid (∀ x ∈ l, 0 ≤ x ∧ x ≤ 1000) := hb
  clear h ht hb
  go_enter Tryd.func11, Tryd.ntmps11
  go_wp2_with fail
  go_call h1 as e w1 ⟨f, X, rfl, hw, hX, b1⟩
  have h2 := sorted18 (HR.out.below b1) hl (HT.out.below HT.out.size b1) hw HB.out hd
  obtain rfl : f = _ := hw.1
  have B1 : Hid (Below w.heap.size w w1) := b1
  clear hw hX b1 h1
  go_wp2_with fail
  go_call h2 as e w2 ⟨v', rfl, o2, b2⟩
  go_wp2
  go_ret
  exact ⟨_, rfl, o2.mono B1.out.size, B1.out.trans (b2.mono B1.out.size)⟩
set_option maxHeartbeats 1000000 in
theorem top12 {k : ByteArray} {v : Value} {l : List Int} {w : World} (r : Int) (hk : k.size ≤ 9223372036854775807) (h : Rd v l w) (hl : l.length ≤ 64) (ht : Tab w) (hb : ∀ x ∈ l, 0 ≤ x ∧ x ≤ 1000) (hd : (compact (asc l)).length ≤ 19) :
    Calls Tryd.prog 12 #[.string k, v, .int .i64 r] w fun e w' => ∃ v', e = .returned v' ∧ Own w.heap.size v' ((ord (wt k) l).take r.toNat) w' ∧ Below w.heap.size w w' := by
  obtain ⟨ao, cp, rfl, -⟩ := id h
  have h1 := order11 hk h hl ht hb hd
  clear h ht hb
  go_enter Tryd.func12, Tryd.ntmps12
  go_wp2_with fail
  go_call h1 as e w1 ⟨v', rfl, o1, b1⟩
  obtain ⟨o, ho⟩ : ∃ o, ord (wt k) l = o := ⟨_, rfl⟩
  rw [ho] at o1
  have HT : Hid (o.take r.toNat = o.take (min r.toNat o.length)) := by
    show _ = _
    rw [← List.take_take, List.take_length]
  have HO : Hid (ord (wt k) l = o) := ho
  clear ho
  rcases o1.cases with ⟨rfl, rfl⟩ | ⟨g, cap, cur, rfl, h2, h3, h4, h5, h6, h7⟩
  · have hm : min (max r 0) (0 : Int) = 0 := by omega
    clear h1
    go_wp2
    go_ret
    refine ⟨_, rfl, ?_, b1⟩
    rw [HO.out, List.take_nil]
    exact World.ownsRow_nil _ _ _ _
  · obtain ⟨n, hn⟩ : ∃ n : Nat, min r.toNat o.length = n := ⟨_, rfl⟩
    have hm : min (max r 0) (o.length : Int) = (n : Int) := by omega
    have hno : n ≤ o.length := by omega
    rw [hn] at HT
    have H7 : Hid (cur.toList.take n = (o.take n).map (Value.int .i64)) := by
      show _ = _
      have : (cur.toList.take o.length).take n = (o.map (Value.int .i64)).take n := by rw [h7]
      rw [List.take_take, Nat.min_eq_left hno, ← List.map_take] at this
      exact this
    have H3 : Hid _ := h3
    have HZ : Hid ((o.take n).length = n) := by show _ = _; rw [List.length_take]; omega
    have hcap : (n : Int) ≤ (cap : Int) := by omega
    have HC : Hid (n ≤ cap ∧ cap ≤ maxLen ∧ cur.size = cap ∧ w.heap.size ≤ g) := ⟨by omega, h5, h6, h2⟩
    clear h7 h3 h1 o1 hn h5 h6 h2
    go_wp2
    go_ret
    refine ⟨_, rfl, ?_, b1⟩
    have := Own.mk (l := o.take n) HC.out.2.2.2 H3.out (by rw [HZ.out]; exact HC.out.1) HC.out.2.1 HC.out.2.2.1 (by rw [HZ.out]; exact H7.out)
    rw [HZ.out] at this
    rw [HO.out, HT.out]
    exact this
theorem search36 {v : Value} {b : List Int} {w : World} (x : Int) (h : Rd v b w) (hs : b.Pairwise (· ≤ ·)) (hb : b.length ≤ 1000) :
    Calls Tryd.prog 36 #[v, .int .i64 x] w fun e w' => ∃ i : Int, e = .returned (.tuple #[.int .i64 i, .bool (decide (x ∈ b))]) ∧ Below w.heap.size w w' := by
  obtain ⟨ao, cp, rfl, h2, h3⟩ := h
  cases b with
  | nil =>
    have hcon := Any.slices_BinarySearch_int_empty Tryd.lays25 ao cp x w
    change Calls Tryd.prog 36 _ _ _ at hcon
    refine hcon.mono ?_
    rintro e w' ⟨rfl, rfl⟩
    exact ⟨0, by simp, Below.refl _ _⟩
  | cons y t =>
    obtain ⟨g, o, rfl, h4, h5⟩ := h3 (by simp)
    have hcon := Any.slices_BinarySearch_int Tryd.lays25 g o (y :: t).length cp (y :: t) x w (Nat.le_refl _) (by omega) h5 (by rw [List.take_length]; exact hs)
    change Calls Tryd.prog 36 _ _ _ at hcon
    have hd : (y :: t).contains x = decide (x ∈ y :: t) := by rw [Bool.eq_iff_iff]; simp
    rw [List.take_length, hd] at hcon
    refine hcon.mono ?_
    rintro e w' ⟨rfl, q, rfl⟩
    exact ⟨_, rfl, rfl, rfl, rfl, Nat.le_refl _, fun _ _ => rfl⟩
set_option maxHeartbeats 1000000 in
theorem without23 {u v : Value} {a b : List Int} {w : World} (h : Rd u a w) (k : Rd v b w) (hs : b.Pairwise (· ≤ ·)) (ha : a.length ≤ 64) (hb : b.length ≤ 64) :
    Calls Tryd.prog 23 #[u, v] w fun e w' => ∃ v', e = .returned v' ∧ Own w.heap.size v' (wo a b) w' ∧ Below w.heap.size w w' := by
  obtain ⟨ao, cp, rfl, h2, h3⟩ := h
  obtain ⟨bo, cq, rfl, -⟩ := id k
  have H3 : Hid _ := h3
  have HK : Hid (Rd (.slice bo b.length cq) b w) := k
  clear h3 h2 k
  go_enter Tryd.func23, Tryd.ntmps23
  go_wp2_with fail
  go_loopw [5, 12] (fun x y wr => ∃ (i : Nat), y = .int .i64 (i : Nat) ∧ i ≤ a.length ∧ Hid (Own w.heap.size x (wo (a.take i) b) wr) ∧ Hid (Below w.heap.size w wr)) (fun _ y _ => a.length - (intOf y).toNat)
  case atStart => exact ⟨0, rfl, Nat.zero_le _, World.ownsRow_nil _ _ _ _, Below.refl _ _⟩
  case round =>
    obtain ⟨i, rfl, hi, hO, hB⟩ := hrel
    by_cases hlt : i < a.length
    · obtain ⟨ba, oa, rfl, h4, h5⟩ := H3.out (by omega)
      have c1 : wr.cell? ⟨ba, oa + i, none⟩ = some (.int .i64 (a.getD i 0)) := (hB.out.cell h4).trans (h5 i hlt)
      have HT : Hid (a.take (i + 1) = a.take i ++ [a.getD i 0]) := by
        show _ = _
        rw [List.take_succ_eq_append_getElem hlt]
        simp [List.getD, hlt]
      have hsr := search36 (a.getD i 0) (HK.out.below ((Below.mono hB.out (Nat.le_refl _)))) hs (by omega)
      have HN : Hid ((wo (a.take i) b).length ≤ 64) := by
        show _ ≤ _
        unfold wo
        refine Nat.le_trans (List.length_filter_le _ _) ?_
        rw [List.length_take]; omega
      clear h5
      generalize a.getD i 0 = y at *
      by_cases hin : y ∈ b
      · have HW : Hid (wo (a.take (i + 1)) b = wo (a.take i) b) := by
          show _ = _
          rw [HT.out]; unfold wo
          rw [List.filter_append]
          simp [hin]
        have hd : decide (y ∈ b) = true := decide_eq_true hin
        rw [hd] at hsr
        clear hin hd HT
        go_wp2_with fail
        go_call hsr as e w1 ⟨q, rfl, b1⟩
        have O1 : Hid (Own w.heap.size u5 (wo (a.take i) b) w1) := hO.out.below b1
        have B1 : Hid (Below w.heap.size w w1) := hB.out.trans (b1.mono hB.out.size)
        clear b1 hsr
        go_wp2
        go_roundw
        case rel => exact ⟨i + 1, by go_num, by omega, by rw [HW.out]; exact O1.out, B1.out⟩
        case measure => simp only [intOf]; omega
      · have HW : Hid (wo (a.take (i + 1)) b = wo (a.take i) b ++ [y]) := by
          show _ = _
          rw [HT.out]; unfold wo
          rw [List.filter_append]
          simp [hin]
        have hd : decide (y ∈ b) = false := decide_eq_false hin
        rw [hd] at hsr
        clear hin hd HT
        go_wp2_with fail
        go_call hsr as e w1 ⟨q, rfl, b1⟩
        have O1 : Hid (Own w.heap.size u5 (wo (a.take i) b) w1) := hO.out.below b1
        have B1 : Hid (Below w.heap.size w w1) := hB.out.trans (b1.mono hB.out.size)
        have hbx : Below w1.heap.size w1 (w1.alloc (.cells #[.int .i64 y] 3)) := (Below.refl _ _).alloc (Nat.le_refl _) _
        have HO2 : Hid (Own w.heap.size u5 (wo (a.take i) b) (w1.alloc (.cells #[.int .i64 y] 3))) := O1.out.below hbx
        have HB2 : Hid (Below w.heap.size w (w1.alloc (.cells #[.int .i64 y] 3))) := B1.out.trans (hbx.mono B1.out.size)
        have HG : Hid ((w1.alloc (.cells #[.int .i64 y] 3)).heap[w1.heap.size]? = some (.cells #[.int .i64 y] 3)) := heap_new _ _
        clear b1 hsr hbx O1 B1 hO hB
        go_wp2_with (refine iappend rfl _ _ rfl w.heap.size _ (wo (a.take i) b) rfl HO2.out ⟨w1.heap.size, 0, none⟩ 1 [y] rfl ?g1 (by have := HN.out; omega) (by simp) HB2.out.size ?k1)
        · intro j hj
          have : j = 0 := by simpa using hj
          subst this
          rw [Addr.add_lit]
          exact cell_of HG.out 0
        · intro v' w' h1 h2 h3
          have H1 : Hid (Own w.heap.size v' (wo (a.take i) b ++ [y]) w') := h1
          have H2 : Hid (Below w.heap.size w w') := HB2.out.trans h2
          clear h1 h2 h3
          go_wp2
          go_roundw
          case rel => exact ⟨i + 1, by go_num, by omega, by rw [HW.out]; exact H1.out, H2.out⟩
          case measure => simp only [intOf]; omega
    · have he : Hid (a.take i = a) := List.take_of_length_le (by omega)
      go_wp2
      go_ret
      have := hO.out
      rw [he.out] at this
      exact ⟨_, rfl, this, hB.out⟩
end Go.Proofs.YtbbapaphfijpcaaDoor
