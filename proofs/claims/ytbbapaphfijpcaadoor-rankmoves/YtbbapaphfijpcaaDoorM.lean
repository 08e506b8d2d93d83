/- RankMoves' walk. -/
import Derived.Test.YtbbapaphfijpcaaDoorI
import Derived.Laws.AppendOwnNone
namespace Go.Proofs.YtbbapaphfijpcaaDoor
open Go.RowKit Go.Sort Go.Lib
/-- All but one. -/
def butL (l : List Int) (x : Int) : List Int := l.filter fun s => decide (s ≠ x)
theorem butL_len (l : List Int) (x : Int) : (butL l x).length ≤ l.length := List.length_filter_le _ _
theorem mem_butL {l : List Int} {x z : Int} : z ∈ butL l x ↔ z ∈ l ∧ z ≠ x := by unfold butL; simp
/-- What comes, and what goes, where one comes. -/
theorem moved_one (k : ByteArray) (l : List Int) (x : Int) (r : Nat) :
    (wo (asc (topL k (butL l x ++ [x]) r)) (asc (topL k (butL l x) r)) = [] ∧ wo (asc (topL k (butL l x) r)) (asc (topL k (butL l x ++ [x]) r)) = []) ∨
    (wo (asc (topL k (butL l x ++ [x]) r)) (asc (topL k (butL l x) r)) = [x] ∧ (wo (asc (topL k (butL l x) r)) (asc (topL k (butL l x ++ [x]) r))).length ≤ 1) := by
  have e1 : topL k (butL l x ++ [x]) r = (ins (wt k) x (ord (wt k) (butL l x))).take r := by
    unfold topL; rw [ord_snoc]; rfl
  have e2 : topL k (butL l x) r = (ord (wt k) (butL l x)).take r := rfl
  have hx : x ∉ ord (wt k) (butL l x) := fun h => (mem_butL.1 (mem_ord.1 h)).2 rfl
  have h := move_one (W := wt k) (ord_pw _ _) hx r
  rw [← e1, ← e2] at h
  have p1 := wo_perm (asc_perm (topL k (butL l x ++ [x]) r)) (fun z => (asc_perm (topL k (butL l x) r)).mem_iff)
  have p2 := wo_perm (asc_perm (topL k (butL l x) r)) (fun z => (asc_perm (topL k (butL l x ++ [x]) r)).mem_iff)
  rcases h with ⟨h1, h2⟩ | ⟨h1, h2⟩
  · rw [h1] at p1; rw [h2] at p2
    exact Or.inl ⟨List.perm_nil.1 p1, List.perm_nil.1 p2⟩
  · rw [h1] at p1
    exact Or.inr ⟨List.perm_singleton.1 p1, by rw [p2.length_eq]; exact h2⟩
theorem one_at {w : World} {x : Int} {g : Nat} (h : w.heap[g]? = some (.cells #[.int .i64 x] 3)) : ∀ j, j < [x].length → w.cell? ((⟨g, 0, none⟩ : Addr).add j) = some (.int .i64 ([x].getD j 0)) := by
  intro j hj
  have : j = 0 := by simpa using hj
  subst this
  rw [Addr.add_lit]
  exact cell_of h 0
theorem iappend0 {ops : Array Oper} {rest : List Oper} {o : Oper} {a : Act} {w : World} {Q : Exit → Act → World → Prop} (hgd : o.guard = none) (s x : Operand) (ho : o.op = .call { callee := .builtin .append, args := #[s, x], argTypes := #[22, 22] })
    (base : Nat) (v : Value) (hs : a.eval s = v) (hown : Own base v [] w) (ad : Addr) (c : Nat) (ms : List Int) (hx : a.eval x = .slice (some ad) ms.length c) (hG : ∀ j, j < ms.length → w.cell? (ad.add j) = some (.int .i64 (ms.getD j 0))) (hm : ms.length ≤ 1000) (hb : base ≤ w.heap.size)
    (k : ∀ v' w', Own base v' ms w' → Below base w w' → wpList Tryd.prog ops Q rest (a.put o.dst v') w') : wpList Tryd.prog ops Q (o :: rest) a w :=
  iappend hgd s x ho base v [] hs hown ad c ms hx hG (by decide) hm hb fun v' w' h1 h2 _ => k v' w' h1 h2
theorem row_at {T g cap : Nat} {l : List Int} {w : World} (h : Own T (.slice (some ⟨g, 0, none⟩) l.length cap) l w) : ∀ j, j < l.length → w.cell? ((⟨g, 0, none⟩ : Addr).add j) = some (.int .i64 (l.getD j 0)) := by
  intro j hj
  obtain ⟨a1, c1, e1, -, h5⟩ := h.rd
  obtain ⟨b, o, e2, -, h7⟩ := h5 (by omega)
  injection e1 with e1 _ _
  rw [← e1] at e2
  injection e2 with e2
  injection e2 with e2 e3
  subst e2 e3
  rw [Addr.add_lit]
  exact h7 j hj
set_option maxHeartbeats 8000000 in
set_option maxRecDepth 100000 in
theorem moves_walk {l0 : List Int} {ao : Option Addr} {n cp : Nat} (s : ByteArray) (one0 r0 : Int) (hs : s.size ≤ 9223372036854775807) (w : World) (ht : Tab w) (h : Rd (.slice ao n cp) l0 w) (hz : l0.length ≤ 9223372036854775807) :
    Calls Tryd.prog 4 #[.agg #[.string s, .slice ao n cp, .int .i64 one0, .int .i64 r0]] w fun e w' => e = .returned (.bool true) ∧ Below w.heap.size w w' := by
  have hb1 : Below w.heap.size w (w.alloc (.cells #[.string s, .slice ao n cp, .int .i64 one0, .int .i64 r0] 33)) := (Below.refl _ _).alloc (Nat.le_refl _) _
  have ha := awake7 _ (ht.below ht.size hb1)
  have HT : Hid (Tab w) := ht
  have HR : Hid (Rd (.slice ao n cp) l0 w) := h
  have HB1 : Hid (Below w.heap.size w (w.alloc (.cells #[.string s, .slice ao n cp, .int .i64 one0, .int .i64 r0] 33))) := hb1
  have HX : Hid ((w.alloc (.cells #[.string s, .slice ao n cp, .int .i64 one0, .int .i64 r0] 33)).heap[w.heap.size]? = some (.cells #[.string s, .slice ao n cp, .int .i64 one0, .int .i64 r0] 33)) := heap_new _ _
  have mixed : Tryd.prog.follows .mixedOrders = true := by kernel_rfl
  clear ht h hb1
  go_enter Tryd.func4, Tryd.ntmps4
  go_wp2_with fail
  go_call ha as e w1 ⟨rfl, b1⟩
  have B1 : Hid (Below w.heap.size w w1) := HB1.out.trans (b1.mono HB1.out.size)
  have X1 := (b1.block _ (getElem?_lt HX.out)).trans HX.out
  have c0 : w1.cell? ⟨w.heap.size, 0, none⟩ = some (.string s) := cell_of X1 0
  have c1 : w1.cell? ⟨w.heap.size, 1, none⟩ = some (.slice ao n cp) := cell_of X1 1
  have c2 : w1.cell? ⟨w.heap.size, 2, none⟩ = some (.int .i64 one0) := cell_of X1 2
  have c3 : w1.cell? ⟨w.heap.size, 3, none⟩ = some (.int .i64 r0) := cell_of X1 3
  clear ha b1 HB1 HX X1
  go_wp2_with fail
  go_quiet (fail)
  have B2 : Hid (Below w.heap.size w (w1.drewN nq)) := B1.out.trans ⟨rfl, rfl, rfl, Nat.le_refl _, fun _ _ => rfl⟩
  clear B1 c0 c1 c2 c3
  generalize w1.drewN nq = w2 at *
  have hK := cut_size s
  have hcut := cut24 s hs
  obtain ⟨k, hk⟩ : ∃ k, s.extract 0 24 = k := ⟨_, rfl⟩
  rw [hk] at hK hcut
  obtain ⟨l, hl⟩ : ∃ l, fewL l0 = l := ⟨_, rfl⟩
  have hl16 : l.length ≤ 16 := by rw [← hl]; exact fewL_len _
  have HM : Hid (∀ x ∈ l, 0 ≤ x ∧ x ≤ 1000) := by rw [← hl]; exact fun x hx => fewL_mem hx
  have HL : Hid (fewL l0 = l) := hl
  have hcut1 := hcut w2
  have hfew := few9 (HR.out.below ((Below.mono B2.out (Nat.le_refl _)))) hz
  rw [HL.out] at hfew
  clear hk hl hcut
  go_wp2_with fail
  go_call hcut1 as e w3 ⟨rfl, rfl⟩
  go_wp2_with fail
  go_call hfew as e w4 ⟨vl, rfl, ol, b4⟩
  have B4 : Hid (Below w.heap.size w w4) := B2.out.trans (b4.mono B2.out.size)
  have OL : Hid (Rd vl l w4) := ol.rd
  obtain ⟨al, cl, rfl⟩ := ol.len
  obtain ⟨y, hy⟩ : ∃ y, (one0 % 1024) % 1000 = y := ⟨_, rfl⟩
  have hy0 : 0 ≤ y := by omega
  have hy1 : y < 1000 := by omega
  have hand := i64_and1023 one0
  have htm : (one0 % 1024).tmod 1000 = y := by rw [Int.tmod_eq_emod_of_nonneg (by omega)]; exact hy
  obtain ⟨r, hr⟩ : ∃ r : Nat, max 0 (min r0 6) = (r : Int) := ⟨(max 0 (min r0 6)).toNat, by omega⟩
  obtain ⟨one, hone⟩ : ∃ one : Int, 1 + y = one := ⟨_, rfl⟩
  have hone0 : 0 ≤ one ∧ one ≤ 1000 := by omega
  have HONE : Hid (0 ≤ one ∧ one ≤ 1000) := hone0
  clear ol b4 hcut1 hfew B2 hy HL HR
  go_wp2_with fail
  rw [hone] at *
  clear hone hand htm hy0 hy1 hone0
  go_loopw [7, 38] (fun x y wr => ∃ (i : Nat), y = .int .i64 (i : Nat) ∧ i ≤ l.length ∧ Hid (Own w4.heap.size x (butL (l.take i) one) wr) ∧ Hid (Below w4.heap.size w4 wr)) (fun _ y _ => l.length - (intOf y).toNat)
  case atStart => exact ⟨0, rfl, Nat.zero_le _, World.ownsRow_nil _ _ _ _, Below.refl _ _⟩
  case round =>
    obtain ⟨i, rfl, hi, hO, hB⟩ := hrel
    by_cases hlt : i < l.length
    · obtain ⟨a1, c1, e1, -, h5⟩ := OL.out
      obtain ⟨bb, ob, e2, h6, h7⟩ := h5 (by omega)
      injection e1 with e1 _ e3
      subst e3
      rw [← e1] at e2
      subst e2
      have cx : wr.cell? ⟨bb, ob + i, none⟩ = some (.int .i64 (l.getD i 0)) := (hB.out.cell h6).trans (h7 i hlt)
      have HTK : Hid (l.take (i + 1) = l.take i ++ [l.getD i 0]) := by
        show _ = _
        rw [List.take_succ_eq_append_getElem hlt]
        simp [List.getD, hlt]
      have HN : Hid ((butL (l.take i) one).length ≤ 1000) := by
        show _ ≤ _
        have := butL_len (l.take i) one
        rw [List.length_take] at this; omega
      generalize l.getD i 0 = x at *
      clear h5 h7 e1
      by_cases hxo : x = one
      · have HW : Hid (butL (l.take (i + 1)) one = butL (l.take i) one) := by
          show _ = _
          rw [HTK.out]; unfold butL
          rw [List.filter_append]
          simp [hxo]
        have hb : (x != one) = false := by rw [hxo]; exact bne_self_eq_false _
        clear hxo
        go_wp2
        go_roundw
        case rel => exact ⟨i + 1, by go_num, by omega, by rw [HW.out]; exact hO.out, hB.out⟩
        case measure => simp only [intOf]; omega
      · have HW : Hid (butL (l.take (i + 1)) one = butL (l.take i) one ++ [x]) := by
          show _ = _
          rw [HTK.out]; unfold butL
          rw [List.filter_append]
          simp [hxo]
        have hb : (x != one) = true := by simpa using hxo
        have hbx : Below wr.heap.size wr (wr.alloc (.cells #[.int .i64 x] 3)) := (Below.refl _ _).alloc (Nat.le_refl _) _
        have HO2 : Hid (Own w4.heap.size u7 (butL (l.take i) one) (wr.alloc (.cells #[.int .i64 x] 3))) := hO.out.below hbx
        have HB2 : Hid (Below w4.heap.size w4 (wr.alloc (.cells #[.int .i64 x] 3))) := hB.out.trans (hbx.mono hB.out.size)
        have HG : Hid ((wr.alloc (.cells #[.int .i64 x] 3)).heap[wr.heap.size]? = some (.cells #[.int .i64 x] 3)) := heap_new _ _
        clear hxo hbx
        go_wp2_with (refine iappend rfl _ _ rfl w4.heap.size _ (butL (l.take i) one) rfl HO2.out ⟨wr.heap.size, 0, none⟩ 1 [x] rfl (one_at HG.out) HN.out (by simp) HB2.out.size ?ka)
        intro v' w' h1 h2 h3
        have H1 : Hid (Own w4.heap.size v' (butL (l.take i) one ++ [x]) w') := h1
        have H2 : Hid (Below w4.heap.size w4 w') := HB2.out.trans h2
        clear h1 h2 h3
        go_wp2
        go_roundw
        case rel => exact ⟨i + 1, by go_num, by omega, by rw [HW.out]; exact H1.out, H2.out⟩
        case measure => simp only [intOf]; omega
    · have he : l.take i = l := List.take_of_length_le (by omega)
      rw [he] at hO
      obtain ⟨rs, hrs⟩ : ∃ x, butL l one = x := ⟨_, rfl⟩
      have hrl : rs.length ≤ 16 := by rw [← hrs]; have := butL_len l one; omega
      have HRS : Hid (butL l one = rs) := hrs
      rw [hrs] at hO
      clear he hrs hi
      have hb0 : Below wr.heap.size wr (wr.alloc (.cells #[] 3)) := (Below.refl _ _).alloc (Nat.le_refl _) _
      have O0 : Hid (Own wr.heap.size (.slice (some ⟨wr.heap.size, 0, none⟩) 0 0) [] (wr.alloc (.cells #[] 3))) := Own.mk (l := []) (Nat.le_refl _) (heap_new _ _) (Nat.le_refl _) (by decide) rfl rfl
      have BA0 : Hid (Below wr.heap.size wr (wr.alloc (.cells #[] 3))) := hb0
      have hbx : Below (wr.alloc (.cells #[] 3)).heap.size (wr.alloc (.cells #[] 3)) ((wr.alloc (.cells #[] 3)).alloc (.cells #[.int .i64 one] 3)) := (Below.refl _ _).alloc (Nat.le_refl _) _
      rcases hO.out.cases with ⟨rfl, e0⟩ | ⟨g, cap, cur, rfl, _⟩
      · subst e0
        have O1 : Hid (Own wr.heap.size (.slice (some ⟨wr.heap.size, 0, none⟩) 0 0) [] ((wr.alloc (.cells #[] 3)).alloc (.cells #[.int .i64 one] 3))) := O0.out.below hbx
        have BA1 : Hid (Below wr.heap.size wr ((wr.alloc (.cells #[] 3)).alloc (.cells #[.int .i64 one] 3))) := BA0.out.trans (hbx.mono BA0.out.size)
        have HG : Hid (((wr.alloc (.cells #[] 3)).alloc (.cells #[.int .i64 one] 3)).heap[wr.heap.size + 1]? = some (.cells #[.int .i64 one] 3)) := by
          have := heap_new (wr.alloc (.cells #[] 3)) (.cells #[.int .i64 one] 3)
          rw [show (wr.alloc (.cells #[] 3)).heap.size = wr.heap.size + 1 by simp] at this
          exact this
        obtain ⟨i0, hi0, -⟩ := info_parts info3
        clear hbx hb0
        go_wp2_with (first | (refine wpList_append_own_none rfl _ _ 22 rfl wr.heap.size 3 i0 1 Tryd.underlying22 hi0 (.slice (some ⟨wr.heap.size, 0, none⟩) 0 0) 0 [] rfl O0.out rfl ?kb) | (refine iappend0 rfl _ _ rfl wr.heap.size (.slice (some ⟨wr.heap.size, 0, none⟩) 0 0) rfl O1.out ⟨wr.heap.size + 1, 0, none⟩ 1 [one] rfl (one_at HG.out) (by simp) BA1.out.size ?kc))
        intro vw wZ h1 h2
        obtain ⟨rs, hrs0⟩ : ∃ x : List Int, x = [] := ⟨_, rfl⟩
        have OW : Hid (Own wr.heap.size vw (rs ++ [one]) wZ) := by
          show Own _ _ _ _
          rw [hrs0]; exact h1
        have BZ : Hid (Below wr.heap.size wr wZ) := BA1.out.trans h2
        clear h1 h2 O0 O1 BA0 BA1 HG
        rw [← hrs0] at HRS hO
        have hrl : rs.length ≤ 16 := by rw [hrs0]; decide
        clear hrs0
        obtain ⟨ws, hws⟩ : ∃ ws, rs ++ [one] = ws := ⟨_, rfl⟩
        rw [hws] at OW
        have HWS : Hid (rs ++ [one] = ws) := hws
        have hwl : ws.length ≤ 17 := by rw [← hws]; simp; omega
        obtain ⟨aw, cw, rfl⟩ := OW.out.len
        clear hws
        have BW : Hid (Below w.heap.size w wZ) := B4.out.trans ((hB.out.trans (BZ.out.mono hB.out.size)).mono B4.out.size)
        have hrm : ∀ x ∈ rs, 0 ≤ x ∧ x ≤ 1000 := by
          intro x hx; rw [← HRS.out] at hx; exact HM.out x (mem_butL.1 hx).1
        have hwm : ∀ x ∈ ws, 0 ≤ x ∧ x ≤ 1000 := by
          intro x hx; rw [← HWS.out] at hx
          rcases List.mem_append.1 hx with hx | hx
          · exact hrm x hx
          · rw [List.mem_singleton.1 hx]; exact HONE.out
        have RU : Hid (Rd (.slice none 0 0) rs wZ) := hO.out.rd.below BZ.out
        have RW : Hid (Rd (.slice aw ws.length cw) ws wZ) := OW.out.rd
        have hmv : ∀ W, Below wZ.heap.size wZ W → Calls Tryd.prog 16 #[.string k, (.slice none 0 0), .slice aw ws.length cw, .int .i64 (r : Nat)] W fun e w' => ∃ x y, e = .returned (.tuple #[x, y]) ∧ Rd x (wo (asc (topL k ws r)) (asc (topL k rs r))) w' ∧ Rd y (wo (asc (topL k rs r)) (asc (topL k ws r))) w' ∧ Below W.heap.size W w' := fun W hb =>
          moved16 (k := k) (r : Int) hK (RU.out.below hb) (RW.out.below hb) (by omega) (by omega) (HT.out.below HT.out.size (BW.out.trans (hb.mono BW.out.size))) hrm hwm
        have hmv2 : ∀ W, Below wZ.heap.size wZ W → Calls Tryd.prog 16 #[.string k, .slice aw ws.length cw, (.slice none 0 0), .int .i64 (r : Nat)] W fun e w' => ∃ x y, e = .returned (.tuple #[x, y]) ∧ Rd x (wo (asc (topL k rs r)) (asc (topL k ws r))) w' ∧ Rd y (wo (asc (topL k ws r)) (asc (topL k rs r))) w' ∧ Below W.heap.size W w' := fun W hb =>
          moved16 (k := k) (r : Int) hK (RW.out.below hb) (RU.out.below hb) (by omega) (by omega) (HT.out.below HT.out.size (BW.out.trans (hb.mono BW.out.size))) hwm hrm
        have hmo := moved_one k l one r
        rw [HRS.out, HWS.out] at hmo
        generalize wo (asc (topL k ws r)) (asc (topL k rs r)) = c at *
        generalize wo (asc (topL k rs r)) (asc (topL k ws r)) = gl at *
        have H1 := hmv wZ (Below.refl _ _)
        have HM2 : Hid (∀ W, Below wZ.heap.size wZ W → Calls Tryd.prog 16 #[.string k, .slice aw ws.length cw, (.slice none 0 0), .int .i64 (r : Nat)] W fun e w' => ∃ x y, e = .returned (.tuple #[x, y]) ∧ Rd x gl w' ∧ Rd y c w' ∧ Below W.heap.size W w') := hmv2
        have HMO : Hid ((c = [] ∧ gl = []) ∨ (c = [one] ∧ gl.length ≤ 1)) := hmo
        clear hmv hmv2 hmo hrm hwm RU RW OW hwl hO hB B4 HT HM HRS HWS HONE OL BZ
        go_wp2_with fail
        go_call H1 as e w5 ⟨x, y, rfl, rx, ry, b5⟩
        have RX : Hid (Rd x c w5) := rx
        have RY : Hid (Rd y gl w5) := ry
        have B5 : Hid (Below wZ.heap.size wZ w5) := b5
        have H2 := HM2.out w5 b5
        clear H1 rx ry b5 HM2
        rcases HMO.out with ⟨e1, e2⟩ | ⟨e1, e2⟩
        · subst e1 e2
          obtain ⟨a1, c1, rfl⟩ := nil_of RX.out
          obtain ⟨a2, c2, rfl⟩ := nil_of RY.out
          go_wp2_with fail
          go_call H2 as e w6 ⟨x2, y2, rfl, rx2, ry2, b6⟩
          have h3 := same15 rx2 (RY.out.below b6) (by decide) (by decide)
          rw [decide_eq_true rfl] at h3
          have RY2 : Hid (Rd y2 [] w6) := ry2
          have RX6 : Hid (Rd (.slice a1 0 c1) [] w6) := RX.out.below b6
          have B6 : Hid (Below wZ.heap.size wZ w6) := B5.out.trans (b6.mono B5.out.size)
          obtain ⟨a3, c3, rfl⟩ := nil_of rx2
          obtain ⟨a4, c4, rfl⟩ := nil_of ry2
          clear H2 rx2 ry2 b6
          go_wp2_with fail
          go_call h3 as e w7 ⟨rfl, b7⟩
          have h4 := same15 (RY2.out.below b7) (RX6.out.below b7) (by simp) (by simp)
          rw [decide_eq_true rfl] at h4
          clear h3
          go_wp2_with fail
          go_call h4 as e w8 ⟨rfl, b8⟩
          go_wp2
          go_ret
          exact ⟨rfl, BW.out.trans ((B6.out.trans ((b7.trans (b8.mono b7.size)).mono B6.out.size)).mono BW.out.size)⟩
        · subst e1
          obtain ⟨a1, c1, ex, -, hx1⟩ := RX.out
          obtain ⟨g1, o1, rfl, _, hx2⟩ := hx1 (by simp)
          obtain rfl : x = .slice (some ⟨g1, o1, none⟩) 1 c1 := ex
          have cx := hx2 0 (by simp)
          have cx0 : w5.cell? ⟨g1, o1, none⟩ = some (.int .i64 one) := cx
          obtain ⟨a2, c2, ey, -⟩ := RY.out
          obtain ⟨gz, hgz⟩ : ∃ gz, gl.length = gz := ⟨_, rfl⟩
          rw [hgz] at ey e2
          subst ey
          have HGZ : Hid (gl.length = gz) := hgz
          have hg1 : ¬ (1 : Int) < (gz : Int) := by omega
          have hb1 : (one != one) = false := bne_self_eq_false _
          clear hx1 hx2 cx hgz HMO
          go_wp2_with fail
          go_call H2 as e w6 ⟨x2, y2, rfl, rx2, ry2, b6⟩
          have h3 := same15 rx2 (RY.out.below b6) (by have := HGZ.out; omega) (by have := HGZ.out; omega)
          rw [decide_eq_true rfl] at h3
          have RY2 : Hid (Rd y2 [one] w6) := ry2
          have RX6 : Hid (Rd (.slice (some ⟨g1, o1, none⟩) 1 c1) [one] w6) := RX.out.below b6
          have B6 : Hid (Below wZ.heap.size wZ w6) := B5.out.trans (b6.mono B5.out.size)
          obtain ⟨a3, c3, e3, -⟩ := rx2
          obtain ⟨a4, c4, e4, -⟩ := ry2
          rw [HGZ.out] at e3
          obtain rfl : y2 = .slice a4 1 c4 := e4
          subst e3
          clear H2 b6 cx0
          go_wp2_with fail
          go_call h3 as e w7 ⟨rfl, b7⟩
          have h4 := same15 (RY2.out.below b7) (RX6.out.below b7) (by simp) (by simp)
          rw [decide_eq_true rfl] at h4
          clear h3
          go_wp2_with fail
          go_call h4 as e w8 ⟨rfl, b8⟩
          go_wp2
          go_ret
          exact ⟨rfl, BW.out.trans ((B6.out.trans ((b7.trans (b8.mono b7.size)).mono B6.out.size)).mono BW.out.size)⟩
      · clear hbx hb0
        go_wp2_with (refine iappend0 rfl _ _ rfl wr.heap.size (.slice (some ⟨wr.heap.size, 0, none⟩) 0 0) rfl O0.out ⟨g, 0, none⟩ cap rs rfl (row_at (hO.out.below BA0.out)) (by omega) BA0.out.size ?kd)
        intro v1 w1 h1 h2
        have O1 : Hid (Own wr.heap.size v1 rs w1) := h1
        have BA1 : Hid (Below wr.heap.size wr w1) := BA0.out.trans h2
        have hbx : Below w1.heap.size w1 (w1.alloc (.cells #[.int .i64 one] 3)) := (Below.refl _ _).alloc (Nat.le_refl _) _
        have O2 : Hid (Own wr.heap.size v1 rs (w1.alloc (.cells #[.int .i64 one] 3))) := O1.out.below hbx
        have BA2 : Hid (Below wr.heap.size wr (w1.alloc (.cells #[.int .i64 one] 3))) := BA1.out.trans (hbx.mono BA1.out.size)
        have HG : Hid ((w1.alloc (.cells #[.int .i64 one] 3)).heap[w1.heap.size]? = some (.cells #[.int .i64 one] 3)) := heap_new _ _
        clear h1 h2 hbx O0 O1 BA0 BA1
        go_wp2_with (refine iappend rfl _ _ rfl wr.heap.size v1 rs rfl O2.out ⟨w1.heap.size, 0, none⟩ 1 [one] rfl (one_at HG.out) (by omega) (by simp) BA2.out.size ?ke)
        intro vw wZ h1 h2 h3
        have OW : Hid (Own wr.heap.size vw (rs ++ [one]) wZ) := h1
        have BZ : Hid (Below wr.heap.size wr wZ) := BA2.out.trans h2
        clear h1 h2 h3 O2 BA2 HG
        obtain ⟨ws, hws⟩ : ∃ ws, rs ++ [one] = ws := ⟨_, rfl⟩
        rw [hws] at OW
        have HWS : Hid (rs ++ [one] = ws) := hws
        have hwl : ws.length ≤ 17 := by rw [← hws]; simp; omega
        obtain ⟨aw, cw, rfl⟩ := OW.out.len
        clear hws
        have BW : Hid (Below w.heap.size w wZ) := B4.out.trans ((hB.out.trans (BZ.out.mono hB.out.size)).mono B4.out.size)
        have hrm : ∀ x ∈ rs, 0 ≤ x ∧ x ≤ 1000 := by
          intro x hx; rw [← HRS.out] at hx; exact HM.out x (mem_butL.1 hx).1
        have hwm : ∀ x ∈ ws, 0 ≤ x ∧ x ≤ 1000 := by
          intro x hx; rw [← HWS.out] at hx
          rcases List.mem_append.1 hx with hx | hx
          · exact hrm x hx
          · rw [List.mem_singleton.1 hx]; exact HONE.out
        have RU : Hid (Rd (.slice (some ⟨g, 0, none⟩) rs.length cap) rs wZ) := hO.out.rd.below BZ.out
        have RW : Hid (Rd (.slice aw ws.length cw) ws wZ) := OW.out.rd
        have hmv : ∀ W, Below wZ.heap.size wZ W → Calls Tryd.prog 16 #[.string k, (.slice (some ⟨g, 0, none⟩) rs.length cap), .slice aw ws.length cw, .int .i64 (r : Nat)] W fun e w' => ∃ x y, e = .returned (.tuple #[x, y]) ∧ Rd x (wo (asc (topL k ws r)) (asc (topL k rs r))) w' ∧ Rd y (wo (asc (topL k rs r)) (asc (topL k ws r))) w' ∧ Below W.heap.size W w' := fun W hb =>
          moved16 (k := k) (r : Int) hK (RU.out.below hb) (RW.out.below hb) (by omega) (by omega) (HT.out.below HT.out.size (BW.out.trans (hb.mono BW.out.size))) hrm hwm
        have hmv2 : ∀ W, Below wZ.heap.size wZ W → Calls Tryd.prog 16 #[.string k, .slice aw ws.length cw, (.slice (some ⟨g, 0, none⟩) rs.length cap), .int .i64 (r : Nat)] W fun e w' => ∃ x y, e = .returned (.tuple #[x, y]) ∧ Rd x (wo (asc (topL k rs r)) (asc (topL k ws r))) w' ∧ Rd y (wo (asc (topL k ws r)) (asc (topL k rs r))) w' ∧ Below W.heap.size W w' := fun W hb =>
          moved16 (k := k) (r : Int) hK (RW.out.below hb) (RU.out.below hb) (by omega) (by omega) (HT.out.below HT.out.size (BW.out.trans (hb.mono BW.out.size))) hwm hrm
        have hmo := moved_one k l one r
        rw [HRS.out, HWS.out] at hmo
        generalize wo (asc (topL k ws r)) (asc (topL k rs r)) = c at *
        generalize wo (asc (topL k rs r)) (asc (topL k ws r)) = gl at *
        have H1 := hmv wZ (Below.refl _ _)
        have HM2 : Hid (∀ W, Below wZ.heap.size wZ W → Calls Tryd.prog 16 #[.string k, .slice aw ws.length cw, (.slice (some ⟨g, 0, none⟩) rs.length cap), .int .i64 (r : Nat)] W fun e w' => ∃ x y, e = .returned (.tuple #[x, y]) ∧ Rd x gl w' ∧ Rd y c w' ∧ Below W.heap.size W w') := hmv2
        have HMO : Hid ((c = [] ∧ gl = []) ∨ (c = [one] ∧ gl.length ≤ 1)) := hmo
        clear hmv hmv2 hmo hrm hwm RU RW OW hwl hO hB B4 HT HM HRS HWS HONE OL BZ
        go_wp2_with fail
        go_call H1 as e w5 ⟨x, y, rfl, rx, ry, b5⟩
        have RX : Hid (Rd x c w5) := rx
        have RY : Hid (Rd y gl w5) := ry
        have B5 : Hid (Below wZ.heap.size wZ w5) := b5
        have H2 := HM2.out w5 b5
        clear H1 rx ry b5 HM2
        rcases HMO.out with ⟨e1, e2⟩ | ⟨e1, e2⟩
        · subst e1 e2
          obtain ⟨a1, c1, rfl⟩ := nil_of RX.out
          obtain ⟨a2, c2, rfl⟩ := nil_of RY.out
          go_wp2_with fail
          go_call H2 as e w6 ⟨x2, y2, rfl, rx2, ry2, b6⟩
          have h3 := same15 rx2 (RY.out.below b6) (by decide) (by decide)
          rw [decide_eq_true rfl] at h3
          have RY2 : Hid (Rd y2 [] w6) := ry2
          have RX6 : Hid (Rd (.slice a1 0 c1) [] w6) := RX.out.below b6
          have B6 : Hid (Below wZ.heap.size wZ w6) := B5.out.trans (b6.mono B5.out.size)
          obtain ⟨a3, c3, rfl⟩ := nil_of rx2
          obtain ⟨a4, c4, rfl⟩ := nil_of ry2
          clear H2 rx2 ry2 b6
          go_wp2_with fail
          go_call h3 as e w7 ⟨rfl, b7⟩
          have h4 := same15 (RY2.out.below b7) (RX6.out.below b7) (by simp) (by simp)
          rw [decide_eq_true rfl] at h4
          clear h3
          go_wp2_with fail
          go_call h4 as e w8 ⟨rfl, b8⟩
          go_wp2
          go_ret
          exact ⟨rfl, BW.out.trans ((B6.out.trans ((b7.trans (b8.mono b7.size)).mono B6.out.size)).mono BW.out.size)⟩
        · subst e1
          obtain ⟨a1, c1, ex, -, hx1⟩ := RX.out
          obtain ⟨g1, o1, rfl, _, hx2⟩ := hx1 (by simp)
          obtain rfl : x = .slice (some ⟨g1, o1, none⟩) 1 c1 := ex
          have cx := hx2 0 (by simp)
          have cx0 : w5.cell? ⟨g1, o1, none⟩ = some (.int .i64 one) := cx
          obtain ⟨a2, c2, ey, -⟩ := RY.out
          obtain ⟨gz, hgz⟩ : ∃ gz, gl.length = gz := ⟨_, rfl⟩
          rw [hgz] at ey e2
          subst ey
          have HGZ : Hid (gl.length = gz) := hgz
          have hg1 : ¬ (1 : Int) < (gz : Int) := by omega
          have hb1 : (one != one) = false := bne_self_eq_false _
          clear hx1 hx2 cx hgz HMO
          go_wp2_with fail
          go_call H2 as e w6 ⟨x2, y2, rfl, rx2, ry2, b6⟩
          have h3 := same15 rx2 (RY.out.below b6) (by have := HGZ.out; omega) (by have := HGZ.out; omega)
          rw [decide_eq_true rfl] at h3
          have RY2 : Hid (Rd y2 [one] w6) := ry2
          have RX6 : Hid (Rd (.slice (some ⟨g1, o1, none⟩) 1 c1) [one] w6) := RX.out.below b6
          have B6 : Hid (Below wZ.heap.size wZ w6) := B5.out.trans (b6.mono B5.out.size)
          obtain ⟨a3, c3, e3, -⟩ := rx2
          obtain ⟨a4, c4, e4, -⟩ := ry2
          rw [HGZ.out] at e3
          obtain rfl : y2 = .slice a4 1 c4 := e4
          subst e3
          clear H2 b6 cx0
          go_wp2_with fail
          go_call h3 as e w7 ⟨rfl, b7⟩
          have h4 := same15 (RY2.out.below b7) (RX6.out.below b7) (by simp) (by simp)
          rw [decide_eq_true rfl] at h4
          clear h3
          go_wp2_with fail
          go_call h4 as e w8 ⟨rfl, b8⟩
          go_wp2
          go_ret
          exact ⟨rfl, BW.out.trans ((B6.out.trans ((b7.trans (b8.mono b7.size)).mono B6.out.size)).mono BW.out.size)⟩
end Go.Proofs.YtbbapaphfijpcaaDoor
