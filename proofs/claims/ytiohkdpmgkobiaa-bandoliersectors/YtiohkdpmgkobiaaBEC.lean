/- The law BandolierSectors as a call, where more than three choices are given. -/
import Derived.Test.YtiohkdpmgkobiaaBE
namespace Go.Proofs.Ytiohkdpmgkobiaa
open Go.RowKit
set_option maxHeartbeats 4000000 in
set_option maxRecDepth 100000 in
theorem sec_walkC (a b : ByteArray) (K o N cp : Nat) (ch : Nat → Int) (w : World) (h3 : 3 < N) (hcp : N ≤ cp ∧ cp ≤ 9223372036854775807) (hK : K < w.heap.size) (hch : ∀ j, j < 3 → w.cell? ⟨K, o + j, none⟩ = some (.int .i64 (ch j))) :
    Calls Try.prog 11 #[.string a, .string b, .slice (some ⟨K, o, none⟩) N cp] w fun e w' => e = .returned (.bool true) ∧ Below w.heap.size w w' := by
  have hmf : ∀ (fn : Fn) (first cap : Array Value) (w : World), (Instr.makeFunc fn first cap).run Try.prog w = .ok (.func fn first cap) w := fun _ _ _ _ => rfl
  have hsf : ∀ (w : World) (a : Addr) (m : Mode), (store a (.func (.func 49) #[] #[]) m).run Try.prog w = stored Try.prog w a (.func (.func 49) #[] #[]) m := fun w a m => run_store Try.prog w a _ m rfl
  obtain ⟨a2, ha2⟩ : ∃ a2, a2 = a.extract 0 50 := ⟨_, rfl⟩
  obtain ⟨b2, hb2⟩ : ∃ b2, b2 = b.extract 0 50 := ⟨_, rfl⟩
  have HPA : Hid ((O.tx (pk a2)).size = 64 ∧ a2.size ≤ 50) := by
    have : a2.size ≤ 50 := by rw [ha2, ByteArray.size_extract]; omega
    exact ⟨by rw [O.tx_size, pk_length _ this], this⟩
  have HPB : Hid ((O.tx (pk b2)).size = 64 ∧ b2.size ≤ 50) := by
    have : b2.size ≤ 50 := by rw [hb2, ByteArray.size_extract]; omega
    exact ⟨by rw [O.tx_size, pk_length _ this], this⟩
  obtain ⟨x, hx⟩ : ∃ x, x = if stays 3 ch 0 then b2 else a2 := ⟨_, rfl⟩
  have HX : Hid (x.size ≤ 50 ∧ x = if stays 3 ch 0 then b2 else a2) := ⟨by rw [hx]; split <;> first | exact HPB.out.2 | exact HPA.out.2, hx⟩
  have HEND : Hid (rd { sE3 (O.tx (pk a2)) (O.tx (pk b2)) with secs := secsK (sE3 (O.tx (pk a2)) (O.tx (pk b2))) (fun _ => 0) 3 ch 1 } 0 = O.tx (pk x) ∧ SecOk { sE3 (O.tx (pk a2)) (O.tx (pk b2)) with secs := secsK (sE3 (O.tx (pk a2)) (O.tx (pk b2))) (fun _ => 0) 3 ch 1 }) := by
    have q := sE3_end (O.tx (pk a2)) (O.tx (pk b2)) HPA.out.1 HPB.out.1 3 ch
    refine ⟨q.1.trans ?_, q.2⟩
    rw [hx]
    split <;> rfl
  have HA2 : Hid _ := ha2
  have HB2 : Hid _ := hb2
  have HCH : Hid _ := And.intro hK hch
  have HN : Hid _ := And.intro h3 hcp
  have HI : Hid (CPh w.heap.size w a a2 b b2 (fun _ => false) (fun i => [undef, undef, undef, undef, undef, undef].getD i undef) ((w.alloc (.cells #[.string a] 9)).alloc (.cells #[.string b] 9))) := by
    refine ⟨fun _ => rfl, fun _ => rfl, (Below.alloc (Below.refl _ _) (Nat.le_refl _) _).alloc (by simp) _, ?_, ?_⟩
    · rw [Below.heap_alloc _ _ _ (by simp)]; exact heap_new _ _
    · have := heap_new (w.alloc (.cells #[.string a] 9)) (.cells #[.string b] 9)
      rw [show (w.alloc (.cells #[.string a] 9)).heap.size = w.heap.size + 1 by simp] at this
      exact this
  clear ha2 hb2 hx hK hch h3 hcp
  go_enter Try.func11, Try.ntmps11
  go_wp2_with fail
  generalize hT : w.heap.size = T at *
  refine wp_region_pb (fun f => ⟨#[.string a, .string b, .slice (some ⟨K, o, none⟩) N cp, .pointer (some ⟨T, 0, none⟩), .pointer (some ⟨T + 1, 0, none⟩), undef, .bool false, undef, undef, undef, undef, undef, undef, undef, undef, undef, undef, undef, undef, undef, undef, f 0, f 1, f 2, f 3, undef, undef, undef, undef, undef, undef, undef, undef, undef, undef, undef, undef, undef, undef, undef, undef, undef, undef, undef, undef, undef, undef, undef, undef, undef, undef, undef, undef, undef, undef, undef, undef, undef, undef, undef, undef, undef, undef, undef, undef, undef, undef, undef, undef, undef, undef, undef, undef, undef, undef, undef, undef, undef, undef, undef, undef, undef, undef, undef, undef, undef, undef, undef, undef, undef, undef, undef, undef, undef, undef, undef, undef, undef, undef, undef, undef, undef, undef, undef, undef, undef, undef, undef, undef, undef, undef, undef, undef, undef, undef, undef], []⟩) (CV a a2 b b2) (CPh T w a a2 b b2) (fun i => [undef, undef, undef, undef, undef, undef].getD i undef) (by kernel_rfl) rfl rfl ?hI ?hput ?step ?fin
  case hI => exact ⟨fun _ => rfl, fun _ => rfl, ⟨HI.out.below.os, HI.out.below.tape, HI.out.below.output, HI.out.below.size, HI.out.below.block⟩, HI.out.ha, HI.out.hb⟩
  case fin =>
    intro f W hP hV
    have v0 : f 0 = .string a := hV 0 (by decide)
    have v1 : f 1 = .string a2 := hV 1 (by decide)
    have v2 : f 2 = .string b := hV 2 (by decide)
    have v3 : f 3 = .string b2 := hV 3 (by decide)
    have hbl := hP.below
    have hWa : W.heap[T]? = some (.cells #[.string a2] 9) := hP.ha
    have hWb : W.heap[T + 1]? = some (.cells #[.string b2] 9) := hP.hb
    clear hP hV
    generalize f 0 = x0 at *
    subst v0
    generalize f 1 = x1 at *
    subst v1
    generalize f 2 = x2 at *
    subst v2
    generalize f 3 = x3 at *
    subst v3
    have hTW : T + 1 < W.heap.size := getElem?_lt hWb
    have hA := add_one T W.heap.size w (W.alloc (.cells #[.slice none 0 0, .bool false, .int .i64 0, .bool false, .int .i64 0] 95)) [(T, .cells #[.string a2] 9), (T + 1, .cells #[.string b2] 9)] (Below.alloc hbl (by omega) _) (by omega) (heap_new _ _) (fun p hp => by
      rcases List.mem_cons.1 hp with rfl | hp
      · exact ⟨by rw [Below.heap_alloc _ _ _ (by show T < W.heap.size; omega)]; exact hWa, by show T ≠ W.heap.size; omega, apart_of (by decide), Nat.le_refl _⟩
      rcases List.mem_cons.1 hp with rfl | hp
      · exact ⟨by rw [Below.heap_alloc _ _ _ (by show T + 1 < W.heap.size; omega)]; exact hWb, by show T + 1 ≠ W.heap.size; omega, apart_of (by decide), by show T ≤ T + 1; omega⟩
      · cases hp) 1 (by decide) (by decide) 1 (by decide) (by decide)
    clear hbl hWa hWb
    go_wp2_with fail
    go_call (new_any W) as e w1 ⟨rfl, rfl⟩
    go_wp2_with fail
    go_call hA as e w2 ⟨rfl, L, hLP, o2⟩
    clear hA
    rw [← hLP]
    clear hLP hTW
    have o3 := o2.alloc (.cells #[.func (.func 49) #[] #[]] 33) (apart_of (by decide))
    clear o2
    have hof : Calls Try.prog 43 #[.pointer (some ⟨L.P, 0, none⟩), .int .i64 1] _ _ := o3.of_any rfl
    clear o3
    go_wp2_with fail
    generalize hFv : w2.heap.size = Fv at *
    go_call hof as e w3 ⟨M, rfl, o4⟩
    clear hof
    have o5 := o4.alloc (.cells #[.pointer (some ⟨M, 0, none⟩)] 53) (apart_of (by decide))
    have c5 : (w3.alloc (.cells #[.pointer (some ⟨M, 0, none⟩)] 53)).cell? ⟨w3.heap.size, 0, none⟩ = some (.pointer (some ⟨M, 0, none⟩)) := by rw [cell_of (heap_new _ _) 0]; rfl
    clear o4
    go_wp2_with fail
    generalize hC : w3.heap.size = C at *
    generalize hw5 : w3.alloc (.cells #[.pointer (some ⟨M, 0, none⟩)] 53) = w5 at *
    have hlt5 := o5.lts
    have hdo : Calls Try.prog 56 #[.pointer (some ⟨C, 0, none⟩), .pointer (some ⟨Fv, 0, none⟩), .pointer (some ⟨T, 0, none⟩), .pointer (some ⟨T + 1, 0, none⟩)] (G0 w5) fun e W' => e = .returned (.tuple #[]) ∧ W'.heap[w5.heap.size]? = some bob ∧ W'.heap[w5.heap.size + 1]? = some iob ∧ (∃ lv, One T w L (sE3 (O.tx (pk a2)) (O.tx (pk b2))) lv (gob w5.heap.size [(C, .cells #[.pointer (some ⟨M, 0, none⟩)] 53), (M, med L.P 1 1), (Fv, .cells #[.func (.func 49) #[] #[]] 33), (T, .cells #[.string a2] 9), (T + 1, .cells #[.string b2] 9)]) W') := by
      refine (sec_do T w L (gob w5.heap.size [(C, .cells #[.pointer (some ⟨M, 0, none⟩)] 53), (M, med L.P 1 1), (Fv, .cells #[.func (.func 49) #[] #[]] 33), (T, .cells #[.string a2] 9), (T + 1, .cells #[.string b2] 9)]) M C Fv T (T + 1) a2 b2 _ _ ⟨by simp [gob], by simp [gob], by simp [gob], by simp [gob], by simp [gob]⟩ HPA.out.1 HPB.out.1 (fun W => pack_any a2 HPA.out.2 W) (fun W => pack_any b2 HPB.out.2 W) _ (G0 w5) o5.guarded).mono ?_
      rintro e W' ⟨rfl, lv, oW⟩
      exact ⟨rfl, (oW.oth (w5.heap.size, bob) (by simp [gob])).1, (oW.oth (w5.heap.size + 1, iob) (by simp [gob])).1, lv, oW⟩
    have hgd := guard_ok 56 _ _ w5 ent56 hdo
    clear hdo o5
    go_call hgd as e w6 ⟨rfl, W', ⟨lv, oW⟩, hk⟩
    clear hgd
    have o8 := oW.kt hlt5 hk
    clear oW hk hlt5
    have hcr : ∀ ob, Calls Try.prog 19 #[.pointer (some ⟨L.P, 0, none⟩), .slice (some ⟨K, o, none⟩) 3 cp] (w6.alloc ob) fun e w' => e = .returned (.tuple #[]) ∧ One T w L (sE4 (O.tx (pk a2)) (O.tx (pk b2)) 3 ch) (.slice none 0 0) [(C, Obj.cells #[.pointer (some ⟨M, 0, none⟩)] 53), (M, med L.P 1 1), (Fv, Obj.cells #[.func (.func 49) #[] #[]] 33), (T, Obj.cells #[.string a2] 9), (T + 1, Obj.cells #[.string b2] 9)] w' := fun ob => (o8.laid ob).crash_t (.slice (some ⟨K, o, none⟩) 3 cp) { sE3 (O.tx (pk a2)) (O.tx (pk b2)) with secs := secsK (sE3 (O.tx (pk a2)) (O.tx (pk b2))) (fun _ => 0) 3 ch 1, ln := 0, loose := [] } rfl ⟨(show (0 : Int) ≤ 1 by decide), (show (1 : Int) ≤ 1000000 by decide)⟩ (((o8.laid ob).settle_any (fun _ => 0) (sE3_lis _ _ HPA.out.1) (sE3_ok _ _ HPA.out.1 HPB.out.1).size (show (1 : Nat) ≤ 1000000 by decide) K o 3 _ ch ⟨some ⟨K, o, none⟩, cp, rfl, (Nat.le_trans (Nat.le_of_lt HN.out.1) HN.out.2.1), HN.out.2.2, fun _ => rfl⟩ (fun W st' lv' h j hj => (h.below.cell (by exact HCH.out.1)).trans (HCH.out.2 j hj))).mono (by
      rintro e W2 ⟨c', rfl, _, oW⟩
      exact ⟨⟨c', rfl⟩, oW⟩))
    clear o8
    have h3 : 3 < N := HN.out.1
    have h4 : N ≤ cp := HN.out.2.1
    go_wp2_with fail
    go_call (hcr _) as e w7 ⟨rfl, o10⟩
    clear hcr h3 h4
    have hof2 : Calls Try.prog 43 #[.pointer (some ⟨L.P, 0, none⟩), .int .i64 1] w7 fun e w' => ∃ M2, e = .returned (.tuple #[.pointer (some ⟨M2, 0, none⟩), .int .i64 0]) ∧ One T w L (sE4 (O.tx (pk a2)) (O.tx (pk b2)) 3 ch) (.slice none 0 0) ((M2, med L.P 1 2) :: [(C, Obj.cells #[.pointer (some ⟨M, 0, none⟩)] 53), (M, med L.P 1 1), (Fv, Obj.cells #[.func (.func 49) #[] #[]] 33), (T, Obj.cells #[.string a2] 9), (T + 1, Obj.cells #[.string b2] 9)]) w' := o10.of_any rfl
    clear o10
    go_wp2_with fail
    go_call hof2 as e w8 ⟨M2, rfl, o11⟩
    clear hof2
    have o12 := o11.alloc (.cells #[.pointer (some ⟨M2, 0, none⟩)] 53) (apart_of (by decide))
    have c12 : (w8.alloc (.cells #[.pointer (some ⟨M2, 0, none⟩)] 53)).cell? ⟨w8.heap.size, 0, none⟩ = some (.pointer (some ⟨M2, 0, none⟩)) := by rw [cell_of (heap_new _ _) 0]; rfl
    clear o11
    have o13 := o12.alloc (.cells #[.string ⟨#[]⟩] 9) (apart_of (by decide))
    have hl12 := o12.lts
    have hs12 : (w8.alloc (.cells #[.pointer (some ⟨M2, 0, none⟩)] 53)).heap.size = w8.heap.size + 1 := by simp
    rw [hs12] at o13 hl12
    have hs13 : ((w8.alloc (.cells #[.pointer (some ⟨M2, 0, none⟩)] 53)).alloc (.cells #[.string ⟨#[]⟩] 9)).heap.size = w8.heap.size + 2 := by simp
    have HS13 : Hid _ := hs13
    have HL12 : Hid _ := hl12
    have O13 : Hid _ := o13
    clear hs12 hs13 hl12 o12 o13
    go_wp2_with fail
    generalize hw9 : ((w8.alloc (.cells #[.pointer (some ⟨M2, 0, none⟩)] 53)).alloc (.cells #[.string ⟨#[]⟩] 9)) = w9 at *
    have hrd : Calls Try.prog 57 #[.pointer (some ⟨w8.heap.size, 0, none⟩), .pointer (some ⟨w8.heap.size + 1, 0, none⟩)] (G0 w9) fun e W' => e = .returned (.tuple #[]) ∧ W'.heap[w9.heap.size]? = some bob ∧ W'.heap[w9.heap.size + 1]? = some iob ∧ (∃ st lv, One T w L st lv (gob w9.heap.size ((w8.heap.size + 1, Obj.cells #[.string (O.tx (pk x))] 9) :: [(Fv, Obj.cells #[.func (.func 49) #[] #[]] 33), (T, Obj.cells #[.string a2] 9), (T + 1, Obj.cells #[.string b2] 9)])) W') := by
      have g := O13.out.guarded
      have hs := HS13.out
      have g2 : One T w L (sE4 (O.tx (pk a2)) (O.tx (pk b2)) 3 ch) (.slice none 0 0) ((w8.heap.size + 1, Obj.cells #[.string ⟨#[]⟩] 9) :: (w9.heap.size + 1, iob) :: (w9.heap.size, bob) :: (w8.heap.size, Obj.cells #[.pointer (some ⟨M2, 0, none⟩)] 53) :: (M2, med L.P 1 2) :: [(C, Obj.cells #[.pointer (some ⟨M, 0, none⟩)] 53), (M, med L.P 1 1), (Fv, Obj.cells #[.func (.func 49) #[] #[]] 33), (T, Obj.cells #[.string a2] 9), (T + 1, Obj.cells #[.string b2] 9)]) (G0 w9) := g.forget (fun p hp => by simp [gob] at hp ⊢; rcases hp with h | h | h | h | h | h | h | h | h | h <;> simp [h])
      have q := sec_read g2 M2 w8.heap.size ⟨List.mem_cons_of_mem _ (List.mem_cons_of_mem _ (List.mem_cons_of_mem _ (List.mem_cons_self ..))), by simp⟩ (fun p hp => by
        rcases List.mem_cons.1 hp with rfl | hp
        · show w9.heap.size + 1 ≠ _; omega
        rcases List.mem_cons.1 hp with rfl | hp
        · show w9.heap.size ≠ _; omega
        · have := HL12.out p hp
          omega) (fun p hp c fz e => by
        simp only [List.mem_cons, List.not_mem_nil, or_false] at hp
        rcases hp with rfl | rfl | rfl | rfl | rfl | rfl | rfl | rfl | rfl <;> (first | (unfold iob at e) | (unfold bob at e) | (unfold med at e) | skip) <;> (injection e with _ t _; exact absurd t (by decide))) rfl rfl rfl rfl rfl ⟨HEND.out.2.size, HEND.out.2.bytes⟩ ⟨(show (0 : Int) ≤ 3 by decide), (show (3 : Int) ≤ 100000 by decide)⟩
      have hr : rd (sE4 (O.tx (pk a2)) (O.tx (pk b2)) 3 ch) 0 = O.tx (pk x) := HEND.out.1
      rw [hr] at q
      refine q.mono ?_
      rintro e W' ⟨rfl, lv', oW⟩
      exact ⟨rfl, (oW.oth (w9.heap.size, bob) (by simp)).1, (oW.oth (w9.heap.size + 1, iob) (by simp)).1, _, lv', oW.forget (fun p hp => by simp [gob] at hp ⊢; rcases hp with h | h | h | h | h | h <;> simp [h])⟩
    have hgd := guard_ok 57 _ _ w9 ent57 hrd
    clear hrd
    go_call hgd as e w10 ⟨rfl, W', ⟨st, lv2, oW⟩, hk⟩
    clear hgd
    have o14 := oW.kt (fun p hp => by
      have hs := HS13.out
      rcases List.mem_cons.1 hp with rfl | hp
      · show w8.heap.size + 1 < _; omega
      · have := HL12.out p (by simp at hp ⊢; rcases hp with h | h | h <;> simp [h])
        omega) hk
    clear oW hk
    clear O13 HS13 HL12 c12 hw9
    generalize w8.heap.size + 1 = G at *
    have o15 := (o14.alloc (.cells #[.string ⟨#[]⟩] 9) (apart_of (by decide))).alloc (.cells #[.bool false] 4) (apart_of (by decide))
    have hs15 : (w10.alloc (.cells #[.string ⟨#[]⟩] 9)).heap.size = w10.heap.size + 1 := by simp
    rw [hs15] at o15
    have cG : ((w10.alloc (.cells #[.string ⟨#[]⟩] 9)).alloc (.cells #[.bool false] 4)).cell? ⟨G, 0, none⟩ = some (.string (O.tx (pk x))) := cell_of (o15.oth (G, Obj.cells #[.string (O.tx (pk x))] 9) (by simp)).1 0
    have hl14 := o14.lts
    have htk := sec_took x HX.out.1 w10.heap.size (w10.heap.size + 1) _ (o15.oth (w10.heap.size, Obj.cells #[.string ⟨#[]⟩] 9) (by simp)).1 (o15.oth (w10.heap.size + 1, Obj.cells #[.bool false] 4) (by simp)).1
    have HO15 : Hid _ := o15
    have HL14 : Hid _ := hl14
    clear o14 o15 hs15 hl14
    go_wp2_with fail
    go_call htk as e w12 ⟨rfl, hT12⟩
    clear htk
    have o15 := HO15.out
    have hlT : T + 1 < w10.heap.size := HL14.out (T + 1, Obj.cells #[.string b2] 9) (by simp)
    have HXE : Hid (XE T w10.heap.size (w10.heap.size + 1) G Fv w x a2 b2 w12) := by
      have hbl : Below T w w12 := ⟨hT12.os.trans o15.below.os, hT12.tape.trans o15.below.tape, hT12.output.trans o15.below.output, Nat.le_trans o15.below.size hT12.size, fun k hk => (hT12.block k (by simp; omega) (by omega) (by omega)).trans (o15.below.block k hk)⟩
      have hoth : ∀ p, p ∈ (G, Obj.cells #[.string (O.tx (pk x))] 9) :: [(Fv, Obj.cells #[.func (.func 49) #[] #[]] 33), (T, Obj.cells #[.string a2] 9), (T + 1, Obj.cells #[.string b2] 9)] → w12.heap[p.1]? = some p.2 := fun p hp => by
        have l := HL14.out p hp
        exact (hT12.block p.1 (by simp; omega) (by omega) (by omega)).trans (o15.oth p (List.mem_cons_of_mem _ (List.mem_cons_of_mem _ hp))).1
      exact ⟨hbl, hT12.sv, hT12.gd, hoth (G, _) (by simp), hoth (Fv, _) (by simp), hoth (T, _) (by simp), hoth (T + 1, _) (by simp)⟩
    clear hT12 o15 hlT cG HO15 HL14
    generalize w10.heap.size = Sv at *
    have cT : w12.cell? ⟨T, 0, none⟩ = some (.string a2) := cell_of HXE.out.ta 0
    have cT1 : w12.cell? ⟨T + 1, 0, none⟩ = some (.string b2) := cell_of HXE.out.tb 0
    have cK : w12.cell? ⟨K, o, none⟩ = some (.int .i64 (ch 0)) := (HXE.out.below.cell (by exact HCH.out.1)).trans (HCH.out.2 0 (by decide))
    have h0 : 0 < 3 := by decide
    have hand := i64_and1 (ch 0)
    have HPX : Hid ((O.tx (pk x)).size = 64) := by show _ = 64; rw [O.tx_size, pk_length _ HX.out.1]
    by_cases hodd : ch 0 % 2 = 1
    · rw [hodd] at hand
      have hxb : x = b2 := by rw [HX.out.2, if_pos (stays_odd h0 hodd)]
      subst hxb
      clear hodd
      go_wp2_with fail
      refine wp_region_pb (fun f => ⟨#[.string a, .string b, .slice (some ⟨K, o, none⟩) 3 cp, .pointer (some ⟨T, 0, none⟩), .pointer (some ⟨T + 1, 0, none⟩), undef, f 22, .pointer (some ⟨L.P, 0, none⟩), .pointer (some ⟨Fv, 0, none⟩), .pointer (some ⟨C, 0, none⟩), .int .i64 0, .pointer (some ⟨w6.heap.size, 0, none⟩), .bool false, .pointer (some ⟨w8.heap.size, 0, none⟩), .int .i64 0, .pointer (some ⟨G, 0, none⟩), .pointer (some ⟨Sv, 0, none⟩), .pointer (some ⟨Sv + 1, 0, none⟩), .string ⟨#[]⟩, .int .i64 0, .string x, .string a, .string a2, .string b, .string x, .pointer (some ⟨L.P, 0, none⟩), .pointer (some ⟨L.P, 0, none⟩), .bool false, .bool false, .pointer (some ⟨L.P, 0, none⟩), .int .i64 0, .bool false, .bool false, .tuple #[.pointer (some ⟨M, 0, none⟩), .int .i64 0], .pointer (some ⟨L.P, 0, none⟩), .tuple #[.pointer (some ⟨M, 0, none⟩), .int .i64 0], .pointer (some ⟨M, 0, none⟩), .int .i64 0, .int .i64 0, .bool false, .bool false, .pointer (some ⟨M, 0, none⟩), .bool false, .bool false, .tuple #[.agg #[.int .i64 0, .int .i64 0], .bool false], .func (.func 56) #[] #[.pointer (some ⟨C, 0, none⟩), .pointer (some ⟨Fv, 0, none⟩), .pointer (some ⟨T, 0, none⟩), .pointer (some ⟨T + 1, 0, none⟩)], .tuple #[.agg #[.int .i64 0, .int .i64 0], .bool false], .agg #[.int .i64 0, .int .i64 0], .bool false, .slice (some ⟨K, o, none⟩) N cp, .int .i64 (N : Int), .bool true, .slice (some ⟨K, o, none⟩) N cp, .slice (some ⟨K, o, none⟩) 3 cp, .pointer (some ⟨L.P, 0, none⟩), .slice (some ⟨K, o, none⟩) 3 cp, .tuple #[], .tuple #[.pointer (some ⟨M2, 0, none⟩), .int .i64 0], .pointer (some ⟨L.P, 0, none⟩), .tuple #[.pointer (some ⟨M2, 0, none⟩), .int .i64 0], .pointer (some ⟨M2, 0, none⟩), .int .i64 0, .bool false, .bool false, .int .i64 0, .bool false, .bool false, .bool false, .pointer (some ⟨M2, 0, none⟩), .bool false, .bool false, .tuple #[.agg #[.int .i64 0, .int .i64 0], .bool false], .func (.func 57) #[] #[.pointer (some ⟨w8.heap.size, 0, none⟩), .pointer (some ⟨G, 0, none⟩)], .tuple #[.agg #[.int .i64 0, .int .i64 0], .bool false], .agg #[.int .i64 0, .int .i64 0], .bool false, .tuple #[.string ⟨#[]⟩, .int .i64 0], .string (O.tx (pk x)), .func (.func 59) #[] #[.pointer (some ⟨Sv, 0, none⟩), .pointer (some ⟨Sv + 1, 0, none⟩)], .tuple #[.string ⟨#[]⟩, .int .i64 0], .string ⟨#[]⟩, .int .i64 0, .string a2, .slice (some ⟨K, o, none⟩) 3 cp, .int .i64 3, .bool true, .bool true, .slice (some ⟨K, o, none⟩) 3 cp, .pointer (some ⟨K, o, none⟩), .int .i64 (ch 0), .int .i64 1, .bool true, .bool true, .string x, f 0, f 1, f 2, f 3, f 4, f 5, f 6, f 7, f 8, f 9, f 10, f 11, f 12, f 13, f 14, f 15, f 16, f 17, f 18, f 19, f 20, f 21], []⟩) (EV x) (fun _ _ W => Hid (XE T Sv (Sv + 1) G Fv w x a2 x W)) (fun i => [undef, undef, undef, undef, undef, undef, undef, undef, undef, undef, undef, undef, undef, undef, undef, undef, undef, undef, undef, undef, undef, undef, .bool false].getD i undef) (by kernel_rfl) rfl rfl ?hIe0 ?hpute0 ?stepe0 ?fine0
      case hIe0 => exact HXE.out.ofBelow ⟨rfl, rfl, rfl, Nat.le_refl _, fun _ _ => rfl⟩
      case fine0 =>
        intro f W hP hV
        have v0 : f 0 = .bool false := hV 0 (by decide)
        have v1 : f 1 = .bool true := hV 1 (by decide)
        have v2 : f 2 = .bool true := hV 2 (by decide)
        have v3 : f 3 = .int .i64 0 := hV 3 (by decide)
        have v4 : f 4 = .bool true := hV 4 (by decide)
        have v5 : f 5 = .bool true := hV 5 (by decide)
        have v6 : f 6 = .bool true := hV 6 (by decide)
        have v7 : f 7 = .bool true := hV 7 (by decide)
        have v8 : f 8 = .bool true := hV 8 (by decide)
        have v9 : f 9 = .bool true := hV 9 (by decide)
        have v10 : f 10 = .string x := hV 10 (by decide)
        have v11 : f 11 = .string x := hV 11 (by decide)
        have v12 : f 12 = .bool true := hV 12 (by decide)
        have v13 : f 13 = .bool true := hV 13 (by decide)
        have v14 : f 14 = .bool true := hV 14 (by decide)
        have v15 : f 15 = .string (O.tx (pk x)) := hV 15 (by decide)
        have v16 : f 16 = .func (.func 49) #[] #[] := hV 16 (by decide)
        have v17 : f 17 = .string x := hV 17 (by decide)
        have v18 : f 18 = .string (O.tx (pk x)) := hV 18 (by decide)
        have v19 : f 19 = .string (O.tx (pk x)) := hV 19 (by decide)
        have v20 : f 20 = .bool true := hV 20 (by decide)
        have v21 : f 21 = .bool true := hV 21 (by decide)
        have v22 : f 22 = .bool true := hV 22 (by decide)
        clear hV
        generalize f 0 = x0 at *
        subst v0
        generalize f 1 = x1 at *
        subst v1
        generalize f 2 = x2 at *
        subst v2
        generalize f 3 = x3 at *
        subst v3
        generalize f 4 = x4 at *
        subst v4
        generalize f 5 = x5 at *
        subst v5
        generalize f 6 = x6 at *
        subst v6
        generalize f 7 = x7 at *
        subst v7
        generalize f 8 = x8 at *
        subst v8
        generalize f 9 = x9 at *
        subst v9
        generalize f 10 = x10 at *
        subst v10
        generalize f 11 = x11 at *
        subst v11
        generalize f 12 = x12 at *
        subst v12
        generalize f 13 = x13 at *
        subst v13
        generalize f 14 = x14 at *
        subst v14
        generalize f 15 = x15 at *
        subst v15
        generalize f 16 = x16 at *
        subst v16
        generalize f 17 = x17 at *
        subst v17
        generalize f 18 = x18 at *
        subst v18
        generalize f 19 = x19 at *
        subst v19
        generalize f 20 = x20 at *
        subst v20
        generalize f 21 = x21 at *
        subst v21
        generalize f 22 = x22 at *
        subst v22
        go_wp2
        go_returns
        exact ⟨rfl, by rw [hT]; exact hP.out.below⟩
      case hpute0 =>
        repeat (refine ⟨fun f v => rfl, ?_⟩)
        trivial
      case stepe0 =>
        refine ⟨?_, ?_⟩
        · intro done f W hP hdn hd K hK
          clear hd
          go_simp
          exact hK _ _ rfl hP
        refine ⟨?_, ?_⟩
        · intro done f W hP hdn hd K hK
          have d0 := (hd.1 rfl).2
          have e0 : done 0 = true := (hd.1 rfl).1
          clear hd
          replace d0 : f 0 = .bool false := d0
          generalize f 0 = x0 at *
          subst d0
          clear e0
          go_simp
          exact hK _ _ rfl hP
        refine ⟨?_, ?_⟩
        · intro done f W hP hdn hd K hK
          have d1 := (hd.1 rfl).2
          have e1 : done 1 = true := (hd.1 rfl).1
          clear hd
          replace d1 : f 1 = .bool true := d1
          generalize f 1 = x1 at *
          subst d1
          clear e1
          go_simp
          exact hK _ _ rfl hP
        refine ⟨?_, ?_⟩
        · intro done f W hP hdn hd K hK
          have d2 := (hd.1 rfl).2
          have e2 : done 2 = true := (hd.1 rfl).1
          clear hd
          replace d2 : f 2 = .bool true := d2
          generalize f 2 = x2 at *
          subst d2
          clear e2
          go_simp
          exact hK _ _ rfl hP
        refine ⟨?_, ?_⟩
        · intro done f W hP hdn hd K hK
          have d3 := (hd.1 rfl).2
          have e3 : done 3 = true := (hd.1 rfl).1
          have d2 := (hd.2.1 rfl).2
          have e2 : done 2 = true := (hd.2.1 rfl).1
          clear hd
          replace d3 : f 3 = .int .i64 0 := d3
          replace d2 : f 2 = .bool true := d2
          generalize f 3 = x3 at *
          subst d3
          clear e3
          generalize f 2 = x2 at *
          subst d2
          clear e2
          go_simp
          exact hK _ _ rfl hP
        refine ⟨?_, ?_⟩
        · intro done f W hP hdn hd K hK
          have d2 := (hd.1 rfl).2
          have e2 : done 2 = true := (hd.1 rfl).1
          have d4 := (hd.2.1 rfl).2
          have e4 : done 4 = true := (hd.2.1 rfl).1
          clear hd
          replace d2 : f 2 = .bool true := d2
          replace d4 : f 4 = .bool true := d4
          generalize f 2 = x2 at *
          subst d2
          clear e2
          generalize f 4 = x4 at *
          subst d4
          clear e4
          go_simp
          exact hK _ _ rfl hP
        refine ⟨?_, ?_⟩
        · intro done f W hP hdn hd K hK
          have d5 := (hd.1 rfl).2
          have e5 : done 5 = true := (hd.1 rfl).1
          clear hd
          replace d5 : f 5 = .bool true := d5
          generalize f 5 = x5 at *
          subst d5
          clear e5
          go_simp
          exact hK _ _ rfl hP
        refine ⟨?_, ?_⟩
        · intro done f W hP hdn hd K hK
          have d6 := (hd.1 rfl).2
          have e6 : done 6 = true := (hd.1 rfl).1
          clear hd
          replace d6 : f 6 = .bool true := d6
          generalize f 6 = x6 at *
          subst d6
          clear e6
          have q := cell_of hP.out.gd 0
          go_simp
          exact hK _ _ rfl hP
        refine ⟨?_, ?_⟩
        · intro done f W hP hdn hd K hK
          have d6 := (hd.1 rfl).2
          have e6 : done 6 = true := (hd.1 rfl).1
          have d7 := (hd.2.1 rfl).2
          have e7 : done 7 = true := (hd.2.1 rfl).1
          clear hd
          replace d6 : f 6 = .bool true := d6
          replace d7 : f 7 = .bool true := d7
          generalize f 6 = x6 at *
          subst d6
          clear e6
          generalize f 7 = x7 at *
          subst d7
          clear e7
          go_simp
          exact hK _ _ rfl hP
        refine ⟨?_, ?_⟩
        · intro done f W hP hdn hd K hK
          have d8 := (hd.1 rfl).2
          have e8 : done 8 = true := (hd.1 rfl).1
          clear hd
          replace d8 : f 8 = .bool true := d8
          generalize f 8 = x8 at *
          subst d8
          clear e8
          go_simp
          exact hK _ _ rfl hP
        refine ⟨?_, ?_⟩
        · intro done f W hP hdn hd K hK
          have d9 := (hd.1 rfl).2
          have e9 : done 9 = true := (hd.1 rfl).1
          clear hd
          replace d9 : f 9 = .bool true := d9
          generalize f 9 = x9 at *
          subst d9
          clear e9
          have q := cell_of hP.out.sv 0
          go_simp
          exact hK _ _ rfl hP
        refine ⟨?_, ?_⟩
        · intro done f W hP hdn hd K hK
          have d9 := (hd.1 rfl).2
          have e9 : done 9 = true := (hd.1 rfl).1
          clear hd
          replace d9 : f 9 = .bool true := d9
          generalize f 9 = x9 at *
          subst d9
          clear e9
          go_simp
          exact hK _ _ rfl hP
        refine ⟨?_, ?_⟩
        · intro done f W hP hdn hd K hK
          have d10 := (hd.1 rfl).2
          have e10 : done 10 = true := (hd.1 rfl).1
          have d11 := (hd.2.1 rfl).2
          have e11 : done 11 = true := (hd.2.1 rfl).1
          have d9 := (hd.2.2.1 rfl).2
          have e9 : done 9 = true := (hd.2.2.1 rfl).1
          clear hd
          replace d10 : f 10 = .string x := d10
          replace d11 : f 11 = .string x := d11
          replace d9 : f 9 = .bool true := d9
          generalize f 10 = x10 at *
          subst d10
          clear e10
          generalize f 11 = x11 at *
          subst d11
          clear e11
          generalize f 9 = x9 at *
          subst d9
          clear e9
          go_simp
          exact hK _ _ rfl hP
        refine ⟨?_, ?_⟩
        · intro done f W hP hdn hd K hK
          have d9 := (hd.1 rfl).2
          have e9 : done 9 = true := (hd.1 rfl).1
          have d12 := (hd.2.1 rfl).2
          have e12 : done 12 = true := (hd.2.1 rfl).1
          clear hd
          replace d9 : f 9 = .bool true := d9
          replace d12 : f 12 = .bool true := d12
          generalize f 9 = x9 at *
          subst d9
          clear e9
          generalize f 12 = x12 at *
          subst d12
          clear e12
          go_simp
          exact hK _ _ rfl hP
        refine ⟨?_, ?_⟩
        · intro done f W hP hdn hd K hK
          have d13 := (hd.1 rfl).2
          have e13 : done 13 = true := (hd.1 rfl).1
          clear hd
          replace d13 : f 13 = .bool true := d13
          generalize f 13 = x13 at *
          subst d13
          clear e13
          go_simp
          exact hK _ _ rfl hP
        refine ⟨?_, ?_⟩
        · intro done f W hP hdn hd K hK
          have d14 := (hd.1 rfl).2
          have e14 : done 14 = true := (hd.1 rfl).1
          clear hd
          replace d14 : f 14 = .bool true := d14
          generalize f 14 = x14 at *
          subst d14
          clear e14
          have q := cell_of hP.out.g 0
          go_simp
          exact hK _ _ rfl hP
        refine ⟨?_, ?_⟩
        · intro done f W hP hdn hd K hK
          have d14 := (hd.1 rfl).2
          have e14 : done 14 = true := (hd.1 rfl).1
          clear hd
          replace d14 : f 14 = .bool true := d14
          generalize f 14 = x14 at *
          subst d14
          clear e14
          have q := cell_of hP.out.fv 0
          go_simp
          exact hK _ _ rfl hP
        refine ⟨?_, ?_⟩
        · intro done f W hP hdn hd K hK
          have d14 := (hd.1 rfl).2
          have e14 : done 14 = true := (hd.1 rfl).1
          clear hd
          replace d14 : f 14 = .bool true := d14
          generalize f 14 = x14 at *
          subst d14
          clear e14
          go_simp
          exact hK _ _ rfl hP
        refine ⟨?_, ?_⟩
        · intro done f W hP hdn hd K hK
          have d16 := (hd.1 rfl).2
          have e16 : done 16 = true := (hd.1 rfl).1
          have d17 := (hd.2.1 rfl).2
          have e17 : done 17 = true := (hd.2.1 rfl).1
          have d14 := (hd.2.2.2.1 rfl).2
          have e14 : done 14 = true := (hd.2.2.2.1 rfl).1
          clear hd
          replace d16 : f 16 = .func (.func 49) #[] #[] := d16
          replace d17 : f 17 = .string x := d17
          replace d14 : f 14 = .bool true := d14
          generalize f 16 = x16 at *
          subst d16
          clear e16
          generalize f 17 = x17 at *
          subst d17
          clear e17
          generalize f 14 = x14 at *
          subst d14
          clear e14
          have q := ent49
          go_simp
          refine (pack_any x HX.out.1 W).mono ?_
          rintro e W' ⟨rfl, hb⟩
          exact hK _ _ rfl (hP.out.ofBelow hb)
        refine ⟨?_, ?_⟩
        · intro done f W hP hdn hd K hK
          have d18 := (hd.1 rfl).2
          have e18 : done 18 = true := (hd.1 rfl).1
          have d14 := (hd.2.2.1 rfl).2
          have e14 : done 14 = true := (hd.2.2.1 rfl).1
          clear hd
          replace d18 : f 18 = .string (O.tx (pk x)) := d18
          replace d14 : f 14 = .bool true := d14
          generalize f 18 = x18 at *
          subst d18
          clear e18
          generalize f 14 = x14 at *
          subst d14
          clear e14
          go_simp
          refine (fill_any (O.tx (pk x)) (Nat.le_of_eq HPX.out) W).mono ?_
          rintro e W' ⟨rfl, hb⟩
          exact hK _ _ (by rw [pad_whole _ HPX.out]; rfl) (hP.out.ofBelow hb)
        refine ⟨?_, ?_⟩
        · intro done f W hP hdn hd K hK
          have d15 := (hd.1 rfl).2
          have e15 : done 15 = true := (hd.1 rfl).1
          have d19 := (hd.2.1 rfl).2
          have e19 : done 19 = true := (hd.2.1 rfl).1
          have d14 := (hd.2.2.1 rfl).2
          have e14 : done 14 = true := (hd.2.2.1 rfl).1
          clear hd
          replace d15 : f 15 = .string (O.tx (pk x)) := d15
          replace d19 : f 19 = .string (O.tx (pk x)) := d19
          replace d14 : f 14 = .bool true := d14
          generalize f 15 = x15 at *
          subst d15
          clear e15
          generalize f 19 = x19 at *
          subst d19
          clear e19
          generalize f 14 = x14 at *
          subst d14
          clear e14
          go_simp
          exact hK _ _ rfl hP
        refine ⟨?_, ?_⟩
        · intro done f W hP hdn hd K hK
          have d14 := (hd.1 rfl).2
          have e14 : done 14 = true := (hd.1 rfl).1
          have d20 := (hd.2.1 rfl).2
          have e20 : done 20 = true := (hd.2.1 rfl).1
          clear hd
          replace d14 : f 14 = .bool true := d14
          replace d20 : f 20 = .bool true := d20
          generalize f 14 = x14 at *
          subst d14
          clear e14
          generalize f 20 = x20 at *
          subst d20
          clear e20
          go_simp
          exact hK _ _ rfl hP
        refine ⟨?_, ?_⟩
        · intro done f W hP hdn hd K hK
          have d21 := (hd.1 rfl).2
          have e21 : done 21 = true := (hd.1 rfl).1
          clear hd
          replace d21 : f 21 = .bool true := d21
          generalize f 21 = x21 at *
          subst d21
          clear e21
          go_simp
          exact hK _ _ rfl hP
        trivial
    · have hand0 : ch 0 % 2 = 0 := by omega
      rw [hand0] at hand
      have hxb : x = a2 := by rw [HX.out.2, if_neg (by rw [stays_even 3 hand0]; decide)]
      subst hxb
      clear hodd hand0
      go_wp2_with fail
      refine wp_region_pb (fun f => ⟨#[.string a, .string b, .slice (some ⟨K, o, none⟩) 3 cp, .pointer (some ⟨T, 0, none⟩), .pointer (some ⟨T + 1, 0, none⟩), undef, f 22, .pointer (some ⟨L.P, 0, none⟩), .pointer (some ⟨Fv, 0, none⟩), .pointer (some ⟨C, 0, none⟩), .int .i64 0, .pointer (some ⟨w6.heap.size, 0, none⟩), .bool false, .pointer (some ⟨w8.heap.size, 0, none⟩), .int .i64 0, .pointer (some ⟨G, 0, none⟩), .pointer (some ⟨Sv, 0, none⟩), .pointer (some ⟨Sv + 1, 0, none⟩), .string ⟨#[]⟩, .int .i64 0, .string x, .string a, .string x, .string b, .string b2, .pointer (some ⟨L.P, 0, none⟩), .pointer (some ⟨L.P, 0, none⟩), .bool false, .bool false, .pointer (some ⟨L.P, 0, none⟩), .int .i64 0, .bool false, .bool false, .tuple #[.pointer (some ⟨M, 0, none⟩), .int .i64 0], .pointer (some ⟨L.P, 0, none⟩), .tuple #[.pointer (some ⟨M, 0, none⟩), .int .i64 0], .pointer (some ⟨M, 0, none⟩), .int .i64 0, .int .i64 0, .bool false, .bool false, .pointer (some ⟨M, 0, none⟩), .bool false, .bool false, .tuple #[.agg #[.int .i64 0, .int .i64 0], .bool false], .func (.func 56) #[] #[.pointer (some ⟨C, 0, none⟩), .pointer (some ⟨Fv, 0, none⟩), .pointer (some ⟨T, 0, none⟩), .pointer (some ⟨T + 1, 0, none⟩)], .tuple #[.agg #[.int .i64 0, .int .i64 0], .bool false], .agg #[.int .i64 0, .int .i64 0], .bool false, .slice (some ⟨K, o, none⟩) N cp, .int .i64 (N : Int), .bool true, .slice (some ⟨K, o, none⟩) N cp, .slice (some ⟨K, o, none⟩) 3 cp, .pointer (some ⟨L.P, 0, none⟩), .slice (some ⟨K, o, none⟩) 3 cp, .tuple #[], .tuple #[.pointer (some ⟨M2, 0, none⟩), .int .i64 0], .pointer (some ⟨L.P, 0, none⟩), .tuple #[.pointer (some ⟨M2, 0, none⟩), .int .i64 0], .pointer (some ⟨M2, 0, none⟩), .int .i64 0, .bool false, .bool false, .int .i64 0, .bool false, .bool false, .bool false, .pointer (some ⟨M2, 0, none⟩), .bool false, .bool false, .tuple #[.agg #[.int .i64 0, .int .i64 0], .bool false], .func (.func 57) #[] #[.pointer (some ⟨w8.heap.size, 0, none⟩), .pointer (some ⟨G, 0, none⟩)], .tuple #[.agg #[.int .i64 0, .int .i64 0], .bool false], .agg #[.int .i64 0, .int .i64 0], .bool false, .tuple #[.string ⟨#[]⟩, .int .i64 0], .string (O.tx (pk x)), .func (.func 59) #[] #[.pointer (some ⟨Sv, 0, none⟩), .pointer (some ⟨Sv + 1, 0, none⟩)], .tuple #[.string ⟨#[]⟩, .int .i64 0], .string ⟨#[]⟩, .int .i64 0, .string x, .slice (some ⟨K, o, none⟩) 3 cp, .int .i64 3, .bool true, .bool true, .slice (some ⟨K, o, none⟩) 3 cp, .pointer (some ⟨K, o, none⟩), .int .i64 (ch 0), .int .i64 0, .bool false, .bool false, undef, f 0, f 1, f 2, f 3, f 4, f 5, f 6, f 7, f 8, f 9, f 10, f 11, f 12, f 13, f 14, f 15, f 16, f 17, f 18, f 19, f 20, f 21], []⟩) (EV x) (fun _ _ W => Hid (XE T Sv (Sv + 1) G Fv w x x b2 W)) (fun i => [undef, undef, undef, undef, undef, undef, undef, undef, undef, undef, undef, undef, undef, undef, undef, undef, undef, undef, undef, undef, undef, undef, .bool false].getD i undef) (by kernel_rfl) rfl rfl ?hIe1 ?hpute1 ?stepe1 ?fine1
      case hIe1 => exact HXE.out.ofBelow ⟨rfl, rfl, rfl, Nat.le_refl _, fun _ _ => rfl⟩
      case fine1 =>
        intro f W hP hV
        have v0 : f 0 = .bool false := hV 0 (by decide)
        have v1 : f 1 = .bool true := hV 1 (by decide)
        have v2 : f 2 = .bool true := hV 2 (by decide)
        have v3 : f 3 = .int .i64 0 := hV 3 (by decide)
        have v4 : f 4 = .bool true := hV 4 (by decide)
        have v5 : f 5 = .bool true := hV 5 (by decide)
        have v6 : f 6 = .bool true := hV 6 (by decide)
        have v7 : f 7 = .bool true := hV 7 (by decide)
        have v8 : f 8 = .bool true := hV 8 (by decide)
        have v9 : f 9 = .bool true := hV 9 (by decide)
        have v10 : f 10 = .string x := hV 10 (by decide)
        have v11 : f 11 = .string x := hV 11 (by decide)
        have v12 : f 12 = .bool true := hV 12 (by decide)
        have v13 : f 13 = .bool true := hV 13 (by decide)
        have v14 : f 14 = .bool true := hV 14 (by decide)
        have v15 : f 15 = .string (O.tx (pk x)) := hV 15 (by decide)
        have v16 : f 16 = .func (.func 49) #[] #[] := hV 16 (by decide)
        have v17 : f 17 = .string x := hV 17 (by decide)
        have v18 : f 18 = .string (O.tx (pk x)) := hV 18 (by decide)
        have v19 : f 19 = .string (O.tx (pk x)) := hV 19 (by decide)
        have v20 : f 20 = .bool true := hV 20 (by decide)
        have v21 : f 21 = .bool true := hV 21 (by decide)
        have v22 : f 22 = .bool true := hV 22 (by decide)
        clear hV
        generalize f 0 = x0 at *
        subst v0
        generalize f 1 = x1 at *
        subst v1
        generalize f 2 = x2 at *
        subst v2
        generalize f 3 = x3 at *
        subst v3
        generalize f 4 = x4 at *
        subst v4
        generalize f 5 = x5 at *
        subst v5
        generalize f 6 = x6 at *
        subst v6
        generalize f 7 = x7 at *
        subst v7
        generalize f 8 = x8 at *
        subst v8
        generalize f 9 = x9 at *
        subst v9
        generalize f 10 = x10 at *
        subst v10
        generalize f 11 = x11 at *
        subst v11
        generalize f 12 = x12 at *
        subst v12
        generalize f 13 = x13 at *
        subst v13
        generalize f 14 = x14 at *
        subst v14
        generalize f 15 = x15 at *
        subst v15
        generalize f 16 = x16 at *
        subst v16
        generalize f 17 = x17 at *
        subst v17
        generalize f 18 = x18 at *
        subst v18
        generalize f 19 = x19 at *
        subst v19
        generalize f 20 = x20 at *
        subst v20
        generalize f 21 = x21 at *
        subst v21
        generalize f 22 = x22 at *
        subst v22
        go_wp2
        go_returns
        exact ⟨rfl, by rw [hT]; exact hP.out.below⟩
      case hpute1 =>
        repeat (refine ⟨fun f v => rfl, ?_⟩)
        trivial
      case stepe1 =>
        refine ⟨?_, ?_⟩
        · intro done f W hP hdn hd K hK
          clear hd
          go_simp
          exact hK _ _ rfl hP
        refine ⟨?_, ?_⟩
        · intro done f W hP hdn hd K hK
          have d0 := (hd.1 rfl).2
          have e0 : done 0 = true := (hd.1 rfl).1
          clear hd
          replace d0 : f 0 = .bool false := d0
          generalize f 0 = x0 at *
          subst d0
          clear e0
          go_simp
          exact hK _ _ rfl hP
        refine ⟨?_, ?_⟩
        · intro done f W hP hdn hd K hK
          have d1 := (hd.1 rfl).2
          have e1 : done 1 = true := (hd.1 rfl).1
          clear hd
          replace d1 : f 1 = .bool true := d1
          generalize f 1 = x1 at *
          subst d1
          clear e1
          go_simp
          exact hK _ _ rfl hP
        refine ⟨?_, ?_⟩
        · intro done f W hP hdn hd K hK
          have d2 := (hd.1 rfl).2
          have e2 : done 2 = true := (hd.1 rfl).1
          clear hd
          replace d2 : f 2 = .bool true := d2
          generalize f 2 = x2 at *
          subst d2
          clear e2
          go_simp
          exact hK _ _ rfl hP
        refine ⟨?_, ?_⟩
        · intro done f W hP hdn hd K hK
          have d3 := (hd.1 rfl).2
          have e3 : done 3 = true := (hd.1 rfl).1
          have d2 := (hd.2.1 rfl).2
          have e2 : done 2 = true := (hd.2.1 rfl).1
          clear hd
          replace d3 : f 3 = .int .i64 0 := d3
          replace d2 : f 2 = .bool true := d2
          generalize f 3 = x3 at *
          subst d3
          clear e3
          generalize f 2 = x2 at *
          subst d2
          clear e2
          go_simp
          exact hK _ _ rfl hP
        refine ⟨?_, ?_⟩
        · intro done f W hP hdn hd K hK
          have d2 := (hd.1 rfl).2
          have e2 : done 2 = true := (hd.1 rfl).1
          have d4 := (hd.2.1 rfl).2
          have e4 : done 4 = true := (hd.2.1 rfl).1
          clear hd
          replace d2 : f 2 = .bool true := d2
          replace d4 : f 4 = .bool true := d4
          generalize f 2 = x2 at *
          subst d2
          clear e2
          generalize f 4 = x4 at *
          subst d4
          clear e4
          go_simp
          exact hK _ _ rfl hP
        refine ⟨?_, ?_⟩
        · intro done f W hP hdn hd K hK
          have d5 := (hd.1 rfl).2
          have e5 : done 5 = true := (hd.1 rfl).1
          clear hd
          replace d5 : f 5 = .bool true := d5
          generalize f 5 = x5 at *
          subst d5
          clear e5
          go_simp
          exact hK _ _ rfl hP
        refine ⟨?_, ?_⟩
        · intro done f W hP hdn hd K hK
          have d6 := (hd.1 rfl).2
          have e6 : done 6 = true := (hd.1 rfl).1
          clear hd
          replace d6 : f 6 = .bool true := d6
          generalize f 6 = x6 at *
          subst d6
          clear e6
          have q := cell_of hP.out.gd 0
          go_simp
          exact hK _ _ rfl hP
        refine ⟨?_, ?_⟩
        · intro done f W hP hdn hd K hK
          have d6 := (hd.1 rfl).2
          have e6 : done 6 = true := (hd.1 rfl).1
          have d7 := (hd.2.1 rfl).2
          have e7 : done 7 = true := (hd.2.1 rfl).1
          clear hd
          replace d6 : f 6 = .bool true := d6
          replace d7 : f 7 = .bool true := d7
          generalize f 6 = x6 at *
          subst d6
          clear e6
          generalize f 7 = x7 at *
          subst d7
          clear e7
          go_simp
          exact hK _ _ rfl hP
        refine ⟨?_, ?_⟩
        · intro done f W hP hdn hd K hK
          have d8 := (hd.1 rfl).2
          have e8 : done 8 = true := (hd.1 rfl).1
          clear hd
          replace d8 : f 8 = .bool true := d8
          generalize f 8 = x8 at *
          subst d8
          clear e8
          go_simp
          exact hK _ _ rfl hP
        refine ⟨?_, ?_⟩
        · intro done f W hP hdn hd K hK
          have d9 := (hd.1 rfl).2
          have e9 : done 9 = true := (hd.1 rfl).1
          clear hd
          replace d9 : f 9 = .bool true := d9
          generalize f 9 = x9 at *
          subst d9
          clear e9
          have q := cell_of hP.out.sv 0
          go_simp
          exact hK _ _ rfl hP
        refine ⟨?_, ?_⟩
        · intro done f W hP hdn hd K hK
          have d9 := (hd.1 rfl).2
          have e9 : done 9 = true := (hd.1 rfl).1
          clear hd
          replace d9 : f 9 = .bool true := d9
          generalize f 9 = x9 at *
          subst d9
          clear e9
          go_simp
          exact hK _ _ rfl hP
        refine ⟨?_, ?_⟩
        · intro done f W hP hdn hd K hK
          have d10 := (hd.1 rfl).2
          have e10 : done 10 = true := (hd.1 rfl).1
          have d11 := (hd.2.1 rfl).2
          have e11 : done 11 = true := (hd.2.1 rfl).1
          have d9 := (hd.2.2.1 rfl).2
          have e9 : done 9 = true := (hd.2.2.1 rfl).1
          clear hd
          replace d10 : f 10 = .string x := d10
          replace d11 : f 11 = .string x := d11
          replace d9 : f 9 = .bool true := d9
          generalize f 10 = x10 at *
          subst d10
          clear e10
          generalize f 11 = x11 at *
          subst d11
          clear e11
          generalize f 9 = x9 at *
          subst d9
          clear e9
          go_simp
          exact hK _ _ rfl hP
        refine ⟨?_, ?_⟩
        · intro done f W hP hdn hd K hK
          have d9 := (hd.1 rfl).2
          have e9 : done 9 = true := (hd.1 rfl).1
          have d12 := (hd.2.1 rfl).2
          have e12 : done 12 = true := (hd.2.1 rfl).1
          clear hd
          replace d9 : f 9 = .bool true := d9
          replace d12 : f 12 = .bool true := d12
          generalize f 9 = x9 at *
          subst d9
          clear e9
          generalize f 12 = x12 at *
          subst d12
          clear e12
          go_simp
          exact hK _ _ rfl hP
        refine ⟨?_, ?_⟩
        · intro done f W hP hdn hd K hK
          have d13 := (hd.1 rfl).2
          have e13 : done 13 = true := (hd.1 rfl).1
          clear hd
          replace d13 : f 13 = .bool true := d13
          generalize f 13 = x13 at *
          subst d13
          clear e13
          go_simp
          exact hK _ _ rfl hP
        refine ⟨?_, ?_⟩
        · intro done f W hP hdn hd K hK
          have d14 := (hd.1 rfl).2
          have e14 : done 14 = true := (hd.1 rfl).1
          clear hd
          replace d14 : f 14 = .bool true := d14
          generalize f 14 = x14 at *
          subst d14
          clear e14
          have q := cell_of hP.out.g 0
          go_simp
          exact hK _ _ rfl hP
        refine ⟨?_, ?_⟩
        · intro done f W hP hdn hd K hK
          have d14 := (hd.1 rfl).2
          have e14 : done 14 = true := (hd.1 rfl).1
          clear hd
          replace d14 : f 14 = .bool true := d14
          generalize f 14 = x14 at *
          subst d14
          clear e14
          have q := cell_of hP.out.fv 0
          go_simp
          exact hK _ _ rfl hP
        refine ⟨?_, ?_⟩
        · intro done f W hP hdn hd K hK
          have d14 := (hd.1 rfl).2
          have e14 : done 14 = true := (hd.1 rfl).1
          clear hd
          replace d14 : f 14 = .bool true := d14
          generalize f 14 = x14 at *
          subst d14
          clear e14
          go_simp
          exact hK _ _ rfl hP
        refine ⟨?_, ?_⟩
        · intro done f W hP hdn hd K hK
          have d16 := (hd.1 rfl).2
          have e16 : done 16 = true := (hd.1 rfl).1
          have d17 := (hd.2.1 rfl).2
          have e17 : done 17 = true := (hd.2.1 rfl).1
          have d14 := (hd.2.2.2.1 rfl).2
          have e14 : done 14 = true := (hd.2.2.2.1 rfl).1
          clear hd
          replace d16 : f 16 = .func (.func 49) #[] #[] := d16
          replace d17 : f 17 = .string x := d17
          replace d14 : f 14 = .bool true := d14
          generalize f 16 = x16 at *
          subst d16
          clear e16
          generalize f 17 = x17 at *
          subst d17
          clear e17
          generalize f 14 = x14 at *
          subst d14
          clear e14
          have q := ent49
          go_simp
          refine (pack_any x HX.out.1 W).mono ?_
          rintro e W' ⟨rfl, hb⟩
          exact hK _ _ rfl (hP.out.ofBelow hb)
        refine ⟨?_, ?_⟩
        · intro done f W hP hdn hd K hK
          have d18 := (hd.1 rfl).2
          have e18 : done 18 = true := (hd.1 rfl).1
          have d14 := (hd.2.2.1 rfl).2
          have e14 : done 14 = true := (hd.2.2.1 rfl).1
          clear hd
          replace d18 : f 18 = .string (O.tx (pk x)) := d18
          replace d14 : f 14 = .bool true := d14
          generalize f 18 = x18 at *
          subst d18
          clear e18
          generalize f 14 = x14 at *
          subst d14
          clear e14
          go_simp
          refine (fill_any (O.tx (pk x)) (Nat.le_of_eq HPX.out) W).mono ?_
          rintro e W' ⟨rfl, hb⟩
          exact hK _ _ (by rw [pad_whole _ HPX.out]; rfl) (hP.out.ofBelow hb)
        refine ⟨?_, ?_⟩
        · intro done f W hP hdn hd K hK
          have d15 := (hd.1 rfl).2
          have e15 : done 15 = true := (hd.1 rfl).1
          have d19 := (hd.2.1 rfl).2
          have e19 : done 19 = true := (hd.2.1 rfl).1
          have d14 := (hd.2.2.1 rfl).2
          have e14 : done 14 = true := (hd.2.2.1 rfl).1
          clear hd
          replace d15 : f 15 = .string (O.tx (pk x)) := d15
          replace d19 : f 19 = .string (O.tx (pk x)) := d19
          replace d14 : f 14 = .bool true := d14
          generalize f 15 = x15 at *
          subst d15
          clear e15
          generalize f 19 = x19 at *
          subst d19
          clear e19
          generalize f 14 = x14 at *
          subst d14
          clear e14
          go_simp
          exact hK _ _ rfl hP
        refine ⟨?_, ?_⟩
        · intro done f W hP hdn hd K hK
          have d14 := (hd.1 rfl).2
          have e14 : done 14 = true := (hd.1 rfl).1
          have d20 := (hd.2.1 rfl).2
          have e20 : done 20 = true := (hd.2.1 rfl).1
          clear hd
          replace d14 : f 14 = .bool true := d14
          replace d20 : f 20 = .bool true := d20
          generalize f 14 = x14 at *
          subst d14
          clear e14
          generalize f 20 = x20 at *
          subst d20
          clear e20
          go_simp
          exact hK _ _ rfl hP
        refine ⟨?_, ?_⟩
        · intro done f W hP hdn hd K hK
          have d21 := (hd.1 rfl).2
          have e21 : done 21 = true := (hd.1 rfl).1
          clear hd
          replace d21 : f 21 = .bool true := d21
          generalize f 21 = x21 at *
          subst d21
          clear e21
          go_simp
          exact hK _ _ rfl hP
        trivial
  case hput =>
    repeat (refine ⟨fun f v => rfl, ?_⟩)
    trivial
  case step =>
    refine ⟨?_, ?_⟩
    · intro done f W hP hdn hd K hK
      clear hd
      have q := hP.cella hdn
      go_simp
      exact hK _ _ rfl (hP.pure _ (by decide) _)
    refine ⟨?_, ?_⟩
    · intro done f W hP hdn hd K hK
      have d0 := (hd.1 rfl).2
      have e0 : done 0 = true := (hd.1 rfl).1
      clear hd
      replace d0 : f 0 = .string a := d0
      generalize f 0 = x0 at *
      subst d0
      clear e0
      go_simp
      refine (cut_any a 50 (by decide) W).mono ?_
      rintro e W' ⟨rfl, rfl⟩
      exact hK _ _ (by rw [HA2.out]; rfl) (hP.pure _ (by decide) _)
    refine ⟨?_, ?_⟩
    · intro done f W hP hdn hd K hK
      clear hd
      have q := hP.cellb hdn
      go_simp
      exact hK _ _ rfl (hP.pure _ (by decide) _)
    refine ⟨?_, ?_⟩
    · intro done f W hP hdn hd K hK
      have d2 := (hd.1 rfl).2
      have e2 : done 2 = true := (hd.1 rfl).1
      clear hd
      replace d2 : f 2 = .string b := d2
      generalize f 2 = x2 at *
      subst d2
      clear e2
      go_simp
      refine (cut_any b 50 (by decide) W).mono ?_
      rintro e W' ⟨rfl, rfl⟩
      exact hK _ _ (by rw [HB2.out]; rfl) (hP.pure _ (by decide) _)
    refine ⟨?_, ?_⟩
    · intro done f W hP hdn hd K hK
      have d1 := (hd.1 rfl).2
      have e1 : done 1 = true := (hd.1 rfl).1
      have e0 : done 0 = true := (hd.2.2.1 rfl).1
      clear hd
      replace d1 : f 1 = .string a2 := d1
      generalize f 1 = x1 at *
      subst d1
      clear e1
      have q3 := cell_of hP.ha 0
      have q4 := frz_of hP.ha 0
      have HP : Hid _ := hP
      clear hP
      go_simp
      exact hK undef _ trivial (HP.out.storea e0 _)
    refine ⟨?_, ?_⟩
    · intro done f W hP hdn hd K hK
      have d3 := (hd.1 rfl).2
      have e3 : done 3 = true := (hd.1 rfl).1
      have e2 : done 2 = true := (hd.2.2.2.2.1 rfl).1
      clear hd
      replace d3 : f 3 = .string b2 := d3
      generalize f 3 = x3 at *
      subst d3
      clear e3
      have q3 := cell_of hP.hb 0
      have q4 := frz_of hP.hb 0
      have HP : Hid _ := hP
      clear hP
      go_simp
      exact hK undef _ trivial (HP.out.storeb e2 _)
    trivial
end Go.Proofs.Ytiohkdpmgkobiaa
