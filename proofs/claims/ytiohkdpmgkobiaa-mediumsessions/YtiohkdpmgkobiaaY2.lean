/- The fixed fact that each statement on flash begins with. -/
import Derived.Test.YtiohkdpmgkobiaaY1
namespace Go.Proofs.Ytiohkdpmgkobiaa
open Go.RowKit
theorem rd_wrote (st : St) (i : Nat) (s : ByteArray) (h : SecOk st) (hi : i < st.n) (hs : s.size = 64) : rd (wrote st i s) i = s := by
  have hm : (i + 1) * 64 ≤ st.n * 64 := Nat.mul_le_mul_right _ hi
  have hl : st.secs.toList.length = st.n * 64 := by rw [Array.length_toList]; exact h.size
  have hb : (Lib.byteCells s.data.toList).length = 64 := by rw [Lib.byteCells_length, Array.length_toList]; exact hs
  have e : secl (wrote st i s) i = Lib.byteCells s.data.toList := by
    show ((st.secs.toList.take (i * 64) ++ Lib.byteCells s.data.toList ++ st.secs.toList.drop (i * 64 + 64)).drop (i * 64)).take 64 = _
    rw [List.append_assoc, List.drop_left' (by rw [List.length_take, hl]; omega), List.take_left' hb]
  have e2 : rdB (wrote st i s) i = s.data.toList := by
    unfold rdB
    rw [e]
    unfold Lib.byteCells
    rw [List.map_map]
    conv => rhs; rw [← List.map_id s.data.toList]
    apply List.map_congr_left
    intro b _
    exact byteOf_byte b
  unfold rd
  rw [e2]
set_option maxHeartbeats 1000000 in
theorem awake5 (w : World) : Calls Try.prog 12 #[] w fun e w' => e = .returned (.bool true) ∧ Below w.heap.size w w' := by
  obtain ⟨s, hsE⟩ : ∃ s, s = pad ⟨#[120]⟩ := ⟨_, rfl⟩
  have hs : s.size = 64 := by rw [hsE]; exact pad_size _ (by decide)
  have hfill := fun w => fill_any ⟨#[120]⟩ (by decide) w
  rw [← hsE] at hfill
  clear hsE
  go_enter Try.func12, Try.ntmps12
  go_wp2_with fail
  go_call (new_any w) as e w1 ⟨rfl, h1⟩
  have hA := add_one w.heap.size w.heap.size w w1 [] (by rw [h1]; exact Below.alloc (Below.refl _ _) (Nat.le_refl _) _) (Nat.le_refl _) (by rw [h1]; exact heap_new _ _) (by intro p hp; cases hp) 3 (by decide) (by decide) 2 (by decide) (by decide)
  clear h1
  generalize hB : w.heap.size = B at *
  go_wp2_with fail
  go_call hA as e w2 ⟨rfl, L, hLP, o2⟩
  clear hA
  subst hLP
  go_wp2_with fail
  go_call (o2.open_ok rfl) as e w3 ⟨rfl, o3⟩
  have o4 := o3.alloc (.cells #[.int .i64 3, .int .i64 1] 30) (apart_of (by decide))
  clear o2 o3
  go_wp2_with fail
  go_call (hfill _) as e w5 ⟨rfl, b5⟩
  have o5 := o4.ofBelow b5
  have hne5 := o5.lts
  clear o4 b5 hfill
  have c5 : w5.cell? ⟨w3.heap.size, 0, none⟩ = some (.int .i64 3) ∧ w5.cell? ⟨w3.heap.size, 1, none⟩ = some (.int .i64 1) := ⟨cell_of (o5.oth _ (List.mem_cons_self ..)).1 0, cell_of (o5.oth _ (List.mem_cons_self ..)).1 1⟩
  obtain ⟨c50, c51⟩ := c5
  have hpw := o5.pwrite_ok 1 s hs rfl rfl rfl rfl (by decide) (st0_ok 3 2) ⟨rfl, Nat.zero_le _, fun j hj => absurd hj (Nat.not_lt_zero _)⟩ (by decide) (by decide)
  replace hpw : Calls Try.prog 17 #[.pointer (some ⟨L.P, 0, none⟩), .agg #[.int .i64 3, .int .i64 1], .int .i64 1, .string s] w5 fun e w' => e = .returned (.int .i64 0) ∧ ∃ lv', One L.P w L { wrote (st0 3 2) 1 s with count := 1 } lv' [(w3.heap.size, .cells #[.int .i64 3, .int .i64 1] 30)] w' := hpw
  clear o5
  go_wp2_with fail
  go_call hpw as e w6 ⟨rfl, lv6, o6⟩
  clear hpw c50 c51
  have hlo : Calls Try.prog 21 #[.pointer (some ⟨L.P, 0, none⟩), .int .i64 3] w6 fun e w' => e = .returned (.int .i64 1) ∧ w' = w6 := o6.loose_any
  have o7 := o6.alloc (.cells #[.int .i64 1] 3) (apart_of (by decide))
  have hcr := o7.crash1 rfl w6.heap.size 1 (by decide) (List.mem_cons_self ..) (by
    intro u hu
    have hu' : u ∈ ent (st0 3 2) 1 := by
      have e : (({ wrote (st0 3 2) 1 s with count := 1 } : St)).loose = [] ++ ent (st0 3 2) 1 := rfl
      rw [e] at hu; simpa using hu
    exact ent_one (st0_ok 3 2) u hu') rfl ⟨by show (0 : Int) ≤ 1; decide, by show (1 : Int) ≤ 1000000; decide⟩
  have hsec : SecOk (wrote (st0 3 2) 1 s) := (st0_ok 3 2).wrote (by decide) s hs
  have hrd := rd_wrote (st0 3 2) 1 s (st0_ok 3 2) (by decide) hs
  generalize hst : ({ ({ wrote (st0 3 2) 1 s with count := 1 } : St) with ln := 0, loose := [], aw := false, al := 0, session := ({ wrote (st0 3 2) 1 s with count := 1 } : St).session + 1, hw := false, hl := 0, down := false } : St) = st2 at hcr
  have e1 : st2.serial = 3 := by rw [← hst]; rfl
  have e2 : st2.session = 2 := by rw [← hst]; rfl
  have e3 : st2.there = true := by rw [← hst]; rfl
  have e4 : st2.down = false := by rw [← hst]
  have e5 : st2.aw = false := by rw [← hst]
  have e6 : st2.hw = false := by rw [← hst]
  have e7 : st2.n = 2 := by rw [← hst]; rfl
  have e8 : SecOk st2 := by rw [← hst]; exact ⟨hsec.size, hsec.bytes⟩
  have e9 : rd st2 1 = s := by rw [← hst]; exact hrd
  have e10 : st2.count = 1 := by rw [← hst]
  clear hst hsec hrd o6 o7
  go_wp2_with fail
  go_call hlo as e w7 ⟨rfl, rfl⟩
  clear hlo
  go_wp2_with fail
  go_call hcr as e w8 ⟨rfl, o8⟩
  clear hcr
  have ho8 := o8.open_ok e3
  rw [e1, e2] at ho8
  clear o8
  go_wp2_with fail
  go_call ho8 as e w9 ⟨rfl, o9⟩
  clear ho8
  have o9' := o9.forget (oth' := [(w3.heap.size, .cells #[.int .i64 3, .int .i64 1] 30)]) (fun p hp => List.mem_cons_of_mem _ hp)
  clear o9
  have q9 := (o9'.oth _ (List.mem_cons_self ..)).1
  have c90 : w9.cell? ⟨w3.heap.size, 0, none⟩ = some (.int .i64 3) := cell_of q9 0
  have c91 : w9.cell? ⟨w3.heap.size, 1, none⟩ = some (.int .i64 1) := cell_of q9 1
  have f90 := frz_of q9 0
  have f91 := frz_of q9 1
  have o10 : One L.P w L st2 (.slice none 0 0) [(w3.heap.size, .cells #[.int .i64 3, .int .i64 2] 30)] ((w9.setCell ⟨w3.heap.size, 0, none⟩ (.int .i64 3)).setCell ⟨w3.heap.size, 1, none⟩ (.int .i64 2)) := by
    refine o9'.other (by intro p hp; cases hp) rfl rfl rfl (by simp [World.setCell]) (fun k _ hk => ?_) ?_ (apart_of (by decide))
    · rw [Below.heap_setCell _ _ _ _ (by exact hk), Below.heap_setCell _ _ _ _ (by exact hk)]
    · rw [block_set (block_set q9 _) _]; rfl
  have O10 : Hid _ := o10
  clear o9' q9 o10
  go_wp2_with fail
  have hrr := O10.out.pread_ok 1 e4 e3 e5 e6 (by rw [e7]; decide) e8 (by rw [e7]; decide) (by rw [e10]; decide)
  rw [e9, show hnd st2.serial st2.session = .agg #[.int .i64 3, .int .i64 2] by rw [e1, e2]; rfl] at hrr
  go_call hrr as e w11 ⟨rfl, lv11, o11⟩
  have HF : Hid (Below L.P w w11) := o11.below
  clear hrr o11 O10
  go_wp2
  go_returns
  exact ⟨rfl, by rw [hB]; exact HF.out⟩
end Go.Proofs.Ytiohkdpmgkobiaa
