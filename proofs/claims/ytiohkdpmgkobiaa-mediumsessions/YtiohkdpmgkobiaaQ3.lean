/- The pool's Read and Flush, of a pool of one device, as calls. -/
import Derived.Test.YtiohkdpmgkobiaaQ2
namespace Go.Proofs.Ytiohkdpmgkobiaa
open Go.RowKit
theorem ent75 (args : Array Value) (W : World) : (callFunc 75 args).run Try.prog W = .ok (.enter 75 args) W := enter_of Try.func75 (by kernel_rfl) (by kernel_rfl) args W
theorem ent76 (args : Array Value) (W : World) : (callFunc 76 args).run Try.prog W = .ok (.enter 76 args) W := enter_of Try.func76 (by kernel_rfl) (by kernel_rfl) args W
theorem ent71 (args : Array Value) (W : World) : (callFunc 71 args).run Try.prog W = .ok (.enter 71 args) W := enter_of Try.func71 (by kernel_rfl) (by kernel_rfl) args W
theorem ent72 (args : Array Value) (W : World) : (callFunc 72 args).run Try.prog W = .ok (.enter 72 args) W := enter_of Try.func72 (by kernel_rfl) (by kernel_rfl) args W
def byteOf : Value → UInt8
  | .int _ n => UInt8.ofNat n.toNat
  | _ => 0
def rdB (st : St) (i : Nat) : List UInt8 := (secl st i).map byteOf
def rd (st : St) (i : Nat) : ByteArray := ⟨(rdB st i).toArray⟩
theorem byteOf_byte (b : UInt8) : byteOf (.int .u8 (b.toNat : Nat)) = b := by
  show UInt8.ofNat (((b.toNat : Nat) : Int).toNat) = b
  rw [Int.toNat_natCast]; exact UInt8.ofNat_toNat
section
variable {b0 : Nat} {w0 : World} {L : Loc} {st : St} {lv : Value} {oth : List (Nat × Obj)} {w : World}
theorem One.other {T : Nat} {o o' : Obj} {w' : World} (h : One b0 w0 L st lv ((T, o) :: oth) w) (hne : ∀ p ∈ oth, p.1 ≠ T) (hos : w'.os = w.os) (htp : w'.tape = w.tape) (hou : w'.output = w.output) (hsz : w.heap.size ≤ w'.heap.size)
    (hbl : ∀ k, k < w.heap.size → k ≠ T → w'.heap[k]? = w.heap[k]?) (hT : w'.heap[T]? = some o') (ho : Obj.apart o') : One b0 w0 L st lv ((T, o') :: oth) w' := by
  obtain ⟨j1, j2, j3, j4⟩ := h.oth (T, o) (List.mem_cons_self ..)
  have same : ∀ {j : Nat} {o : Obj}, w.heap[j]? = some o → j ≠ T → w'.heap[j]? = some o := fun e h1 => (hbl _ (getElem?_lt e) h1).trans e
  refine ⟨?_, h.bP, h.bR, h.bD, h.bS, same h.pool j2.1.symm, same h.rowb j2.2.1.symm, h.rc0, same h.dev j2.2.2.1.symm, same h.sec j2.2.2.2.symm, ⟨h.own.1, ?_⟩, ?_⟩
  · refine ⟨hos.trans h.below.os, htp.trans h.below.tape, hou.trans h.below.output, Nat.le_trans h.below.size hsz, fun j hj => ?_⟩
    have j4' : b0 ≤ T := j4
    have hs : j < w.heap.size := by have := getElem?_lt h.pool; have := h.bP; omega
    rw [hbl j hs (by omega)]
    exact h.below.block j hj
  · rcases h.own.2 with h1 | ⟨g, cap, cur, e, h2, h3, h4⟩
    · exact Or.inl h1
    · refine Or.inr ⟨g, cap, cur, e, h2, same h3 ?_, h4⟩
      intro e2; rw [e2] at h3; rw [h3] at j1; injection j1 with j1; exact j3 _ j1.symm
  · intro p hp
    rcases List.mem_cons.1 hp with rfl | hp
    · exact ⟨hT, j2, ho, j4⟩
    · obtain ⟨o1, o2, o3, o4⟩ := h.oth p (List.mem_cons_of_mem _ hp)
      exact ⟨same o1 (hne p hp), o2, o3, o4⟩
theorem One.setOther {T : Nat} {v0 v : Value} {t : TypeId} (h : One b0 w0 L st lv ((T, .cells #[v0] t) :: oth) w) (hne : ∀ p ∈ oth, p.1 ≠ T) (ht : t ≠ 149) : One b0 w0 L st lv ((T, .cells #[v] t) :: oth) (w.setCell ⟨T, 0, none⟩ v) := by
  refine h.other hne rfl rfl rfl (by simp [World.setCell]) (fun k _ hk => Below.heap_setCell _ _ _ _ (by exact hk)) ?_ (apart_of ht)
  rw [block_set (h.oth _ (List.mem_cons_self ..)).1]; rfl
theorem One.dread (h : One b0 w0 L st lv oth w) (i : Nat) (hi : i < st.n) (hs8 : SecOk st) (hnb : st.n ≤ 9223372036854775807) : Calls Try.prog 77 #[.pointer (some ⟨L.D, 0, none⟩), .int .i64 (i : Nat)] w fun e w' => e = .returned (.string (rd st i)) ∧ w' = w := by
  have d3 := h.dc.2.2.2.1
  have hl := sec_length hs8 hi
  have hlb : (rdB st i).length = 64 := by unfold rdB; rw [List.length_map, hl]
  have hcv : (convert 75 9 (.slice (some ⟨L.S, i * 64, none⟩) 64 64)).run Try.prog w = .ok (.string (rd st i)) w := by
    have := run_convert_bytes_back (P := Try.prog) w 75 9 5 ⟨L.S, i * 64, none⟩ 64 (rdB st i) Try.underlying75 Try.underlying5 Try.underlying9 (by
      intro j hj
      rw [Addr.add_mid]
      have hj2 : j < (secl st i).length := by unfold rdB at hj; rwa [List.length_map] at hj
      have hr := sec_range (i := i) h.sec j (secl st i)[j] (List.getElem?_eq_getElem hj2)
      rw [hr]
      have hm : (secl st i)[j] ∈ st.secs.toList := List.mem_of_mem_drop (List.mem_of_mem_take (List.getElem_mem hj2))
      obtain ⟨b, hb⟩ := hs8.bytes _ hm
      have e : (rdB st i)[j] = b := by
        have : (rdB st i)[j]? = some b := by
          unfold rdB
          rw [List.getElem?_map, List.getElem?_eq_getElem hj2, hb]
          show some (byteOf _) = some b
          rw [byteOf_byte]
        rw [List.getElem?_eq_getElem hj] at this
        exact Option.some.inj this
      rw [e, hb])
    rw [hlb] at this
    exact this
  generalize rd st i = r at *
  clear h hl hlb
  go_enter Try.func77, Try.ntmps77
  go_wp2
  go_returns
  exact ⟨rfl, rfl⟩
theorem One.wrong75 (h : One b0 w0 L st lv oth w) (I : Nat) (i : Int) (hI : (I, .cells #[.int .i64 i] 3) ∈ oth) :
    Calls Try.prog 75 #[.pointer (some ⟨L.D, 0, none⟩), .pointer (some ⟨I, 0, none⟩)] w fun e w' => e = .returned (.int .i64 (if 0 ≤ i ∧ i < (st.n : Int) then 0 else 6)) ∧ w' = w := by
  have hr := h.inrange i
  have c1 : w.cell? ⟨I, 0, none⟩ = some (.int .i64 i) := cell_of (h.oth _ hI).1 0
  generalize (if 0 ≤ i ∧ i < (st.n : Int) then (0 : Int) else 6) = z at *
  clear h
  go_enter Try.func75, Try.ntmps75
  go_wp2_with fail
  go_call hr as e w1 ⟨rfl, rfl⟩
  go_wp2
  go_returns
  exact ⟨rfl, rfl⟩
theorem One.do76 (I T : Nat) (v0 : ByteArray) (h : One b0 w0 L st lv ((T, .cells #[.string v0] 9) :: oth) w) (hne : ∀ p ∈ oth, p.1 ≠ T) (i : Nat) (hI : (I, .cells #[.int .i64 (i : Nat)] 3) ∈ oth) (hi : i < st.n) (hs8 : SecOk st) (hnb : st.n ≤ 9223372036854775807) :
    Calls Try.prog 76 #[.pointer (some ⟨L.D, 0, none⟩), .pointer (some ⟨I, 0, none⟩), .pointer (some ⟨T, 0, none⟩)] w fun e w' => e = .returned (.tuple #[]) ∧ ∃ lv', One b0 w0 L st lv' ((T, .cells #[.string (rd st i)] 9) :: oth) w' := by
  have hd := h.dread i hi hs8 hnb
  have c1 : w.cell? ⟨I, 0, none⟩ = some (.int .i64 (i : Nat)) := cell_of (h.oth _ (List.mem_cons_of_mem _ hI)).1 0
  have c2 : w.cell? ⟨T, 0, none⟩ = some (.string v0) := cell_of (h.oth _ (List.mem_cons_self ..)).1 0
  have f2 : w.frozen? ⟨T, 0, none⟩ = false := frz_of (h.oth _ (List.mem_cons_self ..)).1 0
  have HF : Hid (One b0 w0 L st lv ((T, .cells #[.string (rd st i)] 9) :: oth) (w.setCell ⟨T, 0, none⟩ (.string (rd st i)))) := h.setOther hne (by decide)
  generalize rd st i = r at *
  clear h
  go_enter Try.func76, Try.ntmps76
  go_wp2_with fail
  go_call hd as e w1 ⟨rfl, rfl⟩
  go_wp2
  go_returns
  exact ⟨rfl, lv, HF.out⟩
def rbox (B : Nat) (s q i : Int) (t : ByteArray) (oth : List (Nat × Obj)) : List (Nat × Obj) := (B + 2, .cells #[.string t] 9) :: (B + 1, .cells #[.int .i64 i] 3) :: (B, .cells #[.int .i64 s, .int .i64 q] 30) :: oth
theorem One.lts (h : One b0 w0 L st lv oth w) : ∀ p ∈ oth, p.1 < w.heap.size := fun p hp => getElem?_lt (h.oth p hp).1
theorem One.pread_ok (h : One b0 w0 L st lv oth w) (i : Nat) (hdn : st.down = false) (ht : st.there = true) (haw : st.aw = false) (hhw : st.hw = false) (hi : i < st.n) (hs8 : SecOk st) (hnb : st.n ≤ 9223372036854775807) (hc : 0 ≤ st.count ∧ st.count ≤ 1000000) :
    Calls Try.prog 20 #[.pointer (some ⟨L.P, 0, none⟩), hnd st.serial st.session, .int .i64 (i : Nat)] w fun e w' => e = .returned (.tuple #[.string (rd st i), .int .i64 0]) ∧ ∃ lv', One b0 w0 L { st with count := st.count + 1 } lv' oth w' := by
  have hmf : ∀ (fn : Fn) (first cap : Array Value) (w : World), (Instr.makeFunc fn first cap).run Try.prog w = .ok (.func fn first cap) w := fun _ _ _ _ => rfl
  have hb := h.wboxed st.serial st.session i ⟨#[]⟩
  have hne : ∀ p ∈ (w.heap.size + 1, Obj.cells #[.int .i64 (i : Nat)] 3) :: (w.heap.size, Obj.cells #[.int .i64 st.serial, .int .i64 st.session] 30) :: oth, p.1 ≠ w.heap.size + 2 := by
    intro p hp
    rcases List.mem_cons.1 hp with rfl | hp
    · show w.heap.size + 1 ≠ _; omega
    · rcases List.mem_cons.1 hp with rfl | hp
      · show w.heap.size ≠ _; omega
      · have := h.lts p hp; omega
  have ho := hb.operate_ok hdn ht haw hhw 75 #[.pointer (some ⟨w.heap.size + 1, 0, none⟩)] 76 #[.pointer (some ⟨w.heap.size + 1, 0, none⟩), .pointer (some ⟨w.heap.size + 2, 0, none⟩)] ent75 ent76
    (fun W hW => by have := hW.wrong75 (w.heap.size + 1) i (by simp [wbox]); rw [if_pos (by omega)] at this; exact this)
    st (wbox w.heap.size st.serial st.session i (rd st i) oth) ⟨hhw, hc⟩ (fun W hW => One.do76 (w.heap.size + 1) (w.heap.size + 2) ⟨#[]⟩ hW hne i (by simp) hi hs8 hnb)
  clear h hb hne
  unfold hnd at *
  generalize rd st i = r at *
  go_enter Try.func20, Try.ntmps20
  go_wp2_with fail
  go_call ho as e w1 ⟨rfl, lv', h1⟩
  have c2 : w1.cell? ⟨w.heap.size + 2, 0, none⟩ = some (.string r) := cell_of (h1.oth (w.heap.size + 2, .cells #[.string r] 9) (by simp [wbox])).1 0
  have H1 : Hid _ := h1
  clear ho h1
  go_wp2
  go_returns
  exact ⟨rfl, lv', H1.out.forget (fun p hp => mem_wbox hp)⟩
theorem One.pread_no (h : One b0 w0 L st lv oth w) (i : Int) (hdn : st.down = false) (ht : st.there = true) (hi : ¬ (0 ≤ i ∧ i < (st.n : Int))) :
    Calls Try.prog 20 #[.pointer (some ⟨L.P, 0, none⟩), hnd st.serial st.session, .int .i64 i] w fun e w' => e = .returned (.tuple #[.string ⟨#[]⟩, .int .i64 6]) ∧ One b0 w0 L st lv oth w' := by
  have hmf : ∀ (fn : Fn) (first cap : Array Value) (w : World), (Instr.makeFunc fn first cap).run Try.prog w = .ok (.func fn first cap) w := fun _ _ _ _ => rfl
  have hb := h.wboxed st.serial st.session i ⟨#[]⟩
  have ho := hb.operate_wrong hdn ht 6 (by decide) 75 #[.pointer (some ⟨w.heap.size + 1, 0, none⟩)] (.func (.func 76) #[] #[.pointer (some ⟨w.heap.size + 1, 0, none⟩), .pointer (some ⟨w.heap.size + 2, 0, none⟩)]) ent75
    (fun W hW => by have := hW.wrong75 (w.heap.size + 1) i (by simp [wbox]); rw [if_neg hi] at this; exact this)
  clear h hb hi
  unfold hnd at *
  go_enter Try.func20, Try.ntmps20
  go_wp2_with fail
  go_call ho as e w1 ⟨rfl, h1⟩
  have H1 : Hid _ := h1
  clear ho h1
  go_wp2
  go_returns
  exact ⟨rfl, H1.out.forget (fun p hp => mem_wbox hp)⟩
end
end Go.Proofs.Ytiohkdpmgkobiaa
