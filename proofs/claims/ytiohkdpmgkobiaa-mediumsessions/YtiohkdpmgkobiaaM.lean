/- Of; Detach with nothing loose; a Write to a device that is gone; the fixed fact that each statement on medium begins with. -/
import Derived.Test.YtiohkdpmgkobiaaK
namespace Go.Proofs.Ytiohkdpmgkobiaa
open Go.RowKit
def med (P : Nat) (s q : Int) : Obj := .cells #[.pointer (some ⟨P, 0, none⟩), .int .i64 s, .int .i64 q] 122
section
variable {b0 : Nat} {w0 : World} {L : Loc} {st : St} {lv : Value} {oth : List (Nat × Obj)} {w : World}
theorem One.write_gone (h : One b0 w0 L st lv oth w) (q i : Int) (s : ByteArray) (hdn : st.down = false) (hg : (decide (st.there = false) || decide (¬ st.session = q)) = true) :
    Calls Try.prog 17 #[.pointer (some ⟨L.P, 0, none⟩), hnd st.serial q, .int .i64 i, .string s] w fun e w' => e = .returned (.int .i64 8) ∧ One b0 w0 L st lv oth w' := by
  have hmf : ∀ (fn : Fn) (first cap : Array Value) (w : World), (Instr.makeFunc fn first cap).run Try.prog w = .ok (.func fn first cap) w := fun _ _ _ _ => rfl
  have ho := fun o1 o2 o3 v1 v2 => (((h.laid o1).laid o2).laid o3).operate_gone q hdn hg v1 v2
  clear h hg
  unfold hnd at *
  go_enter Try.func17, Try.ntmps17
  go_wp2_with fail
  go_call (ho _ _ _ _ _) as e w1 ⟨rfl, h1⟩
  have H1 : Hid _ := h1
  clear ho h1
  go_wp2
  go_returns
  exact ⟨rfl, H1.out⟩
theorem One.settle0 (h : One b0 w0 L st (.slice none 0 0) oth w) (ch : Value) : Calls Try.prog 74 #[.pointer (some ⟨L.D, 0, none⟩), ch] w fun e w' => e = .returned ch ∧ One b0 w0 L { st with ln := 0, loose := [] } (.slice none 0 0) oth w' := by
  have hf := h.flush
  have d4 := h.dc.2.2.2.2.1
  clear h
  go_enter Try.func74, Try.ntmps74
  go_wp2
  go_loop [1, 13] (fun c i => c = ch ∧ i = .int .i64 0) (fun _ _ => 0)
  case atStart => exact ⟨rfl, rfl⟩
  case round =>
    obtain ⟨rfl, rfl⟩ := hrel
    go_wp2_with fail
    go_call hf as e w1 ⟨rfl, h1⟩
    have H1 : Hid _ := h1
    clear hf h1
    go_wp2
    go_returns
    exact ⟨rfl, H1.out⟩
theorem One.detach0 (h : One b0 w0 L st (.slice none 0 0) oth w) (ch : Value) (ht : st.there = true) : Calls Try.prog 45 #[.pointer (some ⟨L.P, 0, none⟩), .int .i64 st.serial, ch] w fun e w' => e = .returned (.int .i64 0) ∧ One b0 w0 L { st with ln := 0, loose := [], there := false } (.slice none 0 0) oth w' := by
  have hf := h.find
  have hs := h.settle0 ch
  have d2 := h.dc.2.2.1
  rw [ht] at d2
  clear h
  go_enter Try.func45, Try.ntmps45
  go_wp2_with fail
  go_call hf as e w1 ⟨rfl, rfl⟩
  go_wp2_with fail
  go_call hs as e w2 ⟨rfl, h2⟩
  have e2 := h2.dc.2.2.1
  have f2 := h2.df 2
  have HF : Hid (One b0 w0 L { st with ln := 0, loose := [], there := false } (.slice none 0 0) oth (w2.setCell ⟨L.D, 2, none⟩ (.bool false))) := h2.updD 2 _ _ _ ⟨rfl, rfl, rfl, rfl, rfl⟩ rfl (h2.ownD _ _)
  clear h2 hs hf
  go_wp2
  go_returns
  exact ⟨rfl, HF.out⟩
theorem One.of_any (h : One b0 w0 L st lv oth w) (ht : st.there = true) : Calls Try.prog 43 #[.pointer (some ⟨L.P, 0, none⟩), .int .i64 st.serial] w fun e w' => ∃ M, e = .returned (.tuple #[.pointer (some ⟨M, 0, none⟩), .int .i64 0]) ∧ One b0 w0 L st lv ((M, med L.P st.serial st.session) :: oth) w' := by
  have ho := h.open_ok ht
  clear h
  go_enter Try.func43, Try.ntmps43
  go_wp2_with fail
  go_call ho as e w1 ⟨rfl, h1⟩
  have HF : Hid (∀ o, One b0 w0 L st lv (((w1.alloc o).heap.size, med L.P st.serial st.session) :: oth) ((w1.alloc o).alloc (med L.P st.serial st.session))) := fun o => (h1.laid o).alloc _ (apart_of (by decide))
  clear h1 ho
  go_wp2
  go_returns
  exact ⟨w1.heap.size + 1, rfl, by have := HF.out (.cells #[.int .i64 st.serial, .int .i64 st.session] 30); simpa [med] using this⟩
theorem One.mwrite_gone (h : One b0 w0 L st lv oth w) (M : Nat) (q frm : Int) (hm : (M, med L.P st.serial q) ∈ oth) (s : ByteArray) (hs : s.size ≤ 10000) (hf : -1000 ≤ frm ∧ frm ≤ 1000) (hdn : st.down = false) (hg : (decide (st.there = false) || decide (¬ st.session = q)) = true) :
    Calls Try.prog 31 #[.pointer (some ⟨M, 0, none⟩), .int .i64 frm, .string s] w fun e w' => e = (if s.size = 0 then .returned (.tuple #[]) else .panicked [fl st.serial 8]) ∧ One b0 w0 L st lv oth w' := by
  refine (mwrite_any M L.P st.serial q frm s hs hf (fun _ W => One b0 w0 L st lv oth W) (fun _ => 8) (fun _ W W' h hb => h.ofBelow hb) (fun _ W h => (h.oth _ hm).1) (fun k W _ _ h => h.write_gone q _ _ hdn hg) w h).mono ?_
  rintro e w' (⟨k, hk, _, _, rfl, h2⟩ | ⟨hz, rfl, h2⟩)
  · refine ⟨?_, h2⟩
    rw [if_neg (by unfold parts at hk; omega)]
  · refine ⟨?_, h2⟩
    rw [if_pos]
    rcases Nat.eq_zero_or_pos (parts s) with h0 | h0
    · unfold parts at h0; omega
    · exact absurd (hz 0 h0) (by decide)
theorem of_nil (P : Nat) (t : Int) (w : World) (h : w.cell? ⟨P, 0, none⟩ = some (.slice none 0 0)) :
    Calls Try.prog 43 #[.pointer (some ⟨P, 0, none⟩), .int .i64 t] w fun e w' => e = .returned (.tuple #[.pointer none, .int .i64 10]) ∧ Below w.heap.size w w' := by
  have ho := open_nil P t w h
  go_enter Try.func43, Try.ntmps43
  go_wp2_with fail
  go_call ho as e w1 ⟨rfl, h1⟩
  have HB : Hid (∀ o, Below w.heap.size w (w1.alloc o)) := fun o => h1.alloc h1.size o
  clear h1 ho
  go_wp2
  go_returns
  exact ⟨rfl, HB.out _⟩
end
theorem ent87 (args : Array Value) (W : World) : (callFunc 87 args).run Try.prog W = .ok (.enter 87 args) W := enter_of Try.func87 (by kernel_rfl) (by kernel_rfl) args W
set_option maxHeartbeats 1000000 in
theorem awake6 (w : World) : Calls Try.prog 24 #[] w fun e w' => e = .returned (.bool true) ∧ Below w.heap.size w w' := by
  have hmf : ∀ (fn : Fn) (first cap : Array Value) (w : World), (Instr.makeFunc fn first cap).run Try.prog w = .ok (.func fn first cap) w := fun _ _ _ _ => rfl
  go_enter Try.func24, Try.ntmps24
  go_wp2_with fail
  go_call (new_any w) as e w1 ⟨rfl, h1⟩
  have hA := add_one w.heap.size w.heap.size w w1 [] (by rw [h1]; exact Below.alloc (Below.refl _ _) (Nat.le_refl _) _) (Nat.le_refl _) (by rw [h1]; exact heap_new _ _) (by intro p hp; cases hp) 2 (by decide) (by decide) 2 (by decide) (by decide)
  clear h1
  generalize hB : w.heap.size = B at *
  go_wp2_with fail
  go_call hA as e w2 ⟨rfl, L, hLP, o2⟩
  clear hA
  subst hLP
  go_wp2_with fail
  go_call (o2.of_any rfl) as e w3 ⟨M, rfl, o3⟩
  clear o2
  have o4 := o3.alloc (.cells #[.pointer (some ⟨M, 0, none⟩)] 53) (apart_of (by decide))
  have c4 : (w3.alloc (.cells #[.pointer (some ⟨M, 0, none⟩)] 53)).cell? ⟨w3.heap.size, 0, none⟩ = some (.pointer (some ⟨M, 0, none⟩)) := by rw [cell_of (heap_new _ _) 0]; rfl
  clear o3
  go_wp2_with fail
  go_call (o4.detach0 _ rfl) as e w5 ⟨rfl, o5⟩
  have hdo : Calls Try.prog 87 #[.pointer (some ⟨w3.heap.size, 0, none⟩)] (G0 w5) fun e W => e = .panicked [fl 2 8] ∧ W.heap[w5.heap.size]? = some bob ∧ W.heap[w5.heap.size + 1]? = some iob ∧ One L.P w L { st0 2 2 with ln := 0, loose := [], there := false } (.slice none 0 0) (gob w5.heap.size [(w3.heap.size, .cells #[.pointer (some ⟨M, 0, none⟩)] 53), (M, med L.P 2 1)]) W := by
    have g5 := o5.guarded
    have hmw := g5.mwrite_gone M 1 0 (by simp [gob, st0]) ⟨#[120]⟩ (by decide) (by decide) rfl rfl
    have cC : (G0 w5).cell? ⟨w3.heap.size, 0, none⟩ = some (.pointer (some ⟨M, 0, none⟩)) := by
      rw [cell_of (g5.oth (w3.heap.size, .cells #[.pointer (some ⟨M, 0, none⟩)] 53) (by simp [gob])).1 0]; rfl
    rw [if_neg (by decide)] at hmw
    generalize G0 w5 = W0 at *
    clear o4 c4 o5 g5
    go_enter Try.func87, Try.ntmps87
    go_wp2_with fail
    go_call hmw as e W ⟨rfl, hW⟩
    have HW : Hid _ := hW
    clear hmw hW
    go_wp2
    exact ⟨rfl, rfl, (HW.out.oth (w5.heap.size, bob) (by simp [gob])).1, (HW.out.oth (w5.heap.size + 1, iob) (by simp [gob])).1, HW.out⟩
  have hgd := guard_fail 87 #[.pointer (some ⟨w3.heap.size, 0, none⟩)] 2 8 _ w5 ent87 hdo
  have hne : Hid (∀ p ∈ ([(w3.heap.size, .cells #[.pointer (some ⟨M, 0, none⟩)] 53), (M, med L.P 2 1)] : List (Nat × Obj)), p.1 < w5.heap.size) := fun p hp => getElem?_lt (o5.oth p hp).1
  clear hdo o5 o4 c4
  go_wp2_with fail
  go_call hgd as e w6 ⟨rfl, W, hW, hk⟩
  have HF : Hid (∀ o, Below L.P w (w6.alloc o)) := fun o => ((hW.kt hne.out hk).laid o).below
  clear hgd hW hk
  go_wp2
  go_returns
  exact ⟨rfl, by rw [hB]; exact HF.out _⟩
end Go.Proofs.Ytiohkdpmgkobiaa
