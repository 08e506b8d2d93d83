/- A new anchor has nothing; the functions that write within Guard, as calls. -/
import Derived.Test.YtknmipbjkkeebaaGreatIT
namespace Go.Proofs.YtknmipbjkkeebaaGreat
open Go.RowKit
theorem rd_st0 (sr : Int) (n i : Nat) (hi : i < n) : F.rd (F.st0 sr n) i = zsec := by
  have hl : (F.secl (F.st0 sr n) i) = List.replicate 64 (.int .u8 0) := by
    show ((F.secs0 n).toList.drop (i * 64)).take 64 = _
    unfold F.secs0
    rw [Array.toList_replicate, List.drop_replicate, List.take_replicate]
    congr 1
    omega
  unfold F.rd F.rdB zsec O.tx
  rw [hl, List.map_replicate]
  rfl
theorem emp0 (sr : Int) (n : Nat) (h : 32 ≤ n) (h1 : n ≤ 1000) : Emp (fun _ _ => zp) (F.st0 sr n) :=
  ⟨⟨h, h1, F.st0_ok sr n, fun k hk j hj => by rw [rd_st0 sr n _ (by omega)]; exact tells_zero, fun k _ => Nat.zero_le _, fun k _ j hj => absurd hj (Nat.not_lt_zero _)⟩, fun _ _ _ _ => rfl⟩
theorem ent13 (args : Array Value) (W : World) : (callFunc 13 args).run Tryz.prog W = .ok (.enter 13 args) W := O.enter_of Tryz.func13 (by kernel_rfl) (by kernel_rfl) args W
theorem ent32 (args : Array Value) (W : World) : (callFunc 32 args).run Tryz.prog W = .ok (.enter 32 args) W := O.enter_of Tryz.func32 (by kernel_rfl) (by kernel_rfl) args W
/-- A device that does all, with nothing loose. -/
structure Quiet (st : F.St) : Prop where
  ln : st.ln = 0
  loose : st.loose = []
  ok : F.SecOk st
  n : 32 ≤ st.n
  n1 : st.n ≤ 1000
  down : st.down = false
  there : st.there = true
  aw : st.aw = false
  hw : st.hw = false
theorem Wrt.quiet {st st' : F.St} {frm : Nat} {x : ByteArray} {q : Nat} (h : Wrt st st' frm x q) (hq : Quiet st) : Quiet st' :=
  ⟨h.ln, h.loose, h.ok, by rw [h.n]; exact hq.n, by rw [h.n]; exact hq.n1, h.down, h.there, h.aw, h.hw⟩
theorem quiet0 (sr : Int) (n : Nat) (h : 32 ≤ n) (h1 : n ≤ 1000) : Quiet (F.st0 sr n) := ⟨rfl, rfl, F.st0_ok sr n, h, h1, rfl, rfl, rfl, rfl⟩
def Sl.next (s : Sl) : Sl := ⟨s.other, s.most + 1, s.most + 1, false⟩
set_option maxHeartbeats 1000000 in
set_option maxRecDepth 100000 in
/-- A Write within Guard: its error is kept. -/
theorem op13 {b0 : Nat} {w0 : World} {L : F.Loc} {st : F.St} {lv : Value} {rest : List (Nat × Obj)} {w : World} {Sb Tb Eb S M : Nat} (s : Sl) (x : ByteArray) (v0 : Int) (h : F.One b0 w0 L st lv ((Eb, .cells #[.int .i64 v0] 33) :: (S, .cells (s.cs M) 72) :: rest) w)
    (hSb : (Sb, .cells #[.pointer (some ⟨S, 0, none⟩)] 29) ∈ rest) (hTb : (Tb, .cells #[.string x] 9) ∈ rest) (hm : (M, F.med L.P st.serial st.session) ∈ rest) (hr : ∀ p ∈ rest, p.1 ≠ Eb ∧ p.1 ≠ S) (hES : S ≠ Eb)
    (hs : s.slot ≤ 1) (hmost : s.most < 18446744073709551615) (hx : x.size ≤ 640) (hq : Quiet st) (hc : 0 ≤ st.count ∧ st.count ≤ 80000) :
    Calls Tryz.prog 13 #[.pointer (some ⟨Sb, 0, none⟩), .pointer (some ⟨Tb, 0, none⟩), .pointer (some ⟨Eb, 0, none⟩)] w fun e w' => e = .returned (.tuple #[]) ∧ ∃ st' lv', F.One b0 w0 L st' lv' ((Eb, .cells #[.int .i64 0] 33) :: (S, .cells (s.next.cs M) 72) :: rest) w' ∧ Wrt st st' (s.other * 16) x (s.most + 1) := by
  have h1 := h.forget (oth' := (S, .cells (s.cs M) 72) :: (Eb, .cells #[.int .i64 v0] 33) :: rest) (by intro p hp; simp only [List.mem_cons] at hp ⊢; rcases hp with rfl | rfl | hp <;> simp [*])
  have hw := swrite_one s h1 (List.mem_cons_of_mem _ hm) (by
    intro p hp
    rcases List.mem_cons.1 hp with rfl | hp
    · exact Ne.symm hES
    · exact (hr p hp).2) hs hmost x hx hq.ln hq.loose hq.ok hq.n hq.n1 hq.down hq.there hq.aw hq.hw hc
  have c1 : w.cell? ⟨Sb, 0, none⟩ = some (.pointer (some ⟨S, 0, none⟩)) := F.cell_of (h.oth (Sb, .cells #[.pointer (some ⟨S, 0, none⟩)] 29) (by simp [hSb])).1 0
  have c2 : w.cell? ⟨Tb, 0, none⟩ = some (.string x) := F.cell_of (h.oth (Tb, .cells #[.string x] 9) (by simp [hTb])).1 0
  have HR : Hid _ := hr
  clear h h1 hSb hTb hm hr
  go_enter Tryz.func13, Tryz.ntmps13
  go_wp2_with fail
  go_call hw as e w2 ⟨rfl, st', lv', o2, hwr⟩
  have o3 := (o2.forget (oth' := (Eb, .cells #[.int .i64 v0] 33) :: (S, .cells (s.next.cs M) 72) :: rest) (by intro p hp; simp only [List.mem_cons] at hp ⊢; rcases hp with rfl | rfl | hp <;> simp [*, Sl.next])).setOther (v := .int .i64 0) (by
    intro p hp
    rcases List.mem_cons.1 hp with rfl | hp
    · exact hES
    · exact (HR.out p hp).1) (by decide)
  have O3 : Hid _ := o3
  have HW : Hid _ := hwr
  have q1 := F.cell_of (o2.oth (Eb, .cells #[.int .i64 v0] 33) (by simp)).1 0
  have z1 := F.frz_of (o2.oth (Eb, .cells #[.int .i64 v0] 33) (by simp)).1 0
  simp at q1
  clear o2 o3 hwr hw c1 c2
  go_wp2
  go_returns
  exact ⟨rfl, st', lv', O3.out, HW.out⟩
end Go.Proofs.YtknmipbjkkeebaaGreat
