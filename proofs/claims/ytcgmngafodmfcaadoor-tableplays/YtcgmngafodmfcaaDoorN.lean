/- TableMany as a call: of any numbers it returns true, and nothing that was there has turned; where the table of rounds reads as the program's text lays it. -/
import Derived.Test.YtcgmngafodmfcaaDoorM
import Derived.Lib.MinMax
namespace Go.Proofs.YtcgmngafodmfcaaDoor
open Go.RowKit
theorem lk_wo {E : List Ent} {k k' : ByteArray} (h : k ≠ k') : lk (wo E k) k' = lk E k' := by
  induction E with
  | nil => rfl
  | cons p r ih =>
    by_cases e : p.1 = k
    · have : wo (p :: r) k = wo r k := by unfold wo; rw [List.filter_cons_of_neg (by simp [e])]
      rw [this, ih]
      conv => rhs; unfold lk
      rw [if_neg (by rw [e]; exact h)]
    · have : wo (p :: r) k = p :: wo r k := by unfold wo; rw [List.filter_cons_of_pos (by simp [e])]
      rw [this]
      unfold lk
      rw [ih]
theorem lk_wo_self (E : List Ent) (k : ByteArray) : lk (wo E k) k = none :=
  lk_none fun p hp => of_decide_eq_true (List.mem_filter.1 hp).2
theorem lk_put (E : List Ent) (k k' : ByteArray) (v : Int) : lk ((k, v) :: wo E k) k' = if k = k' then some v else lk E k' := by
  conv => lhs; unfold lk
  split
  · rfl
  · rename_i h; exact lk_wo h
theorem len_wo {E : List Ent} {k : ByteArray} {v : Int} (hn : (E.map Prod.fst).Nodup) (h : lk E k = some v) : (wo E k).length + 1 = E.length := by
  induction E with
  | nil => cases h
  | cons p r ih =>
    rw [List.map_cons, List.nodup_cons] at hn
    by_cases e : p.1 = k
    · have : wo (p :: r) k = wo r k := by unfold wo; rw [List.filter_cons_of_neg (by simp [e])]
      rw [this, wo_same (fun q hq e2 => hn.1 (List.mem_map.2 ⟨q, hq, e2.trans e.symm⟩))]
      rfl
    · have : wo (p :: r) k = p :: wo r k := by unfold wo; rw [List.filter_cons_of_pos (by simp [e])]
      rw [this, List.length_cons, List.length_cons]
      unfold lk at h
      rw [if_neg e] at h
      rw [ih hn.2 h]
theorem len_new {E : List Ent} {k : ByteArray} {v : Int} (h : lk E k = none) : ((k, v) :: wo E k).length = E.length + 1 := by
  rw [wo_same (lk_of h)]; rfl
def kN (i : Nat) : ByteArray := ⟨#[UInt8.ofNat (97 + i % 26), UInt8.ofNat (97 + i / 26)]⟩
theorem kN_inj {i j : Nat} (hi : i < 300) (hj : j < 300) (h : kN i = kN j) : i = j := by
  unfold kN at h
  injection h with h
  have h0 : UInt8.ofNat (97 + i % 26) = UInt8.ofNat (97 + j % 26) := by
    have := congrArg (fun a => a[0]?) h
    simpa using this
  have h1 : UInt8.ofNat (97 + i / 26) = UInt8.ofNat (97 + j / 26) := by
    have := congrArg (fun a => a[1]?) h
    simpa using this
  have e0 := congrArg UInt8.toNat h0
  have e1 := congrArg UInt8.toNat h1
  simp only [UInt8.toNat_ofNat'] at e0 e1
  omega
theorem kN_le (i : Nat) : (kN i).size ≤ 4096 := by show 2 ≤ 4096; decide
theorem enter_of {f : FuncId} {fn : Func} (hf : Tryd.prog.funcs[f]? = some fn) (hname : (fn.name == "runtime.NumGoroutine") = false) (hb : fn.body.isNone = false) (args : Array Value) (W : World) : (callFunc f args).run Tryd.prog W = .ok (.enter f args) W := by
  have h1 : fn.name ≠ "runtime.NumGoroutine" := by simpa using hname
  simp [callFunc, hf, h1]
  intro h; rw [h] at hb; cases hb
theorem ent18 (args : Array Value) (W : World) : (callFunc 18 args).run Tryd.prog W = .ok (.enter 18 args) W := enter_of Tryd.func18 (by kernel_rfl) (by kernel_rfl) args W
theorem key_str (i : Nat) (hi : i < 300) (w : World) : (convert 43 9 (.slice (some ⟨w.heap.size, 0, none⟩) 2 2)).run Tryd.prog (w.alloc (.cells #[.int .u8 (97 + (i : Int) % 26), .int .u8 (97 + (i : Int) / 26)] 5)) = .ok (.string (kN i)) (w.alloc (.cells #[.int .u8 (97 + (i : Int) % 26), .int .u8 (97 + (i : Int) / 26)] 5)) := by
  have hb := heap_new w (.cells #[.int .u8 (97 + (i : Int) % 26), .int .u8 (97 + (i : Int) / 26)] 5)
  refine run_convert_bytes_back (P := Tryd.prog) _ 43 9 5 ⟨w.heap.size, 0, none⟩ 2 [UInt8.ofNat (97 + i % 26), UInt8.ofNat (97 + i / 26)] Tryd.underlying43 Tryd.underlying5 Tryd.underlying9 (fun j hj => ?_)
  have hj2 : j < 2 := hj
  rw [Addr.add_lit, Nat.zero_add, cell_of hb]
  match j, hj2 with
  | 0, _ =>
    have e : (((UInt8.ofNat (97 + i % 26)).toNat : Nat) : Int) = 97 + (i : Int) % 26 := by rw [UInt8.toNat_ofNat']; omega
    show some (Value.int .u8 (97 + (i : Int) % 26)) = some (Value.int .u8 ((UInt8.ofNat (97 + i % 26)).toNat : Nat))
    rw [e]
  | 1, _ =>
    have e : (((UInt8.ofNat (97 + i / 26)).toNat : Nat) : Int) = 97 + (i : Int) / 26 := by rw [UInt8.toNat_ofNat']; omega
    show some (Value.int .u8 (97 + (i : Int) / 26)) = some (Value.int .u8 ((UInt8.ofNat (97 + i / 26)).toNat : Nat))
    rw [e]
theorem key_any (i : Nat) (hi : i < 300) (w : World) : Calls Tryd.prog 18 #[.int .i64 (i : Nat)] w fun e w' => e = .returned (.string (kN i)) ∧ Below w.heap.size w w' := by
  have hcv := key_str i hi w
  have HB : Hid (Below w.heap.size w (w.alloc (.cells #[.int .u8 (97 + (i : Int) % 26), .int .u8 (97 + (i : Int) / 26)] 5))) := (Below.refl _ _).alloc (Nat.le_refl _) _
  go_enter Tryd.func18, Tryd.ntmps18
  go_wp2
  go_returns
  exact ⟨rfl, HB.out⟩
end Go.Proofs.YtcgmngafodmfcaaDoor
