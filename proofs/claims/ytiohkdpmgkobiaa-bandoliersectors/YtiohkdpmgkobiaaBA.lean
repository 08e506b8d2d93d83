/- 'pack' of BandolierSectors, as a call. -/
import Derived.Test.YtiohkdpmgkobiaaOV
import Derived.Test.YtiohkdpmgkobiaaSB
import Derived.Test.YtiohkdpmgkobiaaAE
namespace Go.Proofs.Ytiohkdpmgkobiaa
open Go.RowKit
theorem ent49 (args : Array Value) (W : World) : (callFunc 49 args).run Try.prog W = .ok (.enter 49 args) W := enter_of Try.func49 (by kernel_rfl) (by kernel_rfl) args W
/-- The sum of a text. -/
def sm (x : ByteArray) : Nat := S.og (fun _ => x) 1
theorem sm_lt (x : ByteArray) : sm x < 4294967296 := S.og_lt _ 1
def txt (s : ByteArray) : List UInt8 := O.numB s.size 2 ++ s.data.toList
def pkL (s : ByteArray) : List UInt8 := txt s ++ O.numB (sm (O.tx (txt s))) 4
def pk (s : ByteArray) : List UInt8 := pkL s ++ List.replicate (64 - (pkL s).length) 0
theorem txt_length (s : ByteArray) : (txt s).length = s.size + 2 := by
  unfold txt; rw [List.length_append, O.numB_length, ← O.size_list]; omega
theorem pkL_length (s : ByteArray) : (pkL s).length = s.size + 6 := by
  unfold pkL; rw [List.length_append, O.numB_length, txt_length]
theorem pk_length (s : ByteArray) (hs : s.size ≤ 50) : (pk s).length = 64 := by
  unfold pk; rw [List.length_append, List.length_replicate, pkL_length]; omega
theorem sum_one (x : ByteArray) (hx : x.size ≤ 1000) (b : Nat) (w : World) (h : w.cell? ⟨b, 0, none⟩ = some (.string x)) : Calls Try.prog 54 #[.slice (some ⟨b, 0, none⟩) 1 1] w fun e w' => e = .returned (.int .u32 (sm x : Nat)) ∧ w' = w :=
  S.of_any (fun _ => x) 1 b (by decide) (fun _ => by omega) w (fun j hj => by
    obtain rfl : j = 0 := by omega
    exact h)
set_option maxHeartbeats 1000000 in
theorem pack_any (s : ByteArray) (hs : s.size ≤ 50) (w : World) : Calls Try.prog 49 #[.string s] w fun e w' => e = .returned (.string (O.tx (pk s))) ∧ Below w.heap.size w w' := by
  have ho := O.out_new w
  have ht := O.text_any w.heap.size _ [] s _ ho (by omega) (by simp)
  have HB0 : Hid (Below w.heap.size w (w.alloc (.cells #[.slice none 0 0] 77))) := Below.alloc (Below.refl _ _) (Nat.le_refl _) _
  have HO : Hid _ := ho
  clear ho
  go_enter Try.func49, Try.ntmps49
  go_wp2_with fail
  go_call ht as e w1 ⟨rfl, v1, hw1⟩
  have HB1 : Hid (Below w.heap.size w w1) := HB0.out.trans (hw1.below HO.out)
  have hb := O.bytes_any w.heap.size v1 _ w1 hw1.out
  rw [List.nil_append] at hb
  replace hb : Calls Try.prog 51 #[.pointer (some ⟨w.heap.size, 0, none⟩)] w1 fun e w' => e = .returned (.string (O.tx (txt s))) ∧ w' = w1 := hb
  have hxs : (O.tx (txt s)).size = s.size + 2 := by rw [O.size_list]; exact txt_length s
  have HXL : Hid ((O.tx (txt s)).data.toList = txt s) := by show _ = _; unfold O.tx; simp
  have hsm := sm_lt (O.tx (txt s))
  have hsum := fun b W h => sum_one (O.tx (txt s)) (by omega) b W h
  have HPK : Hid (pk s = txt s ++ O.numB (sm (O.tx (txt s))) 4 ++ List.replicate (64 - (txt s ++ O.numB (sm (O.tx (txt s))) 4).length) 0) := rfl
  have HLN : Hid ((txt s).length = s.size + 2) := txt_length s
  clear ht hw1 HO HB0
  generalize txt s = l at *
  generalize hx : O.tx l = x at *
  generalize sm x = q at *
  go_wp2_with fail
  go_call hb as e w2 ⟨rfl, hw2⟩
  rw [← hw2] at HB1
  clear hb hw2
  have ho2 := O.out_new w2
  have hraw := O.raw_any w2.heap.size _ [] x _ ho2 (by simp; omega)
  rw [HXL.out] at hraw
  have HO2 : Hid _ := ho2
  have HB2 : Hid (Below w2.heap.size w2 (w2.alloc (.cells #[.slice none 0 0] 77))) := Below.alloc (Below.refl _ _) (Nat.le_refl _) _
  clear ho2
  go_wp2_with fail
  go_call hraw as e w3 ⟨rfl, v3, hw3⟩
  have HB3 : Hid (Below w2.heap.size w2 w3) := HB2.out.trans (hw3.below HO2.out)
  have ho3 := hw3.out
  rw [List.nil_append] at ho3
  have hb3 : Below w3.heap.size w3 (w3.alloc (.cells #[.string x] 9)) := Below.alloc (Below.refl _ _) (Nat.le_refl _) _
  have ho4 := ho3.below hb3
  have hs4 := hsum w3.heap.size (w3.alloc (.cells #[.string x] 9)) ((cell_of (heap_new _ _) 0).trans rfl)
  have HB4 : Hid (Below w2.heap.size w2 (w3.alloc (.cells #[.string x] 9))) := HB3.out.trans (hb3.mono HB3.out.size)
  have HO4 : Hid _ := ho4
  clear hraw hw3 ho3 hb3 ho4 hsum HO2 HB2 HB3
  go_wp2_with fail
  go_call hs4 as e w5 ⟨rfl, hw5⟩
  rw [← hw5] at HB4 HO4
  clear hs4 hw5
  have hnum := O.num_any w2.heap.size v3 l q 4 w5 HO4.out (by omega) (by have := HLN.out; omega)
  rw [show O.wd 4 = 4 by decide] at hnum
  go_wp2_with fail
  go_call hnum as e w6 ⟨rfl, v6, hw6⟩
  have HB6 : Hid (Below w2.heap.size w2 w6) := HB4.out.trans (hw6.below HO4.out)
  have HO6 : Hid _ := hw6.out
  have hfl := O.fill_any w2.heap.size v6 _ 64 w6 hw6.out (by decide) (by rw [List.length_append, O.numB_length]; have := HLN.out; omega)
  clear hnum hw6 HO4 HB4
  go_wp2_with fail
  go_call hfl as e w7 ⟨rfl, v7, hw7⟩
  have HB7 : Hid (Below w2.heap.size w2 w7) := HB6.out.trans (hw7.below HO6.out)
  have hby := O.bytes_any w2.heap.size v7 _ w7 hw7.out
  have hfn : O.fillN (l ++ O.numB q 4).length 64 = 64 - (l ++ O.numB q 4).length := by
    have := HLN.out
    unfold O.fillN
    rw [List.length_append, O.numB_length, if_neg (by omega)]; omega
  rw [hfn, ← HPK.out] at hby
  clear hfl hw7 HO6 HB6 hfn
  replace hby : Calls Try.prog 51 #[.pointer (some ⟨w2.heap.size, 0, none⟩)] w7 fun e w' => e = .returned (.string (O.tx (pk s))) ∧ w' = w7 := hby
  generalize hy : O.tx (pk s) = y at hby
  have HY : Hid _ := hy
  clear hy
  go_wp2_with fail
  go_call hby as e w8 ⟨rfl, hw8⟩
  rw [← hw8] at HB7
  have HF : Hid (Below w.heap.size w w8) := HB1.out.trans (HB7.out.mono HB1.out.size)
  clear hby hw8 HB7
  go_wp2
  go_returns
  exact ⟨by show Ending.returned (.string y) = _; rw [← HY.out], HF.out⟩
end Go.Proofs.Ytiohkdpmgkobiaa
