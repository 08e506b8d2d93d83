/- A sector's tail, and a sector of a mark and whatever is written, as calls. -/
import Derived.Test.YtncfbocbigdhiaaGreatOV2
import Derived.Test.YtncfbocbigdhiaaGreatSB
import Derived.Test.YtncfbocbigdhiaaGreatKD
namespace Go.Proofs.YtncfbocbigdhiaaGreat
set_option maxRecDepth 100000
open Go.RowKit
/-- The sum of a text. -/
def sm (x : ByteArray) : Nat := S.og (fun _ => x) 1
theorem sm_lt (x : ByteArray) : sm x < 4294967296 := S.og_lt _ 1
theorem sum_one (x : ByteArray) (hx : x.size ≤ 1000) (b : Nat) (w : World) (h : w.cell? ⟨b, 0, none⟩ = some (.string x)) : Calls Tryz.prog 98 #[.slice (some ⟨b, 0, none⟩) 1 1] w fun e w' => e = .returned (.int .u32 (sm x : Nat)) ∧ w' = w :=
  S.of_any (fun _ => x) 1 b (by decide) (fun _ => by omega) w (fun j hj => by
    obtain rfl : j = 0 := by omega
    exact h)
def tailL (x : ByteArray) : List UInt8 := O.numB (sm x) 4
set_option maxHeartbeats 1000000 in
theorem tail_any (x : ByteArray) (hx : x.size ≤ 1000) (w : World) : Calls Tryz.prog 111 #[.string x] w fun e w' => e = .returned (.string (O.tx (tailL x))) ∧ Below w.heap.size w w' := by
  have ho := O.out_new w
  have hq := sm_lt x
  have hb1 : Below (w.alloc (.cells #[.slice none 0 0] 158)).heap.size (w.alloc (.cells #[.slice none 0 0] 158)) ((w.alloc (.cells #[.slice none 0 0] 158)).alloc (.cells #[.string x] 9)) := Below.alloc (Below.refl _ _) (Nat.le_refl _) _
  have HO : Hid _ := ho.below hb1
  have hs := sum_one x hx (w.heap.size + 1) ((w.alloc (.cells #[.slice none 0 0] 158)).alloc (.cells #[.string x] 9)) (by
    have e : (w.alloc (.cells #[.slice none 0 0] 158)).heap.size = w.heap.size + 1 := by simp
    rw [← e]; exact (F.cell_of (F.heap_new _ _) 0).trans rfl)
  have HB : Hid (Below w.heap.size w ((w.alloc (.cells #[.slice none 0 0] 158)).alloc (.cells #[.string x] 9))) := (Below.alloc (Below.refl _ _) (Nat.le_refl _) _).trans (hb1.mono (by simp))
  have HT : Hid (tailL x = O.numB (sm x) 4) := rfl
  clear ho hb1
  generalize sm x = q at *
  go_enter Tryz.func111, Tryz.ntmps111
  go_wp2_with fail
  go_call hs as e w2 ⟨rfl, hw2⟩
  rw [← hw2] at HO HB
  clear hs hw2
  have hnum := O.num_any w.heap.size _ [] q 4 w2 HO.out (by omega) (by simp)
  rw [show O.wd 4 = 4 by decide] at hnum
  go_wp2_with fail
  go_call hnum as e w3 ⟨rfl, v3, hw3⟩
  have HB3 : Hid (Below w.heap.size w w3) := HB.out.trans (hw3.below HO.out)
  have hby := O.bytes_any w.heap.size v3 _ w3 hw3.out
  rw [List.nil_append, ← HT.out] at hby
  replace hby : Calls Tryz.prog 110 #[.pointer (some ⟨w.heap.size, 0, none⟩)] w3 fun e w' => e = .returned (.string (O.tx (tailL x))) ∧ w' = w3 := hby
  clear hnum hw3 HO HB HT
  generalize hy : O.tx (tailL x) = y at hby
  have HY : Hid _ := hy
  clear hy
  go_wp2_with fail
  go_call hby as e w4 ⟨rfl, hw4⟩
  rw [← hw4] at HB3
  clear hby hw4
  go_wp2
  go_returns
  exact ⟨by show Ending.returned (.string y) = _; rw [← HY.out], HB3.out⟩
/-- What is ahead of the tail. -/
def bodyL (mark : Nat) (new : List UInt8) : List UInt8 := (O.numB mark 1 ++ new) ++ List.replicate (60 - (1 + new.length)) 0
def secL (mark : Nat) (new : List UInt8) : List UInt8 := bodyL mark new ++ tailL (O.tx (bodyL mark new))
theorem bodyL_length (mark : Nat) (new : List UInt8) (h : new.length ≤ 59) : (bodyL mark new).length = 60 := by
  unfold bodyL; simp [O.numB_length]; omega
theorem secL_length (mark : Nat) (new : List UInt8) (h : new.length ≤ 59) : (secL mark new).length = 64 := by
  unfold secL; rw [List.length_append, bodyL_length mark new h]; unfold tailL; rw [O.numB_length]
set_option maxHeartbeats 1000000 in
/-- A sector whose fields a function writes. -/
theorem sector_any (f : Nat) (cap : Array Value) (mark : Nat) (new : List UInt8) (w : World) (hm : mark < 256) (hn : new.length ≤ 59) (hent : ∀ args W, (callFunc f args).run Tryz.prog W = .ok (.enter f args) W)
    (hdo : ∀ v W, O.OutIs W w.heap.size v (O.numB mark 1) → Below w.heap.size w W → Calls Tryz.prog f (#[.pointer (some ⟨w.heap.size, 0, none⟩)] ++ cap) W fun e W' => e = .returned (.tuple #[]) ∧ ∃ v', O.Wr w.heap.size v (O.numB mark 1) new W v' W') :
    Calls Tryz.prog 66 #[.int .u64 (mark : Nat), .func (.func f) #[] cap] w fun e w' => e = .returned (.string (O.tx (secL mark new))) ∧ Below w.heap.size w w' := by
  have ho := O.out_new w
  have hnum := O.num_any w.heap.size _ [] mark 1 _ ho (by omega) (by simp)
  rw [show O.wd 1 = 1 by decide] at hnum
  have HB0 : Hid (Below w.heap.size w (w.alloc (.cells #[.slice none 0 0] 158))) := Below.alloc (Below.refl _ _) (Nat.le_refl _) _
  have HO : Hid _ := ho
  have HDO : Hid _ := hdo
  clear ho hdo
  go_enter Tryz.func66, Tryz.ntmps66
  go_wp2_with fail
  go_call hnum as e w1 ⟨rfl, v1, hw1⟩
  have HB1 : Hid (Below w.heap.size w w1) := HB0.out.trans (hw1.below HO.out)
  have ho1 := hw1.out
  rw [List.nil_append] at ho1
  have hd := HDO.out v1 w1 ho1 HB1.out
  have HO1 : Hid _ := ho1
  clear hnum hw1 HO HB0 ho1 HDO
  have hq := hent
  go_wp2_with fail
  go_call hd as e w2 ⟨rfl, v2, hw2⟩
  have HB2 : Hid (Below w.heap.size w w2) := HB1.out.trans (hw2.below HO1.out)
  have ho2 := hw2.out
  have hl : (O.numB mark 1 ++ new).length = 1 + new.length := by rw [List.length_append, O.numB_length]
  have hfl := O.fill_any w.heap.size v2 _ 60 w2 ho2 (by decide) (by rw [hl]; omega)
  have hfn : O.fillN (O.numB mark 1 ++ new).length 60 = 60 - (1 + new.length) := by
    unfold O.fillN; rw [hl]
    by_cases h : 1 + new.length = 60
    · rw [h]; rfl
    · rw [if_neg (by omega)]; omega
  rw [hfn] at hfl
  have HO2 : Hid _ := ho2
  clear hd hw2 HO1 HB1 hfn hl ho2 hq
  go_wp2_with fail
  go_call hfl as e w3 ⟨rfl, v3, hw3⟩
  have HB3 : Hid (Below w.heap.size w w3) := HB2.out.trans (hw3.below HO2.out)
  have hby := O.bytes_any w.heap.size v3 _ w3 hw3.out
  replace hby : Calls Tryz.prog 110 #[.pointer (some ⟨w.heap.size, 0, none⟩)] w3 fun e w' => e = .returned (.string (O.tx (bodyL mark new))) ∧ w' = w3 := hby
  have hbs : (O.tx (bodyL mark new)).size = 60 := by rw [O.size_list]; show (bodyL mark new).toArray.toList.length = _; rw [List.toList_toArray]; exact bodyL_length mark new hn
  have htl := fun W => tail_any (O.tx (bodyL mark new)) (by omega) W
  have HS : Hid (O.tx (secL mark new) = O.tx (bodyL mark new) ++ O.tx (tailL (O.tx (bodyL mark new)))) := by
    show _ = _
    unfold secL
    generalize tailL (O.tx (bodyL mark new)) = b
    generalize bodyL mark new = a
    unfold O.tx
    apply ByteArray.ext
    simp
  have hts : (O.tx (tailL (O.tx (bodyL mark new)))).size = 4 := by rw [O.size_list]; show (tailL _).toArray.toList.length = _; rw [List.toList_toArray]; exact O.numB_length _ _
  clear hfl hw3 HO2 HB2
  generalize O.tx (tailL (O.tx (bodyL mark new))) = tl at *
  generalize O.tx (bodyL mark new) = bd at *
  go_wp2_with fail
  go_call hby as e w4 ⟨rfl, hw4⟩
  rw [← hw4] at HB3
  clear hby hw4
  go_wp2_with fail
  go_call (htl w4) as e w5 ⟨rfl, hb5⟩
  have HB5 : Hid (Below w.heap.size w w5) := HB3.out.trans (hb5.mono HB3.out.size)
  clear htl hb5 HB3
  go_wp2
  go_returns
  exact ⟨by rw [HS.out]; rfl, HB5.out⟩
end Go.Proofs.YtncfbocbigdhiaaGreat
