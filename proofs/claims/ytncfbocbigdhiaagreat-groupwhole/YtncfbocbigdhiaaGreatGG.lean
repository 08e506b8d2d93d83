/- A Commit of its sector, and of a sector of noughts, as calls. -/
import Derived.Test.YtncfbocbigdhiaaGreatGE
namespace Go.Proofs.YtncfbocbigdhiaaGreat
set_option maxRecDepth 100000
open Go.RowKit
theorem tx_append (a b : List UInt8) : O.tx (a ++ b) = O.tx a ++ O.tx b := by
  unfold O.tx; apply ByteArray.ext; simp
theorem tx_list (l : List UInt8) : (O.tx l).data.toList = l := by unfold O.tx; simp
theorem tx_front (a b : List UInt8) : (O.tx (a ++ b)).extract 0 a.length = O.tx a := by
  have h := tx_head (O.tx a) b
  rw [tx_list, tx_size] at h; exact h
theorem tx_back (a b : List UInt8) : (O.tx (a ++ b)).extract a.length (O.tx (a ++ b)).size = O.tx b := by
  have h := tx_drop (O.tx a) b
  rw [tx_list, tx_size] at h; exact h
def cmz : Array Value := #[.int .u64 0, .int .u64 0, .int .u64 0, .int .i64 0, .int .i64 0, .int .u32 0]
/-- What lies there when a sector is read. -/
structure Rd (w : World) (R : Array Value) (X : Array Value) (W : World) : Prop where
  bel : Below w.heap.size w W
  m : W.heap[w.heap.size]? = some (.cells #[.int .u64 67] 42)
  f : W.heap[w.heap.size + 1]? = some (.cells #[.func (.func 151) #[] #[]] 195)
  r : W.heap[w.heap.size + 2]? = some (.cells R 55)
  x : W.heap[w.heap.size + 3]? = some (.cells X 55)
theorem Rd.lt {w : World} {R X : Array Value} {W : World} (h : Rd w R X W) : w.heap.size + 4 ≤ W.heap.size := by
  have := (Array.getElem?_eq_some_iff.1 h.x).1; omega
theorem Rd.below {w : World} {R X : Array Value} {W W' : World} (h : Rd w R X W) (hb : Below W.heap.size W W') : Rd w R X W' := by
  have hl := h.lt
  exact ⟨h.bel.trans (hb.mono (by omega)), (hb.block _ (by omega)).trans h.m, (hb.block _ (by omega)).trans h.f, (hb.block _ (by omega)).trans h.r, (hb.block _ (by omega)).trans h.x⟩
theorem rd_start (w : World) : Rd w cmz cmz ((((w.alloc (.cells #[.int .u64 67] 42)).alloc (.cells #[.func (.func 151) #[] #[]] 195)).alloc (.cells cmz 55)).alloc (.cells cmz 55)) := by
  have e1 : (w.alloc (.cells #[.int .u64 67] 42)).heap.size = w.heap.size + 1 := by simp
  have e2 : ((w.alloc (.cells #[.int .u64 67] 42)).alloc (.cells #[.func (.func 151) #[] #[]] 195)).heap.size = w.heap.size + 2 := by simp
  have e3 : (((w.alloc (.cells #[.int .u64 67] 42)).alloc (.cells #[.func (.func 151) #[] #[]] 195)).alloc (.cells cmz 55)).heap.size = w.heap.size + 3 := by simp
  refine ⟨(((Below.alloc (Below.refl _ _) (Nat.le_refl _) _).alloc (by omega) _).alloc (by omega) _).alloc (by omega) _, ?_, ?_, ?_, ?_⟩
  · rw [Below.heap_alloc _ _ _ (by omega), Below.heap_alloc _ _ _ (by omega), Below.heap_alloc _ _ _ (by omega)]; exact F.heap_new _ _
  · rw [Below.heap_alloc _ _ _ (by omega), Below.heap_alloc _ _ _ (by omega), ← e1]; exact F.heap_new _ _
  · rw [Below.heap_alloc _ _ _ (by omega), ← e2]; exact F.heap_new _ _
  · rw [← e3]; exact F.heap_new _ _
def RgV (s tl bd : ByteArray) : Nat → Value → Prop
  | 0, v => v = .string s
  | 1, v => v = .string tl
  | 2, v => v = .string bd
  | 3, v => v = .string tl
  | 4, v => v = .bool false
  | _, _ => True
def RhV (s tl bd ty : ByteArray) : Nat → Value → Prop
  | 0, v => v = .string s
  | 1, v => v = .string tl
  | 2, v => v = .string bd
  | 3, v => v = .string ty
  | 4, v => v = .bool true
  | _, _ => True
set_option maxHeartbeats 2000000 in
set_option maxRecDepth 100000 in
theorem read_back (s bd tl : ByteArray) (p : Cm) (hp : p.Ok) (w : World) (hs : s.size = 64) (h1 : s.extract 0 60 = bd) (h2 : s.extract 60 64 = tl) (hbd : bd.size = 60) (hb : bd = O.tx (bodyL 67 p.fl)) (ht : tl = O.tx (tailL bd)) :
    Calls Tryz.prog 150 #[.string s, .int .u64 67, .func (.func 151) #[] #[]] w fun e w' => e = .returned (.tuple #[.agg p.cs, .int .i64 0]) ∧ Below w.heap.size w w' := by
  have HTA : Hid _ := fun W => tail_any bd (by omega) W
  obtain ⟨U, hU⟩ : ∃ U : World, U = (((w.alloc (.cells #[.int .u64 67] 42)).alloc (.cells #[.func (.func 151) #[] #[]] 195)).alloc (.cells cmz 55)).alloc (.cells cmz 55) := ⟨_, rfl⟩
  have HU : Hid (_ = (((w.alloc (.cells #[.int .u64 67] 42)).alloc (.cells #[.func (.func 151) #[] #[]] 195)).alloc (.cells #[.int .u64 0, .int .u64 0, .int .u64 0, .int .i64 0, .int .i64 0, .int .u32 0] 55)).alloc (.cells #[.int .u64 0, .int .u64 0, .int .u64 0, .int .i64 0, .int .i64 0, .int .u32 0] 55)) := hU
  have HR0 : Hid (Rd w cmz cmz U) := by rw [hU]; exact rd_start w
  have HS : Hid _ := hs
  have H1 : Hid _ := h1
  have H2 : Hid _ := h2
  have HBD : Hid _ := hbd
  have HP : Hid _ := hp
  have HBB : Hid _ := hb
  rw [← ht] at HTA
  clear hp hb ht
  clear hU
  go_enter Tryz.func150, Tryz.ntmps150
  go_wp2
  rw [← HU.out]
  refine O.wp_region_ph (fun f => ⟨#[.string s, .int .u64 67, .func (.func 151) #[] #[], undef, .pointer (some ⟨w.heap.size, 0, none⟩), .pointer (some ⟨w.heap.size + 1, 0, none⟩), .pointer (some ⟨w.heap.size + 1 + 1, 0, none⟩), .int .i64 0, .pointer (some ⟨w.heap.size + 1 + 1 + 1, 0, none⟩), .string bd, undef, undef, .string s, .int .i64 64, .bool false, undef, .string s, .string bd, f 0, f 1, f 2, f 3, f 4, undef, undef, undef, undef, undef, undef, undef, undef, undef], []⟩) (RgV s tl bd) (fun _ _ W => Rd w cmz cmz W) (fun i => [undef, undef, undef, undef, undef].getD i undef) (by kernel_rfl) rfl rfl ?hIa ?hputa ?stepa ?fina
  case hIa => exact HR0.out.below (Below.refl _ _).drew
  case fina =>
    intro f w1 hP hV
    have u0 : f 0 = .string s := hV 0 (by decide)
    have u1 : f 1 = .string tl := hV 1 (by decide)
    have u2 : f 2 = .string bd := hV 2 (by decide)
    have u3 : f 3 = .string tl := hV 3 (by decide)
    have u4 : f 4 = .bool false := hV 4 (by decide)
    clear hV
    generalize f 0 = x0 at *
    subst u0
    generalize f 1 = x1 at *
    subst u1
    generalize f 2 = x2 at *
    subst u2
    generalize f 3 = x3 at *
    subst u3
    generalize f 4 = x4 at *
    subst u4
    replace hP : Rd w cmz cmz w1 := hP
    have R1 : Hid _ := hP
    clear hP f
    have hl1 := R1.out.lt
    have hz : bodyL 67 p.fl = O.numB 67 1 ++ (p.fl ++ List.replicate (60 - (1 + p.fl.length)) 0) := by unfold bodyL; rw [List.append_assoc]
    have hW := O.W0_below w1 bd
    have hsz := O.W0_size w1 bd
    have hin := O.W0_in w1 bd
    have htk0 := O.W0_tk w1 bd
    have hRW := R1.out.below hW
    have htk := O.take_ok 170 #[.pointer (some ⟨w.heap.size, 0, none⟩), .pointer (some ⟨w.heap.size + 1, 0, none⟩), .pointer (some ⟨w.heap.size + 3, 0, none⟩)] bd ⟨#[]⟩ (fun W => W.heap[w.heap.size + 3]? = some (.cells p.cs 55) ∧ W.heap[w.heap.size + 2]? = some (.cells cmz 55) ∧ Below w.heap.size w W) w1 ent170 (by
      have hin2 := hin
      conv at hin2 => arg 3; rw [HBB.out, hz]
      refine (rdin_ok p HP.out (w1.heap.size + 2) w.heap.size (w.heap.size + 1) (w.heap.size + 3) _ cmz rfl (O.W0 w1 bd) (by omega) hin2 hRW.m hRW.f hRW.x (by omega) (by omega) (by omega)).mono ?_
      rintro e W ⟨rfl, hi, hx, hkx⟩
      exact ⟨rfl, hi, htk0.keep (fun k hk => hkx.block k (by omega) (by omega) (by omega)), hx, (hkx.block (w.heap.size + 2) (by omega) (by omega) (by omega)).trans hRW.r, hRW.bel.trans ⟨hkx.os, hkx.tape, hkx.output, hkx.size, fun k hk => hkx.block k (by omega) (by omega) (by omega)⟩⟩)
    clear hW hsz hin htk0 hRW hz
    go_wp2_with fail
    go_call htk as e w2 ⟨rfl, W, ⟨hx, hr, hbl⟩, hkt⟩
    have hWs : w.heap.size + 4 ≤ W.heap.size := by have := (Array.getElem?_eq_some_iff.1 hx).1; omega
    have X2 : Hid _ := (hkt.block (w.heap.size + 3) (by omega) (by omega) (by omega)).trans hx
    have R2 : Hid _ := (hkt.block (w.heap.size + 2) (by omega) (by omega) (by omega)).trans hr
    have B2 : Hid (Below w.heap.size w w2) := hbl.trans ⟨hkt.os, hkt.tape, hkt.output, hkt.size, fun k hk => hkt.block k (by omega) (by omega) (by omega)⟩
    clear htk hx hr hbl hkt hWs R1 hl1
    go_wp2_with (first | (refine pld rfl _ rfl _ _ (Cm.cs_size _) rfl X2.out ?_) | (refine pldp _ rfl _ _ (Cm.cs_size _) rfl X2.out ?_) | (refine cst6 rfl _ _ rfl _ _ (Cm.cs_size _) rfl rfl (by rfl) R2.out (Cm.cs_one _) ?c6) | (refine cst6p _ _ rfl _ _ (Cm.cs_size _) rfl rfl (by rfl) R2.out (Cm.cs_one _) ?c6))
    intro w6 ho6 hk6
    have B6 : Hid _ := ho6.below B2.out (by omega)
    have R6 : Hid _ := hk6
    clear ho6 hk6
    go_wp2
    refine bodyPost_ret (pret2 Tryz.results150 _ _ (w.heap.size + 2) _ _ (Cm.cs_size _) rfl R6.out rfl) rfl ⟨rfl, B6.out⟩
  case hputa =>
    repeat (refine ⟨fun f v => rfl, ?_⟩)
    trivial
  case stepa =>
    refine ⟨?_, ?_⟩
    · intro done f W hP hdn hd K hK
      clear hd
      replace hP : Rd w cmz cmz W := hP
      go_simp
      exact hK _ _ rfl hP
    refine ⟨?_, ?_⟩
    · intro done f W hP hdn hd K hK
      have d0 := (hd.1 rfl).2
      have e0 : done 0 = true := (hd.1 rfl).1
      clear hd
      replace d0 : f 0 = .string s := d0
      replace hP : Rd w cmz cmz W := hP
      generalize f 0 = x0 at *
      subst d0
      clear e0
      go_simp
      exact hK _ _ (by first | rfl | (show Value.string _ = _; rw [H2.out]) | (show Value.string _ = _; rw [HS.out, H2.out])) hP
    refine ⟨?_, ?_⟩
    · intro done f W hP hdn hd K hK
      clear hd
      replace hP : Rd w cmz cmz W := hP
      go_simp
      exact hK _ _ rfl hP
    refine ⟨?_, ?_⟩
    · intro done f W hP hdn hd K hK
      have d2 := (hd.1 rfl).2
      have e2 : done 2 = true := (hd.1 rfl).1
      clear hd
      replace d2 : f 2 = .string bd := d2
      replace hP : Rd w cmz cmz W := hP
      generalize f 2 = x2 at *
      subst d2
      clear e2
      go_simp
      refine (HTA.out W).mono ?_
      rintro e W' ⟨rfl, hb⟩
      exact hK _ _ rfl (hP.below hb)
    refine ⟨?_, ?_⟩
    · intro done f W hP hdn hd K hK
      have d1 := (hd.1 rfl).2
      have e1 : done 1 = true := (hd.1 rfl).1
      have d3 := (hd.2.1 rfl).2
      have e3 : done 3 = true := (hd.2.1 rfl).1
      clear hd
      replace d1 : f 1 = .string tl := d1
      replace d3 : f 3 = .string tl := d3
      replace hP : Rd w cmz cmz W := hP
      generalize f 1 = x1 at *
      subst d1
      clear e1
      generalize f 3 = x3 at *
      subst d3
      clear e3
      go_simp
      exact hK _ _ (by first | rfl | (show Value.bool _ = _; simp)) hP
    trivial
set_option maxHeartbeats 2000000 in
set_option maxRecDepth 100000 in
theorem read_no (s bd tl : ByteArray) (w : World) (hs : s.size = 64) (h1 : s.extract 0 60 = bd) (h2 : s.extract 60 64 = tl) (hbd : bd.size = 60) (hne : ¬ tl = O.tx (tailL bd)) :
    Calls Tryz.prog 150 #[.string s, .int .u64 67, .func (.func 151) #[] #[]] w fun e w' => e = .returned (.tuple #[.agg cmz, .int .i64 5]) ∧ Below w.heap.size w w' := by
  have HTA : Hid _ := fun W => tail_any bd (by omega) W
  obtain ⟨U, hU⟩ : ∃ U : World, U = (((w.alloc (.cells #[.int .u64 67] 42)).alloc (.cells #[.func (.func 151) #[] #[]] 195)).alloc (.cells cmz 55)).alloc (.cells cmz 55) := ⟨_, rfl⟩
  have HU : Hid (_ = (((w.alloc (.cells #[.int .u64 67] 42)).alloc (.cells #[.func (.func 151) #[] #[]] 195)).alloc (.cells #[.int .u64 0, .int .u64 0, .int .u64 0, .int .i64 0, .int .i64 0, .int .u32 0] 55)).alloc (.cells #[.int .u64 0, .int .u64 0, .int .u64 0, .int .i64 0, .int .i64 0, .int .u32 0] 55)) := hU
  have HR0 : Hid (Rd w cmz cmz U) := by rw [hU]; exact rd_start w
  have HS : Hid _ := hs
  have H1 : Hid _ := h1
  have H2 : Hid _ := h2
  have HBD : Hid _ := hbd
  generalize O.tx (tailL bd) = ty at *
  clear hU
  go_enter Tryz.func150, Tryz.ntmps150
  go_wp2
  rw [← HU.out]
  refine O.wp_region_ph (fun f => ⟨#[.string s, .int .u64 67, .func (.func 151) #[] #[], undef, .pointer (some ⟨w.heap.size, 0, none⟩), .pointer (some ⟨w.heap.size + 1, 0, none⟩), .pointer (some ⟨w.heap.size + 1 + 1, 0, none⟩), .int .i64 0, .pointer (some ⟨w.heap.size + 1 + 1 + 1, 0, none⟩), .string bd, undef, undef, .string s, .int .i64 64, .bool false, undef, .string s, .string bd, f 0, f 1, f 2, f 3, f 4, undef, undef, undef, undef, undef, undef, undef, undef, undef], []⟩) (RhV s tl bd ty) (fun _ _ W => Rd w cmz cmz W) (fun i => [undef, undef, undef, undef, undef].getD i undef) (by kernel_rfl) rfl rfl ?hIb ?hputb ?stepb ?finb
  case hIb => exact HR0.out.below (Below.refl _ _).drew
  case finb =>
    intro f w1 hP hV
    have u0 : f 0 = .string s := hV 0 (by decide)
    have u1 : f 1 = .string tl := hV 1 (by decide)
    have u2 : f 2 = .string bd := hV 2 (by decide)
    have u3 : f 3 = .string ty := hV 3 (by decide)
    have u4 : f 4 = .bool true := hV 4 (by decide)
    clear hV
    generalize f 0 = x0 at *
    subst u0
    generalize f 1 = x1 at *
    subst u1
    generalize f 2 = x2 at *
    subst u2
    generalize f 3 = x3 at *
    subst u3
    generalize f 4 = x4 at *
    subst u4
    replace hP : Rd w cmz cmz w1 := hP
    have R1 : Hid _ := hP
    clear hP f
    go_wp2_with (first | (refine pld rfl _ rfl _ _ (by rfl) rfl R1.out.x ?_) | (refine pldp _ rfl _ _ (by rfl) rfl R1.out.x ?_) | (refine cst6 rfl _ _ rfl _ _ (by rfl) rfl rfl (by rfl) R1.out.r (by simp [cmz, Value.oneCell']) ?d6) | (refine cst6p _ _ rfl _ _ (by rfl) rfl rfl (by rfl) R1.out.r (by simp [cmz, Value.oneCell']) ?d6))
    intro w6 ho6 hk6
    have B6 : Hid _ := ho6.below R1.out.bel (by omega)
    have R6 : Hid _ := hk6
    clear ho6 hk6
    go_wp2
    refine bodyPost_ret (pret2 Tryz.results150 _ _ (w.heap.size + 2) _ _ (by rfl) rfl R6.out rfl) rfl ⟨rfl, B6.out⟩
  case hputb =>
    repeat (refine ⟨fun f v => rfl, ?_⟩)
    trivial
  case stepb =>
    refine ⟨?_, ?_⟩
    · intro done f W hP hdn hd K hK
      clear hd
      replace hP : Rd w cmz cmz W := hP
      go_simp
      exact hK _ _ rfl hP
    refine ⟨?_, ?_⟩
    · intro done f W hP hdn hd K hK
      have d0 := (hd.1 rfl).2
      have e0 : done 0 = true := (hd.1 rfl).1
      clear hd
      replace d0 : f 0 = .string s := d0
      replace hP : Rd w cmz cmz W := hP
      generalize f 0 = x0 at *
      subst d0
      clear e0
      go_simp
      exact hK _ _ (by first | rfl | (show Value.string _ = _; rw [H2.out]) | (show Value.string _ = _; rw [HS.out, H2.out])) hP
    refine ⟨?_, ?_⟩
    · intro done f W hP hdn hd K hK
      clear hd
      replace hP : Rd w cmz cmz W := hP
      go_simp
      exact hK _ _ rfl hP
    refine ⟨?_, ?_⟩
    · intro done f W hP hdn hd K hK
      have d2 := (hd.1 rfl).2
      have e2 : done 2 = true := (hd.1 rfl).1
      clear hd
      replace d2 : f 2 = .string bd := d2
      replace hP : Rd w cmz cmz W := hP
      generalize f 2 = x2 at *
      subst d2
      clear e2
      go_simp
      refine (HTA.out W).mono ?_
      rintro e W' ⟨rfl, hb⟩
      exact hK _ _ rfl (hP.below hb)
    refine ⟨?_, ?_⟩
    · intro done f W hP hdn hd K hK
      have d1 := (hd.1 rfl).2
      have e1 : done 1 = true := (hd.1 rfl).1
      have d3 := (hd.2.1 rfl).2
      have e3 : done 3 = true := (hd.2.1 rfl).1
      clear hd
      replace d1 : f 1 = .string tl := d1
      replace d3 : f 3 = .string ty := d3
      replace hP : Rd w cmz cmz W := hP
      generalize f 1 = x1 at *
      subst d1
      clear e1
      generalize f 3 = x3 at *
      subst d3
      clear e3
      have hnl : ¬ tl.toList = ty.toList := fun e => hne (by rw [ByteArray.toList_eq, ByteArray.toList_eq] at e; exact ByteArray.ext (Array.toList_inj.mp e))
      go_simp
      exact hK _ _ (by first | rfl | (show Value.bool _ = _; simp [hnl])) hP
    trivial
set_option maxHeartbeats 1000000 in
set_option maxRecDepth 100000 in
/-- A sector, told by its reading. -/
theorem tocommit_of (s : ByteArray) (c : Array Value) (hc : c.size = 6) (h1 : c.all (·.oneCell') = true) (er : Int) (w : World) (hr : ∀ W, Calls Tryz.prog 150 #[.string s, .int .u64 67, .func (.func 151) #[] #[]] W fun e w' => e = .returned (.tuple #[.agg c, .int .i64 er]) ∧ Below W.heap.size W w') :
    Calls Tryz.prog 131 #[.string s] w fun e w' => e = .returned (.tuple #[.agg c, .int .i64 er]) ∧ Below w.heap.size w w' := by
  have HR : Hid _ := hr
  have HB : Hid (Below w.heap.size w (w.alloc (.cells #[.int .u64 0, .int .u64 0, .int .u64 0, .int .i64 0, .int .i64 0, .int .u32 0] 55))) := Below.alloc (Below.refl _ _) (Nat.le_refl _) _
  have HN : Hid ((w.alloc (.cells #[.int .u64 0, .int .u64 0, .int .u64 0, .int .i64 0, .int .i64 0, .int .u32 0] 55)).heap[w.heap.size]? = _) := F.heap_new _ _
  clear hr
  go_enter Tryz.func131, Tryz.ntmps131
  go_wp2_with fail
  go_call (HR.out _) as e w2 ⟨rfl, hb2⟩
  have N2 : Hid _ := (hb2.block w.heap.size (by simp)).trans HN.out
  have B2 : Hid (Below w.heap.size w w2) := HB.out.trans (hb2.mono (by simp))
  clear hb2 HB HN HR
  go_wp2_with (first | (refine cst6 rfl _ _ rfl _ _ hc rfl rfl (by rfl) N2.out h1 ?c6) | (refine cst6p _ _ rfl _ _ hc rfl rfl (by rfl) N2.out h1 ?c6))
  intro w6 ho6 hk6
  have B6 : Hid _ := ho6.below B2.out (Nat.le_refl _)
  have R6 : Hid _ := hk6
  clear ho6 hk6
  go_wp2
  refine bodyPost_ret (pret2 Tryz.results131 _ _ w.heap.size _ _ hc rfl R6.out rfl) rfl ⟨rfl, B6.out⟩
/-- A Commit's sector tells the Commit. -/
theorem tocommit_back (p : Cm) (hp : p.Ok) (w : World) : Calls Tryz.prog 131 #[.string p.sec] w fun e w' => e = .returned (.tuple #[.agg p.cs, .int .i64 0]) ∧ Below w.heap.size w w' := by
  have hl := bodyL_length 67 p.fl (by rw [Cm.fl_length]; decide)
  have e1 := tx_front (bodyL 67 p.fl) (tailL (O.tx (bodyL 67 p.fl)))
  have e2 := tx_back (bodyL 67 p.fl) (tailL (O.tx (bodyL 67 p.fl)))
  rw [hl] at e1 e2
  have hs := p.sec_size
  have e2' : p.sec.extract 60 64 = O.tx (tailL (O.tx (bodyL 67 p.fl))) := by rw [← hs]; exact e2
  exact tocommit_of p.sec p.cs (Cm.cs_size _) (Cm.cs_one _) 0 w (fun W => read_back p.sec _ _ p hp W hs e1 e2' (by rw [tx_size, hl]) rfl rfl)
/-- A sector of noughts. -/
def zsec : ByteArray := O.tx (List.replicate 64 0)
theorem zsum : ¬ O.tx (List.replicate 4 0) = O.tx (tailL (O.tx (List.replicate 60 0))) := by decide +kernel
theorem tocommit_zero (w : World) : Calls Tryz.prog 131 #[.string zsec] w fun e w' => e = .returned (.tuple #[.agg cmz, .int .i64 5]) ∧ Below w.heap.size w w' := by
  have e1 := tx_front (List.replicate 60 0) (List.replicate 4 0)
  have e2 := tx_back (List.replicate 60 0) (List.replicate 4 0)
  rw [List.length_replicate] at e1 e2
  have hz : O.tx (List.replicate 60 0 ++ List.replicate 4 0) = zsec := by unfold zsec; rw [List.replicate_append_replicate]
  have hs : zsec.size = 64 := by unfold zsec; rw [tx_size, List.length_replicate]
  rw [hz] at e1 e2
  rw [hs] at e2
  exact tocommit_of zsec cmz rfl (by simp [cmz, Value.oneCell']) 5 w (fun W => read_no zsec _ _ W hs e1 e2 (by rw [tx_size, List.length_replicate]) zsum)
end Go.Proofs.YtncfbocbigdhiaaGreat
