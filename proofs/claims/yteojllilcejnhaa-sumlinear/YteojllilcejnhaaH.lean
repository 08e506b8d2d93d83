/- The law SumLinear as a call: for every three texts it returns true, and nothing that was in memory is changed; no condition. -/
import Derived.Test.YteojllilcejnhaaG
import Derived.Test.YteojllilcejnhaaR
namespace Go.Proofs.Yteojllilcejnhaa
open Go.RowKit

theorem run_min4 (w : World) (x y z u : Int) (n : Nat) (hn : (n : Int) = min (min (min x y) z) u) : (Builtin.min_ #[3, 3, 3, 3] 3 #[.int .i64 x, .int .i64 y, .int .i64 z, .int .i64 u]).run Try.prog w = .ok (.int .i64 (n : Int)) w := by
  have : (if u < (if z < (if y < x then y else x) then z else (if y < x then y else x)) then u else (if z < (if y < x then y else x) then z else (if y < x then y else x))) = (n : Int) := by
    rw [hn]; split <;> split <;> (try split) <;> omega
  simp [Builtin.min_, Builtin.min2, this]
theorem info5 : (Try.prog.info? 5).map (fun i => (i.zero, i.size, i.bytes)) = some (some (.int .u8 0), 1, 1) := by kernel_rfl

theorem make_bytes (n : Nat) (hn : n ≤ 60) (w : World) : ∃ W0 : World, (Instr.makeSlice 31 (.int .i64 n) (.int .i64 n)).run Try.prog w = .ok (.slice (some ⟨w.heap.size, 0, none⟩) n n) W0 ∧
    (∀ j, j < n → W0.cell? ⟨w.heap.size, j, none⟩ = some (.int .u8 0)) ∧ (∀ j, j < n → W0.frozen? ⟨w.heap.size, j, none⟩ = false) ∧ Below w.heap.size w W0 := by
  have hi := info5
  cases h : Try.prog.info? 5 with
  | none => simp [h] at hi
  | some i =>
    simp [h] at hi
    obtain ⟨hz, hs, hb⟩ := hi
    have := run_makeSlice (P := Try.prog) w 31 5 i (.int .u8 0) Try.underlying31 h hz .i64 .i64 n n (by omega) (by omega) (by simp [hs]; omega) (by simp [hb]; omega) (by omega)
    simp only [Int.toNat_natCast, hs, Nat.mul_one] at this
    refine ⟨_, this, ?_, ?_, ?_⟩
    · intro j hj
      have h1 : (w.alloc (.cells (madeCells (Value.int .u8 0).cells n) 5)).heap[w.heap.size]? = some (.cells (madeCells (Value.int .u8 0).cells n) 5) := by
        show (w.heap.push _)[w.heap.size]? = _
        simp
      simp only [World.cell?, h1]
      simp [madeCells, Value.cells, hj, Nat.mod_one]
    · intro j hj
      rw [frozen?_alloc_cells]
      simp [World.frozen?]
    · exact Below.alloc (Below.refl _ _) (Nat.le_refl _) _

/-- The byte j behind n stores: three texts' bytes, xored. -/
def zb (a b c : ByteArray) (n j : Nat) : Nat := if j < n then xr (xr (bn a j) (bn b j)) (bn c j) else 0
theorem zb_lt (a b c : ByteArray) (n j : Nat) : zb a b c n j < 256 := by
  unfold zb; split
  · exact Nat.xor_lt_two_pow (n := 8) (Nat.xor_lt_two_pow (n := 8) (bn_lt a j) (bn_lt b j)) (bn_lt c j)
  · omega

theorem zb_other (a b c : ByteArray) (m j : Nat) (h : j ≠ m) : zb a b c (m + 1) j = zb a b c m j := by
  unfold zb
  by_cases h1 : j < m
  · rw [if_pos h1, if_pos (by omega)]
  · rw [if_neg h1, if_neg (by omega)]
theorem zb_bits (a b c : ByteArray) (m : Nat) : bits .xor .u8 (bits .xor .u8 (bn a m : Int) (bn b m : Int)) (bn c m : Int) = (zb a b c (m + 1) m : Int) := by
  have h1 : bits .xor .u8 (bn a m : Int) (bn b m : Int) = ((xr (bn a m) (bn b m) : Nat) : Int) := u8_xor_nat _ _ (bn_lt a m) (bn_lt b m)
  have h2 : xr (bn a m) (bn b m) < 256 := Nat.xor_lt_two_pow (n := 8) (bn_lt a m) (bn_lt b m)
  rw [h1]
  unfold zb
  rw [if_pos (by omega)]
  exact u8_xor_nat _ _ h2 (bn_lt c m)
theorem rel_step3 (wr w : World) (B m n : Nat) (a b c : ByteArray) (hB : w.heap.size ≤ B)
    (hc : Hid (∀ j, j < n → wr.cell? ⟨B, j, none⟩ = some (.int .u8 (zb a b c m j : Int)))) (hf : Hid (∀ j, j < n → wr.frozen? ⟨B, j, none⟩ = false)) (hb : Below w.heap.size w wr) :
    Hid (∀ j, j < n → ((wr.setCell ⟨B, m, none⟩ (.int .u8 (zb a b c (m + 1) m : Int))).drew).cell? ⟨B, j, none⟩ = some (.int .u8 (zb a b c (m + 1) j : Int))) ∧
    Hid (∀ j, j < n → ((wr.setCell ⟨B, m, none⟩ (.int .u8 (zb a b c (m + 1) m : Int))).drew).frozen? ⟨B, j, none⟩ = false) ∧
    Below w.heap.size w ((wr.setCell ⟨B, m, none⟩ (.int .u8 (zb a b c (m + 1) m : Int))).drew) := by
  refine ⟨fun j hj => ?_, fun j hj => ?_, ?_⟩
  · rw [World.cell?_drew]
    by_cases h : j = m
    · subst h
      exact World.cell?_setCell_same wr _ _ (hc.out _ hj)
    · rw [World.cell?_setCell_other wr _ _ _ (by intro e; exact h (congrArg Addr.off e).symm), hc.out j hj, zb_other _ _ _ _ _ h]
  · show (wr.setCell _ _).frozen? _ = _
    rw [World.frozen?_setCell]
    exact hf.out j hj
  · exact Below.drew (Below.setCell hb hB _)
/-- The text of three texts' first n bytes, xored. -/
def zt (a b c : ByteArray) (n : Nat) : ByteArray := ⟨((List.range n).map fun j => UInt8.ofNat (zb a b c n j)).toArray⟩
theorem zt_size (a b c : ByteArray) (n : Nat) : (zt a b c n).size = n := by
  show (List.toArray _).size = _
  simp
theorem bn_zt (a b c : ByteArray) (n j : Nat) (hj : j < n) : bn (zt a b c n) j = zb a b c n j := by
  rw [bn_eq]
  have hl := zb_lt a b c n j
  simp [zt, List.getElem?_map, List.getElem?_range hj]
  omega
theorem conv_zt (a b c : ByteArray) (n B cap : Nat) (wr : World) (hc : ∀ j, j < n → wr.cell? ⟨B, j, none⟩ = some (.int .u8 (zb a b c n j : Int))) :
    (convert 31 9 (.slice (some ⟨B, 0, none⟩) n cap)).run Try.prog wr = .ok (.string (zt a b c n)) wr := by
  have h := run_convert_bytes_back (P := Try.prog) wr 31 9 5 ⟨B, 0, none⟩ cap ((List.range n).map fun j => UInt8.ofNat (zb a b c n j)) Try.underlying31 Try.underlying5 Try.underlying9 (by
    intro j hj
    have hj2 : j < n := by simpa using hj
    have hl := zb_lt a b c n j
    have ha : (⟨B, 0, none⟩ : Addr).add j = ⟨B, j, none⟩ := by simp [Addr.add]; omega
    rw [ha, hc j hj2]
    simp
    omega)
  simpa [zt] using h
theorem linear3 (a b c : ByteArray) (n : Nat) (na : n ≤ a.size) (nb : n ≤ b.size) (nc : n ≤ c.size) :
    xr (xr (onN 0 (a.extract 0 n)) (onN 0 (b.extract 0 n))) (onN 0 (c.extract 0 n)) = onN 0 (zt a b c n) := by
  have sz : ∀ s : ByteArray, n ≤ s.size → (s.extract 0 n).size = n := fun s h => by simp [ByteArray.size_extract]; omega
  unfold onN
  rw [sz a na, sz b nb, sz c nc, zt_size]
  rw [st_congr _ (bn a) _ n (fun j hj => bn_take a n j hj), st_congr _ (bn b) _ n (fun j hj => bn_take b n j hj), st_congr _ (bn c) _ n (fun j hj => bn_take c n j hj)]
  rw [st_congr (bn (zt a b c n)) (fun j => xr (xr (bn a j) (bn b j)) (bn c j)) _ n (fun j hj => by rw [bn_zt a b c n j hj, zb, if_pos hj])]
  have h1 := st_xr (bn a) (bn b) (tn 0) (tn 0) n
  have h2 := st_xr (fun j => xr (bn a j) (bn b j)) (bn c) (xr (tn 0) (tn 0)) (tn 0) n
  rw [← h1, xr_self, zero_xr] at h2
  rw [← h2]
  unfold tn
  generalize st (bn a) (xr 4294967295 0) n = p
  generalize st (bn b) (xr 4294967295 0) n = q
  generalize st (bn c) (xr 4294967295 0) n = r
  rw [xr_swap 4294967295 p, xr_self, zero_xr, xr_comm 4294967295 r, ← xr_assoc, xr_comm (xr (xr p q) r)]

def SS (a b c : ByteArray) (B m : Nat) (W : World) : Prop := ∀ j, j < m → W.cell? ⟨B, j, none⟩ = some (.int .u8 (zb a b c m j : Int))
theorem SS.drew {a b c : ByteArray} {B m : Nat} {W : World} (h : SS a b c B m W) : SS a b c B m W.drew := h
theorem SS.alloc {a b c : ByteArray} {B m : Nat} {W : World} (h : SS a b c B m W) (o : Obj) : SS a b c B m (W.alloc o) := fun j hj => by
  rw [World.cell?_alloc_lt _ _ _ (World.block_lt_of_cell? W _ (h j hj))]
  exact h j hj

def IsStr (s : ByteArray) (v : Value) (W : World) : Prop := ∃ b, v = .slice (some ⟨b, 0, none⟩) 1 1 ∧ W.cell? ⟨b, 0, none⟩ = some (.string s)
/-- What each operation of the last statement yields. -/
def VL (a b c : ByteArray) (B m : Nat) : Nat → Value → World → Prop
  | 0, v, _ => v = .string a
  | 1, v, _ => v = .int .i64 m
  | 2, v, _ => v = .string (a.extract 0 m)
  | 3, v, W => IsStr (a.extract 0 m) v W
  | 4, v, _ => v = .int .u32 (onN 0 (a.extract 0 m))
  | 5, v, _ => v = .string b
  | 6, v, _ => v = .int .i64 m
  | 7, v, _ => v = .string (b.extract 0 m)
  | 8, v, W => IsStr (b.extract 0 m) v W
  | 9, v, _ => v = .int .u32 (onN 0 (b.extract 0 m))
  | 10, v, _ => v = .int .u32 (xr (onN 0 (a.extract 0 m)) (onN 0 (b.extract 0 m)))
  | 11, v, _ => v = .string c
  | 12, v, _ => v = .int .i64 m
  | 13, v, _ => v = .string (c.extract 0 m)
  | 14, v, W => IsStr (c.extract 0 m) v W
  | 15, v, _ => v = .int .u32 (onN 0 (c.extract 0 m))
  | 16, v, _ => v = .int .u32 (onN 0 (zt a b c m))
  | 17, v, _ => v = .slice (some ⟨B, 0, none⟩) m m
  | 18, v, _ => v = .string (zt a b c m)
  | 19, v, W => IsStr (zt a b c m) v W
  | 20, v, _ => v = .int .u32 (onN 0 (zt a b c m))
  | 21, v, _ => v = .bool true
  | _, v, _ => v = .bool true
theorem IsStr.stay {s : ByteArray} {v : Value} {W W' : World} (h : IsStr s v W) (hb : Below W.heap.size W W') : IsStr s v W' := by
  obtain ⟨b, rfl, hc⟩ := h
  exact ⟨b, rfl, by rw [hb.cell (World.block_lt_of_cell? W _ hc)]; exact hc⟩
theorem VL.stay {a b c : ByteArray} {B m : Nat} (i : Nat) (v : Value) (W W' : World) (h : VL a b c B m i v W) (hb : Below W.heap.size W W') : VL a b c B m i v W' := by
  unfold VL at *
  split at h <;> first | exact h | exact IsStr.stay h hb

set_option maxHeartbeats 1000000 in
theorem sumLinear_walk (a b c : ByteArray) (w : World) :
    Calls Try.prog 6 #[.string a, .string b, .string c] w fun e w' => e = .returned (.bool true) ∧ Below w.heap.size w w' := by
  obtain ⟨n, hn⟩ : ∃ n : Nat, (n : Int) = min (min (min (a.size : Int) b.size) c.size) 60 := ⟨(min (min (min (a.size : Int) b.size) c.size) 60).toNat, by omega⟩
  have na : n ≤ a.size := by omega
  have nb : n ≤ b.size := by omega
  have nc : n ≤ c.size := by omega
  have n60 : n ≤ 60 := by omega
  have hmin := fun w : World => run_min4 w _ _ _ _ n hn
  clear hn
  go_enter Try.func6, Try.ntmps6
  go_wp2_with fail
  go_call (awake_below w) as e w1 ⟨rfl, g1⟩
  obtain ⟨W0, hrun, hcell0, hfr0, hb0⟩ := make_bytes n n60 w1
  have hB : w.heap.size ≤ w1.heap.size := g1.size
  have hbw : Below w.heap.size w W0 := g1.trans (hb0.mono hB)
  have HC : Hid (∀ j, j < n → W0.cell? ⟨w1.heap.size, j, none⟩ = some (.int .u8 0)) := hcell0
  have HF : Hid (∀ j, j < n → W0.frozen? ⟨w1.heap.size, j, none⟩ = false) := hfr0
  clear hcell0 hfr0
  clear hb0 g1
  go_wp2_with fail
  generalize hBe : w1.heap.size = B at *
  clear hBe hrun hmin
  have ga := get_bn a
  have gb := get_bn b
  have gc := get_bn c
  go_loopw [23] (fun i wr => ∃ m : Nat, m ≤ n ∧ i = .int .i64 m ∧ Hid (∀ j, j < n → wr.cell? ⟨B, j, none⟩ = some (.int .u8 (zb a b c m j : Int))) ∧ Hid (∀ j, j < n → wr.frozen? ⟨B, j, none⟩ = false) ∧ Below w.heap.size w wr)
    (fun i _ => n - (intOf i).toNat)
  case atStart => exact ⟨0, Nat.zero_le _, rfl, fun j hj => by rw [HC.out j hj]; rfl, HF, hbw⟩
  case round =>
    obtain ⟨m, hm, rfl, hce, hfe, hbe⟩ := hrel
    clear HC HF hbw
    go_wp2
    · have hlt : m < n := by assumption
      have hc1 := hce.out m hlt
      have hf1 := hfe.out m hlt
      have hx1 := zb_bits a b c m
      obtain ⟨n1, n2, n3⟩ := rel_step3 wr w B m n a b c hB hce hfe hbe
      clear hce hfe hbe
      go_region
      go_wp2
      go_roundw
      case rel => exact ⟨m + 1, by omega, by go_num, n1, n2, n3⟩
      case measure => simp only [intOf]; omega
    · have hge : ¬ m < n := by assumption
      obtain rfl : m = n := by omega
      have za : (a.extract 0 m).size ≤ 9223372036854775807 := by simp [ByteArray.size_extract]; omega
      have zb' : (b.extract 0 m).size ≤ 9223372036854775807 := by simp [ByteArray.size_extract]; omega
      have zc : (c.extract 0 m).size ≤ 9223372036854775807 := by simp [ByteArray.size_extract]; omega
      have zz : (zt a b c m).size ≤ 9223372036854775807 := by rw [zt_size]; omega
      have hcv : ∀ W, SS a b c B m W → (convert 31 9 (.slice (some ⟨B, 0, none⟩) m m)).run Try.prog W = .ok (.string (zt a b c m)) W := fun W hW => conv_zt a b c m B m W hW
      have hSS : SS a b c B m wr := hce.out
      clear hce hfe ga gb gc
      have hdm : decide (m < m) = false := by simp
      rw [hdm]
      refine wp_region_slots (fun f => ⟨#[.string a, .string b, .string c, undef, undef, undef, f 22, .int .i64 m, .slice (some ⟨B, 0, none⟩) m m, u9, .bool true, .bool false, .string a, .int .i64 a.size, .string b, .int .i64 b.size, .string c, .int .i64 c.size, .int .i64 m, .int .i64 m, .slice (some ⟨B, 0, none⟩) m m, .slice (some ⟨B, 0, none⟩) m m, .int .i64 m, .int .i64 m, .bool false, u25, u26, u27, u28, u29, u30, u31, u32, u33, u34, u35, u36, u37, u38, u39, u40, f 0, f 1, f 2, f 3, f 4, f 5, f 6, f 7, f 8, f 9, f 10, f 11, f 12, f 13, f 14, f 15, f 16, f 17, f 18, f 19, f 20, f 21], []⟩) (VL a b c B m) (fun W => SS a b c B m W ∧ Below w.heap.size w W) (fun W W' => Below W.heap.size W W') (fun i => if i = 22 then .bool false else undef) (by kernel_rfl) (by kernel_rfl) rfl ⟨hSS, hbe.drew⟩ VL.stay ?hput ?step ?fin
      case hput =>
        repeat (refine ⟨fun f v => rfl, ?_⟩)
        trivial
      case fin =>
        intro f W hI hV
        have h22 : f 22 = .bool true := hV 22 (by decide)
        obtain ⟨_, hbW⟩ := hI
        clear hV hSS hcv
        go_wp2
        go_ret
        exact ⟨by rw [h22]; rfl, hbW⟩
      case step =>
        have x1 := xr_bits (onN 0 (a.extract 0 m)) (onN 0 (b.extract 0 m)) (onN_lt _ _ (by decide)) (onN_lt _ _ (by decide))
        have x2 : bits .xor .u32 ((xr (onN 0 (a.extract 0 m)) (onN 0 (b.extract 0 m)) : Nat) : Int) ((onN 0 (c.extract 0 m) : Nat) : Int) = ((onN 0 (zt a b c m) : Nat) : Int) := by
          rw [xr_bits _ _ (xr_lt _ _ (onN_lt _ _ (by decide)) (onN_lt _ _ (by decide))) (onN_lt _ _ (by decide)), linear3 a b c m na nb nc]
        clear hSS
        refine ⟨?_, ?_⟩
        · intro f W hI hd K hK
          clear hd
          go_simp
          exact hK _ _ hI (Below.refl _ _) rfl
        refine ⟨?_, ?_⟩
        · intro f W hI hd K hK
          clear hd
          go_simp
          exact hK _ _ hI (Below.refl _ _) rfl
        refine ⟨?_, ?_⟩
        · intro f W hI hd K hK
          have d0 := hd.1 rfl
          have d1 := hd.2.1 rfl
          clear hd
          replace d0 : f 0 = .string a := d0
          generalize f 0 = x0 at *
          subst d0
          replace d1 : f 1 = .int .i64 m := d1
          generalize f 1 = x1 at *
          subst d1
          go_simp
          exact hK _ _ hI (Below.refl _ _) rfl
        refine ⟨?_, ?_⟩
        · intro f W hI hd K hK
          have d2 := hd.1 rfl
          clear hd
          replace d2 : f 2 = .string (a.extract 0 m) := d2
          generalize f 2 = x2 at *
          subst d2
          go_simp
          exact hK (.slice (some ⟨W.heap.size, 0, none⟩) 1 1) (W.alloc (.cells #[.string (a.extract 0 m)] 9)) ⟨SS.alloc hI.1 _, Below.alloc hI.2 hI.2.size _⟩ (Below.alloc (Below.refl _ _) (Nat.le_refl _) _) ⟨W.heap.size, rfl, by simp [go_sem]⟩
        refine ⟨?_, ?_⟩
        · intro f W hI hd K hK
          have d3 := hd.1 rfl
          clear hd
          obtain ⟨bk, e3, c3⟩ := d3
          generalize f 3 = x3 at *
          subst e3
          go_simp
          go_call (of1 (a.extract 0 m) bk W za c3) as e w' ⟨rfl, rfl⟩
          exact hK _ _ hI (Below.refl _ _) rfl
        refine ⟨?_, ?_⟩
        · intro f W hI hd K hK
          clear hd
          go_simp
          exact hK _ _ hI (Below.refl _ _) rfl
        refine ⟨?_, ?_⟩
        · intro f W hI hd K hK
          clear hd
          go_simp
          exact hK _ _ hI (Below.refl _ _) rfl
        refine ⟨?_, ?_⟩
        · intro f W hI hd K hK
          have d5 := hd.1 rfl
          have d6 := hd.2.1 rfl
          clear hd
          replace d5 : f 5 = .string b := d5
          generalize f 5 = x5 at *
          subst d5
          replace d6 : f 6 = .int .i64 m := d6
          generalize f 6 = x6 at *
          subst d6
          go_simp
          exact hK _ _ hI (Below.refl _ _) rfl
        refine ⟨?_, ?_⟩
        · intro f W hI hd K hK
          have d7 := hd.1 rfl
          clear hd
          replace d7 : f 7 = .string (b.extract 0 m) := d7
          generalize f 7 = x7 at *
          subst d7
          go_simp
          exact hK (.slice (some ⟨W.heap.size, 0, none⟩) 1 1) (W.alloc (.cells #[.string (b.extract 0 m)] 9)) ⟨SS.alloc hI.1 _, Below.alloc hI.2 hI.2.size _⟩ (Below.alloc (Below.refl _ _) (Nat.le_refl _) _) ⟨W.heap.size, rfl, by simp [go_sem]⟩
        refine ⟨?_, ?_⟩
        · intro f W hI hd K hK
          have d8 := hd.1 rfl
          have d4 := hd.2.1 rfl
          clear hd
          replace d4 : f 4 = .int .u32 (onN 0 (a.extract 0 m)) := d4
          generalize f 4 = x4 at *
          subst d4
          obtain ⟨bk, e8, c8⟩ := d8
          generalize f 8 = x8 at *
          subst e8
          go_simp
          go_call (of1 (b.extract 0 m) bk W zb' c8) as e w' ⟨rfl, rfl⟩
          exact hK _ _ hI (Below.refl _ _) rfl
        refine ⟨?_, ?_⟩
        · intro f W hI hd K hK
          have d4 := hd.1 rfl
          have d9 := hd.2.1 rfl
          clear hd
          replace d4 : f 4 = .int .u32 (onN 0 (a.extract 0 m)) := d4
          generalize f 4 = x4 at *
          subst d4
          replace d9 : f 9 = .int .u32 (onN 0 (b.extract 0 m)) := d9
          generalize f 9 = x9 at *
          subst d9
          go_simp
          exact hK _ _ hI (Below.refl _ _) rfl
        refine ⟨?_, ?_⟩
        · intro f W hI hd K hK
          clear hd
          go_simp
          exact hK _ _ hI (Below.refl _ _) rfl
        refine ⟨?_, ?_⟩
        · intro f W hI hd K hK
          clear hd
          go_simp
          exact hK _ _ hI (Below.refl _ _) rfl
        refine ⟨?_, ?_⟩
        · intro f W hI hd K hK
          have d11 := hd.1 rfl
          have d12 := hd.2.1 rfl
          clear hd
          replace d11 : f 11 = .string c := d11
          generalize f 11 = x11 at *
          subst d11
          replace d12 : f 12 = .int .i64 m := d12
          generalize f 12 = x12 at *
          subst d12
          go_simp
          exact hK _ _ hI (Below.refl _ _) rfl
        refine ⟨?_, ?_⟩
        · intro f W hI hd K hK
          have d13 := hd.1 rfl
          clear hd
          replace d13 : f 13 = .string (c.extract 0 m) := d13
          generalize f 13 = x13 at *
          subst d13
          go_simp
          exact hK (.slice (some ⟨W.heap.size, 0, none⟩) 1 1) (W.alloc (.cells #[.string (c.extract 0 m)] 9)) ⟨SS.alloc hI.1 _, Below.alloc hI.2 hI.2.size _⟩ (Below.alloc (Below.refl _ _) (Nat.le_refl _) _) ⟨W.heap.size, rfl, by simp [go_sem]⟩
        refine ⟨?_, ?_⟩
        · intro f W hI hd K hK
          have d14 := hd.1 rfl
          have d9 := hd.2.1 rfl
          clear hd
          replace d9 : f 9 = .int .u32 (onN 0 (b.extract 0 m)) := d9
          generalize f 9 = x9 at *
          subst d9
          obtain ⟨bk, e14, c14⟩ := d14
          generalize f 14 = x14 at *
          subst e14
          go_simp
          go_call (of1 (c.extract 0 m) bk W zc c14) as e w' ⟨rfl, rfl⟩
          exact hK _ _ hI (Below.refl _ _) rfl
        refine ⟨?_, ?_⟩
        · intro f W hI hd K hK
          have d10 := hd.1 rfl
          have d15 := hd.2.1 rfl
          clear hd
          replace d10 : f 10 = .int .u32 (xr (onN 0 (a.extract 0 m)) (onN 0 (b.extract 0 m))) := d10
          generalize f 10 = x10 at *
          subst d10
          replace d15 : f 15 = .int .u32 (onN 0 (c.extract 0 m)) := d15
          generalize f 15 = x15 at *
          subst d15
          go_simp
          exact hK _ _ hI (Below.refl _ _) rfl
        refine ⟨?_, ?_⟩
        · intro f W hI hd K hK
          clear hd
          go_simp
          exact hK _ _ hI (Below.refl _ _) rfl
        refine ⟨?_, ?_⟩
        · intro f W hI hd K hK
          have d17 := hd.1 rfl
          clear hd
          replace d17 : f 17 = .slice (some ⟨B, 0, none⟩) m m := d17
          generalize f 17 = x17 at *
          subst d17
          have hcW := hcv W hI.1
          go_simp
          exact hK _ _ hI (Below.refl _ _) rfl
        refine ⟨?_, ?_⟩
        · intro f W hI hd K hK
          have d18 := hd.1 rfl
          clear hd
          replace d18 : f 18 = .string (zt a b c m) := d18
          generalize f 18 = x18 at *
          subst d18
          go_simp
          exact hK (.slice (some ⟨W.heap.size, 0, none⟩) 1 1) (W.alloc (.cells #[.string (zt a b c m)] 9)) ⟨SS.alloc hI.1 _, Below.alloc hI.2 hI.2.size _⟩ (Below.alloc (Below.refl _ _) (Nat.le_refl _) _) ⟨W.heap.size, rfl, by simp [go_sem]⟩
        refine ⟨?_, ?_⟩
        · intro f W hI hd K hK
          have d19 := hd.1 rfl
          have d15 := hd.2.1 rfl
          clear hd
          replace d15 : f 15 = .int .u32 (onN 0 (c.extract 0 m)) := d15
          generalize f 15 = x15 at *
          subst d15
          obtain ⟨bk, e19, c19⟩ := d19
          generalize f 19 = x19 at *
          subst e19
          go_simp
          go_call (of1 (zt a b c m) bk W zz c19) as e w' ⟨rfl, rfl⟩
          exact hK _ _ hI (Below.refl _ _) rfl
        refine ⟨?_, ?_⟩
        · intro f W hI hd K hK
          have d16 := hd.1 rfl
          have d20 := hd.2.1 rfl
          clear hd
          replace d16 : f 16 = .int .u32 (onN 0 (zt a b c m)) := d16
          generalize f 16 = x16 at *
          subst d16
          replace d20 : f 20 = .int .u32 (onN 0 (zt a b c m)) := d20
          generalize f 20 = x20 at *
          subst d20
          go_simp
          exact hK _ _ hI (Below.refl _ _) rfl
        refine ⟨?_, ?_⟩
        · intro f W hI hd K hK
          have d21 : f 21 = .bool true := hd.1 rfl
          clear hd
          generalize f 21 = x21 at *
          subst d21
          go_simp
          exact hK _ _ hI (Below.refl _ _) rfl
        trivial
end Go.Proofs.Yteojllilcejnhaa
