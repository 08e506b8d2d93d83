/- TableOrder as a call: of any number and any texts it returns true, and nothing that was there has turned; where the table of rounds reads as the program's text lays it. -/
import Derived.Test.YtcgmngafodmfcaaDoorJ
import Derived.Deep.QuietTactic
import Derived.BigQuiet
namespace Go.Proofs.YtcgmngafodmfcaaDoor
open Go.RowKit
/-- Is something known of the key? -/
def has (E : List Ent) (k : ByteArray) : Prop := ∃ p ∈ E, p.1 = k
theorem has_put {E : List Ent} {k k' : ByteArray} {v : Int} : has ((k, v) :: wo E k) k' ↔ k' = k ∨ has E k' := by
  unfold has wo
  constructor
  · rintro ⟨p, hp, rfl⟩
    rcases List.mem_cons.1 hp with rfl | h
    · exact Or.inl rfl
    · exact Or.inr ⟨p, (List.mem_filter.1 h).1, rfl⟩
  · rintro (rfl | ⟨p, hp, rfl⟩)
    · exact ⟨_, List.mem_cons_self .., rfl⟩
    · by_cases e : p.1 = k
      · exact ⟨(k, v), List.mem_cons_self .., e.symm⟩
      · exact ⟨p, List.mem_cons_of_mem _ (List.mem_filter.2 ⟨hp, decide_eq_true e⟩), rfl⟩
theorem has_lk {E : List Ent} {k : ByteArray} : (lk E k).isSome = true ↔ has E k := by
  constructor
  · intro h
    obtain ⟨v, hv⟩ := Option.isSome_iff_exists.1 h
    exact ⟨(k, v), lk_mem hv, rfl⟩
  · rintro ⟨p, hp, e⟩
    cases h : lk E k with
    | none => exact absurd e (lk_of h p hp)
    | some v => rfl
theorem len_put (E : List Ent) (k : ByteArray) (v : Int) : ((k, v) :: wo E k).length ≤ E.length + 1 := by
  rw [List.length_cons]
  have := List.length_filter_le (fun p : Ent => decide (p.1 ≠ k)) E
  unfold wo
  omega
theorem or_dup {a b : Prop} : (a ∨ a ∨ b) ↔ (a ∨ b) := by
  constructor
  · rintro (h | h | h)
    · exact Or.inl h
    · exact Or.inl h
    · exact Or.inr h
  · rintro (h | h)
    · exact Or.inl h
    · exact Or.inr (Or.inr h)
theorem len_put2 (E : List Ent) (k : ByteArray) (u v : Int) : ((k, v) :: wo ((k, u) :: wo E k) k).length ≤ E.length + 1 := by
  have h : wo ((k, u) :: wo E k) k = wo (wo E k) k := by
    unfold wo
    rw [List.filter_cons_of_neg (by simp)]
  rw [h]
  have h1 := len_put (wo E k) k v
  have h2 : (wo (wo E k) k).length ≤ (wo E k).length := List.length_filter_le _ _
  have h3 : (wo E k).length ≤ E.length := List.length_filter_le _ _
  rw [List.length_cons]
  omega
theorem kl_same {E F : List Ent} (hE : (E.map Prod.fst).Nodup) (hF : (F.map Prod.fst).Nodup) (h : ∀ k, has E k ↔ has F k) : kl E = kl F ∧ E.length = F.length := by
  have hp : (E.map Prod.fst).Perm (F.map Prod.fst) := (List.perm_ext_iff_of_nodup hE hF).2 fun k => by
    have := h k
    unfold has at this
    simpa [List.mem_map] using this
  constructor
  · have h1 : ∀ G : List Ent, G.map kb = (G.map Prod.fst).map fun k => k.data.toList := fun G => by rw [List.map_map]; rfl
    unfold kl
    rw [h1, h1]
    exact mergeSort_of_perm (hp.map _)
  · simpa using hp.length_eq
theorem key_cells {w : World} {base n g cap : Nat} {E : List Ent} (h : w.ownsRow base 9 1 (.slice (some ⟨g, 0, none⟩) n cap) n ((kl E).map encStr)) : ∀ q, q < n → ∃ s, w.cell? ⟨g, q, none⟩ = some (.string s) ∧ g < w.heap.size ∧ ((kl E).map encStr)[q]? = some (.string s) := by
  intro q hq
  rcases h.2 with ⟨_, h0⟩ | ⟨g', cap', cur, e, h1, h2, h3, h4, h5, h6⟩
  · omega
  · cases e
    have hl := h.1
    have hlt : q < ((kl E).map encStr).length := by rw [hl]; omega
    have hg : ((kl E).map encStr)[q]? = some ((kl E).map encStr)[q] := List.getElem?_eq_getElem hlt
    obtain ⟨s, hs⟩ : ∃ s, ((kl E).map encStr)[q] = .string s := by
      rw [List.getElem_map]; exact ⟨_, rfl⟩
    rw [hs] at hg
    refine ⟨s, ?_, getElem?_lt h2, hg⟩
    rw [← h6, List.getElem?_take_of_lt (by omega), Array.getElem?_toList] at hg
    rw [cell_of h2]; exact hg
/-- Two tables, apart. -/
structure Two (T : Nat) (w : World) (ta pa tb pb : Nat) (E F : List Ent) (W : World) : Prop where
  a : Tb W ta pa E
  b : Tb W tb pb F
  la : Lo T w ta pa W
  lb : Lo T w tb pb W
  n1 : ta ≠ tb
  n2 : ta ≠ pb
  n3 : pa ≠ tb
  n4 : pa ≠ pb
section
variable {T : Nat} {w : World} {ta pa tb pb : Nat} {E F : List Ent} {W W' : World}
theorem Two.below (h : Two T w ta pa tb pb E F W) (hb : Below W.heap.size W W') : Two T w ta pa tb pb E F W' :=
  ⟨h.a.below hb, h.b.below hb, h.la.below hb h.la.sz, h.lb.below hb h.lb.sz, h.n1, h.n2, h.n3, h.n4⟩
theorem Two.stepA (h : Two T w ta pa tb pb E F W) {pa' : Nat} {E' : List Ent} (ht : Tb W' ta pa' E') (hk : Kp ta pa W W') (hp : pa' = pa ∨ W.heap.size ≤ pa') : Two T w ta pa' tb pb E' F W' := by
  obtain ⟨b1, b2, b3, b4⟩ := h.b.lt
  obtain ⟨a1, a2, a3, a4⟩ := h.a.lt
  have n1 := h.n1
  have n2 := h.n2
  have n3 := h.n3
  have n4 := h.n4
  exact ⟨ht, h.b.kp hk (Ne.symm n1) (Ne.symm n3) (Ne.symm n2) (Ne.symm n4) a3 a4, h.la.step hk hp, ⟨h.la.bl.trans (hk.below h.la.sz h.la.t1 h.la.t2), h.lb.t1, h.lb.t2, Nat.le_trans h.la.sz hk.size⟩, n1, n2, by omega, by omega⟩
theorem Two.swap (h : Two T w ta pa tb pb E F W) : Two T w tb pb ta pa F E W := ⟨h.b, h.a, h.lb, h.la, Ne.symm h.n1, Ne.symm h.n3, Ne.symm h.n2, Ne.symm h.n4⟩
theorem Two.stepB (h : Two T w ta pa tb pb E F W) {pb' : Nat} {F' : List Ent} (ht : Tb W' tb pb' F') (hk : Kp tb pb W W') (hp : pb' = pb ∨ W.heap.size ≤ pb') : Two T w ta pa tb pb' E F' W' := (h.swap.stepA ht hk hp).swap
end
/-- What one operation did, whatever else is done. -/
structure QPh (i : Nat) (A B : World → Prop) (done : Nat → Bool) (f : Nat → Value) (W : World) : Prop where
  a : done i = false → A W
  b : done i = true → B W
theorem QPh.start {i : Nat} {A B : World → Prop} {W : World} {f : Nat → Value} (h : A W) : QPh i A B (fun _ => false) f W := ⟨fun _ => h, (fun e => by cases e)⟩
theorem QPh.pure {i j : Nat} {A B : World → Prop} {done : Nat → Bool} {f g : Nat → Value} {W : World} (h : QPh i A B done f W) (hj : j ≠ i) : QPh i A B (O.updB done j) g W := by
  have h1 : O.updB done j i = done i := by unfold O.updB; rw [if_neg (Ne.symm hj)]
  exact ⟨fun e => h.a (by rw [← h1]; exact e), fun e => h.b (by rw [← h1]; exact e)⟩
theorem QPh.last {i : Nat} {A B : World → Prop} {done : Nat → Bool} {g : Nat → Value} {W : World} (h : B W) : QPh i A B (O.updB done i) g W := by
  have h1 : O.updB done i i = true := by unfold O.updB; rw [if_pos rfl]
  exact ⟨(fun e => by rw [h1] at e; cases e), fun _ => h⟩
theorem QPh.any {i : Nat} {A B C : World → Prop} {done : Nat → Bool} {f : Nat → Value} {W : World} (h : QPh i A B done f W) (h1 : ∀ W, A W → C W) (h2 : ∀ W, B W → C W) : C W := by
  cases e : done i with
  | false => exact h1 W (h.a e)
  | true => exact h2 W (h.b e)
def MV (ta b o n cap i : Nat) (ks : Nat → ByteArray) (E : List Ent) : Nat → Value → Prop
  | 0, v => v = .pointer (some ⟨ta, 0, none⟩)
  | 1, v => v = .slice (some ⟨b, o, none⟩) n cap
  | 2, v => v = .int .i64 (i : Int)
  | 3, v => v = .pointer (some ⟨b, o + i, none⟩)
  | 4, v => v = .string (ks i)
  | 5, v => v = .string (cutN (ks i) 8)
  | 6, v => v = .slice (some ⟨b, o, none⟩) n cap
  | 7, v => v = .int .i64 (i : Int)
  | 8, v => v = .pointer (some ⟨b, o + i, none⟩)
  | 9, v => v = .string (ks i)
  | 10, v => v = .int .i64 ((ks i).size : Nat)
  | 11, v => v = .bool (lk E (cutN (ks i) 8)).isSome
  | _, _ => True
set_option maxHeartbeats 2000000 in
theorem order_walk (sd : Nat) (hsd : sd < 18446744073709551616) (ao : Option Addr) (n cap b o : Nat) (ks : Nat → ByteArray) (w : World) (ht : Tab w) (g1 : 0 < n → ao = some ⟨b, o, none⟩) (g2 : ∀ j, j < n → w.cell? ⟨b, o + j, none⟩ = some (.string (ks j))) (gz : ∀ j, j < n → (ks j).size ≤ 9223372036854775807) (hnn : n ≤ 9223372036854775807) :
    Calls Tryd.prog 5 #[.int .u64 (sd : Nat), .slice ao n cap] w fun e w' => e = .returned (.bool true) ∧ Below w.heap.size w w' := by
  have hsz := ht.size
  have haw := awake_any w ht
  obtain ⟨m, hm⟩ : ∃ m, m = min n 60 := ⟨_, rfl⟩
  have hmn : m ≤ n := by omega
  have hm60 : m ≤ 60 := by omega
  have hmi : min (n : Int) 60 = (m : Int) := by omega
  have HT : Hid (Tab w) := ht
  have HG1 : Hid _ := g1
  have HG2 : Hid _ := g2
  have HGZ : Hid _ := gz
  clear hm ht g1 g2 gz
  go_enter Tryd.func5, Tryd.ntmps5
  go_wp2_with fail
  go_call haw as e w1 ⟨rfl, hb1⟩
  have HTB1 : Hid (Tab w1) := HT.out.below hsz hb1
  have hnw := tnew sd hsd w1 HTB1.out
  have HB1 : Hid _ := hb1
  clear haw hb1
  go_wp2_with fail
  go_call hnw as e w2 ⟨ta, pa, rfl, hTa, hb2, ha1, ha2⟩
  have HTB2 : Hid (Tab w2) := HTB1.out.below HTB1.out.size hb2
  have hnw2 := tnew sd hsd w2 HTB2.out
  have HTa : Hid _ := hTa
  have HB2 : Hid _ := hb2
  clear hnw hTa hb2
  go_wp2_with fail
  go_call hnw2 as e w3 ⟨tb, pb, rfl, hTb, hb3, ha3, ha4⟩
  have HTW : Hid (Two w.heap.size w ta pa tb pb [] [] w3) := by
    obtain ⟨l1, l2, _, _⟩ := HTa.out.lt
    have s1 := HB1.out.size
    have s2 := HB2.out.size
    have s3 := hb3.size
    have bl : Below w.heap.size w w3 := (HB1.out.trans (HB2.out.mono s1)).trans (hb3.mono (by omega))
    exact ⟨HTa.out.below hb3, hTb, ⟨bl, by omega, by omega, by omega⟩, ⟨bl, by omega, by omega, by omega⟩, by omega, by omega, by omega, by omega⟩
  clear hnw2 hTb hb3 ha1 ha2 ha3 ha4 HTa HB1 HB2 HTB1 HTB2
  go_wp2
  rename_i K hK
  have HK : Hid _ := hK
  clear hK
  go_loopw [31] (fun x wr => ∃ (i pa' pb' : Nat) (E F : List Ent), x = .int .i64 (i : Nat) ∧ i ≤ m ∧ Hid (Two w.heap.size w ta pa' tb pb' E F wr) ∧ Hid (∀ k, has E k ↔ ∃ j, j < i ∧ cutN (ks j) 8 = k) ∧ Hid (∀ k, has F k ↔ ∃ j, m ≤ j + i ∧ j < m ∧ cutN (ks j) 8 = k) ∧ E.length ≤ i ∧ F.length ≤ i) (fun x _ => m - (intOf x).toNat)
  case atStart => exact ⟨0, pa, pb, [], [], rfl, Nat.zero_le _, HTW, (fun k => ⟨(fun ⟨p, hp, _⟩ => by cases hp), (fun ⟨j, hj, _⟩ => absurd hj (Nat.not_lt_zero _))⟩), (fun k => ⟨(fun ⟨p, hp, _⟩ => by cases hp), (fun ⟨j, hj, hj2, _⟩ => by omega)⟩), Nat.le_refl _, Nat.le_refl _⟩
  case round =>
    obtain ⟨i, pa', pb', E, F, rfl, hin, hW, hE, hF, hlE, hlF⟩ := hrel
    clear HTW
    rcases Nat.lt_or_ge i m with hi | hi
    · obtain rfl := HG1.out (by omega)
      have hkc : w.cell? ⟨b, o + i, none⟩ = some (.string (ks i)) := HG2.out i (by omega)
      have HKC : Hid _ := hkc
      have hbw : b < w.heap.size := by
        have := hkc
        unfold World.cell? at this
        exact Nat.lt_of_not_le fun hle => by
          rw [Array.getElem?_eq_none (by exact hle)] at this
          simp at this
      have HBW : Hid _ := hbw
      have hzi := HGZ.out i (by omega)
      clear hkc hbw
      have hin2 : (i : Int) < (n : Int) := by omega
      go_wp2_with fail
      refine O.wp_region_pb (fun f => ⟨#[.int .u64 (sd : Int), .slice (some ⟨b, o, none⟩) n cap, undef, undef, .bool false, .pointer (some ⟨ta, 0, none⟩), .pointer (some ⟨tb, 0, none⟩), .int .i64 (m : Int), .int .i64 (i : Int), u9, u10, u11, undef, undef, undef, .bool true, .bool false, .int .u64 (sd : Int), .pointer (some ⟨ta, 0, none⟩), .int .u64 (sd : Int), .pointer (some ⟨tb, 0, none⟩), .pointer (some ⟨ta, 0, none⟩), .bool false, .bool false, .pointer (some ⟨tb, 0, none⟩), .bool false, .bool false, .slice (some ⟨b, o, none⟩) n cap, .int .i64 (n : Int), .int .i64 (m : Int), .int .i64 (m : Int), .int .i64 (i : Int), .bool true, .int .i64 (i : Int), f 0, f 1, f 2, f 3, f 4, f 5, f 6, f 7, f 8, f 9, f 10, f 11, u46, u47, u48, u49, u50, u51, u52, u53, u54, u55, u56, u57, u58, u59, u60, u61, u62, u63, u64, u65, u66, u67, u68, u69, u70, u71, u72, undef, undef, undef, undef, undef, undef, undef, undef, undef, undef, undef, undef, undef, undef, undef, undef, undef, undef, undef, undef, undef, undef, undef, undef, undef, undef, undef, undef, undef, undef, undef], []⟩) (MV ta b o n cap i ks E) (QPh 11 (fun W => Two w.heap.size w ta pa' tb pb' E F W) (fun W => ∃ pa2, Two w.heap.size w ta pa2 tb pb' ((cutN (ks i) 8, ((ks i).size : Int)) :: wo E (cutN (ks i) 8)) F W)) (fun i => [u34, u35, u36, u37, u38, u39, u40, u41, u42, u43, u44, u45].getD i undef) (by kernel_rfl) rfl rfl ?hIq ?hputq ?stepq ?finq
      case hIq => exact QPh.start (hW.out.below (Below.refl _ _).drew)
      case finq =>
        intro f W hP hV
        have v0 : f 0 = .pointer (some ⟨ta, 0, none⟩) := hV 0 (by decide)
        have v1 : f 1 = .slice (some ⟨b, o, none⟩) n cap := hV 1 (by decide)
        have v2 : f 2 = .int .i64 (i : Int) := hV 2 (by decide)
        have v3 : f 3 = .pointer (some ⟨b, o + i, none⟩) := hV 3 (by decide)
        have v4 : f 4 = .string (ks i) := hV 4 (by decide)
        have v5 : f 5 = .string (cutN (ks i) 8) := hV 5 (by decide)
        have v6 : f 6 = .slice (some ⟨b, o, none⟩) n cap := hV 6 (by decide)
        have v7 : f 7 = .int .i64 (i : Int) := hV 7 (by decide)
        have v8 : f 8 = .pointer (some ⟨b, o + i, none⟩) := hV 8 (by decide)
        have v9 : f 9 = .string (ks i) := hV 9 (by decide)
        have v10 : f 10 = .int .i64 ((ks i).size : Nat) := hV 10 (by decide)
        have v11 : f 11 = .bool (lk E (cutN (ks i) 8)).isSome := hV 11 (by decide)
        clear hV
        obtain ⟨pa2, hW2⟩ := hP.b rfl
        have HW2 : Hid _ := hW2
        clear hP hW2
        generalize f 0 = z0 at *
        subst v0
        generalize f 1 = z1 at *
        subst v1
        generalize f 2 = z2 at *
        subst v2
        generalize f 3 = z3 at *
        subst v3
        generalize f 4 = z4 at *
        subst v4
        generalize f 5 = z5 at *
        subst v5
        generalize f 6 = z6 at *
        subst v6
        generalize f 7 = z7 at *
        subst v7
        generalize f 8 = z8 at *
        subst v8
        generalize f 9 = z9 at *
        subst v9
        generalize f 10 = z10 at *
        subst v10
        generalize f 11 = z11 at *
        subst v11
        obtain ⟨j, hj⟩ : ∃ j : Nat, (m : Int) - 1 - (i : Int) = (j : Int) := ⟨m - 1 - i, by omega⟩
        have hjn : (j : Int) < (n : Int) := by omega
        have hjm : j < m := by omega
        have hji : m = j + i + 1 := by omega
        have HJI : Hid _ := hji
        clear hji
        have hkj : W.cell? ⟨b, o + j, none⟩ = some (.string (ks j)) := (HW2.out.la.bl.cell (p := ⟨b, o + j, none⟩) HBW.out).trans (HG2.out j (by omega))
        have hzj := HGZ.out j (by omega)
        have hct := cut_any (ks j) 8 (by decide) hzj W
        have hc8 := cutN_le (ks j) 8
        obtain ⟨kk, hkk⟩ : ∃ kk, kk = cutN (ks j) 8 := ⟨_, rfl⟩
        rw [← hkk] at hct hc8
        have HKK : Hid _ := hkk
        clear hkk
        have HE2 : Hid (∀ k, has ((cutN (ks i) 8, ((ks i).size : Int)) :: wo E (cutN (ks i) 8)) k ↔ ∃ j, j < i + 1 ∧ cutN (ks j) 8 = k) := fun k => by
          rw [has_put, hE.out k]
          constructor
          · rintro (rfl | ⟨j, h1, h2⟩)
            · exact ⟨i, by omega, rfl⟩
            · exact ⟨j, by omega, h2⟩
          · rintro ⟨j, h1, h2⟩
            by_cases e : j = i
            · exact Or.inl (by rw [← h2, e])
            · exact Or.inr ⟨j, by omega, h2⟩
        have HF2 : Hid (∀ k, (k = kk ∨ has F k) ↔ ∃ j, m ≤ j + (i + 1) ∧ j < m ∧ cutN (ks j) 8 = k) := fun k => by
          rw [hF.out k, HKK.out]
          have := HJI.out
          constructor
          · rintro (rfl | ⟨j', h1, h2⟩)
            · exact ⟨j, by omega, by omega, rfl⟩
            · exact ⟨j', by omega, h2⟩
          · rintro ⟨j', h1, h3, h2⟩
            by_cases e : j' = j
            · exact Or.inl (by rw [← h2, e])
            · exact Or.inr ⟨j', by omega, h3, h2⟩
        have HE3 : Hid (((cutN (ks i) 8, ((ks i).size : Int)) :: wo E (cutN (ks i) 8)).length ≤ i + 1) := Nat.le_trans (len_put _ _ _) (by omega)
        go_wp2_with fail
        go_call hct as e W1 ⟨rfl, rfl⟩
        clear hct hkj
        have hgt := tget HW2.out.b kk (by omega)
        cases hlk : lk F kk with
        | none =>
          rw [hlk] at hgt
          clear hlk
          go_wp2_with fail
          go_call hgt as e W2 ⟨rfl, hb2⟩
          have HW3 : Hid _ := HW2.out.below hb2
          clear hgt hb2
          have hpt := put_any HW3.out.b kk (by omega) (kk.size : Nat) (by omega)
          go_wp2_with fail
          go_call hpt as e W3 ⟨rfl, pb2, h1, h2, h3⟩
          have HW4 : Hid _ := HW3.out.stepB h1 h2 h3
          clear hpt h1 h2 h3
          go_wp2
          go_roundw
          case rel => exact ⟨i + 1, pa2, pb2, _, _, by go_num, by omega, HW4, HE2, (fun k => has_put.trans (HF2.out k)), HE3.out, Nat.le_trans (len_put _ _ _) (by omega)⟩
          case measure => simp only [intOf]; omega
        | some v =>
          have HLK : Hid (lk F kk = some v) := hlk
          rw [hlk] at hgt
          clear hlk
          go_wp2_with fail
          go_call hgt as e W2 ⟨rfl, hb2⟩
          have HW3 : Hid _ := HW2.out.below hb2
          clear hgt hb2
          have hpt := put_any HW3.out.b kk (by omega) 7 (by omega)
          rw [HLK.out] at hpt
          go_wp2_with fail
          go_call hpt as e W3 ⟨rfl, pb2, h1, h2, h3⟩
          have HW4 : Hid _ := HW3.out.stepB h1 h2 h3
          clear hpt h1 h2 h3
          have hpt2 := put_any HW4.out.b kk (by omega) (kk.size : Nat) (Nat.le_trans (len_put _ _ _) (by omega))
          go_wp2_with fail
          go_call hpt2 as e W4 ⟨rfl, pb3, h1, h2, h3⟩
          have HW5 : Hid _ := HW4.out.stepB h1 h2 h3
          clear hpt2 h1 h2 h3
          go_wp2
          go_roundw
          case rel => exact ⟨i + 1, pa2, pb3, _, _, by go_num, by omega, HW5, HE2, (fun k => has_put.trans ((or_congr_right has_put).trans (or_dup.trans (HF2.out k)))), HE3.out, Nat.le_trans (len_put2 _ _ _ _) (by omega)⟩
          case measure => simp only [intOf]; omega
      case hputq =>
        repeat (refine ⟨fun f v => rfl, ?_⟩)
        trivial
      case stepq =>
        refine ⟨?_, ?_⟩
        · intro done f W hP hdn hd K hK
          clear hd
          go_simp
          exact hK _ _ rfl (hP.pure (by decide))
        refine ⟨?_, ?_⟩
        · intro done f W hP hdn hd K hK
          clear hd
          go_simp
          exact hK _ _ rfl (hP.pure (by decide))
        refine ⟨?_, ?_⟩
        · intro done f W hP hdn hd K hK
          clear hd
          go_simp
          exact hK _ _ rfl (hP.pure (by decide))
        refine ⟨?_, ?_⟩
        · intro done f W hP hdn hd K hK
          have d1 := (hd.1 rfl).2
          have e1 : done 1 = true := (hd.1 rfl).1
          have d2 := (hd.2.1 rfl).2
          have e2 : done 2 = true := (hd.2.1 rfl).1
          clear hd
          replace d1 : f 1 = .slice (some ⟨b, o, none⟩) n cap := d1
          replace d2 : f 2 = .int .i64 (i : Int) := d2
          generalize f 1 = x1 at *
          subst d1
          clear e1
          generalize f 2 = x2 at *
          subst d2
          clear e2
          have q := hin2
          go_simp
          exact hK _ _ rfl (hP.pure (by decide))
        refine ⟨?_, ?_⟩
        · intro done f W hP hdn hd K hK
          have d3 := (hd.1 rfl).2
          have e3 : done 3 = true := (hd.1 rfl).1
          clear hd
          replace d3 : f 3 = .pointer (some ⟨b, o + i, none⟩) := d3
          generalize f 3 = x3 at *
          subst d3
          clear e3
          have q := ((hP.any (C := fun W => Below w.heap.size w W) (fun _ h => h.la.bl) (fun _ h => h.choose_spec.la.bl)).cell (p := ⟨b, o + i, none⟩) HBW.out).trans HKC.out
          go_simp
          exact hK _ _ rfl (hP.pure (by decide))
        refine ⟨?_, ?_⟩
        · intro done f W hP hdn hd K hK
          have d4 := (hd.1 rfl).2
          have e4 : done 4 = true := (hd.1 rfl).1
          clear hd
          replace d4 : f 4 = .string (ks i) := d4
          generalize f 4 = x4 at *
          subst d4
          clear e4
          go_simp
          refine Calls.mono (cut_any (ks i) 8 (by decide) hzi W) ?_
          rintro e W' ⟨rfl, rfl⟩
          exact hK _ _ rfl (hP.pure (by decide))
        refine ⟨?_, ?_⟩
        · intro done f W hP hdn hd K hK
          clear hd
          go_simp
          exact hK _ _ rfl (hP.pure (by decide))
        refine ⟨?_, ?_⟩
        · intro done f W hP hdn hd K hK
          clear hd
          go_simp
          exact hK _ _ rfl (hP.pure (by decide))
        refine ⟨?_, ?_⟩
        · intro done f W hP hdn hd K hK
          have d6 := (hd.1 rfl).2
          have e6 : done 6 = true := (hd.1 rfl).1
          have d7 := (hd.2.1 rfl).2
          have e7 : done 7 = true := (hd.2.1 rfl).1
          clear hd
          replace d6 : f 6 = .slice (some ⟨b, o, none⟩) n cap := d6
          replace d7 : f 7 = .int .i64 (i : Int) := d7
          generalize f 6 = x6 at *
          subst d6
          clear e6
          generalize f 7 = x7 at *
          subst d7
          clear e7
          have q := hin2
          go_simp
          exact hK _ _ rfl (hP.pure (by decide))
        refine ⟨?_, ?_⟩
        · intro done f W hP hdn hd K hK
          have d8 := (hd.1 rfl).2
          have e8 : done 8 = true := (hd.1 rfl).1
          clear hd
          replace d8 : f 8 = .pointer (some ⟨b, o + i, none⟩) := d8
          generalize f 8 = x8 at *
          subst d8
          clear e8
          have q := ((hP.any (C := fun W => Below w.heap.size w W) (fun _ h => h.la.bl) (fun _ h => h.choose_spec.la.bl)).cell (p := ⟨b, o + i, none⟩) HBW.out).trans HKC.out
          go_simp
          exact hK _ _ rfl (hP.pure (by decide))
        refine ⟨?_, ?_⟩
        · intro done f W hP hdn hd K hK
          have d9 := (hd.1 rfl).2
          have e9 : done 9 = true := (hd.1 rfl).1
          clear hd
          replace d9 : f 9 = .string (ks i) := d9
          generalize f 9 = x9 at *
          subst d9
          clear e9
          go_simp
          exact hK _ _ rfl (hP.pure (by decide))
        refine ⟨?_, ?_⟩
        · intro done f W hP hdn hd K hK
          have d0 := (hd.1 rfl).2
          have e0 : done 0 = true := (hd.1 rfl).1
          have d5 := (hd.2.1 rfl).2
          have e5 : done 5 = true := (hd.2.1 rfl).1
          have d10 := (hd.2.2.1 rfl).2
          have e10 : done 10 = true := (hd.2.2.1 rfl).1
          clear hd
          replace d0 : f 0 = .pointer (some ⟨ta, 0, none⟩) := d0
          replace d5 : f 5 = .string (cutN (ks i) 8) := d5
          replace d10 : f 10 = .int .i64 ((ks i).size : Nat) := d10
          generalize f 0 = x0 at *
          subst d0
          clear e0
          generalize f 5 = x5 at *
          subst d5
          clear e5
          generalize f 10 = x10 at *
          subst d10
          clear e10
          have HA := hP.a hdn
          go_simp
          refine Calls.mono (put_any HA.a (cutN (ks i) 8) (Nat.le_trans (cutN_le _ _) (by decide)) ((ks i).size : Nat) (by omega)) ?_
          rintro e W' ⟨rfl, pa2, h1, h2, h3⟩
          exact hK _ _ rfl (QPh.last ⟨pa2, HA.stepA h1 h2 h3⟩)
        trivial
    · obtain rfl : i = m := by omega
      go_wp2
      refine HK.out _ _ ?_
      clear HK
      have hsame : kl E = kl F ∧ E.length = F.length := kl_same hW.out.a.keys hW.out.b.keys fun k => by
        rw [hE.out k, hF.out k]
        constructor
        · rintro ⟨j, h1, h2⟩; exact ⟨j, by omega, h1, h2⟩
        · rintro ⟨j, _, h1, h2⟩; exact ⟨j, h1, h2⟩
      have HS1 : Hid _ := hsame.1
      have HS2 : Hid _ := hsame.2
      have hkA := keys_any hW.out.a (by omega)
      clear hsame
      go_wp2_with fail
      go_call hkA as e W2 ⟨⟨gA, cA, rfl, hOA⟩, hb2⟩
      have HW2 : Hid _ := hW.out.below hb2
      have HOA : Hid _ := hOA
      have HSZ2 : Hid _ := hb2.size
      have hkB := keys_any HW2.out.b (by omega)
      clear hkA hOA hb2
      go_wp2_with fail
      go_call hkB as e W3 ⟨⟨gB, cB, rfl, hOB⟩, hb3⟩
      have HW3 : Hid _ := HW2.out.below hb3
      have HOA3 : Hid _ := own_below HOA.out hb3
      have HOB : Hid _ := hOB
      clear hkB hOB hb3 HOA
      have hlA := tlen HW3.out.a
      have hlB := tlen HW3.out.b
      rw [← HS2.out] at hlB
      rw [← HS2.out, ← HS1.out] at HOB
      have hcA := key_cells HOA3.out
      have hcB := key_cells HOB.out
      have HCA : Hid _ := hcA
      have HCB : Hid _ := hcB
      clear hcA hcB
      obtain ⟨z, hz⟩ : ∃ z, z = E.length := ⟨_, rfl⟩
      rw [← HS2.out, ← hz]
      rw [← hz] at hlA hlB HCA HCB
      have hz60 : z ≤ 60 := by omega
      clear hz
      go_wp2_with fail
      go_call hlA as e W4 ⟨rfl, rfl⟩
      go_wp2_with fail
      go_call hlB as e W5 ⟨rfl, rfl⟩
      clear hlA hlB
      go_wp2
      go_loopw [91] (fun x wr => ∃ q : Nat, x = .int .i64 (q : Nat) ∧ q ≤ z ∧ Hid (Below W5.heap.size W5 wr)) (fun x _ => z - (intOf x).toNat)
      case atStart => exact ⟨0, rfl, Nat.zero_le _, Below.refl _ _⟩
      case round =>
        obtain ⟨q, rfl, hqz, hBq⟩ := hrel
        rcases Nat.lt_or_ge q z with hq | hq
        · obtain ⟨s, hs1, hs2, hs3⟩ := HCA.out q hq
          obtain ⟨s', ht1, ht2, ht3⟩ := HCB.out q hq
          have hss : s = s' := by rw [hs3] at ht3; have h9 := Option.some.inj ht3; injection h9
          subst hss
          have c1 := (hBq.out.cell (p := ⟨gA, q, none⟩) hs2).trans hs1
          have c2 := (hBq.out.cell (p := ⟨gB, q, none⟩) ht2).trans ht1
          have hqi : (q : Int) < (z : Int) := by omega
          clear hs1 hs2 hs3 ht1 ht2 ht3
          go_wp2_with fail
          go_quiet (fail)
          go_wp2
          go_roundw
          case rel => exact ⟨q + 1, by go_num, by omega, hBq.out.trans ⟨rfl, rfl, rfl, Nat.le_refl _, fun _ _ => rfl⟩⟩
          case measure => simp only [intOf]; omega
        · obtain rfl : q = z := by omega
          go_wp2
          go_returns
          exact ⟨rfl, HW3.out.la.bl.trans (hBq.out.mono HW3.out.la.sz)⟩
end Go.Proofs.YtcgmngafodmfcaaDoor
