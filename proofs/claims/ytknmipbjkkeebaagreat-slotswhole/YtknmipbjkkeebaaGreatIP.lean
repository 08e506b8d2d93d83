/- Write of slots on a device that does all, as a call. -/
import Derived.Test.YtknmipbjkkeebaaGreatIO
namespace Go.Proofs.YtknmipbjkkeebaaGreat
open Go.RowKit
theorem secsL_at (g : Nat → Pg) (t : Nat) (hok : ∀ j, j < t → (g j).Ok) (i : Nat) : ∀ k, i < k → k ≤ t → ((secsL g k).drop (i * 64)).take 64 = (g i).sec.data.toList
  | 0, h, _ => absurd h (Nat.not_lt_zero _)
  | k + 1, h, hk => by
    have hl := secsL_length g t hok k (by omega)
    rw [secsL]
    rcases Nat.lt_or_ge i k with h1 | h1
    · rw [List.drop_append_of_le_length (by omega), List.take_append_of_le_length (by rw [List.length_drop]; omega)]
      exact secsL_at g t hok i k h1 (by omega)
    · obtain rfl : i = k := by omega
      rw [List.drop_append, List.drop_of_length_le (by omega), hl, Nat.sub_self, List.nil_append, List.drop_zero]
      exact List.take_of_length_le (by rw [← O.size_list, (g i).sec_size (hok i (by omega))]; exact Nat.le_refl _)
section
variable (x : ByteArray) (hx : x.size ≤ 640) (q : Nat) (h0 : q ≠ 0) (h1 : q < 18446744073709551616)
include hx h0 h1
theorem wr_ok : ∀ j, j < spT x.size → (gk (spP x q) (spT x.size) j).Ok := fun j hj => by rw [gk_lt _ _ _ hj]; exact sp_ok x hx q h0 h1 j hj
theorem wr_size : (wrL x q).size = spT x.size * 64 := by
  unfold wrL; rw [tx_size]; exact secsL_length _ _ (wr_ok x hx q h0 h1) _ (Nat.le_refl _)
theorem wr_parts : F.parts (wrL x q) = spT x.size := by
  unfold F.parts; rw [wr_size x hx q h0 h1]; omega
theorem wr_chunk (j : Nat) (hj : j < spT x.size) : F.pad (F.chunk (wrL x q) j) = (spP x q j).sec := by
  have hs := wr_size x hx q h0 h1
  have hsec := (spP x q j).sec_size (sp_ok x hx q h0 h1 j hj)
  have hch : F.chunk (wrL x q) j = (spP x q j).sec := by
    unfold F.chunk
    rw [F.part_size, hs, show min 64 (spT x.size * 64 - 64 * j) = 64 by omega]
    unfold F.part
    rw [ByteArray.extract_extract, hs, show min (64 * j + 64) (spT x.size * 64) = j * 64 + 64 by omega, Nat.add_zero, Nat.mul_comm 64 j]
    apply ByteArray.ext
    apply Array.ext'
    unfold wrL
    rw [ext_list, tx_list, show j * 64 + 64 - j * 64 = 64 by omega, secsL_at _ _ (wr_ok x hx q h0 h1) j _ hj (Nat.le_refl _), gk_lt _ _ _ hj]
  rw [hch]
  unfold F.pad
  rw [hsec]
  apply ByteArray.ext
  simp
end
/-- What a Write did. -/
structure Wrt (st st' : F.St) (frm : Nat) (x : ByteArray) (q : Nat) : Prop where
  serial : st'.serial = st.serial
  session : st'.session = st.session
  there : st'.there = true
  down : st'.down = false
  hw : st'.hw = false
  aw : st'.aw = false
  n : st'.n = st.n
  ok : F.SecOk st'
  ln : st'.ln = 0
  loose : st'.loose = []
  c0 : st.count ≤ st'.count
  c1 : st'.count ≤ st.count + 18
  new : ∀ j, j < spT x.size → F.rd st' (frm + j) = (spP x q j).sec
  old : ∀ j, j < st.n → (j < frm ∨ frm + spT x.size ≤ j) → F.rd st' j = F.rd st j
theorem swrite_one {b0 : Nat} {w0 : World} {L : F.Loc} {st : F.St} {lv : Value} {oth : List (Nat × Obj)} {w : World} {S M : Nat} (s : Sl) (h : F.One b0 w0 L st lv ((S, .cells (s.cs M) 72) :: oth) w) (hm : (M, F.med L.P st.serial st.session) ∈ oth) (hne : ∀ p ∈ oth, p.1 ≠ S)
    (hs : s.slot ≤ 1) (hmost : s.most < 18446744073709551615) (x : ByteArray) (hx : x.size ≤ 640) (hln : st.ln = 0) (hlo : st.loose = []) (hok : F.SecOk st) (hn : 32 ≤ st.n) (hn1 : st.n ≤ 1000) (hdn : st.down = false) (ht : st.there = true) (haw : st.aw = false) (hhw : st.hw = false) (hc : 0 ≤ st.count ∧ st.count ≤ 80000) :
    Calls Tryz.prog 14 #[.pointer (some ⟨S, 0, none⟩), .string x] w fun e w' => e = .returned (.int .i64 0) ∧ ∃ st' lv', F.One b0 w0 L st' lv' ((S, .cells (Sl.cs ⟨s.other, s.most + 1, s.most + 1, false⟩ M) 72) :: oth) w' ∧ Wrt st st' (s.other * 16) x (s.most + 1) := by
  have hq0 : s.most + 1 ≠ 0 := by omega
  have hq1 : s.most + 1 < 18446744073709551616 := by omega
  have hp := wr_parts x hx (s.most + 1) hq0 hq1
  have hsz := wr_size x hx (s.most + 1) hq0 hq1
  have ht16 := spT_le x.size hx
  have ho1 : s.other ≤ 1 := by unfold Sl.other; split <;> omega
  have hM' : (M, F.med L.P st.serial st.session) ∈ ((S, .cells (Sl.cs { s with unsure := false } M) 72) :: oth : List (Nat × Obj)) := List.mem_cons_of_mem _ hm
  -- the phases
  let R : Nat → World → Prop := fun k W => ∃ (st1 : F.St) (lv1 : Value) (c0 : Int), F.One b0 w0 L st1 lv1 ((S, .cells (Sl.cs { s with unsure := false } M) 72) :: oth) W ∧ (st.count ≤ c0 ∧ c0 ≤ st.count + 1) ∧
    (if k = 0 then F.PutG st.serial st.session st.n (s.other * 16) c0 (F.rd st) (wrL x (s.most + 1)) 0 st1
     else if k = 1 then F.PutG st.serial st.session st.n (s.other * 16) c0 (F.rd st) (wrL x (s.most + 1)) (F.parts (wrL x (s.most + 1))) st1
     else Wrt st st1 (s.other * 16) x (s.most + 1))
  have start : ∀ (st1 : F.St) (c0 : Int), st1 = { st with count := c0, ln := 0, loose := [] } → F.PutG st.serial st.session st.n (s.other * 16) c0 (F.rd st) (wrL x (s.most + 1)) 0 st1 := fun st1 c0 e => by
    subst e
    exact ⟨rfl, rfl, ht, hdn, hhw, haw, rfl, ⟨hok.size, hok.bytes⟩, ⟨rfl, Nat.zero_le _, fun j hj => absurd hj (Nat.not_lt_zero _)⟩, rfl, by simp, fun j hj => absurd hj (Nat.not_lt_zero _), fun j _ _ => rfl⟩
  have st_self : ({ st with count := st.count, ln := 0, loose := [] } : F.St) = st := by
    rw [← hln, ← hlo]
  refine (swrite_any s hs hmost S M x hx R w ?_ ?_ ?_ ?_ ?_).mono ?_
  · rintro k W W' ⟨st1, lv1, c0, ho, hcc, hp⟩ hb
    exact ⟨st1, lv1, c0, ho.ofBelow hb, hcc, hp⟩
  · rintro k W ⟨st1, lv1, c0, ho, _⟩
    exact (ho.oth _ (List.mem_cons_self ..)).1
  · have hb := (h.oth _ (List.mem_cons_self ..)).1
    cases hu : s.unsure with
    | false =>
      have es : ({ s with unsure := false } : Sl) = s := by rw [← hu]
      refine (sure_no s hu S M w hb).mono ?_
      rintro e w' ⟨rfl, rfl⟩
      exact ⟨rfl, st, lv, st.count, by rw [es]; exact h, ⟨by omega, by omega⟩, by rw [if_pos rfl]; exact start st st.count st_self.symm⟩
    | true =>
      have hf := h.mflush M (List.mem_cons_of_mem _ hm) hdn ht haw hhw ⟨hc.1, by omega⟩
      refine (sure_yes s hu S M w hb (fun w2 => ∃ lv', F.One b0 w0 L { st with ln := 0, loose := [], count := st.count + 1 } lv' ((S, .cells (s.cs M) 72) :: oth) w2) (hf.mono ?_)).mono ?_
      · rintro e w' ⟨rfl, lv', ho⟩
        exact ⟨rfl, ⟨lv', ho⟩, (ho.oth _ (List.mem_cons_self ..)).1⟩
      · rintro e w' ⟨rfl, w2, ⟨lv', ho⟩, hsb⟩
        exact ⟨rfl, _, lv', st.count + 1, ho.other hne hsb.k.os hsb.k.tape hsb.k.output hsb.k.size hsb.k.block hsb.b (F.apart_of (by decide)), ⟨by omega, by omega⟩, by rw [if_pos rfl]; exact start _ (st.count + 1) rfl⟩
  · rintro W ⟨st1, lv1, c0, ho, hcc, hp0⟩
    rw [if_pos rfl] at hp0
    refine (F.putg_write b0 w0 L _ M st.serial st.session hM' (wrL x (s.most + 1)) (by rw [hsz]; omega) st.n (s.other * 16) c0 (F.rd st) ⟨by omega, by omega⟩ (by rw [hp]; omega) hn1 W ⟨st1, lv1, ho, hp0⟩).mono ?_
    rintro e W' ⟨rfl, st2, lv2, ho2, hp2⟩
    exact ⟨rfl, st2, lv2, c0, ho2, hcc, by rw [if_neg (by decide), if_pos rfl]; exact hp2⟩
  · rintro W ⟨st1, lv1, c0, ho, hcc, hp1⟩
    rw [if_neg (by decide), if_pos rfl, hp] at hp1
    have hm1 : (M, F.med L.P st1.serial st1.session) ∈ ((S, .cells (Sl.cs { s with unsure := false } M) 72) :: oth : List (Nat × Obj)) := by rw [hp1.serial, hp1.session]; exact hM'
    refine (ho.mflush M hm1 hp1.down hp1.there hp1.aw hp1.hw ⟨by rw [hp1.count]; omega, by rw [hp1.count]; omega⟩).mono ?_
    rintro e W' ⟨rfl, lv2, ho2⟩
    refine ⟨rfl, _, lv2, c0, ho2, hcc, ?_⟩
    rw [if_neg (by decide), if_neg (by decide)]
    exact ⟨hp1.serial, hp1.session, hp1.there, hp1.down, hp1.hw, hp1.aw, hp1.n, ⟨hp1.ok.size, hp1.ok.bytes⟩, rfl, rfl, by show st.count ≤ st1.count + 1; rw [hp1.count]; omega, by show st1.count + 1 ≤ _; rw [hp1.count]; omega,
      fun j hj => (hp1.cont j hj).trans (wr_chunk x hx (s.most + 1) hq0 hq1 j hj), fun j hj hjk => hp1.rest j hj hjk⟩
  · rintro e w' ⟨rfl, w2, ⟨st1, lv1, c0, ho, hcc, hw⟩, hsb⟩
    rw [if_neg (by decide), if_neg (by decide)] at hw
    exact ⟨rfl, st1, lv1, ho.other hne hsb.k.os hsb.k.tape hsb.k.output hsb.k.size hsb.k.block hsb.b (F.apart_of (by decide)), hw⟩
end Go.Proofs.YtknmipbjkkeebaaGreat
