/- What a device is, as plain data: what each sector is now, and what it was when it last was sure; behind a write, a flush, a crash. -/
import Derived.Test.YtiohkdpmgkobiaaPM
import Derived.Test.YtiohkdpmgkobiaaZ1
namespace Go.Proofs.Ytiohkdpmgkobiaa
open Go.RowKit
theorem insL_get {st : St} {p i : Nat} (hl : st.loose.length = st.ln * 65) (hp : p ≤ st.ln) (he : (ent st i).length = 65) (m : Nat) :
    (insL st p i)[m]? = if m < p * 65 then st.loose[m]? else if m < p * 65 + 65 then (ent st i)[m - p * 65]? else st.loose[m - 65]? := by
  have hpl : p * 65 ≤ st.ln * 65 := Nat.mul_le_mul_right _ hp
  unfold insL
  rw [List.append_assoc]
  have e1 : (st.loose.take (p * 65)).length = p * 65 := by rw [List.length_take]; omega
  by_cases h1 : m < p * 65
  · rw [if_pos h1, List.getElem?_append_left (by omega), List.getElem?_take_of_lt h1]
  · rw [if_neg h1, List.getElem?_append_right (by omega), e1]
    by_cases h2 : m < p * 65 + 65
    · rw [if_pos h2, List.getElem?_append_left (by omega)]
    · rw [if_neg h2, List.getElem?_append_right (by omega), List.getElem?_drop, he]; congr 1; omega
theorem insL_len {st : St} {p i : Nat} (hl : st.loose.length = st.ln * 65) (hp : p ≤ st.ln) (he : (ent st i).length = 65) : (insL st p i).length = (st.ln + 1) * 65 := by
  have hpl : p * 65 ≤ st.ln * 65 := Nat.mul_le_mul_right _ hp
  unfold insL
  rw [List.length_append, List.length_append, List.length_take, List.length_drop, he, hl]; omega
theorem insL_lent {st : St} {p i : Nat} (hl : st.loose.length = st.ln * 65) (hp : p ≤ st.ln) (he : (ent st i).length = 65) (k : Nat) :
    ((insL st p i).drop (k * 65)).take 65 = if k < p then lent st k else if k = p then ent st i else lent st (k - 1) := by
  apply List.ext_getElem?
  intro m
  by_cases hm : m < 65
  · rw [List.getElem?_take_of_lt hm, List.getElem?_drop, insL_get hl hp he]
    by_cases h1 : k < p
    · have : (k + 1) * 65 ≤ p * 65 := Nat.mul_le_mul_right _ h1
      rw [if_pos (by omega), if_pos h1]
      unfold lent
      rw [List.getElem?_take_of_lt hm, List.getElem?_drop]
    · rw [if_neg h1]
      by_cases h2 : k = p
      · subst h2
        rw [if_neg (by omega), if_pos (by omega), if_pos rfl]; congr 1; omega
      · have : (p + 1) * 65 ≤ k * 65 := Nat.mul_le_mul_right _ (by omega)
        rw [if_neg (by omega), if_neg (by omega), if_neg h2]
        unfold lent
        rw [List.getElem?_take_of_lt hm, List.getElem?_drop]; congr 1; omega
  · rw [List.getElem?_take_eq_none (by omega)]
    symm
    split
    · unfold lent; rw [List.getElem?_take_eq_none (by omega)]
    · split
      · exact List.getElem?_eq_none (by omega)
      · unfold lent; rw [List.getElem?_take_eq_none (by omega)]
theorem secl_rd {st : St} {i : Nat} (h : SecOk st) : secl st i = Lib.byteCells (rd st i).data.toList := by
  show secl st i = Lib.byteCells ((secl st i).map byteOf)
  unfold Lib.byteCells
  rw [List.map_map]
  conv => lhs; rw [← List.map_id (secl st i)]
  apply List.map_congr_left
  intro u hu
  obtain ⟨b, rfl⟩ := h.bytes u (List.mem_of_mem_drop (List.mem_of_mem_take hu))
  show (.int .u8 (b.toNat : Nat) : Value) = .int .u8 ((byteOf (.int .u8 (b.toNat : Nat))).toNat : Nat)
  rw [byteOf_byte]
/-- What each sector is, and what it was when it last was sure. -/
structure Dv (st : St) (ats : Nat → Nat) (now sure : Nat → ByteArray) : Prop where
  ok : SecOk st
  lis : LIs st ats
  rise : ∀ j k, j < k → k < st.ln → ats j < ats k
  nw : ∀ i, i < st.n → rd st i = now i
  was : ∀ k, k < st.ln → lwas st k = Lib.byteCells (sure (ats k)).data.toList
  sr : ∀ i, i < st.n → (∀ k, k < st.ln → ats k ≠ i) → sure i = now i
  sz : ∀ i, i < st.n → (sure i).size = 64
def updS (f : Nat → ByteArray) (i : Nat) (s : ByteArray) : Nat → ByteArray := fun k => if k = i then s else f k
theorem Dv.few {st : St} {ats : Nat → Nat} {now sure : Nat → ByteArray} (h : Dv st ats now sure) : st.ln ≤ st.n := by
  have hk : ∀ k, k < st.ln → k ≤ ats k := by
    intro k
    induction k with
    | zero => intro _; omega
    | succ k ih => intro hk; have := ih (by omega); have := h.rise k (k + 1) (by omega) hk; omega
  rcases Nat.eq_zero_or_pos st.ln with h0 | h0
  · omega
  · have := hk (st.ln - 1) (by omega); have := h.lis.lt (st.ln - 1) (by omega); omega
/-- Where a sector stands, or would stand. -/
theorem Dv.place {st : St} {ats : Nat → Nat} {now sure : Nat → ByteArray} (h : Dv st ats now sure) (i : Nat) : ∃ p, p ≤ st.ln ∧ (∀ j, j < p → ats j < i) ∧ (∀ j, p ≤ j → j < st.ln → i ≤ ats j) := by
  have : ∀ m, m ≤ st.ln → ∃ p, p ≤ m ∧ (∀ j, j < p → ats j < i) ∧ (∀ j, p ≤ j → j < m → i ≤ ats j) := by
    intro m
    induction m with
    | zero => intro _; exact ⟨0, by omega, fun j hj => by omega, fun j _ hj => by omega⟩
    | succ m ih =>
      intro hm
      obtain ⟨p, h1, h2, h3⟩ := ih (by omega)
      rcases Nat.lt_or_ge p m with hpm | hpm
      · refine ⟨p, by omega, h2, fun j hj hjm => ?_⟩
        rcases Nat.lt_or_ge j m with hjm2 | hjm2
        · exact h3 j hj hjm2
        · obtain rfl : j = m := by omega
          have := h3 p (Nat.le_refl _) hpm
          have := h.rise p j hpm (by omega)
          omega
      · obtain rfl : p = m := by omega
        rcases Nat.lt_or_ge (ats p) i with h4 | h4
        · refine ⟨p + 1, by omega, fun j hj => ?_, fun j hj hjm => by omega⟩
          rcases Nat.lt_or_ge j p with h5 | h5
          · exact h2 j h5
          · obtain rfl : j = p := by omega
            exact h4
        · exact ⟨p, by omega, h2, fun j hj hjm => by obtain rfl : j = p := by omega
                                                     exact h4⟩
  exact this st.ln (Nat.le_refl _)
/-- The loose ones, as they are asked. -/
theorem One.psearch_dv {b0 : Nat} {w0 : World} {L : Loc} {st : St} {lv : Value} {oth : List (Nat × Obj)} {w : World} {ats : Nat → Nat} (h : One b0 w0 L st lv oth w) (hl : LIs st ats) (i p : Nat) (hp : p ≤ st.ln) (h1 : ∀ j, j < p → ats j < i) (h2 : ∀ j, p ≤ j → j < st.ln → i ≤ ats j) :
    Calls Try.prog 107 #[lv, .int .i64 (i : Nat), .func (.func 108) #[] #[]] w fun e w' => e = .returned (.tuple #[.int .i64 (p : Nat), .bool (decide (p < st.ln ∧ ats p = i))]) ∧ Below w.heap.size w w' := by
  rcases h.own.2 with ⟨rfl, h0⟩ | ⟨g, cap, cur, rfl, hb, hg, hn, hm, hsz, htk⟩
  · obtain rfl : p = 0 := by omega
    refine (psearch_nil i w).mono ?_
    rintro e w' ⟨rfl, rfl⟩
    refine ⟨?_, Below.refl _ _⟩
    rw [decide_eq_false (by omega)]; rfl
  · refine (psearch_any g cap st.ln (fun j => (ats j : Int)) (fun j => lent st j) i p hp hl.few w ⟨fun j hj => lent_length hl j hj, fun j hj => lent_zero hl j hj, fun j hj => h.lrange hl rfl j hj, getElem?_lt hg⟩ (fun j hj => by have := h1 j hj; omega) (fun j hj hjn => by have := h2 j hj hjn; omega)).mono ?_
    rintro e w' ⟨rfl, hb2⟩
    refine ⟨?_, hb2⟩
    have : (decide (p < st.ln ∧ ((ats p : Nat) : Int) = (i : Nat))) = decide (p < st.ln ∧ ats p = i) := by
      congr 1; apply propext; constructor
      · rintro ⟨a, b⟩; exact ⟨a, by omega⟩
      · rintro ⟨a, b⟩; exact ⟨a, by omega⟩
    rw [this]
theorem Dv.found {st : St} {ats : Nat → Nat} {now sure : Nat → ByteArray} (h : Dv st ats now sure) (p i : Nat) (hi : i < st.n) (hp : p < st.ln) (hpi : ats p = i) (s : ByteArray) (hs : s.size = 64) : Dv (wroteF st i s) ats (updS now i s) sure := by
  have hok : SecOk (wroteF st i s) := by
    have := h.ok.wrote hi s hs
    exact ⟨this.size, this.bytes⟩
  refine ⟨hok, ⟨h.lis.len, h.lis.few, h.lis.at0, h.lis.lt, h.lis.one⟩, h.rise, fun j hj => ?_, h.was, fun j hj hne => ?_, h.sz⟩
  · unfold updS
    by_cases e : j = i
    · subst e; rw [if_pos rfl]; exact rd_wrote st j s h.ok hi hs
    · rw [if_neg e, ← h.nw j hj]; exact rd_other st i j s h.ok hi hj e hs
  · unfold updS
    rw [if_neg (fun e => hne p hp (by rw [hpi, e]))]
    exact h.sr j hj hne
def insA (ats : Nat → Nat) (p i : Nat) : Nat → Nat := fun k => if k < p then ats k else if k = p then i else ats (k - 1)
theorem Dv.put {st : St} {ats : Nat → Nat} {now sure : Nat → ByteArray} (h : Dv st ats now sure) (p i : Nat) (hi : i < st.n) (hn : st.n ≤ 4096) (hp : p ≤ st.ln) (h1 : ∀ j, j < p → ats j < i) (h2 : ∀ j, p ≤ j → j < st.ln → i ≤ ats j) (hno : ¬ (p < st.ln ∧ ats p = i)) (s : ByteArray) (hs : s.size = 64) :
    Dv (wroteM st p i s) (insA ats p i) (updS now i s) sure := by
  have hw := h.ok.wrote hi s hs
  have hel : (ent st i).length = 65 := by unfold ent; rw [List.length_cons, sec_length h.ok hi]
  have h3 : ∀ j, p ≤ j → j < st.ln → i < ats j := fun j hj hjl => by
    have := h2 j hj hjl
    rcases Nat.eq_or_lt_of_le this with e | e
    · exfalso
      rcases Nat.eq_or_lt_of_le hj with rfl | hlt
      · exact hno ⟨hjl, e.symm⟩
      · have := h.rise p j hlt hjl; have := h2 p (Nat.le_refl _) (by omega); omega
    · exact e
  have hni : ∀ k, k < st.ln → ats k ≠ i := fun k hk e => by
    rcases Nat.lt_or_ge k p with h4 | h4
    · have := h1 k h4; omega
    · have := h3 k h4 hk; omega
  have hfew := h.few
  refine ⟨⟨hw.size, hw.bytes⟩, ⟨insL_len h.lis.len hp hel, ?_, fun k hk => ?_, fun k hk => ?_, fun u hu => ?_⟩, fun j k hjk hk => ?_, fun j hj => ?_, fun k hk => ?_, fun j hj hne => ?_, h.sz⟩
  · show st.ln + 1 ≤ 5000; omega
  · have hk' : k < st.ln + 1 := hk
    show (insL st p i)[k * 65]? = some (.int .i64 (insA ats p i k : Nat))
    have := congrArg (·[0]?) (insL_lent (i := i) h.lis.len hp hel k)
    simp only [List.getElem?_take_of_lt (by decide : 0 < 65), List.getElem?_drop, Nat.add_zero] at this
    rw [this]
    unfold insA
    by_cases a : k < p
    · rw [if_pos a, if_pos a]; exact lent_zero h.lis k (by omega)
    · rw [if_neg a, if_neg a]
      by_cases b : k = p
      · rw [if_pos b, if_pos b]; rfl
      · rw [if_neg b, if_neg b]; exact lent_zero h.lis (k - 1) (by omega)
  · have hk' : k < st.ln + 1 := hk
    show insA ats p i k < st.n
    unfold insA
    split
    · exact h.lis.lt k (by omega)
    · split
      · exact hi
      · exact h.lis.lt (k - 1) (by omega)
  · have hu' : u ∈ st.loose.take (p * 65) ++ ent st i ++ st.loose.drop (p * 65) := hu
    rcases List.mem_append.1 hu' with hu1 | hu1
    · rcases List.mem_append.1 hu1 with hu2 | hu2
      · exact h.lis.one u (List.mem_of_mem_take hu2)
      · exact ent_one h.ok u hu2
    · exact h.lis.one u (List.mem_of_mem_drop hu1)
  · have hk' : k < st.ln + 1 := hk
    unfold insA
    by_cases a : k < p
    · rw [if_pos a, if_pos (by omega)]; exact h.rise j k hjk (by omega)
    · rw [if_neg a]
      by_cases b : k = p
      · rw [if_pos b, if_pos (by omega)]; exact h1 j (by omega)
      · rw [if_neg b]
        by_cases c : j < p
        · rw [if_pos c]; have := h1 j c; have := h3 (k - 1) (by omega) (by omega); omega
        · rw [if_neg c]
          by_cases d : j = p
          · rw [if_pos d]; exact h3 (k - 1) (by omega) (by omega)
          · rw [if_neg d]; exact h.rise (j - 1) (k - 1) (by omega) (by omega)
  · unfold updS
    by_cases e : j = i
    · subst e; rw [if_pos rfl]; exact rd_wrote st j s h.ok hi hs
    · rw [if_neg e, ← h.nw j hj]; exact rd_other st i j s h.ok hi hj e hs
  · have hk' : k < st.ln + 1 := hk
    show (((insL st p i).drop (k * 65)).take 65).drop 1 = _
    rw [insL_lent h.lis.len hp hel k]
    unfold insA
    by_cases a : k < p
    · rw [if_pos a, if_pos a]; exact h.was k (by omega)
    · rw [if_neg a, if_neg a]
      by_cases b : k = p
      · rw [if_pos b, if_pos b, h.sr i hi hni, ← h.nw i hi, ← secl_rd h.ok]; rfl
      · rw [if_neg b, if_neg b]; exact h.was (k - 1) (by omega)
  · have hji : j ≠ i := fun e => hne p (by show p < st.ln + 1; omega) (by unfold insA; rw [if_neg (by omega), if_pos rfl, e])
    unfold updS
    rw [if_neg hji]
    refine h.sr j hj (fun k hk e => ?_)
    rcases Nat.lt_or_ge k p with h4 | h4
    · exact hne k (by show k < st.ln + 1; omega) (by unfold insA; rw [if_pos h4]; exact e)
    · exact hne (k + 1) (by show k + 1 < st.ln + 1; omega) (by unfold insA; rw [if_neg (by omega), if_neg (by omega)]; exact e)
end Go.Proofs.Ytiohkdpmgkobiaa
