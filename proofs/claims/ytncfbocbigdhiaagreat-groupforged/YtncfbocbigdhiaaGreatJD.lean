/- Groups as they lie on a device, one behind the other, and what Scan finds of them. -/
import Derived.Test.YtncfbocbigdhiaaGreatJC
namespace Go.Proofs.YtncfbocbigdhiaaGreat
open Go.RowKit
theorem chunk_list (y : ByteArray) (i : Nat) : (F.chunk y i).data.toList = (y.data.toList.drop (64 * i)).take 64 := by
  unfold F.chunk F.part
  rw [ByteArray.data_extract, Array.toList_extract, List.extract_eq_take_drop, ByteArray.data_extract, Array.toList_extract, List.extract_eq_take_drop]
  simp only [List.drop_zero, Nat.sub_zero]
  rw [List.take_of_length_le (l := List.drop (64 * i) y.data.toList) (by rw [List.length_drop, ← O.size_list]; exact Nat.le_refl _)]
  rw [ByteArray.size_extract]
  rcases Nat.le_total 64 (y.size - 64 * i) with h | h
  · rw [Nat.min_eq_left (by omega)]
  · rw [List.take_of_length_le (by rw [List.length_drop, ← O.size_list]; omega), List.take_of_length_le (by rw [List.length_drop, ← O.size_list]; omega)]
theorem padc_list (y : ByteArray) (i n : Nat) (h : y.size = 64 * n) (hi : i < n) : (F.pad (F.chunk y i)).data.toList = (y.data.toList.drop (64 * i)).take 64 := by
  have hc := chunk_list y i
  have hl : (F.chunk y i).size = 64 := by
    rw [O.size_list, hc, List.length_take, List.length_drop, ← O.size_list]; omega
  unfold F.pad
  rw [hl, ← hc]
  show ((F.chunk y i) ++ _).data.toList = _
  rw [ByteArray.data_append, Array.toList_append]
  simp
/-- What is read of sectors that hold a text's parts is the text. -/
theorem rdsL_lay (st : F.St) (frm : Nat) (y : ByteArray) (n : Nat) (h : y.size = 64 * n) : ∀ k, k ≤ n → (∀ i, i < k → F.rd st (frm + i) = F.pad (F.chunk y i)) → F.rdsL st frm k = y.data.toList.take (64 * k)
  | 0, _, _ => by simp [F.rdsL]
  | k + 1, hk, hr => by
    have h1 := rdsL_lay st frm y n h k (by omega) (fun i hi => hr i (by omega))
    have h2 : F.rdB st (frm + k) = (y.data.toList.drop (64 * k)).take 64 := by
      rw [← padc_list y k n h (by omega), ← hr k (by omega)]
      show _ = (F.rdB st (frm + k)).toArray.toList
      rw [List.toList_toArray]
    show F.rdsL st frm k ++ F.rdB st (frm + k) = _
    rw [h1, h2, show 64 * (k + 1) = 64 * k + 64 by omega, List.take_add]
theorem rds_one (st : F.St) (i : Nat) : (⟨(F.rdsL st i 1).toArray⟩ : ByteArray) = F.rd st i := by
  show (⟨([] ++ F.rdB st (i + 0)).toArray⟩ : ByteArray) = _
  rfl
/-- A group lies there. -/
structure Grp (now : Nat → ByteArray) (s : Sg) (t k : Nat) (x : ByteArray) : Prop where
  sz : x.size = 63 * k
  k1 : 1 ≤ k
  fit : t + k < s.p
  com : now (s.b + t) = (s.cm t x).sec
  pay : ∀ i, i < k → now (s.b + t + 1 + i) = F.pad (F.chunk (O.tx (secP x k)) i)
/-- Groups, one behind the other, from the first place on. -/
inductive Chn (now : Nat → ByteArray) (s : Sg) : List (Nat × ByteArray) → Nat → Prop
  | nil : Chn now s [] 1
  | next {l : List (Nat × ByteArray)} {t k : Nat} {x : ByteArray} : Chn now s l t → Grp now s t k x → Chn now s (l ++ [(t, x)]) (t + 1 + k)
theorem Chn.lt {now : Nat → ByteArray} {s : Sg} {l : List (Nat × ByteArray)} {e : Nat} (h : Chn now s l e) : 1 ≤ e ∧ ∀ p ∈ l, 1 ≤ p.1 ∧ p.1 < e := by
  induction h with
  | nil => exact ⟨Nat.le_refl _, fun p hp => by cases hp⟩
  | next h1 h2 ih =>
    refine ⟨by omega, fun p hp => ?_⟩
    rcases List.mem_append.1 hp with hp | hp
    · have := ih.2 p hp; omega
    · rw [List.mem_singleton.1 hp]; exact ⟨ih.1, by show _ < _; simp; omega⟩
theorem Chn.grp {now : Nat → ByteArray} {s : Sg} {l : List (Nat × ByteArray)} {e : Nat} (h : Chn now s l e) : ∀ p ∈ l, ∃ k, Grp now s p.1 k p.2 := by
  induction h with
  | nil => intro p hp; cases hp
  | next h1 h2 ih =>
    intro p hp
    rcases List.mem_append.1 hp with hp | hp
    · exact ih p hp
    · rw [List.mem_singleton.1 hp]; exact ⟨_, h2⟩
theorem Chn.one {now : Nat → ByteArray} {s : Sg} {l : List (Nat × ByteArray)} {e : Nat} (h : Chn now s l e) : ∀ p ∈ l, ∀ q ∈ l, p.1 = q.1 → p = q := by
  induction h with
  | nil => intro p hp; cases hp
  | next h1 h2 ih =>
    intro p hp q hq e
    have hl := h1.lt.2
    rcases List.mem_append.1 hp with hp | hp <;> rcases List.mem_append.1 hq with hq | hq
    · exact ih p hp q hq e
    · have := hl p hp; rw [List.mem_singleton.1 hq] at e; simp only at e; omega
    · have := hl q hq; rw [List.mem_singleton.1 hp] at e; simp only at e; omega
    · rw [List.mem_singleton.1 hp, List.mem_singleton.1 hq]
/-- What each sector is: no Commit by its mark, or one that may be. -/
def Ksec (y : ByteArray) : Prop := y.size = 64 ∧ (y[0]? ≠ some 67 ∨ ∃ q : Cm, q.Ok ∧ y = q.sec)
def cm0 : Cm := ⟨0, 0, 0, 0, 0, 0⟩
theorem ksec_tells {y : ByteArray} (h : Ksec y) : ∃ (q : Cm) (er : Int), q.k ≤ 255 ∧ (y[0]? ≠ some 67 → q = cm0) ∧ (∀ W, Calls Tryz.prog 131 #[.string y] W fun e w' => e = .returned (.tuple #[.agg q.cs, .int .i64 er]) ∧ Below W.heap.size W w') := by
  by_cases h0 : y[0]? = some 67
  · rcases h.2 with h1 | ⟨q, hq, rfl⟩
    · exact absurd h0 h1
    · exact ⟨q, 0, by have := hq.ak; omega, fun h => absurd h0 h, fun W => tocommit_back q hq W⟩
  · obtain ⟨er, hc⟩ := tocommit_other y h.1 h0
    exact ⟨cm0, er, Nat.zero_le _, fun _ => rfl, hc⟩
/-- Where so many steps lead. -/
def wayG (cnt : Nat → Nat) : Nat → List Nat × Nat
  | 0 => ([], 1)
  | j + 1 => ((wayG cnt j).1 ++ [(wayG cnt j).2], (wayG cnt j).2 + 1 + cnt (wayG cnt j).2)
theorem Way.steps {cnt : Nat → Nat} {ps : List Nat} {t : Nat} (h : Way cnt ps t) : (ps, t) = wayG cnt ps.length ∧ ∀ j, j < ps.length → 0 < cnt (wayG cnt j).2 := by
  induction h with
  | nil => exact ⟨rfl, fun j hj => absurd hj (Nat.not_lt_zero _)⟩
  | next h1 h2 ih =>
    rename_i ps t
    have e1 : (wayG cnt ps.length).1 = ps := by rw [← ih.1]
    have e2 : (wayG cnt ps.length).2 = t := by rw [← ih.1]
    rw [List.length_append]
    refine ⟨?_, fun j hj => ?_⟩
    · show _ = wayG cnt (ps.length + 1)
      show _ = ((wayG cnt ps.length).1 ++ [(wayG cnt ps.length).2], (wayG cnt ps.length).2 + 1 + cnt (wayG cnt ps.length).2)
      rw [e1, e2]
    · have hj' : j < ps.length + 1 := hj
      rcases Nat.lt_or_ge j ps.length with h | h
      · exact ih.2 j h
      · obtain rfl : j = ps.length := by omega
        rw [e2]; exact h2
theorem Way.det {cnt : Nat → Nat} {ps ps' : List Nat} {t t' : Nat} (h : Way cnt ps t) (h' : Way cnt ps' t') (hz : cnt t = 0) (hz' : cnt t' = 0) : ps = ps' ∧ t = t' := by
  have s1 := h.steps
  have s2 := h'.steps
  have e2 : (wayG cnt ps.length).2 = t := by rw [← s1.1]
  have e2' : (wayG cnt ps'.length).2 = t' := by rw [← s2.1]
  rcases Nat.lt_trichotomy ps.length ps'.length with h | h | h
  · have := s2.2 _ h; rw [e2] at this; omega
  · have e : (ps, t) = (ps', t') := by rw [s1.1, s2.1, h]
    injection e with a b
    exact ⟨a, b⟩
  · have := s1.2 _ h; rw [e2'] at this; omega
end Go.Proofs.YtncfbocbigdhiaaGreat
