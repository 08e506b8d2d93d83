/- Plain facts on orders of bits, on clamping, and on who is let in: nothing of the program is said here. -/
import Derived.Test.YthojbccoejdmeaaDoorA4
namespace Go.Proofs.YthojbccoejdmeaaDoor

theorem nan_pos {x : Nat} (hx : x < 18446744073709551616) (h : nanB x = false) : x ≤ infR ∨ (topB ≤ x ∧ x - topB ≤ infR) := by
  have h1 : rg x ≤ infR := by simpa [nanB] using h
  rcases split64 hx with ⟨a, b, _⟩ | ⟨a, b, _⟩
  · rw [b] at h1; exact Or.inl h1
  · rw [b] at h1; exact Or.inr ⟨a, h1⟩
theorem plc_num {x : Nat} (h : nanB x = false) : plc x = if topB ≤ x then 18446744073709551615 - x else x + topB := by
  unfold plc; rw [h]; rfl
theorem plc_nan {x : Nat} (h : nanB x = true) : plc x = 18446744073709551615 := by
  unfold plc; rw [h]; rfl
theorem plc_num_lt {x : Nat} (hx : x < 18446744073709551616) (h : nanB x = false) : plc x < 18446744073709551615 := by
  have ht : topB = 9223372036854775808 := rfl
  have hi : infR = 9218868437227405312 := rfl
  rw [plc_num h]
  rcases nan_pos hx h with h1 | h1
  · rw [if_neg (by omega)]; omega
  · rw [if_pos h1.1]; omega
theorem less_plc {x y : Nat} (hx : x < 18446744073709551616) (hy : y < 18446744073709551616) (h1 : nanB x = false) (h2 : nanB y = false) : lessB x y = decide (plc x < plc y) := by
  have ht : topB = 9223372036854775808 := rfl
  rw [plc_num h1, plc_num h2]
  unfold lessB
  by_cases a : topB ≤ x <;> by_cases b : topB ≤ y
  · rw [if_pos ⟨a, b⟩, if_pos a, if_pos b]; congr 1; apply propext; omega
  · rw [if_neg (by omega), if_pos (by omega), if_pos a, if_neg b]; congr 1; apply propext; omega
  · rw [if_neg (by omega), if_pos (by omega), if_neg a, if_pos b]; congr 1; apply propext; omega
  · rw [if_neg (by omega), if_neg (by omega), if_neg a, if_neg b]; congr 1; apply propext; omega
theorem plc_inj {x y : Nat} (hx : x < 18446744073709551616) (hy : y < 18446744073709551616) : (plc x = plc y) ↔ ((nanB x = true ∧ nanB y = true) ∨ x = y) := by
  have ht : topB = 9223372036854775808 := rfl
  cases h1 : nanB x <;> cases h2 : nanB y
  · rw [plc_num h1, plc_num h2]
    simp only [Bool.false_eq_true, false_and, false_or]
    split <;> split <;> omega
  · have := plc_num_lt hx h1
    rw [plc_nan h2]
    constructor
    · intro h; omega
    · rintro (h | h)
      · simp at h
      · subst h; rw [h1] at h2; cases h2
  · have := plc_num_lt hy h2
    rw [plc_nan h1]
    constructor
    · intro h; omega
    · rintro (h | h)
      · simp at h
      · subst h; rw [h1] at h2; cases h2
  · rw [plc_nan h1, plc_nan h2]; simp
/-- Are they the same, bit by bit (those that are none are alike)? -/
def same (x y : Nat) : Bool := (nanB x && nanB y) || decide (x = y)
theorem ordN_zero {x y : Nat} (hx : x < 18446744073709551616) (hy : y < 18446744073709551616) : (ordN x y == 0) = same x y := by
  have h := plc_inj hx hy
  unfold ordN same
  rw [Bool.eq_iff_iff]
  simp only [beq_iff_eq, Bool.or_eq_true, Bool.and_eq_true, decide_eq_true_eq]
  rw [← h]
  split
  · omega
  · split <;> omega
theorem ordN_self (x : Nat) : ordN x x = 0 := by unfold ordN; rw [if_neg (by omega), if_neg (by omega)]
theorem ordN_neg (x y : Nat) : ordN y x = -ordN x y := by
  unfold ordN
  by_cases h1 : plc x < plc y
  · rw [if_neg (by omega), if_pos h1, if_pos h1]; rfl
  · by_cases h2 : plc y < plc x
    · rw [if_pos h2, if_neg h1, if_pos h2]
    · rw [if_neg h2, if_neg h1, if_neg h1, if_neg h2]; rfl
theorem ordN_le (x y : Nat) : ordN x y ≤ 0 ↔ plc x ≤ plc y := by
  unfold ordN
  split
  · constructor <;> intro _ <;> omega
  · split
    · constructor <;> intro _ <;> omega
    · constructor <;> intro _ <;> omega
theorem ordN_trans (x y z : Nat) (h1 : ordN x y ≤ 0) (h2 : ordN y z ≤ 0) : ¬ 0 < ordN x z := by
  have a := (ordN_le x y).1 h1
  have b := (ordN_le y z).1 h2
  have := (ordN_le x z).2 (by omega)
  omega
def rord (x y : Nat) : Int :=
  if nanB x && nanB y then 0 else if nanB x then 1 else if nanB y || lessB x y then -1 else if lessB y x then 1 else 0
theorem rord_eq {x y : Nat} (hx : x < 18446744073709551616) (hy : y < 18446744073709551616) : rord x y = ordN x y := by
  unfold rord ordN
  cases h1 : nanB x <;> cases h2 : nanB y
  · simp only [Bool.false_and, Bool.false_eq_true, if_false, Bool.false_or]
    rw [less_plc hx hy h1 h2, less_plc hy hx h2 h1]
    by_cases a : plc x < plc y
    · simp [a]
    · by_cases b : plc y < plc x
      · simp [a, b]
      · simp [a, b]
  · have := plc_num_lt hx h1
    rw [plc_nan h2, if_pos this]; simp
  · have := plc_num_lt hy h2
    have h3 : ¬ 18446744073709551615 < plc y := by omega
    rw [plc_nan h1, show (if 18446744073709551615 < plc y then (-1 : Int) else if plc y < 18446744073709551615 then 1 else 0) = 1 by rw [if_neg h3, if_pos this]]; simp
  · rw [plc_nan h1, plc_nan h2]; simp

theorem adm_inf (d : Nat) : adm infR d = true := adm_yes (by decide)
theorem adm_of {x d : Nat} (h : adm x d = true) : 0 < x ∧ x ≤ infR ∧ (one ≤ x ∨ d / 2048 * pw 1021 < V x) := of_decide_eq_true h
theorem adm_to {x d : Nat} (h : 0 < x ∧ x ≤ infR ∧ (one ≤ x ∨ d / 2048 * pw 1021 < V x)) : adm x d = true := decide_eq_true h
theorem adm_more {x y d : Nat} (hx : x < 18446744073709551616) (hy : y < 18446744073709551616) (h1 : nanB x = false) (h2 : nanB y = false) (hl : lessB y x = false) (ha : adm x d = true) : adm y d = true ∧ adm x (d / 2) = true := by
  have ht : topB = 9223372036854775808 := rfl
  have hi : infR = 9218868437227405312 := rfl
  obtain ⟨a, b, c⟩ := adm_of ha
  have hxt : ¬ topB ≤ x := by omega
  have hyt : ¬ topB ≤ y := by
    intro h
    unfold lessB at hl
    rw [if_neg (by omega), if_pos (Or.inl h), decide_eq_true h] at hl
    cases hl
  have hxy : x ≤ y := by
    unfold lessB at hl
    rw [if_neg (by omega), if_neg (by omega)] at hl
    have := of_decide_eq_false hl
    omega
  have hyi : y ≤ infR := by
    rcases nan_pos hy h2 with h | h
    · exact h
    · exact absurd h.1 hyt
  constructor
  · refine adm_to ⟨by omega, hyi, ?_⟩
    rcases c with c | c
    · exact Or.inl (by omega)
    · exact Or.inr (Nat.lt_of_lt_of_le c (V_le hxy))
  · refine adm_to ⟨a, b, ?_⟩
    rcases c with c | c
    · exact Or.inl c
    · refine Or.inr (Nat.lt_of_le_of_lt (Nat.mul_le_mul_right _ ?_) c)
      omega

theorem cl_cases {x : Nat} (hx : x < 18446744073709551616) : (gtz x = false ∧ cl x = 0) ∨ (one < x ∧ x ≤ infR ∧ cl x = one) ∨ (0 < x ∧ x ≤ one ∧ cl x = x) := by
  have hi : infR = 9218868437227405312 := rfl
  have ho : one = 4607182418800017408 := rfl
  unfold cl
  cases h : gtz x
  · exact Or.inl ⟨rfl, rfl⟩
  · have h := of_decide_eq_true h
    cases h2 : gt1 x
    · have h2 := of_decide_eq_false h2
      exact Or.inr (Or.inr ⟨h.1, by omega, rfl⟩)
    · have h2 := of_decide_eq_true h2
      exact Or.inr (Or.inl ⟨h2.1, h2.2, rfl⟩)
theorem adm_cl {x : Nat} (hx : x < 18446744073709551616) (d : Nat) : adm (cl x) d = adm x d := by
  rcases cl_cases hx with ⟨h, e⟩ | ⟨h, h', e⟩ | ⟨_, _, e⟩
  · rw [e, adm_no h, adm_no (by decide)]
  · rw [e, adm_yes (show ge1 x = true from decide_eq_true ⟨Nat.le_of_lt h, h'⟩), adm_yes (by decide)]
  · rw [e]
theorem cl_lt64 (x : Nat) : cl x < 18446744073709551616 := Nat.lt_of_le_of_lt (cl_lt x) (by decide)
theorem cl_num (x : Nat) : nanB (cl x) = false := by
  have h := cl_lt x
  have ho : one = 4607182418800017408 := rfl
  have ht : topB = 9223372036854775808 := rfl
  have hi : infR = 9218868437227405312 := rfl
  unfold nanB
  rw [rg_small (by omega), decide_eq_false]
  omega
theorem plc_cl (x : Nat) : plc (cl x) = cl x + topB := by
  have h := cl_lt x
  have ho : one = 4607182418800017408 := rfl
  have ht : topB = 9223372036854775808 := rfl
  rw [plc_num (cl_num x), if_neg (by omega)]
theorem cl_mono {x y : Nat} (hx : x < 18446744073709551616) (hy : y < 18446744073709551616) (h1 : nanB x = false) (h2 : nanB y = false) (h : ordN x y ≤ 0) : ordN (cl x) (cl y) ≤ 0 := by
  have ho : one = 4607182418800017408 := rfl
  have ht : topB = 9223372036854775808 := rfl
  have hi : infR = 9218868437227405312 := rfl
  have hp := (ordN_le x y).1 h
  rw [ordN_le, plc_cl, plc_cl]
  rw [plc_num h1, plc_num h2] at hp
  have hge : ∀ z, gtz z = false → ¬ (0 < z ∧ z ≤ infR) := fun z hz => of_decide_eq_false hz
  have hny := nan_pos hy h2
  rcases cl_cases hx with ⟨a, e⟩ | ⟨a, a', e⟩ | ⟨a, a', e⟩ <;> rcases cl_cases hy with ⟨b, f⟩ | ⟨b, b', f⟩ | ⟨b, b', f⟩ <;> rw [e, f] <;> try omega
  · have := hge y b
    rw [if_neg (by omega)] at hp
    split at hp <;> omega
  · rw [if_neg (by omega), if_neg (by omega)] at hp
    omega
  · have := hge y b
    rw [if_neg (by omega)] at hp
    split at hp <;> omega
  · rw [if_neg (by omega), if_neg (by omega)] at hp
    omega
end Go.Proofs.YthojbccoejdmeaaDoor
