/- The devices of a key, in the order of their weights: plain lists. -/
import Derived.WalkKit
namespace Go.Proofs.YtbbapaphfijpcaaDoor
/-- a goes ahead of b. -/
def bt (W : Int → Nat) (a b : Int) : Prop := W b < W a ∨ (W a = W b ∧ a < b)
instance (W : Int → Nat) (a b : Int) : Decidable (bt W a b) := by unfold bt; infer_instance
theorem bt_irr {W : Int → Nat} {a : Int} (h : bt W a a) : False := by unfold bt at h; omega
theorem bt_trans {W : Int → Nat} {a b c : Int} (h : bt W a b) (k : bt W b c) : bt W a c := by unfold bt at *; omega
theorem bt_asym {W : Int → Nat} {a b : Int} (h : bt W a b) (k : bt W b a) : False := bt_irr (bt_trans h k)
theorem bt_tri {W : Int → Nat} {a b : Int} (h : a ≠ b) (k : ¬ bt W a b) : bt W b a := by unfold bt at *; omega
def ins (W : Int → Nat) (x : Int) : List Int → List Int
  | [] => [x]
  | y :: t => if x = y then y :: t else if bt W x y then x :: y :: t else y :: ins W x t
theorem mem_ins {W : Int → Nat} {x z : Int} : ∀ {o : List Int}, z ∈ ins W x o ↔ z = x ∨ z ∈ o
  | [] => by simp [ins]
  | y :: t => by
    unfold ins
    split
    · rename_i h; subst h; simp
    · split
      · simp
      · rw [List.mem_cons, mem_ins, List.mem_cons]
        constructor
        · rintro (h | h | h)
          · exact Or.inr (Or.inl h)
          · exact Or.inl h
          · exact Or.inr (Or.inr h)
        · rintro (h | h | h)
          · exact Or.inr (Or.inl h)
          · exact Or.inl h
          · exact Or.inr (Or.inr h)
theorem ins_pw {W : Int → Nat} {x : Int} : ∀ {o : List Int}, o.Pairwise (bt W) → (ins W x o).Pairwise (bt W)
  | [], _ => by simp [ins]
  | y :: t, h => by
    obtain ⟨h1, h2⟩ := List.pairwise_cons.1 h
    unfold ins
    split
    · exact h
    · rename_i hne
      split
      · rename_i hb
        refine List.pairwise_cons.2 ⟨fun z hz => ?_, h⟩
        rcases List.mem_cons.1 hz with rfl | hz
        · exact hb
        · exact bt_trans hb (h1 z hz)
      · rename_i hb
        refine List.pairwise_cons.2 ⟨fun z hz => ?_, ins_pw h2⟩
        rcases mem_ins.1 hz with rfl | hz
        · exact bt_tri hne hb
        · exact h1 z hz
def ord (W : Int → Nat) (l : List Int) : List Int := l.foldl (fun o x => ins W x o) []
theorem ord_snoc (W : Int → Nat) (l : List Int) (x : Int) : ord W (l ++ [x]) = ins W x (ord W l) := by
  unfold ord; rw [List.foldl_append]; rfl
theorem fold_pw {W : Int → Nat} : ∀ (l o : List Int), o.Pairwise (bt W) → (l.foldl (fun o x => ins W x o) o).Pairwise (bt W)
  | [], _, h => h
  | _ :: t, _, h => fold_pw t _ (ins_pw h)
theorem fold_mem {W : Int → Nat} {z : Int} : ∀ (l o : List Int), z ∈ l.foldl (fun o x => ins W x o) o ↔ z ∈ o ∨ z ∈ l
  | [], o => by simp
  | x :: t, o => by
    rw [List.foldl_cons, fold_mem t, mem_ins, List.mem_cons]
    constructor
    · rintro ((h | h) | h)
      · exact Or.inr (Or.inl h)
      · exact Or.inl h
      · exact Or.inr (Or.inr h)
    · rintro (h | h | h)
      · exact Or.inl (Or.inr h)
      · exact Or.inl (Or.inl h)
      · exact Or.inr h
theorem ord_pw (W : Int → Nat) (l : List Int) : (ord W l).Pairwise (bt W) := fold_pw l [] List.Pairwise.nil
theorem mem_ord {W : Int → Nat} {l : List Int} {z : Int} : z ∈ ord W l ↔ z ∈ l := by
  unfold ord; rw [fold_mem]; simp
theorem pw_uniq {W : Int → Nat} : ∀ {a b : List Int}, a.Pairwise (bt W) → b.Pairwise (bt W) → (∀ z, z ∈ a ↔ z ∈ b) → a = b
  | [], [], _, _, _ => rfl
  | [], y :: t, _, _, h => by have := (h y).2 (by simp); simp at this
  | x :: s, [], _, _, h => by have := (h x).1 (by simp); simp at this
  | x :: s, y :: t, ha, hb, h => by
    obtain ⟨a1, a2⟩ := List.pairwise_cons.1 ha
    obtain ⟨b1, b2⟩ := List.pairwise_cons.1 hb
    have hxy : x = y := by
      have p := (h x).1 (by simp)
      have q := (h y).2 (by simp)
      rcases List.mem_cons.1 p with p | p
      · exact p
      · rcases List.mem_cons.1 q with q | q
        · exact q.symm
        · exact (bt_asym (a1 y q) (b1 x p)).elim
    subst hxy
    rw [pw_uniq a2 b2 fun z => ?_]
    constructor
    · intro hz
      rcases List.mem_cons.1 ((h z).1 (List.mem_cons_of_mem _ hz)) with e | e
      · subst e; exact (bt_irr (a1 z hz)).elim
      · exact e
    · intro hz
      rcases List.mem_cons.1 ((h z).2 (List.mem_cons_of_mem _ hz)) with e | e
      · subst e; exact (bt_irr (b1 z hz)).elim
      · exact e
theorem pw_ord {W : Int → Nat} {a l : List Int} (h : a.Pairwise (bt W)) (hm : ∀ z, z ∈ a ↔ z ∈ l) : a = ord W l :=
  pw_uniq h (ord_pw W l) fun z => by rw [mem_ord]; exact hm z
theorem ord_congr {W : Int → Nat} {a l : List Int} (hm : ∀ z, z ∈ a ↔ z ∈ l) : ord W a = ord W l :=
  pw_uniq (ord_pw W a) (ord_pw W l) fun z => by rw [mem_ord, mem_ord]; exact hm z
theorem pw_nodup {W : Int → Nat} {o : List Int} (h : o.Pairwise (bt W)) : o.Nodup := h.imp (by intro a b hab e; subst e; exact bt_irr hab)
theorem ins_mem {W : Int → Nat} {x : Int} {o : List Int} (h : o.Pairwise (bt W)) (hx : x ∈ o) : ins W x o = o :=
  pw_uniq (ins_pw h) h fun z => by rw [mem_ins]; constructor
                                   · rintro (rfl | h)
                                     · exact hx
                                     · exact h
                                   · exact Or.inr
theorem ins_split {W : Int → Nat} {x : Int} : ∀ {o : List Int}, x ∉ o → ∃ p q, o = p ++ q ∧ ins W x o = p ++ x :: q
  | [], _ => ⟨[], [], rfl, rfl⟩
  | y :: t, h => by
    have h1 : x ≠ y := fun e => h (by simp [e])
    have h2 : x ∉ t := fun e => h (by simp [e])
    unfold ins
    rw [if_neg h1]
    split
    · exact ⟨[], y :: t, rfl, rfl⟩
    · obtain ⟨p, q, e1, e2⟩ := ins_split (W := W) h2
      exact ⟨y :: p, q, by rw [e1]; rfl, by rw [e2]; rfl⟩
theorem take_ins {W : Int → Nat} {x s : Int} {o : List Int} {r : Nat} (h : o.Pairwise (bt W)) (hs : s ∈ o) (ht : s ∈ (ins W x o).take r) : s ∈ o.take r := by
  by_cases hx : x ∈ o
  · rwa [ins_mem h hx] at ht
  · obtain ⟨p, q, e1, e2⟩ := ins_split (W := W) hx
    rw [e2] at ht
    rw [e1]
    have hsx : s ≠ x := fun e => hx (e ▸ hs)
    rw [List.take_append] at ht ⊢
    rcases List.mem_append.1 ht with h1 | h1
    · exact List.mem_append.2 (Or.inl h1)
    · cases hr : r - p.length with
      | zero => rw [hr] at h1; simp at h1
      | succ k =>
        rw [hr, List.take_succ_cons] at h1
        rcases List.mem_cons.1 h1 with e | e
        · exact (hsx e).elim
        · refine List.mem_append.2 (Or.inr ?_)
          exact (List.take_prefix_take_left (show k ≤ k + 1 by omega)).subset e
/-- A greater set takes a key from none that is kept. -/
theorem take_more {W : Int → Nat} {s : Int} {r : Nat} (l : List Int) : ∀ (k n : Nat), s ∈ l.take n → s ∈ (ord W (l.take (n + k))).take r → s ∈ (ord W (l.take n)).take r
  | 0, _, _, h => h
  | k + 1, n, hs, h => by
    refine take_more l k n hs ?_
    have hm : s ∈ l.take (n + k) := (List.take_prefix_take_left (show n ≤ n + k by omega)).subset hs
    by_cases hlt : n + k < l.length
    · have e : l.take (n + (k + 1)) = l.take (n + k) ++ [l[n + k]] := List.take_succ_eq_append_getElem hlt
      rw [e, ord_snoc] at h
      exact take_ins (ord_pw _ _) (mem_ord.2 hm) h
    · have e1 : l.take (n + (k + 1)) = l := List.take_of_length_le (by omega)
      have e2 : l.take (n + k) = l := List.take_of_length_le (by omega)
      rw [e1] at h; rw [e2]
      exact h
/-- What is in a and not in b. -/
def wo (a b : List Int) : List Int := a.filter fun x => !b.contains x
theorem wo_self (a : List Int) : wo a a = [] := by
  unfold wo; rw [List.filter_eq_nil_iff]; intro x hx; simp [hx]
theorem wo_pre {a b : List Int} (h : ∀ x ∈ a, x ∈ b) : wo a b = [] := by
  unfold wo; rw [List.filter_eq_nil_iff]; intro x hx; simp [h x hx]
theorem wo_one {x : Int} {p q b : List Int} (hp : ∀ z ∈ p, z ∈ b) (hq : ∀ z ∈ q, z ∈ b) (hx : x ∉ b) : wo (p ++ x :: q) b = [x] := by
  have e1 : wo p b = [] := wo_pre hp
  have e2 : wo q b = [] := wo_pre hq
  unfold wo at *
  rw [List.filter_append, e1, List.filter_cons, e2]
  simp [hx]
/-- Where one comes, a key moves to it alone, at most from one other one. -/
theorem move_one {W : Int → Nat} {x : Int} {o : List Int} (h : o.Pairwise (bt W)) (hx : x ∉ o) (r : Nat) :
    (wo ((ins W x o).take r) (o.take r) = [] ∧ wo (o.take r) ((ins W x o).take r) = []) ∨
    (wo ((ins W x o).take r) (o.take r) = [x] ∧ (wo (o.take r) ((ins W x o).take r)).length ≤ 1) := by
  obtain ⟨p, q, e1, e2⟩ := ins_split (W := W) hx
  rw [e2, e1, List.take_append, List.take_append]
  have hnd := pw_nodup h
  rw [e1] at hnd hx
  cases hr : r - p.length with
  | zero => exact Or.inl ⟨by simpa using wo_self _, by simpa using wo_self _⟩
  | succ k =>
    right
    have hxp : ∀ n, x ∉ p.take n ++ q.take n := fun n hm => hx (by
      rcases List.mem_append.1 hm with hm | hm
      · exact List.mem_append.2 (Or.inl (List.mem_of_mem_take hm))
      · exact List.mem_append.2 (Or.inr (List.mem_of_mem_take hm)))
    rw [List.take_succ_cons]
    constructor
    · refine wo_one (fun z hz => List.mem_append.2 (Or.inl hz)) (fun z hz => List.mem_append.2 (Or.inr ((List.take_prefix_take_left (show k ≤ k + 1 by omega)).subset hz))) ?_
      intro hm
      rcases List.mem_append.1 hm with hm | hm
      · exact hx (List.mem_append.2 (Or.inl (List.mem_of_mem_take hm)))
      · exact hx (List.mem_append.2 (Or.inr (List.mem_of_mem_take hm)))
    · have hq : q.take (k + 1) = q.take k ++ (q.drop k).take 1 := by
        rw [show k + 1 = k + 1 from rfl, List.take_add]
      rw [hq]
      unfold wo
      rw [List.filter_append, List.filter_append]
      have a1 : (p.take r).filter (fun z => !(p.take r ++ x :: q.take k).contains z) = [] := by
        rw [List.filter_eq_nil_iff]; intro z hz; simp [hz]
      have a2 : (q.take k).filter (fun z => !(p.take r ++ x :: q.take k).contains z) = [] := by
        rw [List.filter_eq_nil_iff]; intro z hz; simp [hz]
      rw [a1, a2, List.nil_append, List.nil_append]
      refine Nat.le_trans (List.length_filter_le _ _) ?_
      rw [List.length_take]; omega
/-- The same of lists that rise, or go by any order. -/
theorem wo_perm {a a' b b' : List Int} (h : a.Perm a') (k : ∀ z, z ∈ b ↔ z ∈ b') : (wo a b).Perm (wo a' b') := by
  unfold wo
  have e : (fun x => !b.contains x) = (fun x => !b'.contains x) := by
    funext x; congr 1; rw [Bool.eq_iff_iff]; simp [k x]
  rw [e]
  exact h.filter _
end Go.Proofs.YtbbapaphfijpcaaDoor
