/- A pool of one device, as it lies in memory; New, Add, find, Open as calls. -/
import Derived.Test.YtiohkdpmgkobiaaA
import Derived.Laws.MakeOwn
import Derived.Laws.OwnMore
namespace Go.Proofs.Ytiohkdpmgkobiaa
open Go.RowKit

/-- What a pool of one device is, as plain data. -/
structure St where
  serial : Int
  session : Int
  there : Bool
  n : Nat
  secs : Array Value
  loose : List Value
  ln : Nat
  aw : Bool
  al : Int
  ad : Bool
  hw : Bool
  hl : Int
  down : Bool
  count : Int
/-- Where it lies; 'rc' is the row of its devices' pointers. -/
structure Loc where
  P : Nat
  R : Nat
  D : Nat
  S : Nat
  cap : Nat
  rc : Array Value
def Loc.off (L : Loc) (k : Nat) : Prop := k ≠ L.P ∧ k ≠ L.R ∧ k ≠ L.D ∧ k ≠ L.S
def Obj.apart (o : Obj) : Prop := ∀ c, o ≠ .cells c 149
structure One (b0 : Nat) (w0 : World) (L : Loc) (st : St) (lv : Value) (oth : List (Nat × Obj)) (w : World) : Prop where
  below : Below b0 w0 w
  bP : b0 ≤ L.P
  bR : b0 ≤ L.R
  bD : b0 ≤ L.D
  bS : b0 ≤ L.S
  pool : w.heap[L.P]? = some (.cells #[.slice (some ⟨L.R, 0, none⟩) 1 L.cap, .bool st.hw, .int .i64 st.hl, .bool st.down, .int .i64 st.count] 95)
  rowb : w.heap[L.R]? = some (.cells L.rc 98)
  rc0 : L.rc[0]? = some (.pointer (some ⟨L.D, 0, none⟩))
  dev : w.heap[L.D]? = some (.cells #[.int .i64 st.serial, .int .i64 st.session, .bool st.there, .slice (some ⟨L.S, 0, none⟩) st.n st.n, lv, .bool st.aw, .int .i64 st.al, .bool st.ad] 102)
  sec : w.heap[L.S]? = some (.cells st.secs 147)
  own : w.ownsRow b0 149 65 lv st.ln st.loose
  oth : ∀ p ∈ oth, w.heap[p.1]? = some p.2 ∧ L.off p.1 ∧ Obj.apart p.2 ∧ b0 ≤ p.1
/-- Nothing that was there was written, but the pool's own. -/
structure KO (L : Loc) (lv : Value) (w w' : World) : Prop where
  os : w'.os = w.os
  tape : w'.tape = w.tape
  output : w'.output = w.output
  size : w.heap.size ≤ w'.heap.size
  block : ∀ k, k < w.heap.size → k ≠ L.P → k ≠ L.D → k ≠ L.S → lv.ownBlock ≠ some k → w'.heap[k]? = w.heap[k]?
theorem KO.refl (L : Loc) (lv : Value) (w : World) : KO L lv w w := ⟨rfl, rfl, rfl, Nat.le_refl _, fun _ _ _ _ _ _ => rfl⟩
theorem KO.trans {L : Loc} {lv : Value} {a b c : World} (h : KO L lv a b) (k : KO L lv b c) : KO L lv a c :=
  ⟨k.os.trans h.os, k.tape.trans h.tape, k.output.trans h.output, Nat.le_trans h.size k.size, fun i hi h1 h2 h3 h4 => (k.block i (Nat.lt_of_lt_of_le hi h.size) h1 h2 h3 h4).trans (h.block i hi h1 h2 h3 h4)⟩
theorem KO.ofBelow {L : Loc} {lv : Value} {w w' : World} (h : Below w.heap.size w w') : KO L lv w w' := ⟨h.os, h.tape, h.output, h.size, fun k hk _ _ _ _ => h.block k hk⟩
theorem KO.set {L : Loc} {lv : Value} {w : World} {a : Addr} (ha : a.block = L.P ∨ a.block = L.D ∨ a.block = L.S) (v : Value) : KO L lv w (w.setCell a v) :=
  ⟨rfl, rfl, rfl, by simp [World.setCell], fun k _ h1 h2 h3 _ => Below.heap_setCell _ _ _ _ (by rcases ha with h | h | h <;> rw [h] <;> assumption)⟩
theorem own_ty {w : World} {b0 : Nat} {lv : Value} {n : Nat} {xs : List Value} (h : w.ownsRow b0 149 65 lv n xs) {k : Nat} (hk : lv.ownBlock = some k) : b0 ≤ k ∧ ∃ c, w.heap[k]? = some (.cells c 149) := by
  rcases h.2 with ⟨rfl, _⟩ | ⟨g, cap, cur, rfl, hb, hg, _⟩
  · cases hk
  · injection hk with hk
    exact ⟨by rw [← hk]; exact hb, cur, by rw [← hk]; exact hg⟩
theorem One.lne {b0 : Nat} {w0 : World} {L : Loc} {st : St} {lv : Value} {oth : List (Nat × Obj)} {w : World} (h : One b0 w0 L st lv oth w) {k : Nat} {o : Obj} (hk : w.heap[k]? = some o) (ho : Obj.apart o) : lv.ownBlock ≠ some k := by
  intro e
  obtain ⟨_, c, hc⟩ := own_ty h.own e
  rw [hk] at hc
  injection hc with hc
  exact ho c hc
theorem apart_of {c : Array Value} {t : TypeId} (ht : t ≠ 149) : Obj.apart (.cells c t) := by
  intro c' e
  injection e with _ e _
  exact ht e
theorem One.upd {b0 : Nat} {w0 : World} {L : Loc} {st st' : St} {lv lv' : Value} {oth : List (Nat × Obj)} {w w' : World} (h : One b0 w0 L st lv oth w) (k : KO L lv w w')
    (hp : w'.heap[L.P]? = some (.cells #[.slice (some ⟨L.R, 0, none⟩) 1 L.cap, .bool st'.hw, .int .i64 st'.hl, .bool st'.down, .int .i64 st'.count] 95))
    (hd : w'.heap[L.D]? = some (.cells #[.int .i64 st'.serial, .int .i64 st'.session, .bool st'.there, .slice (some ⟨L.S, 0, none⟩) st'.n st'.n, lv', .bool st'.aw, .int .i64 st'.al, .bool st'.ad] 102))
    (hs : w'.heap[L.S]? = some (.cells st'.secs 147)) (ho : w'.ownsRow b0 149 65 lv' st'.ln st'.loose) : One b0 w0 L st' lv' oth w' := by
  have hlt : ∀ {j : Nat} {o : Obj}, w.heap[j]? = some o → j < w.heap.size := fun e => (Array.getElem?_eq_some_iff.1 e).1
  have tne : ∀ {i j : Nat} {c d : Array Value} {s t : TypeId}, w.heap[i]? = some (.cells c s) → w.heap[j]? = some (.cells d t) → s ≠ t → i ≠ j := by
    intro i j c d s t h1 h2 hst e
    subst e
    rw [h1] at h2
    injection h2 with h2
    injection h2 with _ h2 _
    exact hst h2
  refine ⟨?_, h.bP, h.bR, h.bD, h.bS, hp, ?_, h.rc0, hd, hs, ho, ?_⟩
  · refine ⟨k.os.trans h.below.os, k.tape.trans h.below.tape, k.output.trans h.below.output, Nat.le_trans h.below.size k.size, fun j hj => ?_⟩
    have h1 := h.bP; have h2 := h.bD; have h3 := h.bS
    by_cases hjs : j < w.heap.size
    · rw [k.block j hjs (by omega) (by omega) (by omega) (fun e => by have := (own_ty h.own e).1; omega)]
      exact h.below.block j hj
    · have := hlt h.pool; omega
  · rw [k.block L.R (hlt h.rowb) (tne h.rowb h.pool (by decide)) (tne h.rowb h.dev (by decide)) (tne h.rowb h.sec (by decide)) (h.lne h.rowb (apart_of (by decide)))]
    exact h.rowb
  · intro p hp2
    obtain ⟨o1, o2, o3, o4⟩ := h.oth p hp2
    refine ⟨?_, o2, o3, o4⟩
    rw [k.block p.1 (hlt o1) o2.1 o2.2.2.1 o2.2.2.2 (h.lne o1 o3)]
    exact o1
theorem One.row {b0 : Nat} {w0 : World} {L : Loc} {st : St} {lv : Value} {oth : List (Nat × Obj)} {w : World} (h : One b0 w0 L st lv oth w) : w.cell? ⟨L.R, 0, none⟩ = some (.pointer (some ⟨L.D, 0, none⟩)) := by
  have := h.rowb
  simp only [World.cell?, this]
  exact h.rc0
theorem One.ofBelow {b0 : Nat} {w0 : World} {L : Loc} {st : St} {lv : Value} {oth : List (Nat × Obj)} {w w' : World} (h : One b0 w0 L st lv oth w) (hb : Below w.heap.size w w') : One b0 w0 L st lv oth w' := by
  have hlt : ∀ {j : Nat} {o : Obj}, w.heap[j]? = some o → j < w.heap.size := fun e => (Array.getElem?_eq_some_iff.1 e).1
  refine h.upd (KO.ofBelow hb) ((hb.block _ (hlt h.pool)).trans h.pool) ((hb.block _ (hlt h.dev)).trans h.dev) ((hb.block _ (hlt h.sec)).trans h.sec) ⟨h.own.1, ?_⟩
  rcases h.own.2 with h1 | ⟨g, cap, cur, e, h2, h3, h4⟩
  · exact Or.inl h1
  · exact Or.inr ⟨g, cap, cur, e, h2, (hb.block _ (hlt h3)).trans h3, h4⟩

theorem new_any (w : World) : Calls Try.prog 13 #[] w fun e w' => e = .returned (.pointer (some ⟨w.heap.size, 0, none⟩)) ∧ w' = w.alloc (.cells #[.slice none 0 0, .bool false, .int .i64 0, .bool false, .int .i64 0] 95) := by
  go_enter Try.func13, Try.ntmps13
  go_wp2
  go_returns
  exact ⟨rfl, rfl⟩
theorem place_nil (P : Nat) (t : Int) (w : World) (h : w.cell? ⟨P, 0, none⟩ = some (.slice none 0 0)) :
    Calls Try.prog 63 #[.pointer (some ⟨P, 0, none⟩), .int .i64 t] w fun e w' => e = .returned (.tuple #[.int .i64 0, .bool false]) ∧ w' = w := by
  go_enter Try.func63, Try.ntmps63
  go_wp2_with fail
  go_call (search_nil 0 t w) as e w1 ⟨rfl, rfl⟩
  go_wp2
  go_returns
  exact ⟨rfl, rfl⟩
theorem place_any (P R cap n : Nat) (ds : Nat → Nat) (ss : Nat → Int) (t : Int) (i : Nat) (hi : i ≤ n) (hn : n ≤ 1000) (w : World)
    (h : w.cell? ⟨P, 0, none⟩ = some (.slice (some ⟨R, 0, none⟩) n cap))
    (hrow : ∀ j, j < n → w.cell? ⟨R, j, none⟩ = some (.pointer (some ⟨ds j, 0, none⟩))) (hser : ∀ j, j < n → w.cell? ⟨ds j, 0, none⟩ = some (.int .i64 (ss j)))
    (h1 : ∀ j, j < i → ss j < t) (h2 : ∀ j, i ≤ j → j < n → t ≤ ss j) :
    Calls Try.prog 63 #[.pointer (some ⟨P, 0, none⟩), .int .i64 t] w fun e w' => e = .returned (.tuple #[.int .i64 (i : Nat), .bool (decide (i < n ∧ ss i = t))]) ∧ w' = w := by
  have hs := search_any R cap n ds ss t i hi hn w hrow hser h1 h2
  generalize decide (i < n ∧ ss i = t) = r at *
  clear hrow hser h1 h2
  go_enter Try.func63, Try.ntmps63
  go_wp2_with fail
  go_call hs as e w1 ⟨rfl, rfl⟩
  go_wp2
  go_returns
  exact ⟨rfl, rfl⟩
theorem find_nil (P : Nat) (t : Int) (w : World) (h : w.cell? ⟨P, 0, none⟩ = some (.slice none 0 0)) :
    Calls Try.prog 65 #[.pointer (some ⟨P, 0, none⟩), .int .i64 t] w fun e w' => e = .returned (.pointer none) ∧ w' = w := by
  go_enter Try.func65, Try.ntmps65
  go_wp2_with fail
  go_call (place_nil P t w h) as e w1 ⟨rfl, rfl⟩
  go_wp2
  go_returns
  exact ⟨rfl, rfl⟩
section
variable {b0 : Nat} {w0 : World} {L : Loc} {st : St} {lv : Value} {oth : List (Nat × Obj)} {w : World}
theorem cell_of {w : World} {b : Nat} {c : Array Value} {t : TypeId} (h : w.heap[b]? = some (.cells c t)) (k : Nat) : w.cell? ⟨b, k, none⟩ = c[k]? := by
  simp only [World.cell?, h]; rfl
theorem frz_of {w : World} {b : Nat} {c : Array Value} {t : TypeId} (h : w.heap[b]? = some (.cells c t)) (k : Nat) : w.frozen? ⟨b, k, none⟩ = false := by
  simp only [World.frozen?, h]; simp
theorem One.place (h : One b0 w0 L st lv oth w) (t : Int) : Calls Try.prog 63 #[.pointer (some ⟨L.P, 0, none⟩), .int .i64 t] w fun e w' =>
    e = .returned (.tuple #[.int .i64 (if st.serial < t then 1 else 0), .bool (decide (st.serial = t))]) ∧ w' = w := by
  have c0 : w.cell? ⟨L.P, 0, none⟩ = some (.slice (some ⟨L.R, 0, none⟩) 1 L.cap) := cell_of h.pool 0
  have d0 : w.cell? ⟨L.D, 0, none⟩ = some (.int .i64 st.serial) := cell_of h.dev 0
  have hr := h.row
  have hr2 : ∀ j, j < 1 → w.cell? ⟨L.R, j, none⟩ = some (.pointer (some ⟨L.D, 0, none⟩)) := by
    intro j hj
    obtain rfl : j = 0 := by omega
    exact hr
  by_cases hlt : st.serial < t
  · rw [if_pos hlt]
    refine (place_any L.P L.R L.cap 1 (fun _ => L.D) (fun _ => st.serial) t 1 (by omega) (by omega) w c0 hr2 (fun j hj => d0) (fun _ _ => hlt) (fun j h1 h2 => by omega)).mono ?_
    rintro e w' ⟨rfl, rfl⟩
    refine ⟨?_, rfl⟩
    have : ¬ st.serial = t := by omega
    simp [this]
  · rw [if_neg hlt]
    refine (place_any L.P L.R L.cap 1 (fun _ => L.D) (fun _ => st.serial) t 0 (by omega) (by omega) w c0 hr2 (fun j hj => d0) (fun j h1 => by omega) (fun _ _ _ => by omega)).mono ?_
    rintro e w' ⟨rfl, rfl⟩
    refine ⟨?_, rfl⟩
    simp
theorem One.find (h : One b0 w0 L st lv oth w) : Calls Try.prog 65 #[.pointer (some ⟨L.P, 0, none⟩), .int .i64 st.serial] w fun e w' => e = .returned (.pointer (some ⟨L.D, 0, none⟩)) ∧ w' = w := by
  have hp := h.place st.serial
  rw [if_neg (by omega), decide_eq_true rfl] at hp
  have c0 : w.cell? ⟨L.P, 0, none⟩ = some (.slice (some ⟨L.R, 0, none⟩) 1 L.cap) := cell_of h.pool 0
  have hr := h.row
  clear h
  go_enter Try.func65, Try.ntmps65
  go_wp2_with fail
  go_call hp as e w1 ⟨rfl, rfl⟩
  go_wp2
  go_returns
  exact ⟨rfl, rfl⟩
theorem One.find_no (h : One b0 w0 L st lv oth w) (t : Int) (ht : ¬ st.serial = t) : Calls Try.prog 65 #[.pointer (some ⟨L.P, 0, none⟩), .int .i64 t] w fun e w' => e = .returned (.pointer none) ∧ w' = w := by
  have hp := h.place t
  rw [decide_eq_false ht] at hp
  generalize (if st.serial < t then (1 : Int) else 0) = z at *
  clear h
  go_enter Try.func65, Try.ntmps65
  go_wp2_with fail
  go_call hp as e w1 ⟨rfl, rfl⟩
  go_wp2
  go_returns
  exact ⟨rfl, rfl⟩
end
end Go.Proofs.Ytiohkdpmgkobiaa
