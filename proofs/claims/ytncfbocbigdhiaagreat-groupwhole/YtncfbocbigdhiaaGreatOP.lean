/- A law on bytes that are appended to a slice that the call itself made: of another slice's bytes, of a string's, of noughts; what the slice then owns, and that nothing else was written; the condition is that there is room for them on a machine. -/
import Derived.Test.YtncfbocbigdhiaaGreatRows
import Derived.WalkKit
import Derived.WalkSpells
import Derived.WalkLawsBesides
import Derived.Handy
import Derived.Deep.AppendSrc
namespace Go.Proofs.YtncfbocbigdhiaaGreat.O
set_option maxRecDepth 100000
set_option maxRecDepth 100000
open Go.RowKit

theorem info5 : (Tryz.prog.info? 5).map (fun i => (i.zero, i.size, i.bytes)) = some (some (.int .u8 0), 1, 1) := by kernel_rfl

/-- What is appended. -/
structure Sc (tx ty : TypeId) (x : Value) (m : Nat) (news : List Value) (w : World) : Prop where
  len : news.length = m
  room : ∀ (g sLen cap : Nat) (cur : Array Value), w.heap[g]? = some (.cells cur 5 (0, 0)) → sLen + m ≤ cap → sLen + news.length ≤ cur.size →
    (Builtin.append_ #[75, tx] ty #[.slice (some ⟨g, 0, none⟩) sLen cap, x]).run Tryz.prog w = .ok (.slice (some ⟨g, 0, none⟩) (sLen + m) cap) (w.setRow g (cur.toList.take sLen ++ news ++ cur.toList.drop (sLen + news.length)).toArray)
  grow : ∀ (b : Option Addr) (sLen cap : Nat) (olds : List Value), (Builtin.firstCells 1 sLen (.slice b sLen cap)).run Tryz.prog w.drew = .ok olds.toArray w.drew → cap < sLen + m → sLen + m ≤ 1000000 →
    (Builtin.append_ #[75, tx] ty #[.slice b sLen cap, x]).run Tryz.prog w = .ok (.slice (some ⟨w.heap.size, 0, none⟩) (sLen + m) (grownCap w (sLen + m) cap 5))
        (w.drew.alloc (.cells ((olds ++ news).toArray ++ Builtin.zeroCells (Value.int .u8 0).cells (grownCap w (sLen + m) cap 5 - (sLen + m))) 5))
  none : m = 0 → (Builtin.append_ #[75, tx] ty #[.slice none 0 0, x]).run Tryz.prog w = .ok (.slice none 0 0) w

theorem Sc.ofSrc {tx ty : TypeId} {x : Value} {m : Nat} {news : List Value} {w : World} (hs : Src Tryz.prog 1 tx x m news w) : Sc tx ty x m news w := by
  obtain ⟨i, hi, hz, hsz, hby⟩ := info_parts info5
  have hl : news.length = m := by rw [hs.newsLen, Nat.mul_one]
  refine ⟨hl, fun g sLen cap cur hg hroom hfit => ?_, fun b sLen cap olds hold hc hsm => ?_, fun hm => ?_⟩
  · have hst := run_storeCells_at Tryz.prog g sLen 5 news 0 cur w hg (by simpa using hfit) hs.one
    simp only [Nat.add_zero] at hst
    rcases hs.kind with ⟨e', hk⟩ | hk <;> simp [Builtin.append_, run_underlying Tryz.underlying75, run_underlying hk, sizeOf, typeInfo, hi, hsz, hs.len, hroom, hs.cells, Addr.add_lit, hst]
  · have := run_append_grow_src (P := Tryz.prog) w 75 tx ty 5 i (.int .u8 0) Tryz.underlying75 hi hz b sLen cap olds (by rw [hsz]; exact hold) x m news (by rw [hsz]; exact hs) hc (by omega)
      (by rw [hby]; exact growslice_fits hc (by omega))
    exact this
  · subst hm
    have hn : news = [] := List.eq_nil_of_length_eq_zero hl
    have hc := hs.cells
    subst hn
    rcases hs.kind with ⟨e', hk⟩ | hk <;> simp [Builtin.append_, run_underlying Tryz.underlying75, run_underlying hk, sizeOf, typeInfo, hi, hsz, hs.len, hc]

set_option maxRecDepth 100000 in
theorem Sc.ofZeros {ty : TypeId} {m : Nat} {w : World} (hpos : 0 < m) (hm : m ≤ 1000000) : Sc 3 ty (.int .i64 (m : Int)) m (List.replicate m (.int .u8 0)) w := by
  obtain ⟨i, hi, hz, hsz, hby⟩ := info_parts info5
  have hw : IntKind.i64.wrap (m : Int) = (m : Int) := by
    rw [IntKind.wrap_i64]; omega
  have hzc : Builtin.zeroCells (Value.int .u8 0).cells m = (List.replicate m (Value.int .u8 0)).toArray := by
    apply Array.ext'
    simp only [Builtin.zeroCells, Value.cells]
    apply List.ext_getElem?
    intro j
    simp [List.getElem?_replicate, Nat.mod_one]
    split <;> simp_all
  have h48 : ¬ ((281474976710656 : Int) < (m : Int)) := by omega
  have hai : ∀ w', (asIntOf (Value.int .i64 (m : Int))).run Tryz.prog w' = .ok (.i64, (m : Int)) w' := fun _ => rfl
  have h1 : ¬ ((m : Int) < 0) := by omega
  refine ⟨by simp, fun g sLen cap cur hg hroom hfit => ?_, fun b sLen cap olds hold hc hsm => ?_, fun hm => ?_⟩
  · have hst := run_storeCells_at Tryz.prog g sLen 5 (List.replicate m (.int .u8 0)) 0 cur w hg (by simpa using hfit) (by intro u hu; rw [List.mem_replicate] at hu; rw [hu.2]; rfl)
    simp only [Nat.add_zero] at hst
    have h0 : ¬ m = 0 := by omega
    simp [Builtin.append_, run_underlying Tryz.underlying75, run_underlying Tryz.underlying3, sizeOf, typeInfo, hi, hsz, hby, asInt, hai, h1, hw, hroom, Addr.add_lit, hst, h48, zeroValue, hz, hzc, h0]
  · have h0 : ¬ m = 0 := by omega
    have hn : ¬ (sLen + m ≤ cap) := by omega
    have h63' : ¬ (9223372036854775807 < ((sLen : Int) + (m : Int))) := by omega
    have hgf := growslice_fits (bytes := 1) hc (by omega)
    have h48' : ¬ (281474976710656 < Builtin.nextslicecap (sLen + m) cap) := by omega
    simp [Builtin.append_, run_underlying Tryz.underlying75, run_underlying Tryz.underlying3, sizeOf, typeInfo, hi, hsz, hby, asInt, hai, h1, hw, hn, h63', h48', h48, zeroValue, hz, hzc, h0, Question.forced, hold, newRow, grownCap]
    congr 2
    apply Array.ext'
    simp [List.append_assoc]
  · omega

/-- THE LAW. -/
theorem app_own {tx ty : TypeId} {x : Value} {m : Nat} {news : List Value} {w : World} (hs : Sc tx ty x m news w) (base : Nat) (v : Value) (n : Nat) (xs : List Value) (hown : w.ownsRow base 5 1 v n xs)
    (h63 : n + m ≤ 1000000) (hbase : base ≤ w.heap.size) :
    ∃ v' w', (Builtin.append_ #[75, tx] ty #[v, x]).run Tryz.prog w = .ok v' w' ∧ w'.ownsRow base 5 1 v' (n + m) (xs ++ news) ∧ w.grownBy w' v.ownBlock ∧
      (v'.ownBlock = v.ownBlock ∨ ∃ k, v'.ownBlock = some k ∧ w.heap.size ≤ k) := by
  have hml : n + m ≤ maxLen := by unfold maxLen; omega
  have hl := hs.len
  have hxl : xs.length = n := by have := hown.1; omega
  have hlen : (xs ++ news).length = (n + m) * 1 := by rw [List.length_append, hxl, hl, Nat.mul_one]
  have grown : ∀ (old : Nat), old < n + m → ∀ (row : Option Nat),
      (w.drew.alloc (.cells ((xs ++ news).toArray ++ Builtin.zeroCells (Value.int .u8 0).cells (grownCap w (n + m) old 5 - (n + m))) 5)).ownsRow base 5 1
        (.slice (some ⟨w.heap.size, 0, none⟩) (n + m) (grownCap w (n + m) old 5)) (n + m) (xs ++ news) ∧
      w.grownBy (w.drew.alloc (.cells ((xs ++ news).toArray ++ Builtin.zeroCells (Value.int .u8 0).cells (grownCap w (n + m) old 5 - (n + m))) 5)) row := by
    intro old ho row
    have hge := grownCap_ge w (n + m) old 5
    have hcm : grownCap w (n + m) old 5 ≤ maxLen := grownCap_le_maxLen w (n + m) old 5 hml
    refine ⟨⟨hlen, .inr ⟨w.heap.size, _, _, rfl, hbase, heap_alloc_new w.drew _, hge, hcm, ?_, ?_⟩⟩, ⟨rfl, rfl, rfl, by simp, fun k hk _ => Below.heap_alloc w.drew _ k hk⟩⟩
    · simp only [Array.size_append, List.size_toArray, size_zeroCells, hlen, Value.cells]
      simp
      omega
    · simp only [Array.toList_append]
      rw [← hlen]
      exact List.take_left
  rcases hown.2 with ⟨rfl, rfl⟩ | ⟨g, cap, cur, rfl, hbg, hg, hnc, hcm, hcs, htake⟩
  · have hx : xs = [] := List.eq_nil_of_length_eq_zero hxl
    subst hx
    by_cases hm : m = 0
    · have hr := hs.none hm
      subst hm
      have hn : news = [] := List.eq_nil_of_length_eq_zero hl
      subst hn
      exact ⟨.slice none 0 0, w, hr, World.ownsRow_nil w base 5 1, ⟨rfl, rfl, rfl, Nat.le_refl _, fun _ _ _ => rfl⟩, Or.inl rfl⟩
    · have hr := hs.grow none 0 0 [] (run_firstCells_none w.drew 1 0 0 0) (by omega) (by omega)
      have hgr := grown 0 (by omega) (Value.ownBlock (.slice none 0 0))
      exact ⟨_, _, hr, hgr.1, hgr.2, Or.inr ⟨w.heap.size, rfl, Nat.le_refl _⟩⟩
  · by_cases hroom : n + m ≤ cap
    · have hfit : n + news.length ≤ cur.size := by omega
      have hr := hs.room g n cap cur hg hroom hfit
      refine ⟨_, _, hr, ⟨hlen, .inr ⟨g, cap, _, rfl, hbg, setRow_heap w g cur _ 5 _ hg, hroom, hcm, ?_, ?_⟩⟩, ⟨rfl, rfl, rfl, by simp, fun k _ hk => setRow_other w g k _ (fun e => hk (by simp [Value.ownBlock, e]))⟩, Or.inl rfl⟩
      · simp only [List.size_toArray, List.length_append, List.length_take, List.length_drop, Array.length_toList]
        omega
      · rw [Nat.mul_one] at htake
        rw [htake, ← hlen]
        exact List.take_left
    · have holds : ∀ j u, xs[j]? = some u → w.cell? ((⟨g, 0, none⟩ : Addr).add j) = some u := hown.cells (g := g) rfl
      have hr := hs.grow (some ⟨g, 0, none⟩) n cap xs (run_firstCells_some w.drew 1 n ⟨g, 0, none⟩ n cap xs (by omega) (by simpa using holds)) (by omega) (by omega)
      have hgr := grown cap (by omega) (Value.ownBlock (.slice (some ⟨g, 0, none⟩) n cap))
      exact ⟨_, _, hr, hgr.1, hgr.2, Or.inr ⟨w.heap.size, rfl, Nat.le_refl _⟩⟩
end Go.Proofs.YtncfbocbigdhiaaGreat.O
