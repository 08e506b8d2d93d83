/- What OctetBack takes back, as a call of Take. -/
import Derived.Test.YthojbccoejdmeaaZ4
namespace Go.Proofs.Ythojbccoejdmeaa
open Go.RowKit

theorem ent21 (args : Array Value) (W : World) : (callFunc 21 args).run Try.prog W = .ok (.enter 21 args) W := enter_of Try.func21 (by kernel_rfl) (by kernel_rfl) args W
theorem take_back (w : World) (G L b o cap z : Nat) (ao : Option Addr) (ps : List Put) (hao : 0 < ps.length → ao = some ⟨b, o, none⟩) (hL : w.cell? ⟨L, 0, none⟩ = some (.slice ao ps.length cap)) (hp : PutsAt w b o ps) (hb : b < w.heap.size)
    (hG : w.cell? ⟨G, 0, none⟩ = some (.bool true)) (hGf : w.frozen? ⟨G, 0, none⟩ = false) (n2 : L ≠ G) (n4 : b ≠ G) (hz : z ≤ 1000) :
    Calls Try.prog 10 #[.string (tx (encs (ps.take 12) ++ List.replicate z 0)), .func (.func 21) #[] #[.pointer (some ⟨L, 0, none⟩), .pointer (some ⟨G, 0, none⟩)]] w fun e w' =>
      e = .returned (.tuple #[.string ⟨#[]⟩, .int .i64 0]) ∧ w'.cell? ⟨G, 0, none⟩ = some (.bool true) ∧ Below G w w' := by
  generalize hs : tx (encs (ps.take 12) ++ List.replicate z 0) = s
  have hLs : L < w.heap.size := World.block_lt_of_cell? w _ hL
  have hGs : G < w.heap.size := World.block_lt_of_cell? w _ hG
  have hsz := W0_size w s
  have b0 := W0_below w s
  have tk := W0_tk w s
  have hin := W0_in w s
  have hd := back_do (W0 w s) (w.heap.size + 2) G L b o cap z ao ps hao ((b0.cell (by exact hLs)).trans hL) (hp.keep hb b0) (by omega) (by omega) (by omega) n2 (by omega) n4 (by omega) hz
    ⟨by rw [hs]; exact hin, (b0.cell (by exact hGs)).trans hG, (b0.frozen (by exact hGs)).trans hGf, KG.refl _ _ _⟩
  have ht := take_ok 21 #[.pointer (some ⟨L, 0, none⟩), .pointer (some ⟨G, 0, none⟩)] s ⟨#[]⟩ (fun W => W.cell? ⟨G, 0, none⟩ = some (.bool true) ∧ KG (w.heap.size + 2) G (W0 w s) W) w ent21 (hd.mono (by
    rintro e W ⟨rfl, q1, q2, q3⟩
    exact ⟨rfl, q1, tk.keep (fun k hk => q3.block k (by omega) (by omega) (by omega)), q2, q3⟩))
  refine ht.mono ?_
  rintro e w' ⟨rfl, W, ⟨q1, q2⟩, kt⟩
  have hWs := q2.size
  refine ⟨rfl, ?_, ?_⟩
  · rw [World.cell?_of_block (w := W) (kt.block G (by omega) (by omega) (by omega))]; exact q1
  · refine ⟨kt.os.trans (q2.os.trans b0.os), kt.tape.trans (q2.tape.trans b0.tape), kt.output.trans (q2.output.trans b0.output), by have := kt.size; omega, fun k hk => ?_⟩
    rw [kt.block k (by omega) (by omega) (by omega), q2.block k (by omega) (by omega) (by omega)]
    exact b0.block k (by omega)
end Go.Proofs.Ythojbccoejdmeaa
