/- ToCommit of a sector that is none. -/
import Derived.Test.YtncfbocbigdhiaaGreatGU
namespace Go.Proofs.YtncfbocbigdhiaaGreat
open Go.RowKit
theorem tocommit_other (s : ByteArray) (hs : s.size = 64) (h0 : s[0]? ≠ some 67) : ∃ er : Int, ∀ w, Calls Tryz.prog 131 #[.string s] w fun e w' => e = .returned (.tuple #[.agg cmz, .int .i64 er]) ∧ Below w.heap.size w w' := by
  have hbd : (s.extract 0 60).size = 60 := by rw [ByteArray.size_extract]; omega
  by_cases ht : s.extract 60 64 = O.tx (tailL (s.extract 0 60))
  · refine ⟨4, fun w => tocommit_of s cmz rfl (by simp [cmz, Value.oneCell']) 4 w (fun W => ?_)⟩
    obtain ⟨b, l, hl⟩ : ∃ b l, (s.extract 0 60).data.toList = b :: l := by
      cases e : (s.extract 0 60).data.toList with
      | nil =>
        have := O.size_list (s.extract 0 60)
        rw [e, hbd] at this
        exact absurd this (by decide)
      | cons b l => exact ⟨b, l, rfl⟩
    have hb : s[0]? = some b := by
      have e := congrArg (fun l => l[0]?) hl
      simp only [ByteArray.data_extract, Array.toList_extract, List.extract_eq_take_drop, List.drop_zero, List.getElem?_cons_zero] at e
      rw [List.getElem?_take_of_lt (by decide), Array.getElem?_toList] at e
      exact e
    have hn : O.numB b.toNat 1 = [b] := by
      show [UInt8.ofNat (b.toNat / 256 ^ 0)] = [b]
      simp
    refine read_mark s _ _ b.toNat (fun e => h0 ?_) b.toNat_lt l W hs rfl rfl hbd ?_ ht
    · rw [hb]
      congr 1
      exact UInt8.toNat_inj.1 e
    · rw [hn]
      apply ByteArray.ext
      apply Array.toList_inj.1
      rw [hl]; rfl
  · exact ⟨5, fun w => tocommit_of s cmz rfl (by simp [cmz, Value.oneCell']) 5 w (fun W => read_no s _ _ W hs rfl rfl hbd ht)⟩
end Go.Proofs.YtncfbocbigdhiaaGreat
