/- What the library's ParseUint tells of a text that is none: laid off the shelf. -/
import Derived.Test.YthojbccoejdmeaaDoorB
import Derived.Shelf.Pu.ToError
import Derived.Shelf.Pu.ToErrorRange
import Derived.Test.YthojbccoejdmeaaDoorK
namespace Go.Proofs
open Go.Shelf
namespace YthojbccoejdmeaaDoor
open Go.RowKit
theorem terr_syn (fn s : ByteArray) (base bits : Int) (ev : Value) (w : World) (hlim : s.size ≤ 281474976710656) (hv : w.cell? ⟨2, 0, none⟩ = some ev) (hev : ev = .nilIface ∨ ∃ te pe, ev = .iface te pe) :
    Calls Tryd.prog 51 #[.string fn, .string s, .int .i64 base, .int .i64 bits, .iface 84 (.int .i64 2)] w fun e w' => (∃ N, e = .returned (.iface 87 (.pointer (some ⟨N, 0, none⟩)))) ∧ Below w.heap.size w w' :=
  Calls.mono (AnyPu.strconv_toError_syntax Tryd.laysPu17 fn s base bits ev w hlim hv hev) fun _ _ ⟨N, h1, _, _, h2⟩ => ⟨⟨N, h1⟩, h2⟩
theorem terr_rng (fn s : ByteArray) (base bits : Int) (ev : Value) (w : World) (hlim : s.size ≤ 281474976710656) (hv : w.cell? ⟨3, 0, none⟩ = some ev) (hev : ev = .nilIface ∨ ∃ te pe, ev = .iface te pe) :
    Calls Tryd.prog 51 #[.string fn, .string s, .int .i64 base, .int .i64 bits, .iface 84 (.int .i64 1)] w fun e w' => (∃ N, e = .returned (.iface 87 (.pointer (some ⟨N, 0, none⟩)))) ∧ Below w.heap.size w w' :=
  Calls.mono (AnyPu.strconv_toError_range Tryd.laysPu17 fn s base bits ev w hlim hv hev) fun _ _ ⟨N, h1, _, _, h2⟩ => ⟨⟨N, h1⟩, h2⟩
end YthojbccoejdmeaaDoor
end Go.Proofs
