/-
  The contracts of package hexa, in the form that the laws' walks ask for.
-/
import Derived.Test.YtjbdejkmmncmcaaHEnc
import Derived.Test.YtjbdejkmmncmcaaHDec
namespace Go.Proofs.Ytjbdejkmmncmcaa
open Go.RowKit

theorem hexEnc_is (s u : ByteArray) (w : World) (hs : s.size ≤ 100000) (h : encH s.data.toList = u.data.toList) :
    Calls Try.prog 7 #[.string s] w fun e w' => e = .returned (.string u) ∧ Below w.heap.size w w' := by
  have := hexEnc_any s w hs
  rw [h] at this
  simpa using this
theorem hexDec_is (s u : ByteArray) (b : Int) (w : World) (hs : s.size ≤ 100000) (h : decH s.data.toList = (u.data.toList, b)) :
    Calls Try.prog 10 #[.string s] w fun e w' => e = .returned (.tuple #[.string u, .int .i64 b]) ∧ Below w.heap.size w w' := by
  have := hexDec_any s w hs
  rw [h] at this
  simpa using this

end Go.Proofs.Ytjbdejkmmncmcaa
