/-
  The contracts of package runs, in the form that the laws' walks ask for.
-/
import Derived.Test.YtaoeaadgcdoldaaRunDec
namespace Go.Proofs.Ytaoeaadgcdoldaa
open Go.RowKit

theorem runEnc_is (s u : ByteArray) (w : World) (hs : s.size ≤ 100000) (h : encAll s.data.toList = u.data.toList) :
    Calls Try.prog 7 #[.string s] w fun e w' => e = .returned (.string u) ∧ Below w.heap.size w w' := by
  have := pEnc_any s w hs
  rw [h] at this
  simpa using this
theorem runDec_is (s u : ByteArray) (most b : Int) (w : World) (hs : s.size ≤ 100000) (h0 : -9223372036854775808 ≤ most) (h1 : most ≤ 9223372036854775807) (h : decAll s.data.toList most = (u.data.toList, b)) :
    Calls Try.prog 10 #[.string s, .int .i64 most] w fun e w' => e = .returned (.tuple #[.string u, .int .i64 b]) ∧ Below w.heap.size w w' := by
  have := pDec_any s most w hs h0 h1 h
  rwa [bytes_of] at this

end Go.Proofs.Ytaoeaadgcdoldaa
