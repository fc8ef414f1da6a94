/-
  The walk of the law that what is deflated is told again.
-/
import Derived.Test.YtboiljclenikbaaDoorSqLaw1
import Derived.Test.YtboiljclenikbaaDoorHBack
import Derived.Test.YtboiljclenikbaaDoorInflate
namespace Go.Proofs.YtboiljclenikbaaDoor
open Go.RowKit
set_option maxRecDepth 100000
/-- What is deflated is told again. -/
theorem again_is (s U : ByteArray) (w : World) (hU : U.size ≤ 10000) (hs : s.size ≤ 5000) (hL : Laid w) {z : List UInt8} (hz : z = U.data.toList) (h : inflZ z (s.data.toList.length : Int) = (s.data.toList, z.length, 0)) :
    Calls Tryd.prog 12 #[.string U, .int .i64 (s.size : Int)] w fun en w' => en = .returned (.tuple #[.string s, .int .i64 (U.size : Int), .int .i64 0]) ∧ Below w.heap.size w w' := by
  subst hz
  rw [← size_data, ← size_data] at h
  have h2 := inflate_is U (s.size : Int) w hU (by omega) hL h
  rwa [← bytes_eq rfl] at h2
end Go.Proofs.YtboiljclenikbaaDoor
