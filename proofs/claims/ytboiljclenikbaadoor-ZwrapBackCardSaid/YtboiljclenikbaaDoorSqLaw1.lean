/-
  The walk of the law that the shorter way is short.
-/
import Derived.Test.YtboiljclenikbaaDoorSqEx
import Derived.Test.YtboiljclenikbaaDoorHPlain
namespace Go.Proofs.YtboiljclenikbaaDoor
open Go.RowKit
set_option maxRecDepth 100000
/-- It answers yes, and leaves what lay. -/
def Yes (w : World) (e : Ending) (w' : World) : Prop := e = .returned (.bool true) ∧ Below w.heap.size w w'
theorem best_any (s : ByteArray) (w : World) (hs : s.size ≤ 70000) (hL : LaidQ w) :
    Calls Tryd.prog 9 #[.string s] w fun en w' => en = .returned (.string (bytes (bestZ s.data.toList))) ∧ Below w.heap.size w w' := best_is s w hs hL (by rw [bytes_data])
end Go.Proofs.YtboiljclenikbaaDoor
