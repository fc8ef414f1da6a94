/-
  The walks of the laws of the stage inflate: over the contract of package inflate (inflate_is).
-/
import Derived.Test.YtboiljclenikbaaGreatDoorInflate
import Derived.Test.YtboiljclenikbaaGreatDoorHPlain
namespace Go.Proofs.YtboiljclenikbaaGreatDoor
open Go.RowKit
set_option maxRecDepth 100000
/-- It answers yes, and leaves what lay. -/
def YesI (w : World) (e : Ending) (w' : World) : Prop := e = .returned (.bool true) ∧ Below w.heap.size w w'
theorem inf_is (s u : ByteArray) (most : Int) (w : World) (hs : s.size ≤ 10000) (hm : most ≤ 100000) (hL : Laid w) {n : Nat} {e : Int} (hz : inflZ s.data.toList most = (u.data.toList, n, e)) :
    Calls Tryz.prog 17 #[.string s, .int .i64 most] w fun en w' => en = .returned (.tuple #[.string u, .int .i64 (n : Int), .int .i64 e]) ∧ Below w.heap.size w w' := by
  have h := inflate_is s most w hs hm hL hz
  rwa [← bytes_eq rfl] at h
theorem inflZ_text (l : List UInt8) (most : Int) : ∃ (u : ByteArray) (n : Nat) (e : Int), inflZ l most = (u.data.toList, n, e) := ⟨bytes (inflZ l most).1, (inflZ l most).2.1, (inflZ l most).2.2, by rw [bytes_data]⟩

end Go.Proofs.YtboiljclenikbaaGreatDoor
