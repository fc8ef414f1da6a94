/-
  The contract of the document's Fixed.
-/
import Derived.Test.YtnelbahohkjcnaaGreatDoorKSqL
import Derived.Test.YtnelbahohkjcnaaGreatDoorKBlk
import Derived.Test.YtnelbahohkjcnaaGreatDoorKCodeR
import Derived.Deep.RegionWith
namespace Go.Proofs.YtnelbahohkjcnaaGreatDoor
open Go.RowKit
set_option maxRecDepth 100000
theorem BitsAt.of {w : World} {g : Nat} {row : List Nat} (h : BitsAt w g row) {j x : Nat} (hj : row[j]? = some x) : w.cell? ⟨g, j, none⟩ = some (.int .i64 (x : Int)) := by
  obtain ⟨h1, h2⟩ := List.getElem?_eq_some_iff.1 hj
  rw [h.2 j h1, h2]
end Go.Proofs.YtnelbahohkjcnaaGreatDoor
