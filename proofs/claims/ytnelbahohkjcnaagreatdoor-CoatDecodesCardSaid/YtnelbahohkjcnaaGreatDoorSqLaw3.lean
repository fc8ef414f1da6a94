/-
  The contract of the document's Best; the walk of the law on fixed codes.
-/
import Derived.Test.YtnelbahohkjcnaaGreatDoorKSqL
import Derived.Test.YtnelbahohkjcnaaGreatDoorSqRefF
namespace Go.Proofs.YtnelbahohkjcnaaGreatDoor
open Go.RowKit
set_option maxRecDepth 100000
end Go.Proofs.YtnelbahohkjcnaaGreatDoor
