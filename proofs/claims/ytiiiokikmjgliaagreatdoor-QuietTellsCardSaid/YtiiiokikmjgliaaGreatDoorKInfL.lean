/-
  InfLaws, InfLaws2: texts merged.
-/
import Derived.Test.YtiiiokikmjgliaaGreatDoorInflate
import Derived.Test.YtiiiokikmjgliaaGreatDoorKPlain
import Derived.Test.YtiiiokikmjgliaaGreatDoorKRefK
/-
  The walks of the laws of the stage inflate: over the contract of package inflate (inflate_is).
-/
namespace Go.Proofs.YtiiiokikmjgliaaGreatDoor
section
open Go.RowKit
set_option maxRecDepth 100000
end
end Go.Proofs.YtiiiokikmjgliaaGreatDoor
/-
  The walk of the law InflateTells: package inflate and the document's own tell the same.
-/
namespace Go.Proofs.YtiiiokikmjgliaaGreatDoor
section
open Go.RowKit
set_option maxRecDepth 100000
end
end Go.Proofs.YtiiiokikmjgliaaGreatDoor
