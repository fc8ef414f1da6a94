/-
  InfLaws, InfLaws2: texts merged.
-/
import Derived.Test.YtnelbahohkjcnaaGreatDoorInflate
import Derived.Test.YtnelbahohkjcnaaGreatDoorKPlain
import Derived.Test.YtnelbahohkjcnaaGreatDoorInfRef12
/-
  The walks of the laws of the stage inflate: over the contract of package inflate (inflate_is).
-/
namespace Go.Proofs.YtnelbahohkjcnaaGreatDoor
section
open Go.RowKit
set_option maxRecDepth 100000
end
end Go.Proofs.YtnelbahohkjcnaaGreatDoor
/-
  The walk of the law InflateTells: package inflate and the document's own tell the same.
-/
namespace Go.Proofs.YtnelbahohkjcnaaGreatDoor
section
open Go.RowKit
set_option maxRecDepth 100000
end
end Go.Proofs.YtnelbahohkjcnaaGreatDoor
