/-
  The document's own, as a state: its ways; plain facts.
-/
import Derived.Test.YtnelbahohkjcnaaGreatDoorKRefJ
import Derived.Test.YtnelbahohkjcnaaGreatDoorKOwn
namespace Go.Proofs.YtnelbahohkjcnaaGreatDoor
open Go.RowKit
set_option maxRecDepth 100000
section
variable {l : List UInt8} {M a b c : Nat} {x xa xb xc d hx e rx g : St} {hl rl : List Nat}
end
section
variable {w : World} {b : Nat} {s : ByteArray} {vb vo : Value} {most : Nat} {x : St}
end
end Go.Proofs.YtnelbahohkjcnaaGreatDoor
