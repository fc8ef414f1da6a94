/-
  VRKey, VRCheck: texts merged.
-/
import Derived.Test.YtejgcnmbngdkiaaGreatDoorMZero
import Derived.Test.YtejgcnmbngdkiaaGreatDoorNRPl
/-
  The document's answer: what is wrong with a key.
-/
namespace Go.Proofs.YtejgcnmbngdkiaaGreatDoor
section
open Go.RowKit
set_option maxRecDepth 100000
attribute [local go_sem] undef

def keyE (b : Bool) : Int := if b = true then 11 else 0
theorem any_snoc_key (d : Prs) (j : Nat) (hj : j < d.length) (k : ByteArray) : ((d.take (j + 1)).map Prod.fst).any (fun x => decide (x = k)) = (((d.take j).map Prod.fst).any (fun x => decide (x = k)) || decide ((d[j]).1 = k)) := by
  rw [List.take_add_one, List.getElem?_eq_getElem hj, Option.toList_some, List.map_append, List.any_append, List.map_cons, List.map_nil, List.any_cons, List.any_nil, Bool.or_false]

end
end Go.Proofs.YtejgcnmbngdkiaaGreatDoor
/-
  The document's answer: what is wrong with a value.
-/
namespace Go.Proofs.YtejgcnmbngdkiaaGreatDoor
section
open Go.RowKit
set_option maxRecDepth 100000

end
end Go.Proofs.YtejgcnmbngdkiaaGreatDoor
