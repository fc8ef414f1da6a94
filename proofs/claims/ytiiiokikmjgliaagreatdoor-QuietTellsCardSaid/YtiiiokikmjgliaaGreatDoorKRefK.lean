/-
  InfOwnS, InfRef11, InfRef12: texts merged.
-/
import Derived.Test.YtiiiokikmjgliaaGreatDoorKRefJ
import Derived.Test.YtiiiokikmjgliaaGreatDoorKOwn
import Derived.StillTailTactics
/-
  The document's own, as a state: its ways; plain facts.
-/
namespace Go.Proofs.YtiiiokikmjgliaaGreatDoor
section
open Go.RowKit
set_option maxRecDepth 100000
section
variable {l : List UInt8} {M a b c : Nat} {x xa xb xc d hx e rx g : St} {hl rl : List Nat}
end
section
variable {w : World} {b : Nat} {s : ByteArray} {vb vo : Value} {most : Nat} {x : St}
end
end
end Go.Proofs.YtiiiokikmjgliaaGreatDoor
/-
  The contract of the document's own.
-/
namespace Go.Proofs.YtiiiokikmjgliaaGreatDoor
section
open Go.RowKit
theorem Reads.part {W : World} {vo : Value} {g B : Nat} {rl : List Nat} (h : BitsAt W g rl) (hv : vo.ownBlock ≠ some g) (hB : g ≠ B) (k : Nat) : Reads W vo B (some ⟨g, 0, none⟩) (intsOf (rl.take k)) ∧ Reads W vo B (some ⟨g, k, none⟩) (intsOf (rl.drop k)) := by
  refine ⟨.inr ⟨g, 0, rfl, h.1, hv, hB, fun i hi => ?_⟩, .inr ⟨g, k, rfl, h.1, hv, hB, fun i hi => ?_⟩⟩
  · rw [intsOf_length, List.length_take] at hi
    have hx := List.getElem?_eq_getElem (show i < rl.length by omega)
    rw [Nat.zero_add, h.2 i (by omega)]
    unfold intsOf
    rw [List.getElem?_map, List.getElem?_take, if_pos (by omega), hx]; rfl
  · rw [intsOf_length, List.length_drop] at hi
    have hx := List.getElem?_eq_getElem (show k + i < rl.length by omega)
    rw [h.2 (k + i) (by omega)]
    unfold intsOf
    rw [List.getElem?_map, List.getElem?_drop, hx]; rfl
end
end Go.Proofs.YtiiiokikmjgliaaGreatDoor
/-
  The contract of the document's Inflate.
-/
namespace Go.Proofs.YtiiiokikmjgliaaGreatDoor
section
open Go.RowKit
set_option maxRecDepth 100000
section
variable {w0 w w' w2 : World} {T gb : Nat} {s : ByteArray} {vb vo v2 : Value} {M : Nat} {y z d : St}
end
end
end Go.Proofs.YtiiiokikmjgliaaGreatDoor
