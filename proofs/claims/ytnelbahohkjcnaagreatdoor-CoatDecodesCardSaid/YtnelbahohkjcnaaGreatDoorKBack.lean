/-
  SqBack, SqBack2, ZwPlain: texts merged.
-/
import Derived.Test.YtnelbahohkjcnaaGreatDoorKPlain
import Derived.Test.YtnelbahohkjcnaaGreatDoorKBlk
/-
  What is deflated is told again: plain facts, no program in sight.
-/
namespace Go.Proofs.YtnelbahohkjcnaaGreatDoor
section
set_option maxRecDepth 100000
end
end Go.Proofs.YtnelbahohkjcnaaGreatDoor
/-
  What is deflated is told again, in each way: plain facts, no program in sight.
-/
namespace Go.Proofs.YtnelbahohkjcnaaGreatDoor
section
set_option maxRecDepth 100000
end
end Go.Proofs.YtnelbahohkjcnaaGreatDoor
/-
  Deflated bytes with a head and a sum: plain facts, no program in sight.
-/
namespace Go.Proofs.YtnelbahohkjcnaaGreatDoor
section
set_option maxRecDepth 100000
def tailZ (l : List UInt8) : List UInt8 := loN 4 (aSum l)
theorem tailZ_length (l : List UInt8) : (tailZ l).length = 4 := loN_length 4 _
def wrapZ (l : List UInt8) : List UInt8 := [120, 1] ++ (bestZ l ++ tailZ l)
def headNo (a b : Nat) : Bool := decide (a % 16 ≠ 8 ∨ 7 < a / 16 ∨ (256 * a + b) % 31 ≠ 0 ∨ b / 32 % 2 = 1)
def restZ (l : List UInt8) (r : List UInt8 × Nat × Int) : List UInt8 × Int :=
  if r.2.2 ≠ 0 then ([], r.2.2)
  else if (l.drop r.2.1).length < 4 then ([], 5)
  else if (l.drop r.2.1).take 4 ≠ tailZ r.1 then ([], 6)
  else if 4 < (l.drop r.2.1).length then ([], 4)
  else (r.1, 0)
def unwrapZ : List UInt8 → Int → List UInt8 × Int
  | a :: b :: l, most => if most < 0 then ([], 2) else if headNo a.toNat b.toNat = true then ([], 4) else restZ l (inflZ l most)
  | _, most => if most < 0 then ([], 2) else ([], 5)
theorem unwrapZ_short {l : List UInt8} {most : Int} (h : 0 ≤ most) (hl : l.length < 2) : unwrapZ l most = ([], 5) := by
  match l, hl with
  | [], _ => simp [unwrapZ]; omega
  | [a], _ => simp [unwrapZ]; omega
theorem restZ_err {l : List UInt8} {r : List UInt8 × Nat × Int} (h : r.2.2 ≠ 0) : restZ l r = ([], r.2.2) := by unfold restZ; rw [if_pos h]
theorem wrapZ_length (l : List UInt8) : (wrapZ l).length = (bestZ l).length + 6 := by
  unfold wrapZ
  simp only [List.length_append, tailZ_length, List.length_cons, List.length_nil]
  omega
end
end Go.Proofs.YtnelbahohkjcnaaGreatDoor
