/-
  No cell of these rows narrows 'for every input' (looked for: loops, veiled, ifaces, maps, wideKeys, modest, calm, conditions, laid).
  DERIVED. THE GIVEN ROWS OF THIS SEAT. 3 by the template 'for every input the law returns true; each argument reads behind the call as it read before'; 0 by the template 'total and deterministic' (their statements: YtjkppdgakokelaaTotals.lean).
  GIVEN WITH THE SEED: the statements are not yours to turn. If you find one false, say at which input.
  Laid BY PROGRAM, IN A SANDBOX (cutbox-rows.mjs): the forced cells as the released guide's own fill.sh prints them over the translation b462c50253e49523… (all of the seat's roots in one cut). By AI agents, Wed Nov 11 2026. No macro, syntax, notation, axiom, sorry.
-/
import Derived.Test.YtjkppdgakokelaaChecked
import GoSem.Claim
import GoSem.ClaimJoined
import GoSem.ClaimMapViews
import Derived.JoinedTies
import Derived.KernelRfl
namespace Go.Proofs.Ytjkppdgakokelaa
/- THE CELL 'sum', in the pinned program and in every row, IS THE sha256 OF THE DUMP (.gsa) THAT YtjkppdgakokelaaProg.lean LOADS. Nothing in Lean hashes anything: it is a label: what it is worth is what the hold of that sum in a sandbox is worth. -/
noncomputable def Try.pinned : Pinned := { name := "ytjkppdgakokelaa", sum := "b462c50253e495235890860d10fd79a404883d31bfd6e7925c29b1ff765cdf27", checked := Try.checked }
namespace Rows
def none {H : Type} : Left H := { results := [], args := [] }

/-- 'binderylaw13.PredictEncodes': WHATEVER THE INPUT: true; the input reads as it did. -/
def predictEncodesSpec : ChangeSpec := { name := "predictEncodes", fn := fun _ => fun
  | [d1, d2] => { results := [.lit (.bool true)], args := [d1, d2] }
  | _ => none }
def predictEncodesRow : OpenClaim := { program := "ytjkppdgakokelaa", sum := "b462c50253e495235890860d10fd79a404883d31bfd6e7925c29b1ff765cdf27", func := "bindery/binderylaw13.PredictEncodes", spec := "predictEncodes", inPlace := ["internal/abi.NoEscape", "internal/bytealg.MakeNoZero"], apart := false }
def PredictEncodesSaid : Prop := predictEncodesRow.holds Try.pinned (OpenSpec.ofChange predictEncodesSpec)

/-- ITS FALSE NEIGHBOUR: 'it returns false'. Refute it at one input. -/
def predictEncodesWrong : ChangeSpec := { name := "predictEncodes", fn := fun _ => fun
  | [d1, d2] => { results := [.lit (.bool false)], args := [d1, d2] }
  | _ => none }
def PredictEncodesWrongFalsely : Prop := predictEncodesRow.holds Try.pinned (OpenSpec.ofChange predictEncodesWrong)

/-- 'binderylaw13.PredictDecodes': WHATEVER THE INPUT: true; the input reads as it did. -/
def predictDecodesSpec : ChangeSpec := { name := "predictDecodes", fn := fun _ => fun
  | [d1, d2] => { results := [.lit (.bool true)], args := [d1, d2] }
  | _ => none }
def predictDecodesRow : OpenClaim := { program := "ytjkppdgakokelaa", sum := "b462c50253e495235890860d10fd79a404883d31bfd6e7925c29b1ff765cdf27", func := "bindery/binderylaw13.PredictDecodes", spec := "predictDecodes", inPlace := ["internal/abi.NoEscape", "internal/bytealg.MakeNoZero"], apart := false }
def PredictDecodesSaid : Prop := predictDecodesRow.holds Try.pinned (OpenSpec.ofChange predictDecodesSpec)

/-- ITS FALSE NEIGHBOUR: 'it returns false'. Refute it at one input. -/
def predictDecodesWrong : ChangeSpec := { name := "predictDecodes", fn := fun _ => fun
  | [d1, d2] => { results := [.lit (.bool false)], args := [d1, d2] }
  | _ => none }
def PredictDecodesWrongFalsely : Prop := predictDecodesRow.holds Try.pinned (OpenSpec.ofChange predictDecodesWrong)

/-- 'binderylaw13.PredictBack': WHATEVER THE INPUT: true; the input reads as it did. -/
def predictBackSpec : ChangeSpec := { name := "predictBack", fn := fun _ => fun
  | [d1, d2] => { results := [.lit (.bool true)], args := [d1, d2] }
  | _ => none }
def predictBackRow : OpenClaim := { program := "ytjkppdgakokelaa", sum := "b462c50253e495235890860d10fd79a404883d31bfd6e7925c29b1ff765cdf27", func := "bindery/binderylaw13.PredictBack", spec := "predictBack", inPlace := ["internal/abi.NoEscape", "internal/bytealg.MakeNoZero"], apart := false }
def PredictBackSaid : Prop := predictBackRow.holds Try.pinned (OpenSpec.ofChange predictBackSpec)

/-- ITS FALSE NEIGHBOUR: 'it returns false'. Refute it at one input. -/
def predictBackWrong : ChangeSpec := { name := "predictBack", fn := fun _ => fun
  | [d1, d2] => { results := [.lit (.bool false)], args := [d1, d2] }
  | _ => none }
def PredictBackWrongFalsely : Prop := predictBackRow.holds Try.pinned (OpenSpec.ofChange predictBackWrong)

/- THE SECOND FORM. 'bulk': how many values and letters a reading holds, each counted each time it is reached (what is shared counts as often as it is met; a slice's spare places count too). A statement '..UptoSaid' is the law's where the arguments, and the package variables that the reading takes, are together of bulk at most 1048576: NARROWER than '..Said'. Prove '..Said' where nothing that the law and all that it calls make is longer than what came in: it says more and counts as full. Else prove '..UptoSaid'. A law counts once. -/
mutual
def uptoBulk {H : Type} : DataW H → Nat
  | .lit (.string bytes) => bytes.length + 1
  | .lit _ => 1
  | .nil => 1
  | .ptr d => uptoBulk d + 1
  | .slice elems spare => uptoBulkAll elems + uptoBulkAll spare + 1
  | .agg parts => uptoBulkAll parts + 1
  | .iface _ d => uptoBulk d + 1
  | .map entries => uptoBulkEntries entries + 1
  | .held _ => 1
def uptoBulkAll {H : Type} : List (DataW H) → Nat
  | [] => 0
  | d :: r => uptoBulk d + uptoBulkAll r
def uptoBulkEntries {H : Type} : List (Lit × DataW H) → Nat
  | [] => 0
  | x :: r => uptoBulkEntry x + uptoBulkEntries r
def uptoBulkEntry {H : Type} : Lit × DataW H → Nat
  | (.string bytes, d) => bytes.length + uptoBulk d + 1
  | (_, d) => uptoBulk d + 1
 end
def uptoSmall : (H : Type) → List (DataW H) → Bool := fun _ ds => decide (uptoBulkAll ds ≤ 1048576)
def OpenSpec.upto (s : _root_.Go.ChangeSpec) : _root_.Go.OpenSpec := { _root_.Go.OpenSpec.ofChange s with cond := some uptoSmall }

/-- 'binderylaw13.PredictEncodes', WHERE WHAT IT READS IS OF BULK AT MOST 1048576: true; the input reads as it did. -/
def predictEncodesUptoRow : OpenClaim := { program := "ytjkppdgakokelaa", sum := "b462c50253e495235890860d10fd79a404883d31bfd6e7925c29b1ff765cdf27", func := "bindery/binderylaw13.PredictEncodes", spec := "predictEncodes", inPlace := ["internal/abi.NoEscape", "internal/bytealg.MakeNoZero"], apart := false, narrowed := true }
def PredictEncodesUptoSaid : Prop := predictEncodesUptoRow.holds Try.pinned (OpenSpec.upto predictEncodesSpec)

/-- 'binderylaw13.PredictDecodes', WHERE WHAT IT READS IS OF BULK AT MOST 1048576: true; the input reads as it did. -/
def predictDecodesUptoRow : OpenClaim := { program := "ytjkppdgakokelaa", sum := "b462c50253e495235890860d10fd79a404883d31bfd6e7925c29b1ff765cdf27", func := "bindery/binderylaw13.PredictDecodes", spec := "predictDecodes", inPlace := ["internal/abi.NoEscape", "internal/bytealg.MakeNoZero"], apart := false, narrowed := true }
def PredictDecodesUptoSaid : Prop := predictDecodesUptoRow.holds Try.pinned (OpenSpec.upto predictDecodesSpec)

/-- 'binderylaw13.PredictBack', WHERE WHAT IT READS IS OF BULK AT MOST 1048576: true; the input reads as it did. -/
def predictBackUptoRow : OpenClaim := { program := "ytjkppdgakokelaa", sum := "b462c50253e495235890860d10fd79a404883d31bfd6e7925c29b1ff765cdf27", func := "bindery/binderylaw13.PredictBack", spec := "predictBack", inPlace := ["internal/abi.NoEscape", "internal/bytealg.MakeNoZero"], apart := false, narrowed := true }
def PredictBackUptoSaid : Prop := predictBackUptoRow.holds Try.pinned (OpenSpec.upto predictBackSpec)

end Rows
end Go.Proofs.Ytjkppdgakokelaa
