/-
  No cell of these rows narrows 'for every input' (looked for: loops, veiled, ifaces, maps, wideKeys, modest, calm, conditions, laid).
  DERIVED. THE GIVEN ROWS OF THIS SEAT. 5 by the template 'for every input the law returns true; each argument reads behind the call as it read before'; 0 by the template 'total and deterministic' (their statements: YtahanllbaclokaaTotals.lean).
  GIVEN WITH THE SEED: the statements are not yours to turn. If you find one false, say at which input.
  Laid BY PROGRAM, IN A SANDBOX (cutbox-rows.mjs): the forced cells as the released guide's own fill.sh prints them over the translation a80ce817097bbbbe… (all of the seat's roots in one cut). By AI agents, Wed Nov 11 2026. No macro, syntax, notation, axiom, sorry.
-/
import Derived.Test.YtahanllbaclokaaChecked
import GoSem.Claim
import GoSem.ClaimJoined
import GoSem.ClaimMapViews
import Derived.JoinedTies
import Derived.KernelRfl
namespace Go.Proofs.Ytahanllbaclokaa
/- THE CELL 'sum', in the pinned program and in every row, IS THE sha256 OF THE DUMP (.gsa) THAT YtahanllbaclokaaProg.lean LOADS. Nothing in Lean hashes anything: it is a label: what it is worth is what the hold of that sum in a sandbox is worth. -/
noncomputable def Try.pinned : Pinned := { name := "ytahanllbaclokaa", sum := "a80ce817097bbbbedff50f1129cd5b8e08a826ffffca70ea94dfaadb88b685be", checked := Try.checked }
namespace Rows
def none {H : Type} : Left H := { results := [], args := [] }

/-- 'binderylaw09.CodesTells': WHATEVER THE INPUT: true; the input reads as it did. -/
def codesTellsSpec : ChangeSpec := { name := "codesTells", fn := fun _ => fun
  | [d] => { results := [.lit (.bool true)], args := [d] }
  | _ => none }
def codesTellsRow : OpenClaim := { program := "ytahanllbaclokaa", sum := "a80ce817097bbbbedff50f1129cd5b8e08a826ffffca70ea94dfaadb88b685be", func := "bindery/binderylaw09.CodesTells", spec := "codesTells", apart := false }
def CodesTellsSaid : Prop := codesTellsRow.holds Try.pinned (OpenSpec.ofChange codesTellsSpec)

/-- ITS FALSE NEIGHBOUR: 'it returns false'. Refute it at one input. -/
def codesTellsWrong : ChangeSpec := { name := "codesTells", fn := fun _ => fun
  | [d] => { results := [.lit (.bool false)], args := [d] }
  | _ => none }
def CodesTellsWrongFalsely : Prop := codesTellsRow.holds Try.pinned (OpenSpec.ofChange codesTellsWrong)

/-- 'binderylaw09.CodesReads': WHATEVER THE INPUT: true; the input reads as it did. -/
def codesReadsSpec : ChangeSpec := { name := "codesReads", fn := fun _ => fun
  | [d1, d2] => { results := [.lit (.bool true)], args := [d1, d2] }
  | _ => none }
def codesReadsRow : OpenClaim := { program := "ytahanllbaclokaa", sum := "a80ce817097bbbbedff50f1129cd5b8e08a826ffffca70ea94dfaadb88b685be", func := "bindery/binderylaw09.CodesReads", spec := "codesReads", apart := false }
def CodesReadsSaid : Prop := codesReadsRow.holds Try.pinned (OpenSpec.ofChange codesReadsSpec)

/-- ITS FALSE NEIGHBOUR: 'it returns false'. Refute it at one input. -/
def codesReadsWrong : ChangeSpec := { name := "codesReads", fn := fun _ => fun
  | [d1, d2] => { results := [.lit (.bool false)], args := [d1, d2] }
  | _ => none }
def CodesReadsWrongFalsely : Prop := codesReadsRow.holds Try.pinned (OpenSpec.ofChange codesReadsWrong)

/-- 'binderylaw09.CodesWrites': WHATEVER THE INPUT: true; the input reads as it did. -/
def codesWritesSpec : ChangeSpec := { name := "codesWrites", fn := fun _ => fun
  | [d1, d2] => { results := [.lit (.bool true)], args := [d1, d2] }
  | _ => none }
def codesWritesRow : OpenClaim := { program := "ytahanllbaclokaa", sum := "a80ce817097bbbbedff50f1129cd5b8e08a826ffffca70ea94dfaadb88b685be", func := "bindery/binderylaw09.CodesWrites", spec := "codesWrites", apart := false }
def CodesWritesSaid : Prop := codesWritesRow.holds Try.pinned (OpenSpec.ofChange codesWritesSpec)

/-- ITS FALSE NEIGHBOUR: 'it returns false'. Refute it at one input. -/
def codesWritesWrong : ChangeSpec := { name := "codesWrites", fn := fun _ => fun
  | [d1, d2] => { results := [.lit (.bool false)], args := [d1, d2] }
  | _ => none }
def CodesWritesWrongFalsely : Prop := codesWritesRow.holds Try.pinned (OpenSpec.ofChange codesWritesWrong)

/-- 'binderylaw09.CodesBack': WHATEVER THE INPUT: true; the input reads as it did. -/
def codesBackSpec : ChangeSpec := { name := "codesBack", fn := fun _ => fun
  | [d1, d2] => { results := [.lit (.bool true)], args := [d1, d2] }
  | _ => none }
def codesBackRow : OpenClaim := { program := "ytahanllbaclokaa", sum := "a80ce817097bbbbedff50f1129cd5b8e08a826ffffca70ea94dfaadb88b685be", func := "bindery/binderylaw09.CodesBack", spec := "codesBack", apart := false }
def CodesBackSaid : Prop := codesBackRow.holds Try.pinned (OpenSpec.ofChange codesBackSpec)

/-- ITS FALSE NEIGHBOUR: 'it returns false'. Refute it at one input. -/
def codesBackWrong : ChangeSpec := { name := "codesBack", fn := fun _ => fun
  | [d1, d2] => { results := [.lit (.bool false)], args := [d1, d2] }
  | _ => none }
def CodesBackWrongFalsely : Prop := codesBackRow.holds Try.pinned (OpenSpec.ofChange codesBackWrong)

/-- 'binderylaw09.CodesPrefix': WHATEVER THE INPUT: true; the input reads as it did. -/
def codesPrefixSpec : ChangeSpec := { name := "codesPrefix", fn := fun _ => fun
  | [d] => { results := [.lit (.bool true)], args := [d] }
  | _ => none }
def codesPrefixRow : OpenClaim := { program := "ytahanllbaclokaa", sum := "a80ce817097bbbbedff50f1129cd5b8e08a826ffffca70ea94dfaadb88b685be", func := "bindery/binderylaw09.CodesPrefix", spec := "codesPrefix", apart := false }
def CodesPrefixSaid : Prop := codesPrefixRow.holds Try.pinned (OpenSpec.ofChange codesPrefixSpec)

/-- ITS FALSE NEIGHBOUR: 'it returns false'. Refute it at one input. -/
def codesPrefixWrong : ChangeSpec := { name := "codesPrefix", fn := fun _ => fun
  | [d] => { results := [.lit (.bool false)], args := [d] }
  | _ => none }
def CodesPrefixWrongFalsely : Prop := codesPrefixRow.holds Try.pinned (OpenSpec.ofChange codesPrefixWrong)

/- THE SECOND FORM. 'bulk': how many values and letters a reading holds, each counted each time it is reached (what is shared counts as often as it is met; a slice's spare places count too). A statement '..UptoSaid' is the law's where the arguments, and the package variables that the reading takes, are together of bulk at most 1048576: NARROWER than '..Said'. Prove '..Said' where nothing that the law and all that it calls make is longer than what came in: it says more and counts as full. Else prove '..UptoSaid'. A law counts once. -/
mutual
def uptoBulk {H : Type} : DataW H → Nat
  | .lit (.string bytes) => bytes.length + 1
  | .lit _ => 1
  | .nil => 1
  | .ptr d => uptoBulk d + 1
  | .slice elems spare => uptoBulkAll elems + uptoBulkAll spare + 1
  | .agg parts => uptoBulkAll parts + 1
  | .iface _ d => uptoBulk d + 1
  | .map entries => uptoBulkEntries entries + 1
  | .held _ => 1
def uptoBulkAll {H : Type} : List (DataW H) → Nat
  | [] => 0
  | d :: r => uptoBulk d + uptoBulkAll r
def uptoBulkEntries {H : Type} : List (Lit × DataW H) → Nat
  | [] => 0
  | x :: r => uptoBulkEntry x + uptoBulkEntries r
def uptoBulkEntry {H : Type} : Lit × DataW H → Nat
  | (.string bytes, d) => bytes.length + uptoBulk d + 1
  | (_, d) => uptoBulk d + 1
 end
def uptoSmall : (H : Type) → List (DataW H) → Bool := fun _ ds => decide (uptoBulkAll ds ≤ 1048576)
def OpenSpec.upto (s : _root_.Go.ChangeSpec) : _root_.Go.OpenSpec := { _root_.Go.OpenSpec.ofChange s with cond := some uptoSmall }

/-- 'binderylaw09.CodesTells', WHERE WHAT IT READS IS OF BULK AT MOST 1048576: true; the input reads as it did. -/
def codesTellsUptoRow : OpenClaim := { program := "ytahanllbaclokaa", sum := "a80ce817097bbbbedff50f1129cd5b8e08a826ffffca70ea94dfaadb88b685be", func := "bindery/binderylaw09.CodesTells", spec := "codesTells", apart := false, narrowed := true }
def CodesTellsUptoSaid : Prop := codesTellsUptoRow.holds Try.pinned (OpenSpec.upto codesTellsSpec)

/-- 'binderylaw09.CodesReads', WHERE WHAT IT READS IS OF BULK AT MOST 1048576: true; the input reads as it did. -/
def codesReadsUptoRow : OpenClaim := { program := "ytahanllbaclokaa", sum := "a80ce817097bbbbedff50f1129cd5b8e08a826ffffca70ea94dfaadb88b685be", func := "bindery/binderylaw09.CodesReads", spec := "codesReads", apart := false, narrowed := true }
def CodesReadsUptoSaid : Prop := codesReadsUptoRow.holds Try.pinned (OpenSpec.upto codesReadsSpec)

/-- 'binderylaw09.CodesWrites', WHERE WHAT IT READS IS OF BULK AT MOST 1048576: true; the input reads as it did. -/
def codesWritesUptoRow : OpenClaim := { program := "ytahanllbaclokaa", sum := "a80ce817097bbbbedff50f1129cd5b8e08a826ffffca70ea94dfaadb88b685be", func := "bindery/binderylaw09.CodesWrites", spec := "codesWrites", apart := false, narrowed := true }
def CodesWritesUptoSaid : Prop := codesWritesUptoRow.holds Try.pinned (OpenSpec.upto codesWritesSpec)

/-- 'binderylaw09.CodesBack', WHERE WHAT IT READS IS OF BULK AT MOST 1048576: true; the input reads as it did. -/
def codesBackUptoRow : OpenClaim := { program := "ytahanllbaclokaa", sum := "a80ce817097bbbbedff50f1129cd5b8e08a826ffffca70ea94dfaadb88b685be", func := "bindery/binderylaw09.CodesBack", spec := "codesBack", apart := false, narrowed := true }
def CodesBackUptoSaid : Prop := codesBackUptoRow.holds Try.pinned (OpenSpec.upto codesBackSpec)

/-- 'binderylaw09.CodesPrefix', WHERE WHAT IT READS IS OF BULK AT MOST 1048576: true; the input reads as it did. -/
def codesPrefixUptoRow : OpenClaim := { program := "ytahanllbaclokaa", sum := "a80ce817097bbbbedff50f1129cd5b8e08a826ffffca70ea94dfaadb88b685be", func := "bindery/binderylaw09.CodesPrefix", spec := "codesPrefix", apart := false, narrowed := true }
def CodesPrefixUptoSaid : Prop := codesPrefixUptoRow.holds Try.pinned (OpenSpec.upto codesPrefixSpec)

end Rows
end Go.Proofs.Ytahanllbaclokaa
