/-
  No cell of these rows narrows 'for every input' (looked for: loops, veiled, ifaces, maps, wideKeys, modest, calm, conditions, laid).
  DERIVED. THE GIVEN ROWS OF THIS SEAT. 4 by the template 'for every input the law returns true; each argument reads behind the call as it read before'; 0 by the template 'total and deterministic' (their statements: YtplffjnphlfheaaTotals.lean).
  GIVEN WITH THE SEED: the statements are not yours to turn. If you find one false, say at which input.
  Laid BY PROGRAM, IN A SANDBOX (cutbox-rows.mjs): the forced cells as the released guide's own fill.sh prints them over the translation c93b8fa04896652c… (all of the seat's roots in one cut). By AI agents, Wed Nov 11 2026. No macro, syntax, notation, axiom, sorry.
-/
import Derived.Test.YtplffjnphlfheaaChecked
import GoSem.Claim
import GoSem.ClaimJoined
import GoSem.ClaimMapViews
import Derived.JoinedTies
import Derived.KernelRfl
namespace Go.Proofs.Ytplffjnphlfheaa
/- THE CELL 'sum', in the pinned program and in every row, IS THE sha256 OF THE DUMP (.gsa) THAT YtplffjnphlfheaaProg.lean LOADS. Nothing in Lean hashes anything: it is a label: what it is worth is what the hold of that sum in a sandbox is worth. -/
noncomputable def Try.pinned : Pinned := { name := "ytplffjnphlfheaa", sum := "c93b8fa04896652c56476f60378481af86469f936555d6775345d350c07039bc", checked := Try.checked }
namespace Rows
def none {H : Type} : Left H := { results := [], args := [] }

/-- 'binderylaw01.OctetKinds': WHATEVER THE INPUT: true; the input reads as it did. -/
def octetKindsSpec : ChangeSpec := { name := "octetKinds", fn := fun _ => fun
  | [d1, d2] => { results := [.lit (.bool true)], args := [d1, d2] }
  | _ => none }
def octetKindsRow : OpenClaim := { program := "ytplffjnphlfheaa", sum := "c93b8fa04896652c56476f60378481af86469f936555d6775345d350c07039bc", func := "bindery/binderylaw01.OctetKinds", spec := "octetKinds", unfollowed := true, recurses := true, apart := false }
def OctetKindsSaid : Prop := octetKindsRow.holds Try.pinned (OpenSpec.ofChange octetKindsSpec)

/-- ITS FALSE NEIGHBOUR: 'it returns false'. Refute it at one input. -/
def octetKindsWrong : ChangeSpec := { name := "octetKinds", fn := fun _ => fun
  | [d1, d2] => { results := [.lit (.bool false)], args := [d1, d2] }
  | _ => none }
def OctetKindsWrongFalsely : Prop := octetKindsRow.holds Try.pinned (OpenSpec.ofChange octetKindsWrong)

/-- 'binderylaw01.OctetSpans': WHATEVER THE INPUT: true; the input reads as it did. -/
def octetSpansSpec : ChangeSpec := { name := "octetSpans", fn := fun _ => fun
  | [d1, d2, d3] => { results := [.lit (.bool true)], args := [d1, d2, d3] }
  | _ => none }
def octetSpansRow : OpenClaim := { program := "ytplffjnphlfheaa", sum := "c93b8fa04896652c56476f60378481af86469f936555d6775345d350c07039bc", func := "bindery/binderylaw01.OctetSpans", spec := "octetSpans", unfollowed := true, recurses := true, apart := false }
def OctetSpansSaid : Prop := octetSpansRow.holds Try.pinned (OpenSpec.ofChange octetSpansSpec)

/-- ITS FALSE NEIGHBOUR: 'it returns false'. Refute it at one input. -/
def octetSpansWrong : ChangeSpec := { name := "octetSpans", fn := fun _ => fun
  | [d1, d2, d3] => { results := [.lit (.bool false)], args := [d1, d2, d3] }
  | _ => none }
def OctetSpansWrongFalsely : Prop := octetSpansRow.holds Try.pinned (OpenSpec.ofChange octetSpansWrong)

/-- 'binderylaw01.OctetLines': WHATEVER THE INPUT: true; the input reads as it did. -/
def octetLinesSpec : ChangeSpec := { name := "octetLines", fn := fun _ => fun
  | [d1, d2, d3] => { results := [.lit (.bool true)], args := [d1, d2, d3] }
  | _ => none }
def octetLinesRow : OpenClaim := { program := "ytplffjnphlfheaa", sum := "c93b8fa04896652c56476f60378481af86469f936555d6775345d350c07039bc", func := "bindery/binderylaw01.OctetLines", spec := "octetLines", unfollowed := true, recurses := true, apart := false }
def OctetLinesSaid : Prop := octetLinesRow.holds Try.pinned (OpenSpec.ofChange octetLinesSpec)

/-- ITS FALSE NEIGHBOUR: 'it returns false'. Refute it at one input. -/
def octetLinesWrong : ChangeSpec := { name := "octetLines", fn := fun _ => fun
  | [d1, d2, d3] => { results := [.lit (.bool false)], args := [d1, d2, d3] }
  | _ => none }
def OctetLinesWrongFalsely : Prop := octetLinesRow.holds Try.pinned (OpenSpec.ofChange octetLinesWrong)

/-- 'binderylaw01.OctetParts': WHATEVER THE INPUT: true; the input reads as it did. -/
def octetPartsSpec : ChangeSpec := { name := "octetParts", fn := fun _ => fun
  | [d] => { results := [.lit (.bool true)], args := [d] }
  | _ => none }
def octetPartsRow : OpenClaim := { program := "ytplffjnphlfheaa", sum := "c93b8fa04896652c56476f60378481af86469f936555d6775345d350c07039bc", func := "bindery/binderylaw01.OctetParts", spec := "octetParts", unfollowed := true, recurses := true, apart := false }
def OctetPartsSaid : Prop := octetPartsRow.holds Try.pinned (OpenSpec.ofChange octetPartsSpec)

/-- ITS FALSE NEIGHBOUR: 'it returns false'. Refute it at one input. -/
def octetPartsWrong : ChangeSpec := { name := "octetParts", fn := fun _ => fun
  | [d] => { results := [.lit (.bool false)], args := [d] }
  | _ => none }
def OctetPartsWrongFalsely : Prop := octetPartsRow.holds Try.pinned (OpenSpec.ofChange octetPartsWrong)

/- THE SECOND FORM. 'bulk': how many values and letters a reading holds, each counted each time it is reached (what is shared counts as often as it is met; a slice's spare places count too). A statement '..UptoSaid' is the law's where the arguments, and the package variables that the reading takes, are together of bulk at most 1048576: NARROWER than '..Said'. Prove '..Said' where nothing that the law and all that it calls make is longer than what came in: it says more and counts as full. Else prove '..UptoSaid'. A law counts once. -/
mutual
def uptoBulk {H : Type} : DataW H → Nat
  | .lit (.string bytes) => bytes.length + 1
  | .lit _ => 1
  | .nil => 1
  | .ptr d => uptoBulk d + 1
  | .slice elems spare => uptoBulkAll elems + uptoBulkAll spare + 1
  | .agg parts => uptoBulkAll parts + 1
  | .iface _ d => uptoBulk d + 1
  | .map entries => uptoBulkEntries entries + 1
  | .held _ => 1
def uptoBulkAll {H : Type} : List (DataW H) → Nat
  | [] => 0
  | d :: r => uptoBulk d + uptoBulkAll r
def uptoBulkEntries {H : Type} : List (Lit × DataW H) → Nat
  | [] => 0
  | x :: r => uptoBulkEntry x + uptoBulkEntries r
def uptoBulkEntry {H : Type} : Lit × DataW H → Nat
  | (.string bytes, d) => bytes.length + uptoBulk d + 1
  | (_, d) => uptoBulk d + 1
 end
def uptoSmall : (H : Type) → List (DataW H) → Bool := fun _ ds => decide (uptoBulkAll ds ≤ 1048576)
def OpenSpec.upto (s : _root_.Go.ChangeSpec) : _root_.Go.OpenSpec := { _root_.Go.OpenSpec.ofChange s with cond := some uptoSmall }

/-- 'binderylaw01.OctetKinds', WHERE WHAT IT READS IS OF BULK AT MOST 1048576: true; the input reads as it did. -/
def octetKindsUptoRow : OpenClaim := { program := "ytplffjnphlfheaa", sum := "c93b8fa04896652c56476f60378481af86469f936555d6775345d350c07039bc", func := "bindery/binderylaw01.OctetKinds", spec := "octetKinds", unfollowed := true, recurses := true, apart := false, narrowed := true }
def OctetKindsUptoSaid : Prop := octetKindsUptoRow.holds Try.pinned (OpenSpec.upto octetKindsSpec)

/-- 'binderylaw01.OctetSpans', WHERE WHAT IT READS IS OF BULK AT MOST 1048576: true; the input reads as it did. -/
def octetSpansUptoRow : OpenClaim := { program := "ytplffjnphlfheaa", sum := "c93b8fa04896652c56476f60378481af86469f936555d6775345d350c07039bc", func := "bindery/binderylaw01.OctetSpans", spec := "octetSpans", unfollowed := true, recurses := true, apart := false, narrowed := true }
def OctetSpansUptoSaid : Prop := octetSpansUptoRow.holds Try.pinned (OpenSpec.upto octetSpansSpec)

/-- 'binderylaw01.OctetLines', WHERE WHAT IT READS IS OF BULK AT MOST 1048576: true; the input reads as it did. -/
def octetLinesUptoRow : OpenClaim := { program := "ytplffjnphlfheaa", sum := "c93b8fa04896652c56476f60378481af86469f936555d6775345d350c07039bc", func := "bindery/binderylaw01.OctetLines", spec := "octetLines", unfollowed := true, recurses := true, apart := false, narrowed := true }
def OctetLinesUptoSaid : Prop := octetLinesUptoRow.holds Try.pinned (OpenSpec.upto octetLinesSpec)

/-- 'binderylaw01.OctetParts', WHERE WHAT IT READS IS OF BULK AT MOST 1048576: true; the input reads as it did. -/
def octetPartsUptoRow : OpenClaim := { program := "ytplffjnphlfheaa", sum := "c93b8fa04896652c56476f60378481af86469f936555d6775345d350c07039bc", func := "bindery/binderylaw01.OctetParts", spec := "octetParts", unfollowed := true, recurses := true, apart := false, narrowed := true }
def OctetPartsUptoSaid : Prop := octetPartsUptoRow.holds Try.pinned (OpenSpec.upto octetPartsSpec)

end Rows
end Go.Proofs.Ytplffjnphlfheaa
