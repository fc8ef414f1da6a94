/-
  No cell of these rows narrows 'for every input' (looked for: loops, veiled, ifaces, maps, wideKeys, modest, calm, conditions, laid).
  DERIVED. THE GIVEN ROWS OF THIS SEAT. 4 by the template 'for every input the law returns true; each argument reads behind the call as it read before'; 0 by the template 'total and deterministic' (their statements: YtjbdejkmmncmcaaTotals.lean).
  GIVEN WITH THE SEED: the statements are not yours to turn. If you find one false, say at which input.
  Laid BY PROGRAM, IN A SANDBOX (cutbox-rows.mjs): the forced cells as the released guide's own fill.sh prints them over the translation dcf8af89b1f302c6… (all of the seat's roots in one cut). By AI agents, Wed Nov 11 2026. No macro, syntax, notation, axiom, sorry.
-/
import Derived.Test.YtjbdejkmmncmcaaChecked
import GoSem.Claim
import GoSem.ClaimJoined
import GoSem.ClaimMapViews
import Derived.JoinedTies
import Derived.KernelRfl
namespace Go.Proofs.Ytjbdejkmmncmcaa
/- THE CELL 'sum', in the pinned program and in every row, IS THE sha256 OF THE DUMP (.gsa) THAT YtjbdejkmmncmcaaProg.lean LOADS. Nothing in Lean hashes anything: it is a label: what it is worth is what the hold of that sum in a sandbox is worth. -/
noncomputable def Try.pinned : Pinned := { name := "ytjbdejkmmncmcaa", sum := "dcf8af89b1f302c6da75c66ecc283406f8a7d4350a2c51d79346d6e041d541a9", checked := Try.checked }
namespace Rows
def none {H : Type} : Left H := { results := [], args := [] }

/-- 'binderylaw06.HexaEncodes': WHATEVER THE INPUT: true; the input reads as it did. -/
def hexaEncodesSpec : ChangeSpec := { name := "hexaEncodes", fn := fun _ => fun
  | [d] => { results := [.lit (.bool true)], args := [d] }
  | _ => none }
def hexaEncodesRow : OpenClaim := { program := "ytjbdejkmmncmcaa", sum := "dcf8af89b1f302c6da75c66ecc283406f8a7d4350a2c51d79346d6e041d541a9", func := "bindery/binderylaw06.HexaEncodes", spec := "hexaEncodes", inPlace := ["internal/abi.NoEscape", "internal/bytealg.MakeNoZero"], unfollowed := true, recurses := true, apart := false }
def HexaEncodesSaid : Prop := hexaEncodesRow.holds Try.pinned (OpenSpec.ofChange hexaEncodesSpec)

/-- ITS FALSE NEIGHBOUR: 'it returns false'. Refute it at one input. -/
def hexaEncodesWrong : ChangeSpec := { name := "hexaEncodes", fn := fun _ => fun
  | [d] => { results := [.lit (.bool false)], args := [d] }
  | _ => none }
def HexaEncodesWrongFalsely : Prop := hexaEncodesRow.holds Try.pinned (OpenSpec.ofChange hexaEncodesWrong)

/-- 'binderylaw06.HexaDecodes': WHATEVER THE INPUT: true; the input reads as it did. -/
def hexaDecodesSpec : ChangeSpec := { name := "hexaDecodes", fn := fun _ => fun
  | [d] => { results := [.lit (.bool true)], args := [d] }
  | _ => none }
def hexaDecodesRow : OpenClaim := { program := "ytjbdejkmmncmcaa", sum := "dcf8af89b1f302c6da75c66ecc283406f8a7d4350a2c51d79346d6e041d541a9", func := "bindery/binderylaw06.HexaDecodes", spec := "hexaDecodes", inPlace := ["internal/abi.NoEscape", "internal/bytealg.MakeNoZero"], unfollowed := true, recurses := true, apart := false }
def HexaDecodesSaid : Prop := hexaDecodesRow.holds Try.pinned (OpenSpec.ofChange hexaDecodesSpec)

/-- ITS FALSE NEIGHBOUR: 'it returns false'. Refute it at one input. -/
def hexaDecodesWrong : ChangeSpec := { name := "hexaDecodes", fn := fun _ => fun
  | [d] => { results := [.lit (.bool false)], args := [d] }
  | _ => none }
def HexaDecodesWrongFalsely : Prop := hexaDecodesRow.holds Try.pinned (OpenSpec.ofChange hexaDecodesWrong)

/-- 'binderylaw06.HexaBack': WHATEVER THE INPUT: true; the input reads as it did. -/
def hexaBackSpec : ChangeSpec := { name := "hexaBack", fn := fun _ => fun
  | [d] => { results := [.lit (.bool true)], args := [d] }
  | _ => none }
def hexaBackRow : OpenClaim := { program := "ytjbdejkmmncmcaa", sum := "dcf8af89b1f302c6da75c66ecc283406f8a7d4350a2c51d79346d6e041d541a9", func := "bindery/binderylaw06.HexaBack", spec := "hexaBack", inPlace := ["internal/abi.NoEscape", "internal/bytealg.MakeNoZero"], unfollowed := true, recurses := true, apart := false }
def HexaBackSaid : Prop := hexaBackRow.holds Try.pinned (OpenSpec.ofChange hexaBackSpec)

/-- ITS FALSE NEIGHBOUR: 'it returns false'. Refute it at one input. -/
def hexaBackWrong : ChangeSpec := { name := "hexaBack", fn := fun _ => fun
  | [d] => { results := [.lit (.bool false)], args := [d] }
  | _ => none }
def HexaBackWrongFalsely : Prop := hexaBackRow.holds Try.pinned (OpenSpec.ofChange hexaBackWrong)

/-- 'binderylaw06.HexaWhite': WHATEVER THE INPUT: true; the input reads as it did. -/
def hexaWhiteSpec : ChangeSpec := { name := "hexaWhite", fn := fun _ => fun
  | [d1, d2, d3] => { results := [.lit (.bool true)], args := [d1, d2, d3] }
  | _ => none }
def hexaWhiteRow : OpenClaim := { program := "ytjbdejkmmncmcaa", sum := "dcf8af89b1f302c6da75c66ecc283406f8a7d4350a2c51d79346d6e041d541a9", func := "bindery/binderylaw06.HexaWhite", spec := "hexaWhite", inPlace := ["internal/abi.NoEscape", "internal/bytealg.MakeNoZero"], unfollowed := true, recurses := true, apart := false }
def HexaWhiteSaid : Prop := hexaWhiteRow.holds Try.pinned (OpenSpec.ofChange hexaWhiteSpec)

/-- ITS FALSE NEIGHBOUR: 'it returns false'. Refute it at one input. -/
def hexaWhiteWrong : ChangeSpec := { name := "hexaWhite", fn := fun _ => fun
  | [d1, d2, d3] => { results := [.lit (.bool false)], args := [d1, d2, d3] }
  | _ => none }
def HexaWhiteWrongFalsely : Prop := hexaWhiteRow.holds Try.pinned (OpenSpec.ofChange hexaWhiteWrong)

/- THE SECOND FORM. 'bulk': how many values and letters a reading holds, each counted each time it is reached (what is shared counts as often as it is met; a slice's spare places count too). A statement '..UptoSaid' is the law's where the arguments, and the package variables that the reading takes, are together of bulk at most 1048576: NARROWER than '..Said'. Prove '..Said' where nothing that the law and all that it calls make is longer than what came in: it says more and counts as full. Else prove '..UptoSaid'. A law counts once. -/
mutual
def uptoBulk {H : Type} : DataW H → Nat
  | .lit (.string bytes) => bytes.length + 1
  | .lit _ => 1
  | .nil => 1
  | .ptr d => uptoBulk d + 1
  | .slice elems spare => uptoBulkAll elems + uptoBulkAll spare + 1
  | .agg parts => uptoBulkAll parts + 1
  | .iface _ d => uptoBulk d + 1
  | .map entries => uptoBulkEntries entries + 1
  | .held _ => 1
def uptoBulkAll {H : Type} : List (DataW H) → Nat
  | [] => 0
  | d :: r => uptoBulk d + uptoBulkAll r
def uptoBulkEntries {H : Type} : List (Lit × DataW H) → Nat
  | [] => 0
  | x :: r => uptoBulkEntry x + uptoBulkEntries r
def uptoBulkEntry {H : Type} : Lit × DataW H → Nat
  | (.string bytes, d) => bytes.length + uptoBulk d + 1
  | (_, d) => uptoBulk d + 1
 end
def uptoSmall : (H : Type) → List (DataW H) → Bool := fun _ ds => decide (uptoBulkAll ds ≤ 1048576)
def OpenSpec.upto (s : _root_.Go.ChangeSpec) : _root_.Go.OpenSpec := { _root_.Go.OpenSpec.ofChange s with cond := some uptoSmall }

/-- 'binderylaw06.HexaEncodes', WHERE WHAT IT READS IS OF BULK AT MOST 1048576: true; the input reads as it did. -/
def hexaEncodesUptoRow : OpenClaim := { program := "ytjbdejkmmncmcaa", sum := "dcf8af89b1f302c6da75c66ecc283406f8a7d4350a2c51d79346d6e041d541a9", func := "bindery/binderylaw06.HexaEncodes", spec := "hexaEncodes", inPlace := ["internal/abi.NoEscape", "internal/bytealg.MakeNoZero"], unfollowed := true, recurses := true, apart := false, narrowed := true }
def HexaEncodesUptoSaid : Prop := hexaEncodesUptoRow.holds Try.pinned (OpenSpec.upto hexaEncodesSpec)

/-- 'binderylaw06.HexaDecodes', WHERE WHAT IT READS IS OF BULK AT MOST 1048576: true; the input reads as it did. -/
def hexaDecodesUptoRow : OpenClaim := { program := "ytjbdejkmmncmcaa", sum := "dcf8af89b1f302c6da75c66ecc283406f8a7d4350a2c51d79346d6e041d541a9", func := "bindery/binderylaw06.HexaDecodes", spec := "hexaDecodes", inPlace := ["internal/abi.NoEscape", "internal/bytealg.MakeNoZero"], unfollowed := true, recurses := true, apart := false, narrowed := true }
def HexaDecodesUptoSaid : Prop := hexaDecodesUptoRow.holds Try.pinned (OpenSpec.upto hexaDecodesSpec)

/-- 'binderylaw06.HexaBack', WHERE WHAT IT READS IS OF BULK AT MOST 1048576: true; the input reads as it did. -/
def hexaBackUptoRow : OpenClaim := { program := "ytjbdejkmmncmcaa", sum := "dcf8af89b1f302c6da75c66ecc283406f8a7d4350a2c51d79346d6e041d541a9", func := "bindery/binderylaw06.HexaBack", spec := "hexaBack", inPlace := ["internal/abi.NoEscape", "internal/bytealg.MakeNoZero"], unfollowed := true, recurses := true, apart := false, narrowed := true }
def HexaBackUptoSaid : Prop := hexaBackUptoRow.holds Try.pinned (OpenSpec.upto hexaBackSpec)

/-- 'binderylaw06.HexaWhite', WHERE WHAT IT READS IS OF BULK AT MOST 1048576: true; the input reads as it did. -/
def hexaWhiteUptoRow : OpenClaim := { program := "ytjbdejkmmncmcaa", sum := "dcf8af89b1f302c6da75c66ecc283406f8a7d4350a2c51d79346d6e041d541a9", func := "bindery/binderylaw06.HexaWhite", spec := "hexaWhite", inPlace := ["internal/abi.NoEscape", "internal/bytealg.MakeNoZero"], unfollowed := true, recurses := true, apart := false, narrowed := true }
def HexaWhiteUptoSaid : Prop := hexaWhiteUptoRow.holds Try.pinned (OpenSpec.upto hexaWhiteSpec)

end Rows
end Go.Proofs.Ytjbdejkmmncmcaa
