/-
  NARROWER THAN 'FOR EVERY INPUT', by the rows' own cells (each row's printed sentence says how): ValueChecks: loops · ValuePlains: loops · ValueGets: loops · ValueLinks: loops · ValueTwice: loops.
  DERIVED. THE GIVEN ROWS OF THIS SEAT. 5 by the template 'for every input the law returns true; each argument reads behind the call as it read before'; 0 by the template 'total and deterministic' (their statements: YtlmgjhidmipadaaTotals.lean).
  GIVEN WITH THE SEED: the statements are not yours to turn. If you find one false, say at which input.
  Laid BY PROGRAM, IN A SANDBOX (cutbox-rows.mjs): the forced cells as the released guide's own fill.sh prints them over the translation ed6f4c01a29d1dd8… (all of the seat's roots in one cut). By AI agents, Wed Nov 11 2026. No macro, syntax, notation, axiom, sorry.
-/
import Derived.Test.YtlmgjhidmipadaaChecked
import GoSem.Claim
import GoSem.ClaimJoined
import GoSem.ClaimMapViews
import Derived.JoinedTies
import Derived.KernelRfl
namespace Go.Proofs.Ytlmgjhidmipadaa
/- THE CELL 'sum', in the pinned program and in every row, IS THE sha256 OF THE DUMP (.gsa) THAT YtlmgjhidmipadaaProg.lean LOADS. Nothing in Lean hashes anything: it is a label: what it is worth is what the hold of that sum in a sandbox is worth. -/
noncomputable def Try.pinned : Pinned := { name := "ytlmgjhidmipadaa", sum := "ed6f4c01a29d1dd85ff6eedc6909b423e4a8c980f79b15d82ba62b620f021559", checked := Try.checked }
namespace Rows
def none {H : Type} : Left H := { results := [], args := [] }

/-- 'binderylaw16.ValueChecks': WHATEVER THE INPUT: true; the input reads as it did. -/
def valueChecksSpec : ChangeSpec := { name := "valueChecks", fn := fun _ => fun
  | [d1, d2] => { results := [.lit (.bool true)], args := [d1, d2] }
  | _ => none }
def valueChecksRow : OpenClaim := { program := "ytlmgjhidmipadaa", sum := "ed6f4c01a29d1dd85ff6eedc6909b423e4a8c980f79b15d82ba62b620f021559", func := "bindery/binderylaw16.ValueChecks", spec := "valueChecks", inPlace := ["internal/bytealg.abigen_runtime_cmpstring", "internal/bytealg.IndexByteString"], unfollowed := true, recurses := true, loops := true, apart := false }
def ValueChecksSaid : Prop := valueChecksRow.holds Try.pinned (OpenSpec.ofChange valueChecksSpec)

/-- ITS FALSE NEIGHBOUR: 'it returns false'. Refute it at one input. -/
def valueChecksWrong : ChangeSpec := { name := "valueChecks", fn := fun _ => fun
  | [d1, d2] => { results := [.lit (.bool false)], args := [d1, d2] }
  | _ => none }
def ValueChecksWrongFalsely : Prop := valueChecksRow.holds Try.pinned (OpenSpec.ofChange valueChecksWrong)

/-- 'binderylaw16.ValuePlains': WHATEVER THE INPUT: true; the input reads as it did. -/
def valuePlainsSpec : ChangeSpec := { name := "valuePlains", fn := fun _ => fun
  | [d1, d2] => { results := [.lit (.bool true)], args := [d1, d2] }
  | _ => none }
def valuePlainsRow : OpenClaim := { program := "ytlmgjhidmipadaa", sum := "ed6f4c01a29d1dd85ff6eedc6909b423e4a8c980f79b15d82ba62b620f021559", func := "bindery/binderylaw16.ValuePlains", spec := "valuePlains", inPlace := ["internal/bytealg.abigen_runtime_cmpstring", "internal/bytealg.IndexByteString"], unfollowed := true, recurses := true, loops := true, apart := false }
def ValuePlainsSaid : Prop := valuePlainsRow.holds Try.pinned (OpenSpec.ofChange valuePlainsSpec)

/-- ITS FALSE NEIGHBOUR: 'it returns false'. Refute it at one input. -/
def valuePlainsWrong : ChangeSpec := { name := "valuePlains", fn := fun _ => fun
  | [d1, d2] => { results := [.lit (.bool false)], args := [d1, d2] }
  | _ => none }
def ValuePlainsWrongFalsely : Prop := valuePlainsRow.holds Try.pinned (OpenSpec.ofChange valuePlainsWrong)

/-- 'binderylaw16.ValueGets': WHATEVER THE INPUT: true; the input reads as it did. -/
def valueGetsSpec : ChangeSpec := { name := "valueGets", fn := fun _ => fun
  | [d1, d2, d3] => { results := [.lit (.bool true)], args := [d1, d2, d3] }
  | _ => none }
def valueGetsRow : OpenClaim := { program := "ytlmgjhidmipadaa", sum := "ed6f4c01a29d1dd85ff6eedc6909b423e4a8c980f79b15d82ba62b620f021559", func := "bindery/binderylaw16.ValueGets", spec := "valueGets", inPlace := ["internal/bytealg.abigen_runtime_cmpstring", "internal/bytealg.IndexByteString"], unfollowed := true, recurses := true, loops := true, apart := false }
def ValueGetsSaid : Prop := valueGetsRow.holds Try.pinned (OpenSpec.ofChange valueGetsSpec)

/-- ITS FALSE NEIGHBOUR: 'it returns false'. Refute it at one input. -/
def valueGetsWrong : ChangeSpec := { name := "valueGets", fn := fun _ => fun
  | [d1, d2, d3] => { results := [.lit (.bool false)], args := [d1, d2, d3] }
  | _ => none }
def ValueGetsWrongFalsely : Prop := valueGetsRow.holds Try.pinned (OpenSpec.ofChange valueGetsWrong)

/-- 'binderylaw16.ValueLinks': WHATEVER THE INPUT: true; the input reads as it did. -/
def valueLinksSpec : ChangeSpec := { name := "valueLinks", fn := fun _ => fun
  | [d1, d2] => { results := [.lit (.bool true)], args := [d1, d2] }
  | _ => none }
def valueLinksRow : OpenClaim := { program := "ytlmgjhidmipadaa", sum := "ed6f4c01a29d1dd85ff6eedc6909b423e4a8c980f79b15d82ba62b620f021559", func := "bindery/binderylaw16.ValueLinks", spec := "valueLinks", inPlace := ["internal/bytealg.abigen_runtime_cmpstring", "internal/bytealg.IndexByteString"], unfollowed := true, recurses := true, loops := true, apart := false }
def ValueLinksSaid : Prop := valueLinksRow.holds Try.pinned (OpenSpec.ofChange valueLinksSpec)

/-- ITS FALSE NEIGHBOUR: 'it returns false'. Refute it at one input. -/
def valueLinksWrong : ChangeSpec := { name := "valueLinks", fn := fun _ => fun
  | [d1, d2] => { results := [.lit (.bool false)], args := [d1, d2] }
  | _ => none }
def ValueLinksWrongFalsely : Prop := valueLinksRow.holds Try.pinned (OpenSpec.ofChange valueLinksWrong)

/-- 'binderylaw16.ValueTwice': WHATEVER THE INPUT: true; the input reads as it did. -/
def valueTwiceSpec : ChangeSpec := { name := "valueTwice", fn := fun _ => fun
  | [d1, d2, d3, d4] => { results := [.lit (.bool true)], args := [d1, d2, d3, d4] }
  | _ => none }
def valueTwiceRow : OpenClaim := { program := "ytlmgjhidmipadaa", sum := "ed6f4c01a29d1dd85ff6eedc6909b423e4a8c980f79b15d82ba62b620f021559", func := "bindery/binderylaw16.ValueTwice", spec := "valueTwice", inPlace := ["internal/bytealg.abigen_runtime_cmpstring", "internal/bytealg.IndexByteString"], unfollowed := true, recurses := true, loops := true, apart := false }
def ValueTwiceSaid : Prop := valueTwiceRow.holds Try.pinned (OpenSpec.ofChange valueTwiceSpec)

/-- ITS FALSE NEIGHBOUR: 'it returns false'. Refute it at one input. -/
def valueTwiceWrong : ChangeSpec := { name := "valueTwice", fn := fun _ => fun
  | [d1, d2, d3, d4] => { results := [.lit (.bool false)], args := [d1, d2, d3, d4] }
  | _ => none }
def ValueTwiceWrongFalsely : Prop := valueTwiceRow.holds Try.pinned (OpenSpec.ofChange valueTwiceWrong)

/- THE SECOND FORM. 'bulk': how many values and letters a reading holds, each counted each time it is reached (what is shared counts as often as it is met; a slice's spare places count too). A statement '..UptoSaid' is the law's where the arguments, and the package variables that the reading takes, are together of bulk at most 1048576: NARROWER than '..Said'. Prove '..Said' where nothing that the law and all that it calls make is longer than what came in: it says more and counts as full. Else prove '..UptoSaid'. A law counts once. -/
mutual
def uptoBulk {H : Type} : DataW H → Nat
  | .lit (.string bytes) => bytes.length + 1
  | .lit _ => 1
  | .nil => 1
  | .ptr d => uptoBulk d + 1
  | .slice elems spare => uptoBulkAll elems + uptoBulkAll spare + 1
  | .agg parts => uptoBulkAll parts + 1
  | .iface _ d => uptoBulk d + 1
  | .map entries => uptoBulkEntries entries + 1
  | .held _ => 1
def uptoBulkAll {H : Type} : List (DataW H) → Nat
  | [] => 0
  | d :: r => uptoBulk d + uptoBulkAll r
def uptoBulkEntries {H : Type} : List (Lit × DataW H) → Nat
  | [] => 0
  | x :: r => uptoBulkEntry x + uptoBulkEntries r
def uptoBulkEntry {H : Type} : Lit × DataW H → Nat
  | (.string bytes, d) => bytes.length + uptoBulk d + 1
  | (_, d) => uptoBulk d + 1
 end
def uptoSmall : (H : Type) → List (DataW H) → Bool := fun _ ds => decide (uptoBulkAll ds ≤ 1048576)
def OpenSpec.upto (s : _root_.Go.ChangeSpec) : _root_.Go.OpenSpec := { _root_.Go.OpenSpec.ofChange s with cond := some uptoSmall }

/-- 'binderylaw16.ValueChecks', WHERE WHAT IT READS IS OF BULK AT MOST 1048576: true; the input reads as it did. -/
def valueChecksUptoRow : OpenClaim := { program := "ytlmgjhidmipadaa", sum := "ed6f4c01a29d1dd85ff6eedc6909b423e4a8c980f79b15d82ba62b620f021559", func := "bindery/binderylaw16.ValueChecks", spec := "valueChecks", inPlace := ["internal/bytealg.abigen_runtime_cmpstring", "internal/bytealg.IndexByteString"], unfollowed := true, recurses := true, loops := true, apart := false, narrowed := true }
def ValueChecksUptoSaid : Prop := valueChecksUptoRow.holds Try.pinned (OpenSpec.upto valueChecksSpec)

/-- 'binderylaw16.ValuePlains', WHERE WHAT IT READS IS OF BULK AT MOST 1048576: true; the input reads as it did. -/
def valuePlainsUptoRow : OpenClaim := { program := "ytlmgjhidmipadaa", sum := "ed6f4c01a29d1dd85ff6eedc6909b423e4a8c980f79b15d82ba62b620f021559", func := "bindery/binderylaw16.ValuePlains", spec := "valuePlains", inPlace := ["internal/bytealg.abigen_runtime_cmpstring", "internal/bytealg.IndexByteString"], unfollowed := true, recurses := true, loops := true, apart := false, narrowed := true }
def ValuePlainsUptoSaid : Prop := valuePlainsUptoRow.holds Try.pinned (OpenSpec.upto valuePlainsSpec)

/-- 'binderylaw16.ValueGets', WHERE WHAT IT READS IS OF BULK AT MOST 1048576: true; the input reads as it did. -/
def valueGetsUptoRow : OpenClaim := { program := "ytlmgjhidmipadaa", sum := "ed6f4c01a29d1dd85ff6eedc6909b423e4a8c980f79b15d82ba62b620f021559", func := "bindery/binderylaw16.ValueGets", spec := "valueGets", inPlace := ["internal/bytealg.abigen_runtime_cmpstring", "internal/bytealg.IndexByteString"], unfollowed := true, recurses := true, loops := true, apart := false, narrowed := true }
def ValueGetsUptoSaid : Prop := valueGetsUptoRow.holds Try.pinned (OpenSpec.upto valueGetsSpec)

/-- 'binderylaw16.ValueLinks', WHERE WHAT IT READS IS OF BULK AT MOST 1048576: true; the input reads as it did. -/
def valueLinksUptoRow : OpenClaim := { program := "ytlmgjhidmipadaa", sum := "ed6f4c01a29d1dd85ff6eedc6909b423e4a8c980f79b15d82ba62b620f021559", func := "bindery/binderylaw16.ValueLinks", spec := "valueLinks", inPlace := ["internal/bytealg.abigen_runtime_cmpstring", "internal/bytealg.IndexByteString"], unfollowed := true, recurses := true, loops := true, apart := false, narrowed := true }
def ValueLinksUptoSaid : Prop := valueLinksUptoRow.holds Try.pinned (OpenSpec.upto valueLinksSpec)

/-- 'binderylaw16.ValueTwice', WHERE WHAT IT READS IS OF BULK AT MOST 1048576: true; the input reads as it did. -/
def valueTwiceUptoRow : OpenClaim := { program := "ytlmgjhidmipadaa", sum := "ed6f4c01a29d1dd85ff6eedc6909b423e4a8c980f79b15d82ba62b620f021559", func := "bindery/binderylaw16.ValueTwice", spec := "valueTwice", inPlace := ["internal/bytealg.abigen_runtime_cmpstring", "internal/bytealg.IndexByteString"], unfollowed := true, recurses := true, loops := true, apart := false, narrowed := true }
def ValueTwiceUptoSaid : Prop := valueTwiceUptoRow.holds Try.pinned (OpenSpec.upto valueTwiceSpec)

end Rows
end Go.Proofs.Ytlmgjhidmipadaa
