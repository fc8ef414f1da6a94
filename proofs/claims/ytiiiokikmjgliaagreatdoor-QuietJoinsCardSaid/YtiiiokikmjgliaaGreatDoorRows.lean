/-
  NARROWER THAN 'FOR EVERY INPUT', by the rows' own cells (each row's printed sentence says how): QuietTells: laid · QuietNever: laid · QuietJoins: laid.
  DERIVED. THE GIVEN ROWS OF THIS SEAT. 3 by the template 'for every input the law returns true; each argument reads behind the call as it read before'; 0 by the template 'total and deterministic' (their statements: YtiiiokikmjgliaaGreatDoorTotals.lean).
  GIVEN WITH THE SEED: the statements are not yours to turn. If you find one false, say at which input.
  Laid BY PROGRAM, IN A SANDBOX (cutbox-rows.mjs): the forced cells as the released guide's own fill.sh prints them over the translation b444adec4c3b395b… (all of the seat's roots in one cut). By AI agents, Wed Nov 11 2026. No macro, syntax, notation, axiom, sorry.
-/
import Derived.Test.YtiiiokikmjgliaaGreatDoorChecked
import GoSem.Claim
import GoSem.ClaimJoined
import GoSem.ClaimMapViews
import Derived.JoinedTies
import Derived.KernelRfl
namespace Go.Proofs.YtiiiokikmjgliaaGreatDoor
/- THE CELL 'sum', in the pinned program and in every row, IS THE sha256 OF THE DUMP (.gsa) THAT YtiiiokikmjgliaaGreatDoorProg.lean LOADS. Nothing in Lean hashes anything: it is a label: what it is worth is what the hold of that sum in a sandbox is worth. -/
noncomputable def Tryz.pinned : Pinned := { name := "ytiiiokikmjgliaagreatdoor", sum := "b444adec4c3b395b3a0e08c3b00896e64604e7c4c54164ec09625ff4a34698d5", checked := Tryz.checked }
namespace Rows
def none {H : Type} : Left H := { results := [], args := [] }

/- WHAT THE LISTED PACKAGE-LEVEL VARIABLES READ AS WHEN THE CALL BEGINS. Each datum BY PROGRAM (the guide's laid-datum.mjs) off the statement by which the dump's own 'gosem.cut.vars' lays the variable. In a bare row this is a premise. The card (YtiiiokikmjgliaaGreatDoorCards.lean) ties it to the program's text. -/
def laid_bindery_inflate_lengthsFrom {H : Type} : DataW H := .agg [.agg [.lit (.int .i64 3), .lit (.int .i64 0)], .agg [.lit (.int .i64 4), .lit (.int .i64 0)], .agg [.lit (.int .i64 5), .lit (.int .i64 0)], .agg [.lit (.int .i64 6), .lit (.int .i64 0)], .agg [.lit (.int .i64 7), .lit (.int .i64 0)], .agg [.lit (.int .i64 8), .lit (.int .i64 0)], .agg [.lit (.int .i64 9), .lit (.int .i64 0)], .agg [.lit (.int .i64 10), .lit (.int .i64 0)], .agg [.lit (.int .i64 11), .lit (.int .i64 1)], .agg [.lit (.int .i64 13), .lit (.int .i64 1)], .agg [.lit (.int .i64 15), .lit (.int .i64 1)], .agg [.lit (.int .i64 17), .lit (.int .i64 1)], .agg [.lit (.int .i64 19), .lit (.int .i64 2)], .agg [.lit (.int .i64 23), .lit (.int .i64 2)], .agg [.lit (.int .i64 27), .lit (.int .i64 2)], .agg [.lit (.int .i64 31), .lit (.int .i64 2)], .agg [.lit (.int .i64 35), .lit (.int .i64 3)], .agg [.lit (.int .i64 43), .lit (.int .i64 3)], .agg [.lit (.int .i64 51), .lit (.int .i64 3)], .agg [.lit (.int .i64 59), .lit (.int .i64 3)], .agg [.lit (.int .i64 67), .lit (.int .i64 4)], .agg [.lit (.int .i64 83), .lit (.int .i64 4)], .agg [.lit (.int .i64 99), .lit (.int .i64 4)], .agg [.lit (.int .i64 115), .lit (.int .i64 4)], .agg [.lit (.int .i64 131), .lit (.int .i64 5)], .agg [.lit (.int .i64 163), .lit (.int .i64 5)], .agg [.lit (.int .i64 195), .lit (.int .i64 5)], .agg [.lit (.int .i64 227), .lit (.int .i64 5)], .agg [.lit (.int .i64 258), .lit (.int .i64 0)]]
def laid_bindery_inflate_distancesFrom {H : Type} : DataW H := .agg [.agg [.lit (.int .i64 1), .lit (.int .i64 0)], .agg [.lit (.int .i64 2), .lit (.int .i64 0)], .agg [.lit (.int .i64 3), .lit (.int .i64 0)], .agg [.lit (.int .i64 4), .lit (.int .i64 0)], .agg [.lit (.int .i64 5), .lit (.int .i64 1)], .agg [.lit (.int .i64 7), .lit (.int .i64 1)], .agg [.lit (.int .i64 9), .lit (.int .i64 2)], .agg [.lit (.int .i64 13), .lit (.int .i64 2)], .agg [.lit (.int .i64 17), .lit (.int .i64 3)], .agg [.lit (.int .i64 25), .lit (.int .i64 3)], .agg [.lit (.int .i64 33), .lit (.int .i64 4)], .agg [.lit (.int .i64 49), .lit (.int .i64 4)], .agg [.lit (.int .i64 65), .lit (.int .i64 5)], .agg [.lit (.int .i64 97), .lit (.int .i64 5)], .agg [.lit (.int .i64 129), .lit (.int .i64 6)], .agg [.lit (.int .i64 193), .lit (.int .i64 6)], .agg [.lit (.int .i64 257), .lit (.int .i64 7)], .agg [.lit (.int .i64 385), .lit (.int .i64 7)], .agg [.lit (.int .i64 513), .lit (.int .i64 8)], .agg [.lit (.int .i64 769), .lit (.int .i64 8)], .agg [.lit (.int .i64 1025), .lit (.int .i64 9)], .agg [.lit (.int .i64 1537), .lit (.int .i64 9)], .agg [.lit (.int .i64 2049), .lit (.int .i64 10)], .agg [.lit (.int .i64 3073), .lit (.int .i64 10)], .agg [.lit (.int .i64 4097), .lit (.int .i64 11)], .agg [.lit (.int .i64 6145), .lit (.int .i64 11)], .agg [.lit (.int .i64 8193), .lit (.int .i64 12)], .agg [.lit (.int .i64 12289), .lit (.int .i64 12)], .agg [.lit (.int .i64 16385), .lit (.int .i64 13)], .agg [.lit (.int .i64 24577), .lit (.int .i64 13)]]
def laid_bindery_inflate_timesFrom {H : Type} : DataW H := .agg [.agg [.lit (.int .i64 3), .lit (.int .i64 2)], .agg [.lit (.int .i64 3), .lit (.int .i64 3)], .agg [.lit (.int .i64 11), .lit (.int .i64 7)]]
def laid_bindery_inflate_signOrder {H : Type} : DataW H := .agg [.lit (.int .i64 16), .lit (.int .i64 17), .lit (.int .i64 18), .lit (.int .i64 0), .lit (.int .i64 8), .lit (.int .i64 7), .lit (.int .i64 9), .lit (.int .i64 6), .lit (.int .i64 10), .lit (.int .i64 5), .lit (.int .i64 11), .lit (.int .i64 4), .lit (.int .i64 12), .lit (.int .i64 3), .lit (.int .i64 13), .lit (.int .i64 2), .lit (.int .i64 14), .lit (.int .i64 1), .lit (.int .i64 15)]
def laid_bindery_squeeze_lengthsFrom {H : Type} : DataW H := .agg [.agg [.lit (.int .i64 3), .lit (.int .i64 0)], .agg [.lit (.int .i64 4), .lit (.int .i64 0)], .agg [.lit (.int .i64 5), .lit (.int .i64 0)], .agg [.lit (.int .i64 6), .lit (.int .i64 0)], .agg [.lit (.int .i64 7), .lit (.int .i64 0)], .agg [.lit (.int .i64 8), .lit (.int .i64 0)], .agg [.lit (.int .i64 9), .lit (.int .i64 0)], .agg [.lit (.int .i64 10), .lit (.int .i64 0)], .agg [.lit (.int .i64 11), .lit (.int .i64 1)], .agg [.lit (.int .i64 13), .lit (.int .i64 1)], .agg [.lit (.int .i64 15), .lit (.int .i64 1)], .agg [.lit (.int .i64 17), .lit (.int .i64 1)], .agg [.lit (.int .i64 19), .lit (.int .i64 2)], .agg [.lit (.int .i64 23), .lit (.int .i64 2)], .agg [.lit (.int .i64 27), .lit (.int .i64 2)], .agg [.lit (.int .i64 31), .lit (.int .i64 2)], .agg [.lit (.int .i64 35), .lit (.int .i64 3)], .agg [.lit (.int .i64 43), .lit (.int .i64 3)], .agg [.lit (.int .i64 51), .lit (.int .i64 3)], .agg [.lit (.int .i64 59), .lit (.int .i64 3)], .agg [.lit (.int .i64 67), .lit (.int .i64 4)], .agg [.lit (.int .i64 83), .lit (.int .i64 4)], .agg [.lit (.int .i64 99), .lit (.int .i64 4)], .agg [.lit (.int .i64 115), .lit (.int .i64 4)], .agg [.lit (.int .i64 131), .lit (.int .i64 5)], .agg [.lit (.int .i64 163), .lit (.int .i64 5)], .agg [.lit (.int .i64 195), .lit (.int .i64 5)], .agg [.lit (.int .i64 227), .lit (.int .i64 5)], .agg [.lit (.int .i64 258), .lit (.int .i64 0)]]
def laid_bindery_squeeze_distancesFrom {H : Type} : DataW H := .agg [.agg [.lit (.int .i64 1), .lit (.int .i64 0)], .agg [.lit (.int .i64 2), .lit (.int .i64 0)], .agg [.lit (.int .i64 3), .lit (.int .i64 0)], .agg [.lit (.int .i64 4), .lit (.int .i64 0)], .agg [.lit (.int .i64 5), .lit (.int .i64 1)], .agg [.lit (.int .i64 7), .lit (.int .i64 1)], .agg [.lit (.int .i64 9), .lit (.int .i64 2)], .agg [.lit (.int .i64 13), .lit (.int .i64 2)], .agg [.lit (.int .i64 17), .lit (.int .i64 3)], .agg [.lit (.int .i64 25), .lit (.int .i64 3)], .agg [.lit (.int .i64 33), .lit (.int .i64 4)], .agg [.lit (.int .i64 49), .lit (.int .i64 4)], .agg [.lit (.int .i64 65), .lit (.int .i64 5)], .agg [.lit (.int .i64 97), .lit (.int .i64 5)], .agg [.lit (.int .i64 129), .lit (.int .i64 6)], .agg [.lit (.int .i64 193), .lit (.int .i64 6)], .agg [.lit (.int .i64 257), .lit (.int .i64 7)], .agg [.lit (.int .i64 385), .lit (.int .i64 7)], .agg [.lit (.int .i64 513), .lit (.int .i64 8)], .agg [.lit (.int .i64 769), .lit (.int .i64 8)], .agg [.lit (.int .i64 1025), .lit (.int .i64 9)], .agg [.lit (.int .i64 1537), .lit (.int .i64 9)], .agg [.lit (.int .i64 2049), .lit (.int .i64 10)], .agg [.lit (.int .i64 3073), .lit (.int .i64 10)], .agg [.lit (.int .i64 4097), .lit (.int .i64 11)], .agg [.lit (.int .i64 6145), .lit (.int .i64 11)], .agg [.lit (.int .i64 8193), .lit (.int .i64 12)], .agg [.lit (.int .i64 12289), .lit (.int .i64 12)], .agg [.lit (.int .i64 16385), .lit (.int .i64 13)], .agg [.lit (.int .i64 24577), .lit (.int .i64 13)]]
def laid_bindery_quiet_words {H : Type} : DataW H := .agg [.lit (.string [111, 98, 106]), .lit (.string [120, 114, 101, 102]), .lit (.string [115, 116, 114, 101, 97, 109])]

/-- 'binderylaw19.QuietTells': WHATEVER THE INPUT: true; the input reads as it did. -/
def quietTellsSpec : ChangeSpec := { name := "quietTells", fn := fun _ => fun
  | [d1, d2, d3] => { results := [.lit (.bool true)], args := [d1, d2, d3] }
  | _ => none }
def quietTellsRow : OpenClaim := { program := "ytiiiokikmjgliaagreatdoor", sum := "b444adec4c3b395b3a0e08c3b00896e64604e7c4c54164ec09625ff4a34698d5", func := "bindery/binderylaw19.QuietTells", spec := "quietTells", inPlace := ["internal/abi.NoEscape", "internal/bytealg.MakeNoZero"], unfollowed := true, recurses := true, named := ["bindery/squeeze.lengthsFrom", "bindery/squeeze.distancesFrom", "bindery/inflate.lengthsFrom", "bindery/inflate.distancesFrom", "bindery/inflate.signOrder", "bindery/inflate.timesFrom", "bindery/quiet.words"], plainKeys := false, apart := false, laid := [("bindery/inflate.lengthsFrom", laid_bindery_inflate_lengthsFrom), ("bindery/inflate.distancesFrom", laid_bindery_inflate_distancesFrom), ("bindery/inflate.timesFrom", laid_bindery_inflate_timesFrom), ("bindery/inflate.signOrder", laid_bindery_inflate_signOrder), ("bindery/squeeze.lengthsFrom", laid_bindery_squeeze_lengthsFrom), ("bindery/squeeze.distancesFrom", laid_bindery_squeeze_distancesFrom), ("bindery/quiet.words", laid_bindery_quiet_words)] }
def QuietTellsSaid : Prop := quietTellsRow.holds Tryz.pinned (OpenSpec.ofChange quietTellsSpec)

/-- ITS FALSE NEIGHBOUR: 'it returns false'. Refute it at one input. -/
def quietTellsWrong : ChangeSpec := { name := "quietTells", fn := fun _ => fun
  | [d1, d2, d3] => { results := [.lit (.bool false)], args := [d1, d2, d3] }
  | _ => none }
def QuietTellsWrongFalsely : Prop := quietTellsRow.holds Tryz.pinned (OpenSpec.ofChange quietTellsWrong)

/-- 'binderylaw19.QuietNever': WHATEVER THE INPUT: true; the input reads as it did. -/
def quietNeverSpec : ChangeSpec := { name := "quietNever", fn := fun _ => fun
  | [d1, d2] => { results := [.lit (.bool true)], args := [d1, d2] }
  | _ => none }
def quietNeverRow : OpenClaim := { program := "ytiiiokikmjgliaagreatdoor", sum := "b444adec4c3b395b3a0e08c3b00896e64604e7c4c54164ec09625ff4a34698d5", func := "bindery/binderylaw19.QuietNever", spec := "quietNever", inPlace := ["internal/abi.NoEscape", "internal/bytealg.MakeNoZero"], unfollowed := true, recurses := true, named := ["bindery/squeeze.lengthsFrom", "bindery/squeeze.distancesFrom", "bindery/inflate.lengthsFrom", "bindery/inflate.distancesFrom", "bindery/inflate.signOrder", "bindery/inflate.timesFrom", "bindery/quiet.words"], plainKeys := false, apart := false, laid := [("bindery/inflate.lengthsFrom", laid_bindery_inflate_lengthsFrom), ("bindery/inflate.distancesFrom", laid_bindery_inflate_distancesFrom), ("bindery/inflate.timesFrom", laid_bindery_inflate_timesFrom), ("bindery/inflate.signOrder", laid_bindery_inflate_signOrder), ("bindery/squeeze.lengthsFrom", laid_bindery_squeeze_lengthsFrom), ("bindery/squeeze.distancesFrom", laid_bindery_squeeze_distancesFrom), ("bindery/quiet.words", laid_bindery_quiet_words)] }
def QuietNeverSaid : Prop := quietNeverRow.holds Tryz.pinned (OpenSpec.ofChange quietNeverSpec)

/-- ITS FALSE NEIGHBOUR: 'it returns false'. Refute it at one input. -/
def quietNeverWrong : ChangeSpec := { name := "quietNever", fn := fun _ => fun
  | [d1, d2] => { results := [.lit (.bool false)], args := [d1, d2] }
  | _ => none }
def QuietNeverWrongFalsely : Prop := quietNeverRow.holds Tryz.pinned (OpenSpec.ofChange quietNeverWrong)

/-- 'binderylaw19.QuietJoins': WHATEVER THE INPUT: true; the input reads as it did. -/
def quietJoinsSpec : ChangeSpec := { name := "quietJoins", fn := fun _ => fun
  | [d1, d2, d3] => { results := [.lit (.bool true)], args := [d1, d2, d3] }
  | _ => none }
def quietJoinsRow : OpenClaim := { program := "ytiiiokikmjgliaagreatdoor", sum := "b444adec4c3b395b3a0e08c3b00896e64604e7c4c54164ec09625ff4a34698d5", func := "bindery/binderylaw19.QuietJoins", spec := "quietJoins", inPlace := ["internal/abi.NoEscape", "internal/bytealg.MakeNoZero"], unfollowed := true, recurses := true, named := ["bindery/squeeze.lengthsFrom", "bindery/squeeze.distancesFrom", "bindery/inflate.lengthsFrom", "bindery/inflate.distancesFrom", "bindery/inflate.signOrder", "bindery/inflate.timesFrom", "bindery/quiet.words"], plainKeys := false, apart := false, laid := [("bindery/inflate.lengthsFrom", laid_bindery_inflate_lengthsFrom), ("bindery/inflate.distancesFrom", laid_bindery_inflate_distancesFrom), ("bindery/inflate.timesFrom", laid_bindery_inflate_timesFrom), ("bindery/inflate.signOrder", laid_bindery_inflate_signOrder), ("bindery/squeeze.lengthsFrom", laid_bindery_squeeze_lengthsFrom), ("bindery/squeeze.distancesFrom", laid_bindery_squeeze_distancesFrom), ("bindery/quiet.words", laid_bindery_quiet_words)] }
def QuietJoinsSaid : Prop := quietJoinsRow.holds Tryz.pinned (OpenSpec.ofChange quietJoinsSpec)

/-- ITS FALSE NEIGHBOUR: 'it returns false'. Refute it at one input. -/
def quietJoinsWrong : ChangeSpec := { name := "quietJoins", fn := fun _ => fun
  | [d1, d2, d3] => { results := [.lit (.bool false)], args := [d1, d2, d3] }
  | _ => none }
def QuietJoinsWrongFalsely : Prop := quietJoinsRow.holds Tryz.pinned (OpenSpec.ofChange quietJoinsWrong)

/- THE SECOND FORM. 'bulk': how many values and letters a reading holds, each counted each time it is reached (what is shared counts as often as it is met; a slice's spare places count too). A statement '..UptoSaid' is the law's where the arguments, and the package variables that the reading takes, are together of bulk at most 1048576: NARROWER than '..Said'. Prove '..Said' where nothing that the law and all that it calls make is longer than what came in: it says more and counts as full. Else prove '..UptoSaid'. A law counts once. -/
mutual
def uptoBulk {H : Type} : DataW H → Nat
  | .lit (.string bytes) => bytes.length + 1
  | .lit _ => 1
  | .nil => 1
  | .ptr d => uptoBulk d + 1
  | .slice elems spare => uptoBulkAll elems + uptoBulkAll spare + 1
  | .agg parts => uptoBulkAll parts + 1
  | .iface _ d => uptoBulk d + 1
  | .map entries => uptoBulkEntries entries + 1
  | .held _ => 1
def uptoBulkAll {H : Type} : List (DataW H) → Nat
  | [] => 0
  | d :: r => uptoBulk d + uptoBulkAll r
def uptoBulkEntries {H : Type} : List (Lit × DataW H) → Nat
  | [] => 0
  | x :: r => uptoBulkEntry x + uptoBulkEntries r
def uptoBulkEntry {H : Type} : Lit × DataW H → Nat
  | (.string bytes, d) => bytes.length + uptoBulk d + 1
  | (_, d) => uptoBulk d + 1
 end
def uptoSmall : (H : Type) → List (DataW H) → Bool := fun _ ds => decide (uptoBulkAll ds ≤ 1048576)
def OpenSpec.upto (s : _root_.Go.ChangeSpec) : _root_.Go.OpenSpec := { _root_.Go.OpenSpec.ofChange s with cond := some uptoSmall }

/-- 'binderylaw19.QuietTells', WHERE WHAT IT READS IS OF BULK AT MOST 1048576: true; the input reads as it did. -/
def quietTellsUptoRow : OpenClaim := { program := "ytiiiokikmjgliaagreatdoor", sum := "b444adec4c3b395b3a0e08c3b00896e64604e7c4c54164ec09625ff4a34698d5", func := "bindery/binderylaw19.QuietTells", spec := "quietTells", inPlace := ["internal/abi.NoEscape", "internal/bytealg.MakeNoZero"], unfollowed := true, recurses := true, named := ["bindery/squeeze.lengthsFrom", "bindery/squeeze.distancesFrom", "bindery/inflate.lengthsFrom", "bindery/inflate.distancesFrom", "bindery/inflate.signOrder", "bindery/inflate.timesFrom", "bindery/quiet.words"], plainKeys := false, apart := false, laid := [("bindery/inflate.lengthsFrom", laid_bindery_inflate_lengthsFrom), ("bindery/inflate.distancesFrom", laid_bindery_inflate_distancesFrom), ("bindery/inflate.timesFrom", laid_bindery_inflate_timesFrom), ("bindery/inflate.signOrder", laid_bindery_inflate_signOrder), ("bindery/squeeze.lengthsFrom", laid_bindery_squeeze_lengthsFrom), ("bindery/squeeze.distancesFrom", laid_bindery_squeeze_distancesFrom), ("bindery/quiet.words", laid_bindery_quiet_words)], narrowed := true }
def QuietTellsUptoSaid : Prop := quietTellsUptoRow.holds Tryz.pinned (OpenSpec.upto quietTellsSpec)

/-- 'binderylaw19.QuietNever', WHERE WHAT IT READS IS OF BULK AT MOST 1048576: true; the input reads as it did. -/
def quietNeverUptoRow : OpenClaim := { program := "ytiiiokikmjgliaagreatdoor", sum := "b444adec4c3b395b3a0e08c3b00896e64604e7c4c54164ec09625ff4a34698d5", func := "bindery/binderylaw19.QuietNever", spec := "quietNever", inPlace := ["internal/abi.NoEscape", "internal/bytealg.MakeNoZero"], unfollowed := true, recurses := true, named := ["bindery/squeeze.lengthsFrom", "bindery/squeeze.distancesFrom", "bindery/inflate.lengthsFrom", "bindery/inflate.distancesFrom", "bindery/inflate.signOrder", "bindery/inflate.timesFrom", "bindery/quiet.words"], plainKeys := false, apart := false, laid := [("bindery/inflate.lengthsFrom", laid_bindery_inflate_lengthsFrom), ("bindery/inflate.distancesFrom", laid_bindery_inflate_distancesFrom), ("bindery/inflate.timesFrom", laid_bindery_inflate_timesFrom), ("bindery/inflate.signOrder", laid_bindery_inflate_signOrder), ("bindery/squeeze.lengthsFrom", laid_bindery_squeeze_lengthsFrom), ("bindery/squeeze.distancesFrom", laid_bindery_squeeze_distancesFrom), ("bindery/quiet.words", laid_bindery_quiet_words)], narrowed := true }
def QuietNeverUptoSaid : Prop := quietNeverUptoRow.holds Tryz.pinned (OpenSpec.upto quietNeverSpec)

/-- 'binderylaw19.QuietJoins', WHERE WHAT IT READS IS OF BULK AT MOST 1048576: true; the input reads as it did. -/
def quietJoinsUptoRow : OpenClaim := { program := "ytiiiokikmjgliaagreatdoor", sum := "b444adec4c3b395b3a0e08c3b00896e64604e7c4c54164ec09625ff4a34698d5", func := "bindery/binderylaw19.QuietJoins", spec := "quietJoins", inPlace := ["internal/abi.NoEscape", "internal/bytealg.MakeNoZero"], unfollowed := true, recurses := true, named := ["bindery/squeeze.lengthsFrom", "bindery/squeeze.distancesFrom", "bindery/inflate.lengthsFrom", "bindery/inflate.distancesFrom", "bindery/inflate.signOrder", "bindery/inflate.timesFrom", "bindery/quiet.words"], plainKeys := false, apart := false, laid := [("bindery/inflate.lengthsFrom", laid_bindery_inflate_lengthsFrom), ("bindery/inflate.distancesFrom", laid_bindery_inflate_distancesFrom), ("bindery/inflate.timesFrom", laid_bindery_inflate_timesFrom), ("bindery/inflate.signOrder", laid_bindery_inflate_signOrder), ("bindery/squeeze.lengthsFrom", laid_bindery_squeeze_lengthsFrom), ("bindery/squeeze.distancesFrom", laid_bindery_squeeze_distancesFrom), ("bindery/quiet.words", laid_bindery_quiet_words)], narrowed := true }
def QuietJoinsUptoSaid : Prop := quietJoinsUptoRow.holds Tryz.pinned (OpenSpec.upto quietJoinsSpec)

end Rows
end Go.Proofs.YtiiiokikmjgliaaGreatDoor
