/-
  DERIVED. GIVEN WITH THE SEED: THE CARDS: each row of YtiiiokikmjgliaaGreatDoorRows.lean that lists a variable, with what it lists TIED to the program's text (the seventh form; the later family's looks); each row that meets fmt, with fmt's text TOLD by the authors' own Lean function (tested against real Go, not proved from fmt's source: count such statements apart). THE CARD IS WHAT COUNTS. Prove the row's statement (the work); the ties are given (YtiiiokikmjgliaaGreatDoorTie.lean); close each card by the builder's one call (the guide's Derived/Test/ToyasCard.lean, 'card_holds'). Laid BY PROGRAM, IN A SANDBOX (cutbox-door.mjs). By AI agents, Wed Nov 11 2026. No macro, syntax, notation, axiom, sorry.
-/
import Derived.Test.YtiiiokikmjgliaaGreatDoorRows
import GoSem.ClaimSeven
namespace Go.Proofs.YtiiiokikmjgliaaGreatDoor
namespace Rows

/-- THE TIED CARD OF 'binderylaw19.QuietTells'. -/
def quietTellsCard : Claim7 := { stood := { row := quietTellsRow, standIns := [], harness := (true, "26270c67bfa0282fe382ca95e18c970873e7e2ce9931a29032183ab876afce5a"), looks := false }, kinds := [], alts := [], laidByText := true, laidKinds := [.data, .data, .data, .data, .data, .data, .data], laidTests := true, laidLooks := .later }
def QuietTellsCardSaid : Prop := Claim7.holds Tryz.pinned (.plain (OpenSpec.ofChange quietTellsSpec)) quietTellsCard

/-- THE TIED CARD OF 'binderylaw19.QuietNever'. -/
def quietNeverCard : Claim7 := { stood := { row := quietNeverRow, standIns := [], harness := (true, "26270c67bfa0282fe382ca95e18c970873e7e2ce9931a29032183ab876afce5a"), looks := false }, kinds := [], alts := [], laidByText := true, laidKinds := [.data, .data, .data, .data, .data, .data, .data], laidTests := true, laidLooks := .later }
def QuietNeverCardSaid : Prop := Claim7.holds Tryz.pinned (.plain (OpenSpec.ofChange quietNeverSpec)) quietNeverCard

/-- THE TIED CARD OF 'binderylaw19.QuietJoins'. -/
def quietJoinsCard : Claim7 := { stood := { row := quietJoinsRow, standIns := [], harness := (true, "26270c67bfa0282fe382ca95e18c970873e7e2ce9931a29032183ab876afce5a"), looks := false }, kinds := [], alts := [], laidByText := true, laidKinds := [.data, .data, .data, .data, .data, .data, .data], laidTests := true, laidLooks := .later }
def QuietJoinsCardSaid : Prop := Claim7.holds Tryz.pinned (.plain (OpenSpec.ofChange quietJoinsSpec)) quietJoinsCard

/-- THE SECOND FORM's CARD OF 'binderylaw19.QuietTells'. -/
def quietTellsUptoCard : Claim7 := { stood := { row := quietTellsUptoRow, standIns := [], harness := (true, "26270c67bfa0282fe382ca95e18c970873e7e2ce9931a29032183ab876afce5a"), looks := false }, kinds := [], alts := [], laidByText := true, laidKinds := [.data, .data, .data, .data, .data, .data, .data], laidTests := true, laidLooks := .later }
def QuietTellsUptoCardSaid : Prop := Claim7.holds Tryz.pinned (.plain (OpenSpec.upto quietTellsSpec)) quietTellsUptoCard

/-- THE SECOND FORM's CARD OF 'binderylaw19.QuietNever'. -/
def quietNeverUptoCard : Claim7 := { stood := { row := quietNeverUptoRow, standIns := [], harness := (true, "26270c67bfa0282fe382ca95e18c970873e7e2ce9931a29032183ab876afce5a"), looks := false }, kinds := [], alts := [], laidByText := true, laidKinds := [.data, .data, .data, .data, .data, .data, .data], laidTests := true, laidLooks := .later }
def QuietNeverUptoCardSaid : Prop := Claim7.holds Tryz.pinned (.plain (OpenSpec.upto quietNeverSpec)) quietNeverUptoCard

/-- THE SECOND FORM's CARD OF 'binderylaw19.QuietJoins'. -/
def quietJoinsUptoCard : Claim7 := { stood := { row := quietJoinsUptoRow, standIns := [], harness := (true, "26270c67bfa0282fe382ca95e18c970873e7e2ce9931a29032183ab876afce5a"), looks := false }, kinds := [], alts := [], laidByText := true, laidKinds := [.data, .data, .data, .data, .data, .data, .data], laidTests := true, laidLooks := .later }
def QuietJoinsUptoCardSaid : Prop := Claim7.holds Tryz.pinned (.plain (OpenSpec.upto quietJoinsSpec)) quietJoinsUptoCard
end Rows
end Go.Proofs.YtiiiokikmjgliaaGreatDoor
