/-
  DERIVED. GIVEN WITH THE SEED: THE CARDS: each row of YtboiljclenikbaaDoorRows.lean that lists a variable, with what it lists TIED to the program's text (the seventh form; the later family's looks); each row that meets fmt, with fmt's text TOLD by the authors' own Lean function (tested against real Go, not proved from fmt's source: count such statements apart). THE CARD IS WHAT COUNTS. Prove the row's statement (the work); the ties are given (YtboiljclenikbaaDoorTie.lean); close each card by the builder's one call (the guide's Derived/Test/ToyasCard.lean, 'card_holds'). Laid BY PROGRAM, IN A SANDBOX (cutbox-door.mjs). By AI agents, Wed Nov 11 2026. No macro, syntax, notation, axiom, sorry.
-/
import Derived.Test.YtboiljclenikbaaDoorRows
import GoSem.ClaimSeven
namespace Go.Proofs.YtboiljclenikbaaDoor
namespace Rows

/-- THE TIED CARD OF 'binderylaw12.ZwrapBack'. -/
def zwrapBackCard : Claim7 := { stood := { row := zwrapBackRow, standIns := [], harness := (true, "ae2f83861233ea9834bc20f31ac5ff1ea064dcc11cd75bc2ffa3df89f6ef1317"), looks := false }, kinds := [], alts := [], laidByText := true, laidKinds := [.data, .data, .data, .data, .data, .data], laidTests := true, laidLooks := .later }
def ZwrapBackCardSaid : Prop := Claim7.holds Tryd.pinned (.plain (OpenSpec.ofChange zwrapBackSpec)) zwrapBackCard

/-- THE SECOND FORM's CARD OF 'binderylaw12.ZwrapBack'. -/
def zwrapBackUptoCard : Claim7 := { stood := { row := zwrapBackUptoRow, standIns := [], harness := (true, "ae2f83861233ea9834bc20f31ac5ff1ea064dcc11cd75bc2ffa3df89f6ef1317"), looks := false }, kinds := [], alts := [], laidByText := true, laidKinds := [.data, .data, .data, .data, .data, .data], laidTests := true, laidLooks := .later }
def ZwrapBackUptoCardSaid : Prop := Claim7.holds Tryd.pinned (.plain (OpenSpec.upto zwrapBackSpec)) zwrapBackUptoCard
end Rows
end Go.Proofs.YtboiljclenikbaaDoor
