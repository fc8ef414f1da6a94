/-
  DERIVED. GIVEN WITH THE SEED: THE CARDS: each row of YtboiljclenikbaaGreatDoorRows.lean that lists a variable, with what it lists TIED to the program's text (the seventh form; the later family's looks); each row that meets fmt, with fmt's text TOLD by the authors' own Lean function (tested against real Go, not proved from fmt's source: count such statements apart). THE CARD IS WHAT COUNTS. Prove the row's statement (the work); the ties are given (YtboiljclenikbaaGreatDoorTie.lean); close each card by the builder's one call (the guide's Derived/Test/ToyasCard.lean, 'card_holds'). Laid BY PROGRAM, IN A SANDBOX (cutbox-door.mjs). By AI agents, Wed Nov 11 2026. No macro, syntax, notation, axiom, sorry.
-/
import Derived.Test.YtboiljclenikbaaGreatDoorRows
import GoSem.ClaimSeven
namespace Go.Proofs.YtboiljclenikbaaGreatDoor
namespace Rows

/-- THE TIED CARD OF 'binderylaw12.ZwrapWraps'. -/
def zwrapWrapsCard : Claim7 := { stood := { row := zwrapWrapsRow, standIns := [], harness := (true, "51f519f8e71d57b1b6b4ede60e5908b136e2ba3c1b4baece14773d981462c965"), looks := false }, kinds := [], alts := [], laidByText := true, laidKinds := [.data, .data, .data, .data, .data, .data], laidTests := true, laidLooks := .later }
def ZwrapWrapsCardSaid : Prop := Claim7.holds Tryz.pinned (.plain (OpenSpec.ofChange zwrapWrapsSpec)) zwrapWrapsCard

/-- THE TIED CARD OF 'binderylaw12.ZwrapUnwraps'. -/
def zwrapUnwrapsCard : Claim7 := { stood := { row := zwrapUnwrapsRow, standIns := [], harness := (true, "51f519f8e71d57b1b6b4ede60e5908b136e2ba3c1b4baece14773d981462c965"), looks := false }, kinds := [], alts := [], laidByText := true, laidKinds := [.data, .data, .data, .data, .data, .data], laidTests := true, laidLooks := .later }
def ZwrapUnwrapsCardSaid : Prop := Claim7.holds Tryz.pinned (.plain (OpenSpec.ofChange zwrapUnwrapsSpec)) zwrapUnwrapsCard

/-- THE SECOND FORM's CARD OF 'binderylaw12.ZwrapWraps'. -/
def zwrapWrapsUptoCard : Claim7 := { stood := { row := zwrapWrapsUptoRow, standIns := [], harness := (true, "51f519f8e71d57b1b6b4ede60e5908b136e2ba3c1b4baece14773d981462c965"), looks := false }, kinds := [], alts := [], laidByText := true, laidKinds := [.data, .data, .data, .data, .data, .data], laidTests := true, laidLooks := .later }
def ZwrapWrapsUptoCardSaid : Prop := Claim7.holds Tryz.pinned (.plain (OpenSpec.upto zwrapWrapsSpec)) zwrapWrapsUptoCard

/-- THE SECOND FORM's CARD OF 'binderylaw12.ZwrapUnwraps'. -/
def zwrapUnwrapsUptoCard : Claim7 := { stood := { row := zwrapUnwrapsUptoRow, standIns := [], harness := (true, "51f519f8e71d57b1b6b4ede60e5908b136e2ba3c1b4baece14773d981462c965"), looks := false }, kinds := [], alts := [], laidByText := true, laidKinds := [.data, .data, .data, .data, .data, .data], laidTests := true, laidLooks := .later }
def ZwrapUnwrapsUptoCardSaid : Prop := Claim7.holds Tryz.pinned (.plain (OpenSpec.upto zwrapUnwrapsSpec)) zwrapUnwrapsUptoCard
end Rows
end Go.Proofs.YtboiljclenikbaaGreatDoor
