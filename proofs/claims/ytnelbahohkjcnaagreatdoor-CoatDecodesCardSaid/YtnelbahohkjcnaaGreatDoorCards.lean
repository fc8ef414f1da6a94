/-
  DERIVED. GIVEN WITH THE SEED: THE CARDS: each row of YtnelbahohkjcnaaGreatDoorRows.lean that lists a variable, with what it lists TIED to the program's text (the seventh form; the later family's looks); each row that meets fmt, with fmt's text TOLD by the authors' own Lean function (tested against real Go, not proved from fmt's source: count such statements apart). THE CARD IS WHAT COUNTS. Prove the row's statement (the work); the ties are given (YtnelbahohkjcnaaGreatDoorTie.lean); close each card by the builder's one call (the guide's Derived/Test/ToyasCard.lean, 'card_holds'). Laid BY PROGRAM, IN A SANDBOX (cutbox-door.mjs). By AI agents, Wed Nov 11 2026. No macro, syntax, notation, axiom, sorry.
-/
import Derived.Test.YtnelbahohkjcnaaGreatDoorRows
import GoSem.ClaimSeven
namespace Go.Proofs.YtnelbahohkjcnaaGreatDoor
namespace Rows

/-- THE TIED CARD OF 'binderylaw14.CoatEncodes'. -/
def coatEncodesCard : Claim7 := { stood := { row := coatEncodesRow, standIns := [], harness := (true, "1dfbb700813e7109fb65a34e34e59af62caafc0057321d7e988591c8c295f1eb"), looks := false }, kinds := [], alts := [], laidByText := true, laidKinds := [.data, .data, .data, .data, .data, .data], laidTests := true, laidLooks := .later }
def CoatEncodesCardSaid : Prop := Claim7.holds Tryz.pinned (.plain (OpenSpec.ofChange coatEncodesSpec)) coatEncodesCard

/-- THE TIED CARD OF 'binderylaw14.CoatDecodes'. -/
def coatDecodesCard : Claim7 := { stood := { row := coatDecodesRow, standIns := [], harness := (true, "1dfbb700813e7109fb65a34e34e59af62caafc0057321d7e988591c8c295f1eb"), looks := false }, kinds := [], alts := [], laidByText := true, laidKinds := [.data, .data, .data, .data, .data, .data], laidTests := true, laidLooks := .later }
def CoatDecodesCardSaid : Prop := Claim7.holds Tryz.pinned (.plain (OpenSpec.ofChange coatDecodesSpec)) coatDecodesCard

/-- THE TIED CARD OF 'binderylaw14.CoatBack'. -/
def coatBackCard : Claim7 := { stood := { row := coatBackRow, standIns := [], harness := (true, "1dfbb700813e7109fb65a34e34e59af62caafc0057321d7e988591c8c295f1eb"), looks := false }, kinds := [], alts := [], laidByText := true, laidKinds := [.data, .data, .data, .data, .data, .data], laidTests := true, laidLooks := .later }
def CoatBackCardSaid : Prop := Claim7.holds Tryz.pinned (.plain (OpenSpec.ofChange coatBackSpec)) coatBackCard

/-- THE TIED CARD OF 'binderylaw14.CoatWithin'. -/
def coatWithinCard : Claim7 := { stood := { row := coatWithinRow, standIns := [], harness := (true, "1dfbb700813e7109fb65a34e34e59af62caafc0057321d7e988591c8c295f1eb"), looks := false }, kinds := [], alts := [], laidByText := true, laidKinds := [.data, .data, .data, .data, .data, .data], laidTests := true, laidLooks := .later }
def CoatWithinCardSaid : Prop := Claim7.holds Tryz.pinned (.plain (OpenSpec.ofChange coatWithinSpec)) coatWithinCard

/-- THE SECOND FORM's CARD OF 'binderylaw14.CoatEncodes'. -/
def coatEncodesUptoCard : Claim7 := { stood := { row := coatEncodesUptoRow, standIns := [], harness := (true, "1dfbb700813e7109fb65a34e34e59af62caafc0057321d7e988591c8c295f1eb"), looks := false }, kinds := [], alts := [], laidByText := true, laidKinds := [.data, .data, .data, .data, .data, .data], laidTests := true, laidLooks := .later }
def CoatEncodesUptoCardSaid : Prop := Claim7.holds Tryz.pinned (.plain (OpenSpec.upto coatEncodesSpec)) coatEncodesUptoCard

/-- THE SECOND FORM's CARD OF 'binderylaw14.CoatDecodes'. -/
def coatDecodesUptoCard : Claim7 := { stood := { row := coatDecodesUptoRow, standIns := [], harness := (true, "1dfbb700813e7109fb65a34e34e59af62caafc0057321d7e988591c8c295f1eb"), looks := false }, kinds := [], alts := [], laidByText := true, laidKinds := [.data, .data, .data, .data, .data, .data], laidTests := true, laidLooks := .later }
def CoatDecodesUptoCardSaid : Prop := Claim7.holds Tryz.pinned (.plain (OpenSpec.upto coatDecodesSpec)) coatDecodesUptoCard

/-- THE SECOND FORM's CARD OF 'binderylaw14.CoatBack'. -/
def coatBackUptoCard : Claim7 := { stood := { row := coatBackUptoRow, standIns := [], harness := (true, "1dfbb700813e7109fb65a34e34e59af62caafc0057321d7e988591c8c295f1eb"), looks := false }, kinds := [], alts := [], laidByText := true, laidKinds := [.data, .data, .data, .data, .data, .data], laidTests := true, laidLooks := .later }
def CoatBackUptoCardSaid : Prop := Claim7.holds Tryz.pinned (.plain (OpenSpec.upto coatBackSpec)) coatBackUptoCard

/-- THE SECOND FORM's CARD OF 'binderylaw14.CoatWithin'. -/
def coatWithinUptoCard : Claim7 := { stood := { row := coatWithinUptoRow, standIns := [], harness := (true, "1dfbb700813e7109fb65a34e34e59af62caafc0057321d7e988591c8c295f1eb"), looks := false }, kinds := [], alts := [], laidByText := true, laidKinds := [.data, .data, .data, .data, .data, .data], laidTests := true, laidLooks := .later }
def CoatWithinUptoCardSaid : Prop := Claim7.holds Tryz.pinned (.plain (OpenSpec.upto coatWithinSpec)) coatWithinUptoCard
end Rows
end Go.Proofs.YtnelbahohkjcnaaGreatDoor
