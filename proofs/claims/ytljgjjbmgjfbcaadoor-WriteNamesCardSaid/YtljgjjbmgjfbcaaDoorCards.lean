/-
  DERIVED. GIVEN WITH THE SEED: THE CARDS: each row of YtljgjjbmgjfbcaaDoorRows.lean that lists a variable, with what it lists TIED to the program's text (the seventh form; the later family's looks); each row that meets fmt, with fmt's text TOLD by the authors' own Lean function (tested against real Go, not proved from fmt's source: count such statements apart). THE CARD IS WHAT COUNTS. Prove the row's statement (the work); the ties are given (YtljgjjbmgjfbcaaDoorTie.lean); close each card by the builder's one call (the guide's Derived/Test/ToyasCard.lean, 'card_holds'). Laid BY PROGRAM, IN A SANDBOX (cutbox-door.mjs). By AI agents, Wed Nov 11 2026. No macro, syntax, notation, axiom, sorry.
-/
import Derived.Test.YtljgjjbmgjfbcaaDoorRows
import GoSem.ClaimSeven
namespace Go.Proofs.YtljgjjbmgjfbcaaDoor
namespace Rows

/-- THE TIED CARD OF 'binderylaw17.WriteTells'. -/
def writeTellsCard : Claim7 := { stood := { row := writeTellsRow, standIns := [], harness := (true, "61fd191abc4079fd5f0e5bc49f39565777e9dc9b5be421d6ae0ccb9071c890f4"), looks := false }, kinds := [], alts := [], laidByText := true, laidKinds := [.data, .data, .data, .data], laidTests := true, laidLooks := .later }
def WriteTellsCardSaid : Prop := Claim7.holds Tryd.pinned (.plain (OpenSpec.ofChange writeTellsSpec)) writeTellsCard

/-- THE TIED CARD OF 'binderylaw17.WriteNames'. -/
def writeNamesCard : Claim7 := { stood := { row := writeNamesRow, standIns := [], harness := (true, "61fd191abc4079fd5f0e5bc49f39565777e9dc9b5be421d6ae0ccb9071c890f4"), looks := false }, kinds := [], alts := [], laidByText := true, laidKinds := [.data, .data, .data, .data], laidTests := true, laidLooks := .later }
def WriteNamesCardSaid : Prop := Claim7.holds Tryd.pinned (.plain (OpenSpec.ofChange writeNamesSpec)) writeNamesCard

/-- THE TIED CARD OF 'binderylaw17.WriteOne'. -/
def writeOneCard : Claim7 := { stood := { row := writeOneRow, standIns := [], harness := (true, "61fd191abc4079fd5f0e5bc49f39565777e9dc9b5be421d6ae0ccb9071c890f4"), looks := false }, kinds := [], alts := [], laidByText := true, laidKinds := [.data, .data, .data, .data], laidTests := true, laidLooks := .later }
def WriteOneCardSaid : Prop := Claim7.holds Tryd.pinned (.plain (OpenSpec.ofChange writeOneSpec)) writeOneCard

/-- THE SECOND FORM's CARD OF 'binderylaw17.WriteTells'. -/
def writeTellsUptoCard : Claim7 := { stood := { row := writeTellsUptoRow, standIns := [], harness := (true, "61fd191abc4079fd5f0e5bc49f39565777e9dc9b5be421d6ae0ccb9071c890f4"), looks := false }, kinds := [], alts := [], laidByText := true, laidKinds := [.data, .data, .data, .data], laidTests := true, laidLooks := .later }
def WriteTellsUptoCardSaid : Prop := Claim7.holds Tryd.pinned (.plain (OpenSpec.upto writeTellsSpec)) writeTellsUptoCard

/-- THE SECOND FORM's CARD OF 'binderylaw17.WriteNames'. -/
def writeNamesUptoCard : Claim7 := { stood := { row := writeNamesUptoRow, standIns := [], harness := (true, "61fd191abc4079fd5f0e5bc49f39565777e9dc9b5be421d6ae0ccb9071c890f4"), looks := false }, kinds := [], alts := [], laidByText := true, laidKinds := [.data, .data, .data, .data], laidTests := true, laidLooks := .later }
def WriteNamesUptoCardSaid : Prop := Claim7.holds Tryd.pinned (.plain (OpenSpec.upto writeNamesSpec)) writeNamesUptoCard

/-- THE SECOND FORM's CARD OF 'binderylaw17.WriteOne'. -/
def writeOneUptoCard : Claim7 := { stood := { row := writeOneUptoRow, standIns := [], harness := (true, "61fd191abc4079fd5f0e5bc49f39565777e9dc9b5be421d6ae0ccb9071c890f4"), looks := false }, kinds := [], alts := [], laidByText := true, laidKinds := [.data, .data, .data, .data], laidTests := true, laidLooks := .later }
def WriteOneUptoCardSaid : Prop := Claim7.holds Tryd.pinned (.plain (OpenSpec.upto writeOneSpec)) writeOneUptoCard
end Rows
end Go.Proofs.YtljgjjbmgjfbcaaDoor
