/-
  DERIVED. GIVEN WITH THE SEED: THE CARDS: each row of YtjmamomnbfnngaaDoorRows.lean that lists a variable, with what it lists TIED to the program's text (the seventh form; the later family's looks); each row that meets fmt, with fmt's text TOLD by the authors' own Lean function (tested against real Go, not proved from fmt's source: count such statements apart). THE CARD IS WHAT COUNTS. Prove the row's statement (the work); the ties are given (YtjmamomnbfnngaaDoorTie.lean); close each card by the builder's one call (the guide's Derived/Test/ToyasCard.lean, 'card_holds'). Laid BY PROGRAM, IN A SANDBOX (cutbox-door.mjs). By AI agents, Wed Nov 11 2026. No macro, syntax, notation, axiom, sorry.
-/
import Derived.Test.YtjmamomnbfnngaaDoorRows
import GoSem.ClaimSeven
namespace Go.Proofs.YtjmamomnbfnngaaDoor
namespace Rows

/-- THE TIED CARD OF 'binderylaw10.InflateTells'. -/
def inflateTellsCard : Claim7 := { stood := { row := inflateTellsRow, standIns := [], harness := (true, "327c860ac6b7aad16be45ac7ccb5e4bc6e69484d1a2fa75497b4571242bea3ee"), looks := false }, kinds := [], alts := [], laidByText := true, laidKinds := [.data, .data, .data, .data], laidTests := true, laidLooks := .later }
def InflateTellsCardSaid : Prop := Claim7.holds Tryd.pinned (.plain (OpenSpec.ofChange inflateTellsSpec)) inflateTellsCard

/-- THE TIED CARD OF 'binderylaw10.InflateCut'. -/
def inflateCutCard : Claim7 := { stood := { row := inflateCutRow, standIns := [], harness := (true, "327c860ac6b7aad16be45ac7ccb5e4bc6e69484d1a2fa75497b4571242bea3ee"), looks := false }, kinds := [], alts := [], laidByText := true, laidKinds := [.data, .data, .data, .data], laidTests := true, laidLooks := .later }
def InflateCutCardSaid : Prop := Claim7.holds Tryd.pinned (.plain (OpenSpec.ofChange inflateCutSpec)) inflateCutCard

/-- THE TIED CARD OF 'binderylaw10.InflateRoom'. -/
def inflateRoomCard : Claim7 := { stood := { row := inflateRoomRow, standIns := [], harness := (true, "327c860ac6b7aad16be45ac7ccb5e4bc6e69484d1a2fa75497b4571242bea3ee"), looks := false }, kinds := [], alts := [], laidByText := true, laidKinds := [.data, .data, .data, .data], laidTests := true, laidLooks := .later }
def InflateRoomCardSaid : Prop := Claim7.holds Tryd.pinned (.plain (OpenSpec.ofChange inflateRoomSpec)) inflateRoomCard

/-- THE SECOND FORM's CARD OF 'binderylaw10.InflateTells'. -/
def inflateTellsUptoCard : Claim7 := { stood := { row := inflateTellsUptoRow, standIns := [], harness := (true, "327c860ac6b7aad16be45ac7ccb5e4bc6e69484d1a2fa75497b4571242bea3ee"), looks := false }, kinds := [], alts := [], laidByText := true, laidKinds := [.data, .data, .data, .data], laidTests := true, laidLooks := .later }
def InflateTellsUptoCardSaid : Prop := Claim7.holds Tryd.pinned (.plain (OpenSpec.upto inflateTellsSpec)) inflateTellsUptoCard

/-- THE SECOND FORM's CARD OF 'binderylaw10.InflateCut'. -/
def inflateCutUptoCard : Claim7 := { stood := { row := inflateCutUptoRow, standIns := [], harness := (true, "327c860ac6b7aad16be45ac7ccb5e4bc6e69484d1a2fa75497b4571242bea3ee"), looks := false }, kinds := [], alts := [], laidByText := true, laidKinds := [.data, .data, .data, .data], laidTests := true, laidLooks := .later }
def InflateCutUptoCardSaid : Prop := Claim7.holds Tryd.pinned (.plain (OpenSpec.upto inflateCutSpec)) inflateCutUptoCard

/-- THE SECOND FORM's CARD OF 'binderylaw10.InflateRoom'. -/
def inflateRoomUptoCard : Claim7 := { stood := { row := inflateRoomUptoRow, standIns := [], harness := (true, "327c860ac6b7aad16be45ac7ccb5e4bc6e69484d1a2fa75497b4571242bea3ee"), looks := false }, kinds := [], alts := [], laidByText := true, laidKinds := [.data, .data, .data, .data], laidTests := true, laidLooks := .later }
def InflateRoomUptoCardSaid : Prop := Claim7.holds Tryd.pinned (.plain (OpenSpec.upto inflateRoomSpec)) inflateRoomUptoCard
end Rows
end Go.Proofs.YtjmamomnbfnngaaDoor
