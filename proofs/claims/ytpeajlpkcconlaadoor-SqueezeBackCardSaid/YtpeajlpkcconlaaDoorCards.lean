/-
  DERIVED. GIVEN WITH THE SEED: THE CARDS: each row of YtpeajlpkcconlaaDoorRows.lean that lists a variable, with what it lists TIED to the program's text (the seventh form; the later family's looks); each row that meets fmt, with fmt's text TOLD by the authors' own Lean function (tested against real Go, not proved from fmt's source: count such statements apart). THE CARD IS WHAT COUNTS. Prove the row's statement (the work); the ties are given (YtpeajlpkcconlaaDoorTie.lean); close each card by the builder's one call (the guide's Derived/Test/ToyasCard.lean, 'card_holds'). Laid BY PROGRAM, IN A SANDBOX (cutbox-door.mjs). By AI agents, Wed Nov 11 2026. No macro, syntax, notation, axiom, sorry.
-/
import Derived.Test.YtpeajlpkcconlaaDoorRows
import GoSem.ClaimSeven
namespace Go.Proofs.YtpeajlpkcconlaaDoor
namespace Rows

/-- THE TIED CARD OF 'binderylaw11.SqueezeStores'. -/
def squeezeStoresCard : Claim7 := { stood := { row := squeezeStoresRow, standIns := [], harness := (true, "4a12418259f361bde04d39c6caf18339574167e9c21cb37e5780d433211f048b"), looks := false }, kinds := [], alts := [], laidByText := true, laidKinds := [.data, .data], laidTests := true, laidLooks := .later }
def SqueezeStoresCardSaid : Prop := Claim7.holds Tryd.pinned (.plain (OpenSpec.ofChange squeezeStoresSpec)) squeezeStoresCard

/-- THE TIED CARD OF 'binderylaw11.SqueezeFixes'. -/
def squeezeFixesCard : Claim7 := { stood := { row := squeezeFixesRow, standIns := [], harness := (true, "4a12418259f361bde04d39c6caf18339574167e9c21cb37e5780d433211f048b"), looks := false }, kinds := [], alts := [], laidByText := true, laidKinds := [.data, .data], laidTests := true, laidLooks := .later }
def SqueezeFixesCardSaid : Prop := Claim7.holds Tryd.pinned (.plain (OpenSpec.ofChange squeezeFixesSpec)) squeezeFixesCard

/-- THE TIED CARD OF 'binderylaw11.SqueezeBack'. -/
def squeezeBackCard : Claim7 := { stood := { row := squeezeBackRow, standIns := [], harness := (true, "4a12418259f361bde04d39c6caf18339574167e9c21cb37e5780d433211f048b"), looks := false }, kinds := [], alts := [], laidByText := true, laidKinds := [.data, .data, .data, .data, .data, .data], laidTests := true, laidLooks := .later }
def SqueezeBackCardSaid : Prop := Claim7.holds Tryd.pinned (.plain (OpenSpec.ofChange squeezeBackSpec)) squeezeBackCard

/-- THE TIED CARD OF 'binderylaw11.SqueezeShort'. -/
def squeezeShortCard : Claim7 := { stood := { row := squeezeShortRow, standIns := [], harness := (true, "4a12418259f361bde04d39c6caf18339574167e9c21cb37e5780d433211f048b"), looks := false }, kinds := [], alts := [], laidByText := true, laidKinds := [.data, .data], laidTests := true, laidLooks := .later }
def SqueezeShortCardSaid : Prop := Claim7.holds Tryd.pinned (.plain (OpenSpec.ofChange squeezeShortSpec)) squeezeShortCard

/-- THE SECOND FORM's CARD OF 'binderylaw11.SqueezeStores'. -/
def squeezeStoresUptoCard : Claim7 := { stood := { row := squeezeStoresUptoRow, standIns := [], harness := (true, "4a12418259f361bde04d39c6caf18339574167e9c21cb37e5780d433211f048b"), looks := false }, kinds := [], alts := [], laidByText := true, laidKinds := [.data, .data], laidTests := true, laidLooks := .later }
def SqueezeStoresUptoCardSaid : Prop := Claim7.holds Tryd.pinned (.plain (OpenSpec.upto squeezeStoresSpec)) squeezeStoresUptoCard

/-- THE SECOND FORM's CARD OF 'binderylaw11.SqueezeFixes'. -/
def squeezeFixesUptoCard : Claim7 := { stood := { row := squeezeFixesUptoRow, standIns := [], harness := (true, "4a12418259f361bde04d39c6caf18339574167e9c21cb37e5780d433211f048b"), looks := false }, kinds := [], alts := [], laidByText := true, laidKinds := [.data, .data], laidTests := true, laidLooks := .later }
def SqueezeFixesUptoCardSaid : Prop := Claim7.holds Tryd.pinned (.plain (OpenSpec.upto squeezeFixesSpec)) squeezeFixesUptoCard

/-- THE SECOND FORM's CARD OF 'binderylaw11.SqueezeBack'. -/
def squeezeBackUptoCard : Claim7 := { stood := { row := squeezeBackUptoRow, standIns := [], harness := (true, "4a12418259f361bde04d39c6caf18339574167e9c21cb37e5780d433211f048b"), looks := false }, kinds := [], alts := [], laidByText := true, laidKinds := [.data, .data, .data, .data, .data, .data], laidTests := true, laidLooks := .later }
def SqueezeBackUptoCardSaid : Prop := Claim7.holds Tryd.pinned (.plain (OpenSpec.upto squeezeBackSpec)) squeezeBackUptoCard

/-- THE SECOND FORM's CARD OF 'binderylaw11.SqueezeShort'. -/
def squeezeShortUptoCard : Claim7 := { stood := { row := squeezeShortUptoRow, standIns := [], harness := (true, "4a12418259f361bde04d39c6caf18339574167e9c21cb37e5780d433211f048b"), looks := false }, kinds := [], alts := [], laidByText := true, laidKinds := [.data, .data], laidTests := true, laidLooks := .later }
def SqueezeShortUptoCardSaid : Prop := Claim7.holds Tryd.pinned (.plain (OpenSpec.upto squeezeShortSpec)) squeezeShortUptoCard
end Rows
end Go.Proofs.YtpeajlpkcconlaaDoor
