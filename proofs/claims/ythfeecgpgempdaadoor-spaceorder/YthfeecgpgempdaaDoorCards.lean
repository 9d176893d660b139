/-
  DERIVED. GIVEN WITH THE SEED: THE CARDS: each row of YthfeecgpgempdaaDoorRows.lean that lists a variable, with what it lists TIED to the program's text (the seventh form; the later family's looks); each row that meets fmt, with fmt's text TOLD by the authors' own Lean function (tested against real Go, not proved from fmt's source: count such statements apart). THE CARD IS WHAT COUNTS. Prove the row's statement (the work); the ties are given (YthfeecgpgempdaaDoorTie.lean); close each card by the builder's one call (the guide's Derived/Test/ToyasCard.lean, 'card_holds'). Laid BY PROGRAM, IN A SANDBOX (cutbox-door.mjs). By AI agents, Wed Nov 11 2026. No macro, syntax, notation, axiom, sorry.
-/
import Derived.Test.YthfeecgpgempdaaDoorRows
import GoSem.ClaimSeven
namespace Go.Proofs.YthfeecgpgempdaaDoor
namespace Rows

/-- THE TIED CARD OF 'overdublaw13.SpaceShares'. -/
def spaceSharesCard : Claim7 := { stood := { row := spaceSharesRow, standIns := [], harness := (true, "63adaa1361e36894261470fd836af29223556a11c1f532a6b8c13d9e43a4cb27"), looks := false }, kinds := [], alts := [], laidByText := true, laidKinds := [.data], laidTests := true, laidLooks := .later }
def SpaceSharesCardSaid : Prop := Claim7.holds Tryd.pinned (.plain (OpenSpec.ofChange spaceSharesSpec)) spaceSharesCard

/-- THE TIED CARD OF 'overdublaw13.SpaceKeeps'. -/
def spaceKeepsCard : Claim7 := { stood := { row := spaceKeepsRow, standIns := [], harness := (true, "63adaa1361e36894261470fd836af29223556a11c1f532a6b8c13d9e43a4cb27"), looks := false }, kinds := [], alts := [], laidByText := true, laidKinds := [.data], laidTests := true, laidLooks := .later }
def SpaceKeepsCardSaid : Prop := Claim7.holds Tryd.pinned (.plain (OpenSpec.ofChange spaceKeepsSpec)) spaceKeepsCard

/-- THE TIED CARD OF 'overdublaw13.SpacePlays'. -/
def spacePlaysCard : Claim7 := { stood := { row := spacePlaysRow, standIns := [], harness := (true, "63adaa1361e36894261470fd836af29223556a11c1f532a6b8c13d9e43a4cb27"), looks := false }, kinds := [], alts := [], laidByText := true, laidKinds := [.data], laidTests := true, laidLooks := .later }
def SpacePlaysCardSaid : Prop := Claim7.holds Tryd.pinned (.plain (OpenSpec.ofChange spacePlaysSpec)) spacePlaysCard

/-- THE TIED CARD OF 'overdublaw13.SpaceWaits'. -/
def spaceWaitsCard : Claim7 := { stood := { row := spaceWaitsRow, standIns := [], harness := (true, "63adaa1361e36894261470fd836af29223556a11c1f532a6b8c13d9e43a4cb27"), looks := false }, kinds := [], alts := [], laidByText := true, laidKinds := [.data], laidTests := true, laidLooks := .later }
def SpaceWaitsCardSaid : Prop := Claim7.holds Tryd.pinned (.plain (OpenSpec.ofChange spaceWaitsSpec)) spaceWaitsCard

/-- THE TIED CARD OF 'overdublaw13.SpaceOrder'. -/
def spaceOrderCard : Claim7 := { stood := { row := spaceOrderRow, standIns := [], harness := (true, "63adaa1361e36894261470fd836af29223556a11c1f532a6b8c13d9e43a4cb27"), looks := false }, kinds := [], alts := [], laidByText := true, laidKinds := [.data], laidTests := true, laidLooks := .later }
def SpaceOrderCardSaid : Prop := Claim7.holds Tryd.pinned (.plain (OpenSpec.ofChange spaceOrderSpec)) spaceOrderCard

/-- THE SECOND FORM's CARD OF 'overdublaw13.SpaceShares'. -/
def spaceSharesUptoCard : Claim7 := { stood := { row := spaceSharesUptoRow, standIns := [], harness := (true, "63adaa1361e36894261470fd836af29223556a11c1f532a6b8c13d9e43a4cb27"), looks := false }, kinds := [], alts := [], laidByText := true, laidKinds := [.data], laidTests := true, laidLooks := .later }
def SpaceSharesUptoCardSaid : Prop := Claim7.holds Tryd.pinned (.plain (OpenSpec.upto spaceSharesSpec)) spaceSharesUptoCard

/-- THE SECOND FORM's CARD OF 'overdublaw13.SpaceKeeps'. -/
def spaceKeepsUptoCard : Claim7 := { stood := { row := spaceKeepsUptoRow, standIns := [], harness := (true, "63adaa1361e36894261470fd836af29223556a11c1f532a6b8c13d9e43a4cb27"), looks := false }, kinds := [], alts := [], laidByText := true, laidKinds := [.data], laidTests := true, laidLooks := .later }
def SpaceKeepsUptoCardSaid : Prop := Claim7.holds Tryd.pinned (.plain (OpenSpec.upto spaceKeepsSpec)) spaceKeepsUptoCard

/-- THE SECOND FORM's CARD OF 'overdublaw13.SpacePlays'. -/
def spacePlaysUptoCard : Claim7 := { stood := { row := spacePlaysUptoRow, standIns := [], harness := (true, "63adaa1361e36894261470fd836af29223556a11c1f532a6b8c13d9e43a4cb27"), looks := false }, kinds := [], alts := [], laidByText := true, laidKinds := [.data], laidTests := true, laidLooks := .later }
def SpacePlaysUptoCardSaid : Prop := Claim7.holds Tryd.pinned (.plain (OpenSpec.upto spacePlaysSpec)) spacePlaysUptoCard

/-- THE SECOND FORM's CARD OF 'overdublaw13.SpaceWaits'. -/
def spaceWaitsUptoCard : Claim7 := { stood := { row := spaceWaitsUptoRow, standIns := [], harness := (true, "63adaa1361e36894261470fd836af29223556a11c1f532a6b8c13d9e43a4cb27"), looks := false }, kinds := [], alts := [], laidByText := true, laidKinds := [.data], laidTests := true, laidLooks := .later }
def SpaceWaitsUptoCardSaid : Prop := Claim7.holds Tryd.pinned (.plain (OpenSpec.upto spaceWaitsSpec)) spaceWaitsUptoCard

/-- THE SECOND FORM's CARD OF 'overdublaw13.SpaceOrder'. -/
def spaceOrderUptoCard : Claim7 := { stood := { row := spaceOrderUptoRow, standIns := [], harness := (true, "63adaa1361e36894261470fd836af29223556a11c1f532a6b8c13d9e43a4cb27"), looks := false }, kinds := [], alts := [], laidByText := true, laidKinds := [.data], laidTests := true, laidLooks := .later }
def SpaceOrderUptoCardSaid : Prop := Claim7.holds Tryd.pinned (.plain (OpenSpec.upto spaceOrderSpec)) spaceOrderUptoCard
end Rows
end Go.Proofs.YthfeecgpgempdaaDoor
