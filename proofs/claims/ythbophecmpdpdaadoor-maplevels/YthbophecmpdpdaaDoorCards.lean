/-
  DERIVED. GIVEN WITH THE SEED: THE CARDS: each row of YthbophecmpdpdaaDoorRows.lean that lists a variable, with what it lists TIED to the program's text (the seventh form; the later family's looks); each row that meets fmt, with fmt's text TOLD by the authors' own Lean function (tested against real Go, not proved from fmt's source: count such statements apart). THE CARD IS WHAT COUNTS. Prove the row's statement (the work); the ties are given (YthbophecmpdpdaaDoorTie.lean); close each card by the builder's one call (the guide's Derived/Test/ToyasCard.lean, 'card_holds'). Laid BY PROGRAM, IN A SANDBOX (cutbox-door.mjs). By AI agents, Wed Nov 11 2026. No macro, syntax, notation, axiom, sorry.
-/
import Derived.Test.YthbophecmpdpdaaDoorRows
import GoSem.ClaimSeven
namespace Go.Proofs.YthbophecmpdpdaaDoor
namespace Rows

/-- THE TIED CARD OF 'overdublaw11.MapFills'. -/
def mapFillsCard : Claim7 := { stood := { row := mapFillsRow, standIns := [], harness := (true, "f831c8dfcfcb4e1fc8bfeb1bbcef74a40b195b4d97b4f434af2fa97e9546e771"), looks := false }, kinds := [], alts := [], laidByText := true, laidKinds := [.data], laidTests := true, laidLooks := .later }
def MapFillsCardSaid : Prop := Claim7.holds Tryd.pinned (.plain (OpenSpec.ofChange mapFillsSpec)) mapFillsCard

/-- THE TIED CARD OF 'overdublaw11.MapLevels'. -/
def mapLevelsCard : Claim7 := { stood := { row := mapLevelsRow, standIns := [], harness := (true, "f831c8dfcfcb4e1fc8bfeb1bbcef74a40b195b4d97b4f434af2fa97e9546e771"), looks := false }, kinds := [], alts := [], laidByText := true, laidKinds := [.data], laidTests := true, laidLooks := .later }
def MapLevelsCardSaid : Prop := Claim7.holds Tryd.pinned (.plain (OpenSpec.ofChange mapLevelsSpec)) mapLevelsCard

/-- THE TIED CARD OF 'overdublaw11.MapPlays'. -/
def mapPlaysCard : Claim7 := { stood := { row := mapPlaysRow, standIns := [], harness := (true, "f831c8dfcfcb4e1fc8bfeb1bbcef74a40b195b4d97b4f434af2fa97e9546e771"), looks := false }, kinds := [], alts := [], laidByText := true, laidKinds := [.data], laidTests := true, laidLooks := .later }
def MapPlaysCardSaid : Prop := Claim7.holds Tryd.pinned (.plain (OpenSpec.ofChange mapPlaysSpec)) mapPlaysCard

/-- THE TIED CARD OF 'overdublaw11.MapRuns'. -/
def mapRunsCard : Claim7 := { stood := { row := mapRunsRow, standIns := [], harness := (true, "f831c8dfcfcb4e1fc8bfeb1bbcef74a40b195b4d97b4f434af2fa97e9546e771"), looks := false }, kinds := [], alts := [], laidByText := true, laidKinds := [.data], laidTests := true, laidLooks := .later }
def MapRunsCardSaid : Prop := Claim7.holds Tryd.pinned (.plain (OpenSpec.ofChange mapRunsSpec)) mapRunsCard

/-- THE SECOND FORM's CARD OF 'overdublaw11.MapFills'. -/
def mapFillsUptoCard : Claim7 := { stood := { row := mapFillsUptoRow, standIns := [], harness := (true, "f831c8dfcfcb4e1fc8bfeb1bbcef74a40b195b4d97b4f434af2fa97e9546e771"), looks := false }, kinds := [], alts := [], laidByText := true, laidKinds := [.data], laidTests := true, laidLooks := .later }
def MapFillsUptoCardSaid : Prop := Claim7.holds Tryd.pinned (.plain (OpenSpec.upto mapFillsSpec)) mapFillsUptoCard

/-- THE SECOND FORM's CARD OF 'overdublaw11.MapLevels'. -/
def mapLevelsUptoCard : Claim7 := { stood := { row := mapLevelsUptoRow, standIns := [], harness := (true, "f831c8dfcfcb4e1fc8bfeb1bbcef74a40b195b4d97b4f434af2fa97e9546e771"), looks := false }, kinds := [], alts := [], laidByText := true, laidKinds := [.data], laidTests := true, laidLooks := .later }
def MapLevelsUptoCardSaid : Prop := Claim7.holds Tryd.pinned (.plain (OpenSpec.upto mapLevelsSpec)) mapLevelsUptoCard

/-- THE SECOND FORM's CARD OF 'overdublaw11.MapPlays'. -/
def mapPlaysUptoCard : Claim7 := { stood := { row := mapPlaysUptoRow, standIns := [], harness := (true, "f831c8dfcfcb4e1fc8bfeb1bbcef74a40b195b4d97b4f434af2fa97e9546e771"), looks := false }, kinds := [], alts := [], laidByText := true, laidKinds := [.data], laidTests := true, laidLooks := .later }
def MapPlaysUptoCardSaid : Prop := Claim7.holds Tryd.pinned (.plain (OpenSpec.upto mapPlaysSpec)) mapPlaysUptoCard

/-- THE SECOND FORM's CARD OF 'overdublaw11.MapRuns'. -/
def mapRunsUptoCard : Claim7 := { stood := { row := mapRunsUptoRow, standIns := [], harness := (true, "f831c8dfcfcb4e1fc8bfeb1bbcef74a40b195b4d97b4f434af2fa97e9546e771"), looks := false }, kinds := [], alts := [], laidByText := true, laidKinds := [.data], laidTests := true, laidLooks := .later }
def MapRunsUptoCardSaid : Prop := Claim7.holds Tryd.pinned (.plain (OpenSpec.upto mapRunsSpec)) mapRunsUptoCard
end Rows
end Go.Proofs.YthbophecmpdpdaaDoor
