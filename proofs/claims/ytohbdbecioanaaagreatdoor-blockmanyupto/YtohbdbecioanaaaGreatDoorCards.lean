/-
  DERIVED. GIVEN WITH THE SEED: THE CARDS: each row of YtohbdbecioanaaaGreatDoorRows.lean that lists a variable, with what it lists TIED to the program's text (the seventh form; the later family's looks); each row that meets fmt, with fmt's text TOLD by the authors' own Lean function (tested against real Go, not proved from fmt's source: count such statements apart). THE CARD IS WHAT COUNTS. Prove the row's statement (the work); the ties are given (YtohbdbecioanaaaGreatDoorTie.lean); close each card by the builder's one call (the guide's Derived/Test/ToyasCard.lean, 'card_holds'). Laid BY PROGRAM, IN A SANDBOX (cutbox-door.mjs). By AI agents, Wed Nov 11 2026. No macro, syntax, notation, axiom, sorry.
-/
import Derived.Test.YtohbdbecioanaaaGreatDoorRows
import GoSem.ClaimSeven
namespace Go.Proofs.YtohbdbecioanaaaGreatDoor
namespace Rows

/-- THE TIED CARD OF 'hayloftlaw07.BlockAll'. -/
def blockAllCard : Claim7 := { stood := { row := blockAllRow, standIns := [], harness := (true, "0945e5b865dc6ace0ab5ddb1f475c116c2493b603581a55ca1d7aea5dd772194"), looks := false }, kinds := [], alts := [], laidByText := true, laidKinds := [.data], laidTests := true, laidLooks := .later }
def BlockAllCardSaid : Prop := Claim7.holds Tryz.pinned (.plain (OpenSpec.ofChange blockAllSpec)) blockAllCard

/-- THE TIED CARD OF 'hayloftlaw07.BlockMany'. -/
def blockManyCard : Claim7 := { stood := { row := blockManyRow, standIns := [], harness := (true, "0945e5b865dc6ace0ab5ddb1f475c116c2493b603581a55ca1d7aea5dd772194"), looks := false }, kinds := [], alts := [], laidByText := true, laidKinds := [.data], laidTests := true, laidLooks := .later }
def BlockManyCardSaid : Prop := Claim7.holds Tryz.pinned (.plain (OpenSpec.ofChange blockManySpec)) blockManyCard

/-- THE SECOND FORM's CARD OF 'hayloftlaw07.BlockAll'. -/
def blockAllUptoCard : Claim7 := { stood := { row := blockAllUptoRow, standIns := [], harness := (true, "0945e5b865dc6ace0ab5ddb1f475c116c2493b603581a55ca1d7aea5dd772194"), looks := false }, kinds := [], alts := [], laidByText := true, laidKinds := [.data], laidTests := true, laidLooks := .later }
def BlockAllUptoCardSaid : Prop := Claim7.holds Tryz.pinned (.plain (OpenSpec.upto blockAllSpec)) blockAllUptoCard

/-- THE SECOND FORM's CARD OF 'hayloftlaw07.BlockMany'. -/
def blockManyUptoCard : Claim7 := { stood := { row := blockManyUptoRow, standIns := [], harness := (true, "0945e5b865dc6ace0ab5ddb1f475c116c2493b603581a55ca1d7aea5dd772194"), looks := false }, kinds := [], alts := [], laidByText := true, laidKinds := [.data], laidTests := true, laidLooks := .later }
def BlockManyUptoCardSaid : Prop := Claim7.holds Tryz.pinned (.plain (OpenSpec.upto blockManySpec)) blockManyUptoCard
end Rows
end Go.Proofs.YtohbdbecioanaaaGreatDoor
