/-
  DERIVED. GIVEN WITH THE SEED: THE CARDS: each row of YtpkoikennimonaaGreatDoorRows.lean that lists a variable, with what it lists TIED to the program's text (the seventh form; the later family's looks); each row that meets fmt, with fmt's text TOLD by the authors' own Lean function (tested against real Go, not proved from fmt's source: count such statements apart). THE CARD IS WHAT COUNTS. Prove the row's statement (the work); the ties are given (YtpkoikennimonaaGreatDoorTie.lean); close each card by the builder's one call (the guide's Derived/Test/ToyasCard.lean, 'card_holds'). Laid BY PROGRAM, IN A SANDBOX (cutbox-door.mjs). By AI agents, Wed Nov 11 2026. No macro, syntax, notation, axiom, sorry.
-/
import Derived.Test.YtpkoikennimonaaGreatDoorRows
import GoSem.ClaimSeven
namespace Go.Proofs.YtpkoikennimonaaGreatDoor
namespace Rows

/-- THE TIED CARD OF 'hayloftlaw09.RedoAll'. -/
def redoAllCard : Claim7 := { stood := { row := redoAllRow, standIns := [], harness := (true, "516b13a282c8b7a88d2f1cf47144db1a66c898e04a03531fc1cfd895114b65e6"), looks := false }, kinds := [], alts := [], laidByText := true, laidKinds := [.data], laidTests := true, laidLooks := .later }
def RedoAllCardSaid : Prop := Claim7.holds Tryz.pinned (.plain (OpenSpec.ofChange redoAllSpec)) redoAllCard

/-- THE TIED CARD OF 'hayloftlaw09.RedoRefused'. -/
def redoRefusedCard : Claim7 := { stood := { row := redoRefusedRow, standIns := [], harness := (true, "516b13a282c8b7a88d2f1cf47144db1a66c898e04a03531fc1cfd895114b65e6"), looks := false }, kinds := [], alts := [], laidByText := true, laidKinds := [.data], laidTests := true, laidLooks := .later }
def RedoRefusedCardSaid : Prop := Claim7.holds Tryz.pinned (.plain (OpenSpec.ofChange redoRefusedSpec)) redoRefusedCard

/-- THE SECOND FORM's CARD OF 'hayloftlaw09.RedoAll'. -/
def redoAllUptoCard : Claim7 := { stood := { row := redoAllUptoRow, standIns := [], harness := (true, "516b13a282c8b7a88d2f1cf47144db1a66c898e04a03531fc1cfd895114b65e6"), looks := false }, kinds := [], alts := [], laidByText := true, laidKinds := [.data], laidTests := true, laidLooks := .later }
def RedoAllUptoCardSaid : Prop := Claim7.holds Tryz.pinned (.plain (OpenSpec.upto redoAllSpec)) redoAllUptoCard

/-- THE SECOND FORM's CARD OF 'hayloftlaw09.RedoRefused'. -/
def redoRefusedUptoCard : Claim7 := { stood := { row := redoRefusedUptoRow, standIns := [], harness := (true, "516b13a282c8b7a88d2f1cf47144db1a66c898e04a03531fc1cfd895114b65e6"), looks := false }, kinds := [], alts := [], laidByText := true, laidKinds := [.data], laidTests := true, laidLooks := .later }
def RedoRefusedUptoCardSaid : Prop := Claim7.holds Tryz.pinned (.plain (OpenSpec.upto redoRefusedSpec)) redoRefusedUptoCard
end Rows
end Go.Proofs.YtpkoikennimonaaGreatDoor
