/-
  DERIVED. GIVEN WITH THE SEED: THE CARDS: each row of YtpbogplmkenegabDoorRows.lean that lists a variable, with what it lists TIED to the program's text (the seventh form; the later family's looks); each row that meets fmt, with fmt's text TOLD by the authors' own Lean function (tested against real Go, not proved from fmt's source: count such statements apart). THE CARD IS WHAT COUNTS. Prove the row's statement (the work); the ties are given (YtpbogplmkenegabDoorTie.lean); close each card by the builder's one call (the guide's Derived/Test/ToyasCard.lean, 'card_holds'). Laid BY PROGRAM, IN A SANDBOX (cutbox-door.mjs). By AI agents, Wed Nov 11 2026. No macro, syntax, notation, axiom, sorry.
-/
import Derived.Test.YtpbogplmkenegabDoorRows
import GoSem.ClaimSeven
namespace Go.Proofs.YtpbogplmkenegabDoor
namespace Rows

/-- THE TIED CARD OF 'hayloftlaw09.RedoBatches'. -/
def redoBatchesCard : Claim7 := { stood := { row := redoBatchesRow, standIns := [], harness := (true, "fc9ec50569fd3e40c5596bc8f3528c10d050fa6deedeca04c0c0ec3afefeb9db"), looks := false }, kinds := [], alts := [], laidByText := true, laidKinds := [.data], laidTests := true, laidLooks := .later }
def RedoBatchesCardSaid : Prop := Claim7.holds Tryd.pinned (.plain (OpenSpec.ofChange redoBatchesSpec)) redoBatchesCard

/-- THE SECOND FORM's CARD OF 'hayloftlaw09.RedoBatches'. -/
def redoBatchesUptoCard : Claim7 := { stood := { row := redoBatchesUptoRow, standIns := [], harness := (true, "fc9ec50569fd3e40c5596bc8f3528c10d050fa6deedeca04c0c0ec3afefeb9db"), looks := false }, kinds := [], alts := [], laidByText := true, laidKinds := [.data], laidTests := true, laidLooks := .later }
def RedoBatchesUptoCardSaid : Prop := Claim7.holds Tryd.pinned (.plain (OpenSpec.upto redoBatchesSpec)) redoBatchesUptoCard
end Rows
end Go.Proofs.YtpbogplmkenegabDoor
