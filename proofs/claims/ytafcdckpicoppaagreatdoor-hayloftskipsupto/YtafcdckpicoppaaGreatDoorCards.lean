/-
  DERIVED. GIVEN WITH THE SEED: THE CARDS: each row of YtafcdckpicoppaaGreatDoorRows.lean that lists a variable, with what it lists TIED to the program's text (the seventh form; the later family's looks); each row that meets fmt, with fmt's text TOLD by the authors' own Lean function (tested against real Go, not proved from fmt's source: count such statements apart). THE CARD IS WHAT COUNTS. Prove the row's statement (the work); the ties are given (YtafcdckpicoppaaGreatDoorTie.lean); close each card by the builder's one call (the guide's Derived/Test/ToyasCard.lean, 'card_holds'). Laid BY PROGRAM, IN A SANDBOX (cutbox-door.mjs). By AI agents, Wed Nov 11 2026. No macro, syntax, notation, axiom, sorry.
-/
import Derived.Test.YtafcdckpicoppaaGreatDoorRows
import GoSem.ClaimSeven
namespace Go.Proofs.YtafcdckpicoppaaGreatDoor
namespace Rows

/-- THE TIED CARD OF 'haylofttop.HayloftSkips'. -/
def hayloftSkipsCard : Claim7 := { stood := { row := hayloftSkipsRow, standIns := [], harness := (true, "729d9503396de6d72ffd1e010f793ee2d8d499bb86abddff01371e41ec453740"), looks := false }, kinds := [], alts := [], laidByText := true, laidKinds := [.data, .data], laidTests := true, laidLooks := .later }
def HayloftSkipsCardSaid : Prop := Claim7.holds Tryz.pinned (.plain (OpenSpec.ofChange hayloftSkipsSpec)) hayloftSkipsCard

/-- THE SECOND FORM's CARD OF 'haylofttop.HayloftSkips'. -/
def hayloftSkipsUptoCard : Claim7 := { stood := { row := hayloftSkipsUptoRow, standIns := [], harness := (true, "729d9503396de6d72ffd1e010f793ee2d8d499bb86abddff01371e41ec453740"), looks := false }, kinds := [], alts := [], laidByText := true, laidKinds := [.data, .data], laidTests := true, laidLooks := .later }
def HayloftSkipsUptoCardSaid : Prop := Claim7.holds Tryz.pinned (.plain (OpenSpec.upto hayloftSkipsSpec)) hayloftSkipsUptoCard
end Rows
end Go.Proofs.YtafcdckpicoppaaGreatDoor
