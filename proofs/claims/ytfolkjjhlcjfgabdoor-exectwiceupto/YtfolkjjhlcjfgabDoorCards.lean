/-
  DERIVED. GIVEN WITH THE SEED: THE CARDS: each row of YtfolkjjhlcjfgabDoorRows.lean that lists a variable, with what it lists TIED to the program's text (the seventh form; the later family's looks); each row that meets fmt, with fmt's text TOLD by the authors' own Lean function (tested against real Go, not proved from fmt's source: count such statements apart). THE CARD IS WHAT COUNTS. Prove the row's statement (the work); the ties are given (YtfolkjjhlcjfgabDoorTie.lean); close each card by the builder's one call (the guide's Derived/Test/ToyasCard.lean, 'card_holds'). Laid BY PROGRAM, IN A SANDBOX (cutbox-door.mjs). By AI agents, Wed Nov 11 2026. No macro, syntax, notation, axiom, sorry.
-/
import Derived.Test.YtfolkjjhlcjfgabDoorRows
import GoSem.ClaimSeven
namespace Go.Proofs.YtfolkjjhlcjfgabDoor
namespace Rows

/-- THE TIED CARD OF 'hayloftlaw15.ExecTwice'. -/
def execTwiceCard : Claim7 := { stood := { row := execTwiceRow, standIns := [], harness := (true, "88a9b06e548ca94c20f3c8d60d76515d2f4dd5bbe537447ed7c55d4d8f1dd2a3"), looks := false }, kinds := [], alts := [], laidByText := true, laidKinds := [.data], laidTests := true, laidLooks := .later }
def ExecTwiceCardSaid : Prop := Claim7.holds Tryd.pinned (.plain (OpenSpec.ofChange execTwiceSpec)) execTwiceCard

/-- THE SECOND FORM's CARD OF 'hayloftlaw15.ExecTwice'. -/
def execTwiceUptoCard : Claim7 := { stood := { row := execTwiceUptoRow, standIns := [], harness := (true, "88a9b06e548ca94c20f3c8d60d76515d2f4dd5bbe537447ed7c55d4d8f1dd2a3"), looks := false }, kinds := [], alts := [], laidByText := true, laidKinds := [.data], laidTests := true, laidLooks := .later }
def ExecTwiceUptoCardSaid : Prop := Claim7.holds Tryd.pinned (.plain (OpenSpec.upto execTwiceSpec)) execTwiceUptoCard
end Rows
end Go.Proofs.YtfolkjjhlcjfgabDoor
