/-
  DERIVED. GIVEN WITH THE SEED: THE CARDS: each row of YtboibllahibicabDoorRows.lean that lists a variable, with what it lists TIED to the program's text (the seventh form; the later family's looks); each row that meets fmt, with fmt's text TOLD by the authors' own Lean function (tested against real Go, not proved from fmt's source: count such statements apart). THE CARD IS WHAT COUNTS. Prove the row's statement (the work); the ties are given (YtboibllahibicabDoorTie.lean); close each card by the builder's one call (the guide's Derived/Test/ToyasCard.lean, 'card_holds'). Laid BY PROGRAM, IN A SANDBOX (cutbox-door.mjs). By AI agents, Wed Nov 11 2026. No macro, syntax, notation, axiom, sorry.
-/
import Derived.Test.YtboibllahibicabDoorRows
import GoSem.ClaimSeven
namespace Go.Proofs.YtboibllahibicabDoor
namespace Rows

/-- THE TIED CARD OF 'hayloftlaw02.ValueBack'. -/
def valueBackCard : Claim7 := { stood := { row := valueBackRow, standIns := [], harness := (true, "c74a1ac8ede60e2663e79f00862d8f91173da4bb72a24dcd6fd7e17c9b065301"), looks := true }, kinds := [], alts := [], laidByText := true, laidKinds := [.data, .data, .data, .sentinel, .sentinel], laidTests := true, laidLooks := .later }
def ValueBackCardSaid : Prop := Claim7.holds Tryd.pinned (.plain (OpenSpec.ofChange valueBackSpec)) valueBackCard

/-- THE TIED CARD OF 'hayloftlaw02.ValueRowOrder'. -/
def valueRowOrderCard : Claim7 := { stood := { row := valueRowOrderRow, standIns := [], harness := (true, "c74a1ac8ede60e2663e79f00862d8f91173da4bb72a24dcd6fd7e17c9b065301"), looks := true }, kinds := [], alts := [], laidByText := true, laidKinds := [.data, .data, .data], laidTests := true, laidLooks := .later }
def ValueRowOrderCardSaid : Prop := Claim7.holds Tryd.pinned (.plain (OpenSpec.ofChange valueRowOrderSpec)) valueRowOrderCard

/-- THE TIED CARD OF 'hayloftlaw02.ValueFitsAll'. -/
def valueFitsAllCard : Claim7 := { stood := { row := valueFitsAllRow, standIns := [], harness := (true, "c74a1ac8ede60e2663e79f00862d8f91173da4bb72a24dcd6fd7e17c9b065301"), looks := true }, kinds := [], alts := [], laidByText := true, laidKinds := [.data, .data, .data], laidTests := true, laidLooks := .later }
def ValueFitsAllCardSaid : Prop := Claim7.holds Tryd.pinned (.plain (OpenSpec.ofChange valueFitsAllSpec)) valueFitsAllCard

/-- THE SECOND FORM's CARD OF 'hayloftlaw02.ValueBack'. -/
def valueBackUptoCard : Claim7 := { stood := { row := valueBackUptoRow, standIns := [], harness := (true, "c74a1ac8ede60e2663e79f00862d8f91173da4bb72a24dcd6fd7e17c9b065301"), looks := true }, kinds := [], alts := [], laidByText := true, laidKinds := [.data, .data, .data, .sentinel, .sentinel], laidTests := true, laidLooks := .later }
def ValueBackUptoCardSaid : Prop := Claim7.holds Tryd.pinned (.plain (OpenSpec.upto valueBackSpec)) valueBackUptoCard

/-- THE SECOND FORM's CARD OF 'hayloftlaw02.ValueRowOrder'. -/
def valueRowOrderUptoCard : Claim7 := { stood := { row := valueRowOrderUptoRow, standIns := [], harness := (true, "c74a1ac8ede60e2663e79f00862d8f91173da4bb72a24dcd6fd7e17c9b065301"), looks := true }, kinds := [], alts := [], laidByText := true, laidKinds := [.data, .data, .data], laidTests := true, laidLooks := .later }
def ValueRowOrderUptoCardSaid : Prop := Claim7.holds Tryd.pinned (.plain (OpenSpec.upto valueRowOrderSpec)) valueRowOrderUptoCard

/-- THE SECOND FORM's CARD OF 'hayloftlaw02.ValueFitsAll'. -/
def valueFitsAllUptoCard : Claim7 := { stood := { row := valueFitsAllUptoRow, standIns := [], harness := (true, "c74a1ac8ede60e2663e79f00862d8f91173da4bb72a24dcd6fd7e17c9b065301"), looks := true }, kinds := [], alts := [], laidByText := true, laidKinds := [.data, .data, .data], laidTests := true, laidLooks := .later }
def ValueFitsAllUptoCardSaid : Prop := Claim7.holds Tryd.pinned (.plain (OpenSpec.upto valueFitsAllSpec)) valueFitsAllUptoCard
end Rows
end Go.Proofs.YtboibllahibicabDoor
