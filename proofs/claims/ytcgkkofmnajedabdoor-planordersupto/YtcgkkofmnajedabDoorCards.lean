/-
  DERIVED. GIVEN WITH THE SEED: THE CARDS: each row of YtcgkkofmnajedabDoorRows.lean that lists a variable, with what it lists TIED to the program's text (the seventh form; the later family's looks); each row that meets fmt, with fmt's text TOLD by the authors' own Lean function (tested against real Go, not proved from fmt's source: count such statements apart). THE CARD IS WHAT COUNTS. Prove the row's statement (the work); the ties are given (YtcgkkofmnajedabDoorTie.lean); close each card by the builder's one call (the guide's Derived/Test/ToyasCard.lean, 'card_holds'). Laid BY PROGRAM, IN A SANDBOX (cutbox-door.mjs). By AI agents, Wed Nov 11 2026. No macro, syntax, notation, axiom, sorry.
-/
import Derived.Test.YtcgkkofmnajedabDoorRows
import GoSem.ClaimSeven
namespace Go.Proofs.YtcgkkofmnajedabDoor
namespace Rows

/-- THE TIED CARD OF 'hayloftlaw16.PlanOrders'. -/
def planOrdersCard : Claim7 := { stood := { row := planOrdersRow, standIns := [], harness := (true, "650dc5b321593bb5f7555714afebac563c8db4ff81c838bbfc559182875d9658"), looks := false }, kinds := [], alts := [], laidByText := true, laidKinds := [.data], laidTests := true, laidLooks := .later }
def PlanOrdersCardSaid : Prop := Claim7.holds Tryd.pinned (.plain (OpenSpec.ofChange planOrdersSpec)) planOrdersCard

/-- THE TIED CARD OF 'haylofttop.HayloftSums'. -/
def hayloftSumsCard : Claim7 := { stood := { row := hayloftSumsRow, standIns := [], harness := (true, "650dc5b321593bb5f7555714afebac563c8db4ff81c838bbfc559182875d9658"), looks := false }, kinds := [], alts := [], laidByText := true, laidKinds := [.data], laidTests := true, laidLooks := .later }
def HayloftSumsCardSaid : Prop := Claim7.holds Tryd.pinned (.plain (OpenSpec.ofChange hayloftSumsSpec)) hayloftSumsCard

/-- THE SECOND FORM's CARD OF 'hayloftlaw16.PlanOrders'. -/
def planOrdersUptoCard : Claim7 := { stood := { row := planOrdersUptoRow, standIns := [], harness := (true, "650dc5b321593bb5f7555714afebac563c8db4ff81c838bbfc559182875d9658"), looks := false }, kinds := [], alts := [], laidByText := true, laidKinds := [.data], laidTests := true, laidLooks := .later }
def PlanOrdersUptoCardSaid : Prop := Claim7.holds Tryd.pinned (.plain (OpenSpec.upto planOrdersSpec)) planOrdersUptoCard

/-- THE SECOND FORM's CARD OF 'haylofttop.HayloftSums'. -/
def hayloftSumsUptoCard : Claim7 := { stood := { row := hayloftSumsUptoRow, standIns := [], harness := (true, "650dc5b321593bb5f7555714afebac563c8db4ff81c838bbfc559182875d9658"), looks := false }, kinds := [], alts := [], laidByText := true, laidKinds := [.data], laidTests := true, laidLooks := .later }
def HayloftSumsUptoCardSaid : Prop := Claim7.holds Tryd.pinned (.plain (OpenSpec.upto hayloftSumsSpec)) hayloftSumsUptoCard
end Rows
end Go.Proofs.YtcgkkofmnajedabDoor
