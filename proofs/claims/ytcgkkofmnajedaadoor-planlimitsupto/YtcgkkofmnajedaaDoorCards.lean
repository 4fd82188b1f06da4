/-
  DERIVED. GIVEN WITH THE SEED: THE CARDS: each row of YtcgkkofmnajedaaDoorRows.lean that lists a variable, with what it lists TIED to the program's text (the seventh form; the later family's looks); each row that meets fmt, with fmt's text TOLD by the authors' own Lean function (tested against real Go, not proved from fmt's source: count such statements apart). THE CARD IS WHAT COUNTS. Prove the row's statement (the work); the ties are given (YtcgkkofmnajedaaDoorTie.lean); close each card by the builder's one call (the guide's Derived/Test/ToyasCard.lean, 'card_holds'). Laid BY PROGRAM, IN A SANDBOX (cutbox-door.mjs). By AI agents, Wed Nov 11 2026. No macro, syntax, notation, axiom, sorry.
-/
import Derived.Test.YtcgkkofmnajedaaDoorRows
import GoSem.ClaimSeven
namespace Go.Proofs.YtcgkkofmnajedaaDoor
namespace Rows

/-- THE TIED CARD OF 'hayloftlaw16.PlanLimits'. -/
def planLimitsCard : Claim7 := { stood := { row := planLimitsRow, standIns := [], harness := (true, "e24cf371f0ae9aff398ffdcad1823bd24e00f4edc59f795a60f77c6b387a77d3"), looks := false }, kinds := [], alts := [], laidByText := true, laidKinds := [.data], laidTests := true, laidLooks := .later }
def PlanLimitsCardSaid : Prop := Claim7.holds Tryd.pinned (.plain (OpenSpec.ofChange planLimitsSpec)) planLimitsCard

/-- THE SECOND FORM's CARD OF 'hayloftlaw16.PlanLimits'. -/
def planLimitsUptoCard : Claim7 := { stood := { row := planLimitsUptoRow, standIns := [], harness := (true, "e24cf371f0ae9aff398ffdcad1823bd24e00f4edc59f795a60f77c6b387a77d3"), looks := false }, kinds := [], alts := [], laidByText := true, laidKinds := [.data], laidTests := true, laidLooks := .later }
def PlanLimitsUptoCardSaid : Prop := Claim7.holds Tryd.pinned (.plain (OpenSpec.upto planLimitsSpec)) planLimitsUptoCard
end Rows
end Go.Proofs.YtcgkkofmnajedaaDoor
