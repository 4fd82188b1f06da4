/-
  DERIVED. GIVEN WITH THE SEED: THE CARDS: each row of YtlgfekjoknbfdaaGreatDoorRows.lean that lists a variable, with what it lists TIED to the program's text (the seventh form; the later family's looks); each row that meets fmt, with fmt's text TOLD by the authors' own Lean function (tested against real Go, not proved from fmt's source: count such statements apart). THE CARD IS WHAT COUNTS. Prove the row's statement (the work); the ties are given (YtlgfekjoknbfdaaGreatDoorTie.lean); close each card by the builder's one call (the guide's Derived/Test/ToyasCard.lean, 'card_holds'). Laid BY PROGRAM, IN A SANDBOX (cutbox-door.mjs). By AI agents, Wed Nov 11 2026. No macro, syntax, notation, axiom, sorry.
-/
import Derived.Test.YtlgfekjoknbfdaaGreatDoorRows
import GoSem.ClaimSeven
namespace Go.Proofs.YtlgfekjoknbfdaaGreatDoor
namespace Rows

/-- THE TIED CARD OF 'hayloftlaw16.PlanChecks'. -/
def planChecksCard : Claim7 := { stood := { row := planChecksRow, standIns := [], harness := (true, "eb20f7a0c2afdd06c3980ea0a7903e6ac6661c94b65a7969a6e3b56f7bae0c41"), looks := false }, kinds := [], alts := [], laidByText := true, laidKinds := [.data], laidTests := true, laidLooks := .later }
def PlanChecksCardSaid : Prop := Claim7.holds Tryz.pinned (.plain (OpenSpec.ofChange planChecksSpec)) planChecksCard

/-- THE TIED CARD OF 'hayloftlaw16.PlanChooses'. -/
def planChoosesCard : Claim7 := { stood := { row := planChoosesRow, standIns := [], harness := (true, "eb20f7a0c2afdd06c3980ea0a7903e6ac6661c94b65a7969a6e3b56f7bae0c41"), looks := false }, kinds := [], alts := [], laidByText := true, laidKinds := [.data], laidTests := true, laidLooks := .later }
def PlanChoosesCardSaid : Prop := Claim7.holds Tryz.pinned (.plain (OpenSpec.ofChange planChoosesSpec)) planChoosesCard

/-- THE TIED CARD OF 'hayloftlaw16.PlanFull'. -/
def planFullCard : Claim7 := { stood := { row := planFullRow, standIns := [], harness := (true, "eb20f7a0c2afdd06c3980ea0a7903e6ac6661c94b65a7969a6e3b56f7bae0c41"), looks := false }, kinds := [], alts := [], laidByText := true, laidKinds := [.data], laidTests := true, laidLooks := .later }
def PlanFullCardSaid : Prop := Claim7.holds Tryz.pinned (.plain (OpenSpec.ofChange planFullSpec)) planFullCard

/-- THE TIED CARD OF 'hayloftlaw16.PlanAnswers'. -/
def planAnswersCard : Claim7 := { stood := { row := planAnswersRow, standIns := [], harness := (true, "eb20f7a0c2afdd06c3980ea0a7903e6ac6661c94b65a7969a6e3b56f7bae0c41"), looks := false }, kinds := [], alts := [], laidByText := true, laidKinds := [.data], laidTests := true, laidLooks := .later }
def PlanAnswersCardSaid : Prop := Claim7.holds Tryz.pinned (.plain (OpenSpec.ofChange planAnswersSpec)) planAnswersCard

/-- THE TIED CARD OF 'hayloftlaw16.PlanWays'. -/
def planWaysCard : Claim7 := { stood := { row := planWaysRow, standIns := [], harness := (true, "eb20f7a0c2afdd06c3980ea0a7903e6ac6661c94b65a7969a6e3b56f7bae0c41"), looks := false }, kinds := [], alts := [], laidByText := true, laidKinds := [.data], laidTests := true, laidLooks := .later }
def PlanWaysCardSaid : Prop := Claim7.holds Tryz.pinned (.plain (OpenSpec.ofChange planWaysSpec)) planWaysCard

/-- THE SECOND FORM's CARD OF 'hayloftlaw16.PlanChecks'. -/
def planChecksUptoCard : Claim7 := { stood := { row := planChecksUptoRow, standIns := [], harness := (true, "eb20f7a0c2afdd06c3980ea0a7903e6ac6661c94b65a7969a6e3b56f7bae0c41"), looks := false }, kinds := [], alts := [], laidByText := true, laidKinds := [.data], laidTests := true, laidLooks := .later }
def PlanChecksUptoCardSaid : Prop := Claim7.holds Tryz.pinned (.plain (OpenSpec.upto planChecksSpec)) planChecksUptoCard

/-- THE SECOND FORM's CARD OF 'hayloftlaw16.PlanChooses'. -/
def planChoosesUptoCard : Claim7 := { stood := { row := planChoosesUptoRow, standIns := [], harness := (true, "eb20f7a0c2afdd06c3980ea0a7903e6ac6661c94b65a7969a6e3b56f7bae0c41"), looks := false }, kinds := [], alts := [], laidByText := true, laidKinds := [.data], laidTests := true, laidLooks := .later }
def PlanChoosesUptoCardSaid : Prop := Claim7.holds Tryz.pinned (.plain (OpenSpec.upto planChoosesSpec)) planChoosesUptoCard

/-- THE SECOND FORM's CARD OF 'hayloftlaw16.PlanFull'. -/
def planFullUptoCard : Claim7 := { stood := { row := planFullUptoRow, standIns := [], harness := (true, "eb20f7a0c2afdd06c3980ea0a7903e6ac6661c94b65a7969a6e3b56f7bae0c41"), looks := false }, kinds := [], alts := [], laidByText := true, laidKinds := [.data], laidTests := true, laidLooks := .later }
def PlanFullUptoCardSaid : Prop := Claim7.holds Tryz.pinned (.plain (OpenSpec.upto planFullSpec)) planFullUptoCard

/-- THE SECOND FORM's CARD OF 'hayloftlaw16.PlanAnswers'. -/
def planAnswersUptoCard : Claim7 := { stood := { row := planAnswersUptoRow, standIns := [], harness := (true, "eb20f7a0c2afdd06c3980ea0a7903e6ac6661c94b65a7969a6e3b56f7bae0c41"), looks := false }, kinds := [], alts := [], laidByText := true, laidKinds := [.data], laidTests := true, laidLooks := .later }
def PlanAnswersUptoCardSaid : Prop := Claim7.holds Tryz.pinned (.plain (OpenSpec.upto planAnswersSpec)) planAnswersUptoCard

/-- THE SECOND FORM's CARD OF 'hayloftlaw16.PlanWays'. -/
def planWaysUptoCard : Claim7 := { stood := { row := planWaysUptoRow, standIns := [], harness := (true, "eb20f7a0c2afdd06c3980ea0a7903e6ac6661c94b65a7969a6e3b56f7bae0c41"), looks := false }, kinds := [], alts := [], laidByText := true, laidKinds := [.data], laidTests := true, laidLooks := .later }
def PlanWaysUptoCardSaid : Prop := Claim7.holds Tryz.pinned (.plain (OpenSpec.upto planWaysSpec)) planWaysUptoCard
end Rows
end Go.Proofs.YtlgfekjoknbfdaaGreatDoor
