/-
  DERIVED. GIVEN WITH THE SEED: THE CARDS: each row of YtfolkjjhlcjfgaaDoorRows.lean that lists a variable, with what it lists TIED to the program's text (the seventh form; the later family's looks); each row that meets fmt, with fmt's text TOLD by the authors' own Lean function (tested against real Go, not proved from fmt's source: count such statements apart). THE CARD IS WHAT COUNTS. Prove the row's statement (the work); the ties are given (YtfolkjjhlcjfgaaDoorTie.lean); close each card by the builder's one call (the guide's Derived/Test/ToyasCard.lean, 'card_holds'). Laid BY PROGRAM, IN A SANDBOX (cutbox-door.mjs). By AI agents, Wed Nov 11 2026. No macro, syntax, notation, axiom, sorry.
-/
import Derived.Test.YtfolkjjhlcjfgaaDoorRows
import GoSem.ClaimSeven
namespace Go.Proofs.YtfolkjjhlcjfgaaDoor
namespace Rows

/-- THE TIED CARD OF 'hayloftlaw15.ExecFilters'. -/
def execFiltersCard : Claim7 := { stood := { row := execFiltersRow, standIns := [], harness := (true, "48e01253d63d1d33cdac98b9151d70751f8dd2e0786c3b15a0788583b384d0ef"), looks := false }, kinds := [], alts := [], laidByText := true, laidKinds := [.data], laidTests := true, laidLooks := .later }
def ExecFiltersCardSaid : Prop := Claim7.holds Tryd.pinned (.plain (OpenSpec.ofChange execFiltersSpec)) execFiltersCard

/-- THE SECOND FORM's CARD OF 'hayloftlaw15.ExecFilters'. -/
def execFiltersUptoCard : Claim7 := { stood := { row := execFiltersUptoRow, standIns := [], harness := (true, "48e01253d63d1d33cdac98b9151d70751f8dd2e0786c3b15a0788583b384d0ef"), looks := false }, kinds := [], alts := [], laidByText := true, laidKinds := [.data], laidTests := true, laidLooks := .later }
def ExecFiltersUptoCardSaid : Prop := Claim7.holds Tryd.pinned (.plain (OpenSpec.upto execFiltersSpec)) execFiltersUptoCard
end Rows
end Go.Proofs.YtfolkjjhlcjfgaaDoor
