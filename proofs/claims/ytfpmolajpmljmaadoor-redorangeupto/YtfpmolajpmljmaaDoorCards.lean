/-
  DERIVED. GIVEN WITH THE SEED: THE CARDS: each row of YtfpmolajpmljmaaDoorRows.lean that lists a variable, with what it lists TIED to the program's text (the seventh form; the later family's looks); each row that meets fmt, with fmt's text TOLD by the authors' own Lean function (tested against real Go, not proved from fmt's source: count such statements apart). THE CARD IS WHAT COUNTS. Prove the row's statement (the work); the ties are given (YtfpmolajpmljmaaDoorTie.lean); close each card by the builder's one call (the guide's Derived/Test/ToyasCard.lean, 'card_holds'). Laid BY PROGRAM, IN A SANDBOX (cutbox-door.mjs). By AI agents, Wed Nov 11 2026. No macro, syntax, notation, axiom, sorry.
-/
import Derived.Test.YtfpmolajpmljmaaDoorRows
import GoSem.ClaimSeven
namespace Go.Proofs.YtfpmolajpmljmaaDoor
namespace Rows

/-- THE TIED CARD OF 'hayloftlaw09.RedoReads'. -/
def redoReadsCard : Claim7 := { stood := { row := redoReadsRow, standIns := [], harness := (true, "5ff9dadc4158eec078176b23105bfe7c10a7868d5d9f40b919ff08c4502568a2"), looks := false }, kinds := [], alts := [], laidByText := true, laidKinds := [.data], laidTests := true, laidLooks := .later }
def RedoReadsCardSaid : Prop := Claim7.holds Tryd.pinned (.plain (OpenSpec.ofChange redoReadsSpec)) redoReadsCard

/-- THE TIED CARD OF 'hayloftlaw09.RedoTorn'. -/
def redoTornCard : Claim7 := { stood := { row := redoTornRow, standIns := [], harness := (true, "5ff9dadc4158eec078176b23105bfe7c10a7868d5d9f40b919ff08c4502568a2"), looks := false }, kinds := [], alts := [], laidByText := true, laidKinds := [.data], laidTests := true, laidLooks := .later }
def RedoTornCardSaid : Prop := Claim7.holds Tryd.pinned (.plain (OpenSpec.ofChange redoTornSpec)) redoTornCard

/-- THE TIED CARD OF 'hayloftlaw09.RedoCrash'. -/
def redoCrashCard : Claim7 := { stood := { row := redoCrashRow, standIns := [], harness := (true, "5ff9dadc4158eec078176b23105bfe7c10a7868d5d9f40b919ff08c4502568a2"), looks := false }, kinds := [], alts := [], laidByText := true, laidKinds := [.data], laidTests := true, laidLooks := .later }
def RedoCrashCardSaid : Prop := Claim7.holds Tryd.pinned (.plain (OpenSpec.ofChange redoCrashSpec)) redoCrashCard

/-- THE TIED CARD OF 'hayloftlaw09.RedoSpoilt'. -/
def redoSpoiltCard : Claim7 := { stood := { row := redoSpoiltRow, standIns := [], harness := (true, "5ff9dadc4158eec078176b23105bfe7c10a7868d5d9f40b919ff08c4502568a2"), looks := false }, kinds := [], alts := [], laidByText := true, laidKinds := [.data], laidTests := true, laidLooks := .later }
def RedoSpoiltCardSaid : Prop := Claim7.holds Tryd.pinned (.plain (OpenSpec.ofChange redoSpoiltSpec)) redoSpoiltCard

/-- THE TIED CARD OF 'hayloftlaw09.RedoRange'. -/
def redoRangeCard : Claim7 := { stood := { row := redoRangeRow, standIns := [], harness := (true, "5ff9dadc4158eec078176b23105bfe7c10a7868d5d9f40b919ff08c4502568a2"), looks := false }, kinds := [], alts := [], laidByText := true, laidKinds := [.data], laidTests := true, laidLooks := .later }
def RedoRangeCardSaid : Prop := Claim7.holds Tryd.pinned (.plain (OpenSpec.ofChange redoRangeSpec)) redoRangeCard

/-- THE SECOND FORM's CARD OF 'hayloftlaw09.RedoReads'. -/
def redoReadsUptoCard : Claim7 := { stood := { row := redoReadsUptoRow, standIns := [], harness := (true, "5ff9dadc4158eec078176b23105bfe7c10a7868d5d9f40b919ff08c4502568a2"), looks := false }, kinds := [], alts := [], laidByText := true, laidKinds := [.data], laidTests := true, laidLooks := .later }
def RedoReadsUptoCardSaid : Prop := Claim7.holds Tryd.pinned (.plain (OpenSpec.upto redoReadsSpec)) redoReadsUptoCard

/-- THE SECOND FORM's CARD OF 'hayloftlaw09.RedoTorn'. -/
def redoTornUptoCard : Claim7 := { stood := { row := redoTornUptoRow, standIns := [], harness := (true, "5ff9dadc4158eec078176b23105bfe7c10a7868d5d9f40b919ff08c4502568a2"), looks := false }, kinds := [], alts := [], laidByText := true, laidKinds := [.data], laidTests := true, laidLooks := .later }
def RedoTornUptoCardSaid : Prop := Claim7.holds Tryd.pinned (.plain (OpenSpec.upto redoTornSpec)) redoTornUptoCard

/-- THE SECOND FORM's CARD OF 'hayloftlaw09.RedoCrash'. -/
def redoCrashUptoCard : Claim7 := { stood := { row := redoCrashUptoRow, standIns := [], harness := (true, "5ff9dadc4158eec078176b23105bfe7c10a7868d5d9f40b919ff08c4502568a2"), looks := false }, kinds := [], alts := [], laidByText := true, laidKinds := [.data], laidTests := true, laidLooks := .later }
def RedoCrashUptoCardSaid : Prop := Claim7.holds Tryd.pinned (.plain (OpenSpec.upto redoCrashSpec)) redoCrashUptoCard

/-- THE SECOND FORM's CARD OF 'hayloftlaw09.RedoSpoilt'. -/
def redoSpoiltUptoCard : Claim7 := { stood := { row := redoSpoiltUptoRow, standIns := [], harness := (true, "5ff9dadc4158eec078176b23105bfe7c10a7868d5d9f40b919ff08c4502568a2"), looks := false }, kinds := [], alts := [], laidByText := true, laidKinds := [.data], laidTests := true, laidLooks := .later }
def RedoSpoiltUptoCardSaid : Prop := Claim7.holds Tryd.pinned (.plain (OpenSpec.upto redoSpoiltSpec)) redoSpoiltUptoCard

/-- THE SECOND FORM's CARD OF 'hayloftlaw09.RedoRange'. -/
def redoRangeUptoCard : Claim7 := { stood := { row := redoRangeUptoRow, standIns := [], harness := (true, "5ff9dadc4158eec078176b23105bfe7c10a7868d5d9f40b919ff08c4502568a2"), looks := false }, kinds := [], alts := [], laidByText := true, laidKinds := [.data], laidTests := true, laidLooks := .later }
def RedoRangeUptoCardSaid : Prop := Claim7.holds Tryd.pinned (.plain (OpenSpec.upto redoRangeSpec)) redoRangeUptoCard
end Rows
end Go.Proofs.YtfpmolajpmljmaaDoor
