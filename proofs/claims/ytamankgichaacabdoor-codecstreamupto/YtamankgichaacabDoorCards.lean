/-
  DERIVED. GIVEN WITH THE SEED: THE CARDS: each row of YtamankgichaacabDoorRows.lean that lists a variable, with what it lists TIED to the program's text (the seventh form; the later family's looks); each row that meets fmt, with fmt's text TOLD by the authors' own Lean function (tested against real Go, not proved from fmt's source: count such statements apart). THE CARD IS WHAT COUNTS. Prove the row's statement (the work); the ties are given (YtamankgichaacabDoorTie.lean); close each card by the builder's one call (the guide's Derived/Test/ToyasCard.lean, 'card_holds'). Laid BY PROGRAM, IN A SANDBOX (cutbox-door.mjs). By AI agents, Wed Nov 11 2026. No macro, syntax, notation, axiom, sorry.
-/
import Derived.Test.YtamankgichaacabDoorRows
import GoSem.ClaimSeven
namespace Go.Proofs.YtamankgichaacabDoor
namespace Rows

/-- THE TIED CARD OF 'hayloftlaw01.CodecSums'. -/
def codecSumsCard : Claim7 := { stood := { row := codecSumsRow, standIns := [], harness := (true, "b20d526a9b09364aefba4c733b015e4e93ffc9085dd423e7b5ee30ddfc6157fb"), looks := false }, kinds := [], alts := [], laidByText := true, laidKinds := [.data], laidTests := true, laidLooks := .later }
def CodecSumsCardSaid : Prop := Claim7.holds Tryd.pinned (.plain (OpenSpec.ofChange codecSumsSpec)) codecSumsCard

/-- THE TIED CARD OF 'hayloftlaw01.CodecFrames'. -/
def codecFramesCard : Claim7 := { stood := { row := codecFramesRow, standIns := [], harness := (true, "b20d526a9b09364aefba4c733b015e4e93ffc9085dd423e7b5ee30ddfc6157fb"), looks := false }, kinds := [], alts := [], laidByText := true, laidKinds := [.data], laidTests := true, laidLooks := .later }
def CodecFramesCardSaid : Prop := Claim7.holds Tryd.pinned (.plain (OpenSpec.ofChange codecFramesSpec)) codecFramesCard

/-- THE TIED CARD OF 'hayloftlaw01.CodecUnframes'. -/
def codecUnframesCard : Claim7 := { stood := { row := codecUnframesRow, standIns := [], harness := (true, "b20d526a9b09364aefba4c733b015e4e93ffc9085dd423e7b5ee30ddfc6157fb"), looks := false }, kinds := [], alts := [], laidByText := true, laidKinds := [.data], laidTests := true, laidLooks := .later }
def CodecUnframesCardSaid : Prop := Claim7.holds Tryd.pinned (.plain (OpenSpec.ofChange codecUnframesSpec)) codecUnframesCard

/-- THE TIED CARD OF 'hayloftlaw01.CodecStream'. -/
def codecStreamCard : Claim7 := { stood := { row := codecStreamRow, standIns := [], harness := (true, "b20d526a9b09364aefba4c733b015e4e93ffc9085dd423e7b5ee30ddfc6157fb"), looks := false }, kinds := [], alts := [], laidByText := true, laidKinds := [.data], laidTests := true, laidLooks := .later }
def CodecStreamCardSaid : Prop := Claim7.holds Tryd.pinned (.plain (OpenSpec.ofChange codecStreamSpec)) codecStreamCard

/-- THE SECOND FORM's CARD OF 'hayloftlaw01.CodecSums'. -/
def codecSumsUptoCard : Claim7 := { stood := { row := codecSumsUptoRow, standIns := [], harness := (true, "b20d526a9b09364aefba4c733b015e4e93ffc9085dd423e7b5ee30ddfc6157fb"), looks := false }, kinds := [], alts := [], laidByText := true, laidKinds := [.data], laidTests := true, laidLooks := .later }
def CodecSumsUptoCardSaid : Prop := Claim7.holds Tryd.pinned (.plain (OpenSpec.upto codecSumsSpec)) codecSumsUptoCard

/-- THE SECOND FORM's CARD OF 'hayloftlaw01.CodecFrames'. -/
def codecFramesUptoCard : Claim7 := { stood := { row := codecFramesUptoRow, standIns := [], harness := (true, "b20d526a9b09364aefba4c733b015e4e93ffc9085dd423e7b5ee30ddfc6157fb"), looks := false }, kinds := [], alts := [], laidByText := true, laidKinds := [.data], laidTests := true, laidLooks := .later }
def CodecFramesUptoCardSaid : Prop := Claim7.holds Tryd.pinned (.plain (OpenSpec.upto codecFramesSpec)) codecFramesUptoCard

/-- THE SECOND FORM's CARD OF 'hayloftlaw01.CodecUnframes'. -/
def codecUnframesUptoCard : Claim7 := { stood := { row := codecUnframesUptoRow, standIns := [], harness := (true, "b20d526a9b09364aefba4c733b015e4e93ffc9085dd423e7b5ee30ddfc6157fb"), looks := false }, kinds := [], alts := [], laidByText := true, laidKinds := [.data], laidTests := true, laidLooks := .later }
def CodecUnframesUptoCardSaid : Prop := Claim7.holds Tryd.pinned (.plain (OpenSpec.upto codecUnframesSpec)) codecUnframesUptoCard

/-- THE SECOND FORM's CARD OF 'hayloftlaw01.CodecStream'. -/
def codecStreamUptoCard : Claim7 := { stood := { row := codecStreamUptoRow, standIns := [], harness := (true, "b20d526a9b09364aefba4c733b015e4e93ffc9085dd423e7b5ee30ddfc6157fb"), looks := false }, kinds := [], alts := [], laidByText := true, laidKinds := [.data], laidTests := true, laidLooks := .later }
def CodecStreamUptoCardSaid : Prop := Claim7.holds Tryd.pinned (.plain (OpenSpec.upto codecStreamSpec)) codecStreamUptoCard
end Rows
end Go.Proofs.YtamankgichaacabDoor
