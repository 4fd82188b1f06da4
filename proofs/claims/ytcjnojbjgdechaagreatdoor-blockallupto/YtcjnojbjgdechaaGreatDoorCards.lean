/-
  DERIVED. GIVEN WITH THE SEED: THE CARDS: each row of YtcjnojbjgdechaaGreatDoorRows.lean that lists a variable, with what it lists TIED to the program's text (the seventh form; the later family's looks); each row that meets fmt, with fmt's text TOLD by the authors' own Lean function (tested against real Go, not proved from fmt's source: count such statements apart). THE CARD IS WHAT COUNTS. Prove the row's statement (the work); the ties are given (YtcjnojbjgdechaaGreatDoorTie.lean); close each card by the builder's one call (the guide's Derived/Test/ToyasCard.lean, 'card_holds'). Laid BY PROGRAM, IN A SANDBOX (cutbox-door.mjs). By AI agents, Wed Nov 11 2026. No macro, syntax, notation, axiom, sorry.
-/
import Derived.Test.YtcjnojbjgdechaaGreatDoorRows
import GoSem.ClaimSeven
namespace Go.Proofs.YtcjnojbjgdechaaGreatDoor
namespace Rows

/-- THE TIED CARD OF 'hayloftlaw07.BlockWrites'. -/
def blockWritesCard : Claim7 := { stood := { row := blockWritesRow, standIns := [], harness := (true, "79e932da5a72193f2b046ff4ba02884618b63465d28b686ae3eaf237aada13ba"), looks := false }, kinds := [], alts := [], laidByText := true, laidKinds := [.data], laidTests := true, laidLooks := .later }
def BlockWritesCardSaid : Prop := Claim7.holds Tryz.pinned (.plain (OpenSpec.ofChange blockWritesSpec)) blockWritesCard

/-- THE TIED CARD OF 'hayloftlaw07.BlockReads'. -/
def blockReadsCard : Claim7 := { stood := { row := blockReadsRow, standIns := [], harness := (true, "79e932da5a72193f2b046ff4ba02884618b63465d28b686ae3eaf237aada13ba"), looks := false }, kinds := [], alts := [], laidByText := true, laidKinds := [.data], laidTests := true, laidLooks := .later }
def BlockReadsCardSaid : Prop := Claim7.holds Tryz.pinned (.plain (OpenSpec.ofChange blockReadsSpec)) blockReadsCard

/-- THE TIED CARD OF 'hayloftlaw07.BlockAll'. -/
def blockAllCard : Claim7 := { stood := { row := blockAllRow, standIns := [], harness := (true, "79e932da5a72193f2b046ff4ba02884618b63465d28b686ae3eaf237aada13ba"), looks := false }, kinds := [], alts := [], laidByText := true, laidKinds := [.data], laidTests := true, laidLooks := .later }
def BlockAllCardSaid : Prop := Claim7.holds Tryz.pinned (.plain (OpenSpec.ofChange blockAllSpec)) blockAllCard

/-- THE TIED CARD OF 'hayloftlaw07.BlockBack'. -/
def blockBackCard : Claim7 := { stood := { row := blockBackRow, standIns := [], harness := (true, "79e932da5a72193f2b046ff4ba02884618b63465d28b686ae3eaf237aada13ba"), looks := false }, kinds := [], alts := [], laidByText := true, laidKinds := [.data], laidTests := true, laidLooks := .later }
def BlockBackCardSaid : Prop := Claim7.holds Tryz.pinned (.plain (OpenSpec.ofChange blockBackSpec)) blockBackCard

/-- THE TIED CARD OF 'hayloftlaw07.BlockMay'. -/
def blockMayCard : Claim7 := { stood := { row := blockMayRow, standIns := [], harness := (true, "79e932da5a72193f2b046ff4ba02884618b63465d28b686ae3eaf237aada13ba"), looks := false }, kinds := [], alts := [], laidByText := true, laidKinds := [.data], laidTests := true, laidLooks := .later }
def BlockMayCardSaid : Prop := Claim7.holds Tryz.pinned (.plain (OpenSpec.ofChange blockMaySpec)) blockMayCard

/-- THE TIED CARD OF 'hayloftlaw07.BlockCuts'. -/
def blockCutsCard : Claim7 := { stood := { row := blockCutsRow, standIns := [], harness := (true, "79e932da5a72193f2b046ff4ba02884618b63465d28b686ae3eaf237aada13ba"), looks := false }, kinds := [], alts := [], laidByText := true, laidKinds := [.data], laidTests := true, laidLooks := .later }
def BlockCutsCardSaid : Prop := Claim7.holds Tryz.pinned (.plain (OpenSpec.ofChange blockCutsSpec)) blockCutsCard

/-- THE SECOND FORM's CARD OF 'hayloftlaw07.BlockWrites'. -/
def blockWritesUptoCard : Claim7 := { stood := { row := blockWritesUptoRow, standIns := [], harness := (true, "79e932da5a72193f2b046ff4ba02884618b63465d28b686ae3eaf237aada13ba"), looks := false }, kinds := [], alts := [], laidByText := true, laidKinds := [.data], laidTests := true, laidLooks := .later }
def BlockWritesUptoCardSaid : Prop := Claim7.holds Tryz.pinned (.plain (OpenSpec.upto blockWritesSpec)) blockWritesUptoCard

/-- THE SECOND FORM's CARD OF 'hayloftlaw07.BlockReads'. -/
def blockReadsUptoCard : Claim7 := { stood := { row := blockReadsUptoRow, standIns := [], harness := (true, "79e932da5a72193f2b046ff4ba02884618b63465d28b686ae3eaf237aada13ba"), looks := false }, kinds := [], alts := [], laidByText := true, laidKinds := [.data], laidTests := true, laidLooks := .later }
def BlockReadsUptoCardSaid : Prop := Claim7.holds Tryz.pinned (.plain (OpenSpec.upto blockReadsSpec)) blockReadsUptoCard

/-- THE SECOND FORM's CARD OF 'hayloftlaw07.BlockAll'. -/
def blockAllUptoCard : Claim7 := { stood := { row := blockAllUptoRow, standIns := [], harness := (true, "79e932da5a72193f2b046ff4ba02884618b63465d28b686ae3eaf237aada13ba"), looks := false }, kinds := [], alts := [], laidByText := true, laidKinds := [.data], laidTests := true, laidLooks := .later }
def BlockAllUptoCardSaid : Prop := Claim7.holds Tryz.pinned (.plain (OpenSpec.upto blockAllSpec)) blockAllUptoCard

/-- THE SECOND FORM's CARD OF 'hayloftlaw07.BlockBack'. -/
def blockBackUptoCard : Claim7 := { stood := { row := blockBackUptoRow, standIns := [], harness := (true, "79e932da5a72193f2b046ff4ba02884618b63465d28b686ae3eaf237aada13ba"), looks := false }, kinds := [], alts := [], laidByText := true, laidKinds := [.data], laidTests := true, laidLooks := .later }
def BlockBackUptoCardSaid : Prop := Claim7.holds Tryz.pinned (.plain (OpenSpec.upto blockBackSpec)) blockBackUptoCard

/-- THE SECOND FORM's CARD OF 'hayloftlaw07.BlockMay'. -/
def blockMayUptoCard : Claim7 := { stood := { row := blockMayUptoRow, standIns := [], harness := (true, "79e932da5a72193f2b046ff4ba02884618b63465d28b686ae3eaf237aada13ba"), looks := false }, kinds := [], alts := [], laidByText := true, laidKinds := [.data], laidTests := true, laidLooks := .later }
def BlockMayUptoCardSaid : Prop := Claim7.holds Tryz.pinned (.plain (OpenSpec.upto blockMaySpec)) blockMayUptoCard

/-- THE SECOND FORM's CARD OF 'hayloftlaw07.BlockCuts'. -/
def blockCutsUptoCard : Claim7 := { stood := { row := blockCutsUptoRow, standIns := [], harness := (true, "79e932da5a72193f2b046ff4ba02884618b63465d28b686ae3eaf237aada13ba"), looks := false }, kinds := [], alts := [], laidByText := true, laidKinds := [.data], laidTests := true, laidLooks := .later }
def BlockCutsUptoCardSaid : Prop := Claim7.holds Tryz.pinned (.plain (OpenSpec.upto blockCutsSpec)) blockCutsUptoCard
end Rows
end Go.Proofs.YtcjnojbjgdechaaGreatDoor
