/- What the rows list of the table of half bytes: its cells, and a world for the witness. -/
import Derived.Test.YtamankgichaacabDoorCards
import Derived.Test.YtamankgichaacabDoorTie
import Derived.Test.YtamankgichaacabDoorOpn
import Derived.Test.YtamankgichaacabDoorSuma
import Derived.Deep.DeepHandedRow
import Derived.Lib.LaidTab
import Derived.SizedLaws
namespace Go.Proofs.YtamankgichaacabDoor
open Go.ChangeShapes Go.WideShapes Go.ChangeAt Go.RowKit Go.Hay
set_option linter.unusedVariables false

theorem gTab : Tryd.prog.globalNamed "hayloft/codec.nibbleSums" = some 0 := by kernel_rfl
theorem gTabType : (Tryd.prog.globals[0]?).map (·.type) = some 37 := by kernel_rfl
theorem cellsTab : Tryd.prog.cellsOf 37 = 16 := by kernel_rfl
theorem cellsW : Tryd.prog.cellsOf 23 = 1 := by kernel_rfl

theorem table {W : World} (h : laidMetH Tryd.prog Rows.codecSumsRow.laid W) : Tab W := by
  have ht : Lib.TabIs Tryd.prog W "hayloft/codec.nibbleSums" .u32 [0, 498536548, 997073096, 651767980, 1994146192, 1802195444, 1303535960, 1342533948, 3988292384, 4027552580, 3604390888, 3412177804, 2607071920, 2262029012, 2685067896, 3183342108] :=
    Lib.tabIs_of_head (rest := []) gTab gTabType Tryd.underlying37 Tryd.underlying23 cellsW cellsTab h
  have hc : ∀ d, d < 16 → W.cell? ⟨0, d, none⟩ = some (.int .u32 (crcTab.getD d 0)) := by
    intro d hd
    match d, hd with
    | 0, _ => exact ht.cell gTab 0 (by decide)
    | 1, _ => exact ht.cell gTab 1 (by decide)
    | 2, _ => exact ht.cell gTab 2 (by decide)
    | 3, _ => exact ht.cell gTab 3 (by decide)
    | 4, _ => exact ht.cell gTab 4 (by decide)
    | 5, _ => exact ht.cell gTab 5 (by decide)
    | 6, _ => exact ht.cell gTab 6 (by decide)
    | 7, _ => exact ht.cell gTab 7 (by decide)
    | 8, _ => exact ht.cell gTab 8 (by decide)
    | 9, _ => exact ht.cell gTab 9 (by decide)
    | 10, _ => exact ht.cell gTab 10 (by decide)
    | 11, _ => exact ht.cell gTab 11 (by decide)
    | 12, _ => exact ht.cell gTab 12 (by decide)
    | 13, _ => exact ht.cell gTab 13 (by decide)
    | 14, _ => exact ht.cell gTab 14 (by decide)
    | 15, _ => exact ht.cell gTab 15 (by decide)
    | d + 16, h => omega
  exact ⟨World.block_lt_of_cell? _ _ (hc 0 (by omega)), hc⟩

/-- The block of the table, as its initialiser lays it. -/
def tabCells : Array Value := #[.int .u32 0, .int .u32 498536548, .int .u32 997073096, .int .u32 651767980, .int .u32 1994146192, .int .u32 1802195444, .int .u32 1303535960, .int .u32 1342533948, .int .u32 3988292384, .int .u32 4027552580, .int .u32 3604390888, .int .u32 3412177804, .int .u32 2607071920, .int .u32 2262029012, .int .u32 2685067896, .int .u32 3183342108]
end Go.Proofs.YtamankgichaacabDoor
