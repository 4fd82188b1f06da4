/-
  NARROWER THAN 'FOR EVERY INPUT', by the rows' own cells (each row's printed sentence says how): BlockWrites: laid · BlockReads: laid · BlockAll: laid · BlockBack: laid · BlockMay: laid · BlockCuts: laid.
  DERIVED. THE GIVEN ROWS OF THIS SEAT. 6 by the template 'for every input the law returns true; each argument reads behind the call as it read before'; 0 by the template 'total and deterministic' (their statements: YtcjnojbjgdechaaGreatDoorTotals.lean).
  GIVEN WITH THE SEED: the statements are not yours to turn. If you find one false, say at which input.
  Laid BY PROGRAM, IN A SANDBOX (cutbox-rows.mjs): the forced cells as the released guide's own fill.sh prints them over the translation 39f716dabd959da9… (all of the seat's roots in one cut). By AI agents, Wed Nov 11 2026. No macro, syntax, notation, axiom, sorry.
-/
import Derived.Test.YtcjnojbjgdechaaGreatDoorChecked
import GoSem.Claim
import GoSem.ClaimJoined
import GoSem.ClaimMapViews
import Derived.JoinedTies
import Derived.KernelRfl
namespace Go.Proofs.YtcjnojbjgdechaaGreatDoor
/- THE CELL 'sum', in the pinned program and in every row, IS THE sha256 OF THE DUMP (.gsa) THAT YtcjnojbjgdechaaGreatDoorProg.lean LOADS. Nothing in Lean hashes anything: it is a label: what it is worth is what the hold of that sum in a sandbox is worth. -/
noncomputable def Tryz.pinned : Pinned := { name := "ytcjnojbjgdechaagreatdoor", sum := "39f716dabd959da9dfdd21d002e44c2fa778d211f030ca672d0b7dd635d6cdf6", checked := Tryz.checked }
namespace Rows
def none {H : Type} : Left H := { results := [], args := [] }

/- WHAT THE LISTED PACKAGE-LEVEL VARIABLES READ AS WHEN THE CALL BEGINS. Each datum BY PROGRAM (the guide's laid-datum.mjs) off the statement by which the dump's own 'gosem.cut.vars' lays the variable. In a bare row this is a premise. The card (YtcjnojbjgdechaaGreatDoorCards.lean) ties it to the program's text. -/
def laid_hayloft_codec_nibbleSums {H : Type} : DataW H := .agg [.lit (.int .u32 0), .lit (.int .u32 498536548), .lit (.int .u32 997073096), .lit (.int .u32 651767980), .lit (.int .u32 1994146192), .lit (.int .u32 1802195444), .lit (.int .u32 1303535960), .lit (.int .u32 1342533948), .lit (.int .u32 3988292384), .lit (.int .u32 4027552580), .lit (.int .u32 3604390888), .lit (.int .u32 3412177804), .lit (.int .u32 2607071920), .lit (.int .u32 2262029012), .lit (.int .u32 2685067896), .lit (.int .u32 3183342108)]

/-- 'hayloftlaw07.BlockWrites': WHATEVER THE INPUT: true; the input reads as it did. -/
def blockWritesSpec : ChangeSpec := { name := "blockWrites", fn := fun _ => fun
  | [d1, d2] => { results := [.lit (.bool true)], args := [d1, d2] }
  | _ => none }
def blockWritesRow : OpenClaim := { program := "ytcjnojbjgdechaagreatdoor", sum := "39f716dabd959da9dfdd21d002e44c2fa778d211f030ca672d0b7dd635d6cdf6", func := "hayloft/hayloftlaw07.BlockWrites", spec := "blockWrites", unfollowed := true, recurses := true, named := ["hayloft/codec.nibbleSums"], apart := false, laid := [("hayloft/codec.nibbleSums", laid_hayloft_codec_nibbleSums)] }
def BlockWritesSaid : Prop := blockWritesRow.holds Tryz.pinned (OpenSpec.ofChange blockWritesSpec)

/-- ITS FALSE NEIGHBOUR: 'it returns false'. Refute it at one input. -/
def blockWritesWrong : ChangeSpec := { name := "blockWrites", fn := fun _ => fun
  | [d1, d2] => { results := [.lit (.bool false)], args := [d1, d2] }
  | _ => none }
def BlockWritesWrongFalsely : Prop := blockWritesRow.holds Tryz.pinned (OpenSpec.ofChange blockWritesWrong)

/-- 'hayloftlaw07.BlockReads': WHATEVER THE INPUT: true; the input reads as it did. -/
def blockReadsSpec : ChangeSpec := { name := "blockReads", fn := fun _ => fun
  | [d] => { results := [.lit (.bool true)], args := [d] }
  | _ => none }
def blockReadsRow : OpenClaim := { program := "ytcjnojbjgdechaagreatdoor", sum := "39f716dabd959da9dfdd21d002e44c2fa778d211f030ca672d0b7dd635d6cdf6", func := "hayloft/hayloftlaw07.BlockReads", spec := "blockReads", unfollowed := true, recurses := true, named := ["hayloft/codec.nibbleSums"], apart := false, laid := [("hayloft/codec.nibbleSums", laid_hayloft_codec_nibbleSums)] }
def BlockReadsSaid : Prop := blockReadsRow.holds Tryz.pinned (OpenSpec.ofChange blockReadsSpec)

/-- ITS FALSE NEIGHBOUR: 'it returns false'. Refute it at one input. -/
def blockReadsWrong : ChangeSpec := { name := "blockReads", fn := fun _ => fun
  | [d] => { results := [.lit (.bool false)], args := [d] }
  | _ => none }
def BlockReadsWrongFalsely : Prop := blockReadsRow.holds Tryz.pinned (OpenSpec.ofChange blockReadsWrong)

/-- 'hayloftlaw07.BlockAll': WHATEVER THE INPUT: true; the input reads as it did. -/
def blockAllSpec : ChangeSpec := { name := "blockAll", fn := fun _ => fun
  | [d1, d2] => { results := [.lit (.bool true)], args := [d1, d2] }
  | _ => none }
def blockAllRow : OpenClaim := { program := "ytcjnojbjgdechaagreatdoor", sum := "39f716dabd959da9dfdd21d002e44c2fa778d211f030ca672d0b7dd635d6cdf6", func := "hayloft/hayloftlaw07.BlockAll", spec := "blockAll", unfollowed := true, recurses := true, named := ["hayloft/codec.nibbleSums"], apart := false, laid := [("hayloft/codec.nibbleSums", laid_hayloft_codec_nibbleSums)] }
def BlockAllSaid : Prop := blockAllRow.holds Tryz.pinned (OpenSpec.ofChange blockAllSpec)

/-- ITS FALSE NEIGHBOUR: 'it returns false'. Refute it at one input. -/
def blockAllWrong : ChangeSpec := { name := "blockAll", fn := fun _ => fun
  | [d1, d2] => { results := [.lit (.bool false)], args := [d1, d2] }
  | _ => none }
def BlockAllWrongFalsely : Prop := blockAllRow.holds Tryz.pinned (OpenSpec.ofChange blockAllWrong)

/-- 'hayloftlaw07.BlockBack': WHATEVER THE INPUT: true; the input reads as it did. -/
def blockBackSpec : ChangeSpec := { name := "blockBack", fn := fun _ => fun
  | [d1, d2, d3] => { results := [.lit (.bool true)], args := [d1, d2, d3] }
  | _ => none }
def blockBackRow : OpenClaim := { program := "ytcjnojbjgdechaagreatdoor", sum := "39f716dabd959da9dfdd21d002e44c2fa778d211f030ca672d0b7dd635d6cdf6", func := "hayloft/hayloftlaw07.BlockBack", spec := "blockBack", unfollowed := true, recurses := true, named := ["hayloft/codec.nibbleSums"], apart := false, laid := [("hayloft/codec.nibbleSums", laid_hayloft_codec_nibbleSums)] }
def BlockBackSaid : Prop := blockBackRow.holds Tryz.pinned (OpenSpec.ofChange blockBackSpec)

/-- ITS FALSE NEIGHBOUR: 'it returns false'. Refute it at one input. -/
def blockBackWrong : ChangeSpec := { name := "blockBack", fn := fun _ => fun
  | [d1, d2, d3] => { results := [.lit (.bool false)], args := [d1, d2, d3] }
  | _ => none }
def BlockBackWrongFalsely : Prop := blockBackRow.holds Tryz.pinned (OpenSpec.ofChange blockBackWrong)

/-- 'hayloftlaw07.BlockMay': WHATEVER THE INPUT: true; the input reads as it did. -/
def blockMaySpec : ChangeSpec := { name := "blockMay", fn := fun _ => fun
  | [d1, d2, d3] => { results := [.lit (.bool true)], args := [d1, d2, d3] }
  | _ => none }
def blockMayRow : OpenClaim := { program := "ytcjnojbjgdechaagreatdoor", sum := "39f716dabd959da9dfdd21d002e44c2fa778d211f030ca672d0b7dd635d6cdf6", func := "hayloft/hayloftlaw07.BlockMay", spec := "blockMay", unfollowed := true, recurses := true, named := ["hayloft/codec.nibbleSums"], apart := false, laid := [("hayloft/codec.nibbleSums", laid_hayloft_codec_nibbleSums)] }
def BlockMaySaid : Prop := blockMayRow.holds Tryz.pinned (OpenSpec.ofChange blockMaySpec)

/-- ITS FALSE NEIGHBOUR: 'it returns false'. Refute it at one input. -/
def blockMayWrong : ChangeSpec := { name := "blockMay", fn := fun _ => fun
  | [d1, d2, d3] => { results := [.lit (.bool false)], args := [d1, d2, d3] }
  | _ => none }
def BlockMayWrongFalsely : Prop := blockMayRow.holds Tryz.pinned (OpenSpec.ofChange blockMayWrong)

/-- 'hayloftlaw07.BlockCuts': WHATEVER THE INPUT: true; the input reads as it did. -/
def blockCutsSpec : ChangeSpec := { name := "blockCuts", fn := fun _ => fun
  | [d1, d2, d3] => { results := [.lit (.bool true)], args := [d1, d2, d3] }
  | _ => none }
def blockCutsRow : OpenClaim := { program := "ytcjnojbjgdechaagreatdoor", sum := "39f716dabd959da9dfdd21d002e44c2fa778d211f030ca672d0b7dd635d6cdf6", func := "hayloft/hayloftlaw07.BlockCuts", spec := "blockCuts", unfollowed := true, recurses := true, named := ["hayloft/codec.nibbleSums"], apart := false, laid := [("hayloft/codec.nibbleSums", laid_hayloft_codec_nibbleSums)] }
def BlockCutsSaid : Prop := blockCutsRow.holds Tryz.pinned (OpenSpec.ofChange blockCutsSpec)

/-- ITS FALSE NEIGHBOUR: 'it returns false'. Refute it at one input. -/
def blockCutsWrong : ChangeSpec := { name := "blockCuts", fn := fun _ => fun
  | [d1, d2, d3] => { results := [.lit (.bool false)], args := [d1, d2, d3] }
  | _ => none }
def BlockCutsWrongFalsely : Prop := blockCutsRow.holds Tryz.pinned (OpenSpec.ofChange blockCutsWrong)

/- THE SECOND FORM. 'bulk': how many values and letters a reading holds, each counted each time it is reached (what is shared counts as often as it is met; a slice's spare places count too). A statement '..UptoSaid' is the law's where the arguments, and the package variables that the reading takes, are together of bulk at most 1048576: NARROWER than '..Said'. Prove '..Said' where nothing that the law and all that it calls make is longer than what came in: it says more and counts as full. Else prove '..UptoSaid'. A law counts once. -/
mutual
def uptoBulk {H : Type} : DataW H → Nat
  | .lit (.string bytes) => bytes.length + 1
  | .lit _ => 1
  | .nil => 1
  | .ptr d => uptoBulk d + 1
  | .slice elems spare => uptoBulkAll elems + uptoBulkAll spare + 1
  | .agg parts => uptoBulkAll parts + 1
  | .iface _ d => uptoBulk d + 1
  | .map entries => uptoBulkEntries entries + 1
  | .held _ => 1
def uptoBulkAll {H : Type} : List (DataW H) → Nat
  | [] => 0
  | d :: r => uptoBulk d + uptoBulkAll r
def uptoBulkEntries {H : Type} : List (Lit × DataW H) → Nat
  | [] => 0
  | x :: r => uptoBulkEntry x + uptoBulkEntries r
def uptoBulkEntry {H : Type} : Lit × DataW H → Nat
  | (.string bytes, d) => bytes.length + uptoBulk d + 1
  | (_, d) => uptoBulk d + 1
 end
def uptoSmall : (H : Type) → List (DataW H) → Bool := fun _ ds => decide (uptoBulkAll ds ≤ 1048576)
def OpenSpec.upto (s : _root_.Go.ChangeSpec) : _root_.Go.OpenSpec := { _root_.Go.OpenSpec.ofChange s with cond := some uptoSmall }

/-- 'hayloftlaw07.BlockWrites', WHERE WHAT IT READS IS OF BULK AT MOST 1048576: true; the input reads as it did. -/
def blockWritesUptoRow : OpenClaim := { program := "ytcjnojbjgdechaagreatdoor", sum := "39f716dabd959da9dfdd21d002e44c2fa778d211f030ca672d0b7dd635d6cdf6", func := "hayloft/hayloftlaw07.BlockWrites", spec := "blockWrites", unfollowed := true, recurses := true, named := ["hayloft/codec.nibbleSums"], apart := false, laid := [("hayloft/codec.nibbleSums", laid_hayloft_codec_nibbleSums)], narrowed := true }
def BlockWritesUptoSaid : Prop := blockWritesUptoRow.holds Tryz.pinned (OpenSpec.upto blockWritesSpec)

/-- 'hayloftlaw07.BlockReads', WHERE WHAT IT READS IS OF BULK AT MOST 1048576: true; the input reads as it did. -/
def blockReadsUptoRow : OpenClaim := { program := "ytcjnojbjgdechaagreatdoor", sum := "39f716dabd959da9dfdd21d002e44c2fa778d211f030ca672d0b7dd635d6cdf6", func := "hayloft/hayloftlaw07.BlockReads", spec := "blockReads", unfollowed := true, recurses := true, named := ["hayloft/codec.nibbleSums"], apart := false, laid := [("hayloft/codec.nibbleSums", laid_hayloft_codec_nibbleSums)], narrowed := true }
def BlockReadsUptoSaid : Prop := blockReadsUptoRow.holds Tryz.pinned (OpenSpec.upto blockReadsSpec)

/-- 'hayloftlaw07.BlockAll', WHERE WHAT IT READS IS OF BULK AT MOST 1048576: true; the input reads as it did. -/
def blockAllUptoRow : OpenClaim := { program := "ytcjnojbjgdechaagreatdoor", sum := "39f716dabd959da9dfdd21d002e44c2fa778d211f030ca672d0b7dd635d6cdf6", func := "hayloft/hayloftlaw07.BlockAll", spec := "blockAll", unfollowed := true, recurses := true, named := ["hayloft/codec.nibbleSums"], apart := false, laid := [("hayloft/codec.nibbleSums", laid_hayloft_codec_nibbleSums)], narrowed := true }
def BlockAllUptoSaid : Prop := blockAllUptoRow.holds Tryz.pinned (OpenSpec.upto blockAllSpec)

/-- 'hayloftlaw07.BlockBack', WHERE WHAT IT READS IS OF BULK AT MOST 1048576: true; the input reads as it did. -/
def blockBackUptoRow : OpenClaim := { program := "ytcjnojbjgdechaagreatdoor", sum := "39f716dabd959da9dfdd21d002e44c2fa778d211f030ca672d0b7dd635d6cdf6", func := "hayloft/hayloftlaw07.BlockBack", spec := "blockBack", unfollowed := true, recurses := true, named := ["hayloft/codec.nibbleSums"], apart := false, laid := [("hayloft/codec.nibbleSums", laid_hayloft_codec_nibbleSums)], narrowed := true }
def BlockBackUptoSaid : Prop := blockBackUptoRow.holds Tryz.pinned (OpenSpec.upto blockBackSpec)

/-- 'hayloftlaw07.BlockMay', WHERE WHAT IT READS IS OF BULK AT MOST 1048576: true; the input reads as it did. -/
def blockMayUptoRow : OpenClaim := { program := "ytcjnojbjgdechaagreatdoor", sum := "39f716dabd959da9dfdd21d002e44c2fa778d211f030ca672d0b7dd635d6cdf6", func := "hayloft/hayloftlaw07.BlockMay", spec := "blockMay", unfollowed := true, recurses := true, named := ["hayloft/codec.nibbleSums"], apart := false, laid := [("hayloft/codec.nibbleSums", laid_hayloft_codec_nibbleSums)], narrowed := true }
def BlockMayUptoSaid : Prop := blockMayUptoRow.holds Tryz.pinned (OpenSpec.upto blockMaySpec)

/-- 'hayloftlaw07.BlockCuts', WHERE WHAT IT READS IS OF BULK AT MOST 1048576: true; the input reads as it did. -/
def blockCutsUptoRow : OpenClaim := { program := "ytcjnojbjgdechaagreatdoor", sum := "39f716dabd959da9dfdd21d002e44c2fa778d211f030ca672d0b7dd635d6cdf6", func := "hayloft/hayloftlaw07.BlockCuts", spec := "blockCuts", unfollowed := true, recurses := true, named := ["hayloft/codec.nibbleSums"], apart := false, laid := [("hayloft/codec.nibbleSums", laid_hayloft_codec_nibbleSums)], narrowed := true }
def BlockCutsUptoSaid : Prop := blockCutsUptoRow.holds Tryz.pinned (OpenSpec.upto blockCutsSpec)

end Rows
end Go.Proofs.YtcjnojbjgdechaaGreatDoor
