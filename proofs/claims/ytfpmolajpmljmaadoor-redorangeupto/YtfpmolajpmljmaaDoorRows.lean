/-
  NARROWER THAN 'FOR EVERY INPUT', by the rows' own cells (each row's printed sentence says how): RedoReads: laid · RedoTorn: laid · RedoCrash: laid · RedoSpoilt: laid · RedoRange: laid.
  DERIVED. THE GIVEN ROWS OF THIS SEAT. 5 by the template 'for every input the law returns true; each argument reads behind the call as it read before'; 0 by the template 'total and deterministic' (their statements: YtfpmolajpmljmaaDoorTotals.lean).
  GIVEN WITH THE SEED: the statements are not yours to turn. If you find one false, say at which input.
  Laid BY PROGRAM, IN A SANDBOX (cutbox-rows.mjs): the forced cells as the released guide's own fill.sh prints them over the translation e207b794d3703bb2… (all of the seat's roots in one cut). By AI agents, Wed Nov 11 2026. No macro, syntax, notation, axiom, sorry.
-/
import Derived.Test.YtfpmolajpmljmaaDoorChecked
import GoSem.Claim
import GoSem.ClaimJoined
import GoSem.ClaimMapViews
import Derived.JoinedTies
import Derived.KernelRfl
namespace Go.Proofs.YtfpmolajpmljmaaDoor
/- THE CELL 'sum', in the pinned program and in every row, IS THE sha256 OF THE DUMP (.gsa) THAT YtfpmolajpmljmaaDoorProg.lean LOADS. Nothing in Lean hashes anything: it is a label: what it is worth is what the hold of that sum in a sandbox is worth. -/
noncomputable def Tryd.pinned : Pinned := { name := "ytfpmolajpmljmaadoor", sum := "e207b794d3703bb2df02cb607a4fd80d12d98866108c4540885592da4e045be7", checked := Tryd.checked }
namespace Rows
def none {H : Type} : Left H := { results := [], args := [] }

/- WHAT THE LISTED PACKAGE-LEVEL VARIABLES READ AS WHEN THE CALL BEGINS. Each datum BY PROGRAM (the guide's laid-datum.mjs) off the statement by which the dump's own 'gosem.cut.vars' lays the variable. In a bare row this is a premise. The card (YtfpmolajpmljmaaDoorCards.lean) ties it to the program's text. -/
def laid_hayloft_codec_nibbleSums {H : Type} : DataW H := .agg [.lit (.int .u32 0), .lit (.int .u32 498536548), .lit (.int .u32 997073096), .lit (.int .u32 651767980), .lit (.int .u32 1994146192), .lit (.int .u32 1802195444), .lit (.int .u32 1303535960), .lit (.int .u32 1342533948), .lit (.int .u32 3988292384), .lit (.int .u32 4027552580), .lit (.int .u32 3604390888), .lit (.int .u32 3412177804), .lit (.int .u32 2607071920), .lit (.int .u32 2262029012), .lit (.int .u32 2685067896), .lit (.int .u32 3183342108)]

/-- 'hayloftlaw09.RedoReads': WHATEVER THE INPUT: true; the input reads as it did. -/
def redoReadsSpec : ChangeSpec := { name := "redoReads", fn := fun _ => fun
  | [d1, d2] => { results := [.lit (.bool true)], args := [d1, d2] }
  | _ => none }
def redoReadsRow : OpenClaim := { program := "ytfpmolajpmljmaadoor", sum := "e207b794d3703bb2df02cb607a4fd80d12d98866108c4540885592da4e045be7", func := "hayloft/hayloftlaw09.RedoReads", spec := "redoReads", unfollowed := true, recurses := true, named := ["hayloft/codec.nibbleSums"], apart := false, laid := [("hayloft/codec.nibbleSums", laid_hayloft_codec_nibbleSums)] }
def RedoReadsSaid : Prop := redoReadsRow.holds Tryd.pinned (OpenSpec.ofChange redoReadsSpec)

/-- ITS FALSE NEIGHBOUR: 'it returns false'. Refute it at one input. -/
def redoReadsWrong : ChangeSpec := { name := "redoReads", fn := fun _ => fun
  | [d1, d2] => { results := [.lit (.bool false)], args := [d1, d2] }
  | _ => none }
def RedoReadsWrongFalsely : Prop := redoReadsRow.holds Tryd.pinned (OpenSpec.ofChange redoReadsWrong)

/-- 'hayloftlaw09.RedoTorn': WHATEVER THE INPUT: true; the input reads as it did. -/
def redoTornSpec : ChangeSpec := { name := "redoTorn", fn := fun _ => fun
  | [d1, d2] => { results := [.lit (.bool true)], args := [d1, d2] }
  | _ => none }
def redoTornRow : OpenClaim := { program := "ytfpmolajpmljmaadoor", sum := "e207b794d3703bb2df02cb607a4fd80d12d98866108c4540885592da4e045be7", func := "hayloft/hayloftlaw09.RedoTorn", spec := "redoTorn", unfollowed := true, recurses := true, named := ["hayloft/codec.nibbleSums"], apart := false, laid := [("hayloft/codec.nibbleSums", laid_hayloft_codec_nibbleSums)] }
def RedoTornSaid : Prop := redoTornRow.holds Tryd.pinned (OpenSpec.ofChange redoTornSpec)

/-- ITS FALSE NEIGHBOUR: 'it returns false'. Refute it at one input. -/
def redoTornWrong : ChangeSpec := { name := "redoTorn", fn := fun _ => fun
  | [d1, d2] => { results := [.lit (.bool false)], args := [d1, d2] }
  | _ => none }
def RedoTornWrongFalsely : Prop := redoTornRow.holds Tryd.pinned (OpenSpec.ofChange redoTornWrong)

/-- 'hayloftlaw09.RedoCrash': WHATEVER THE INPUT: true; the input reads as it did. -/
def redoCrashSpec : ChangeSpec := { name := "redoCrash", fn := fun _ => fun
  | [d1, d2, d3] => { results := [.lit (.bool true)], args := [d1, d2, d3] }
  | _ => none }
def redoCrashRow : OpenClaim := { program := "ytfpmolajpmljmaadoor", sum := "e207b794d3703bb2df02cb607a4fd80d12d98866108c4540885592da4e045be7", func := "hayloft/hayloftlaw09.RedoCrash", spec := "redoCrash", unfollowed := true, recurses := true, named := ["hayloft/codec.nibbleSums"], apart := false, laid := [("hayloft/codec.nibbleSums", laid_hayloft_codec_nibbleSums)] }
def RedoCrashSaid : Prop := redoCrashRow.holds Tryd.pinned (OpenSpec.ofChange redoCrashSpec)

/-- ITS FALSE NEIGHBOUR: 'it returns false'. Refute it at one input. -/
def redoCrashWrong : ChangeSpec := { name := "redoCrash", fn := fun _ => fun
  | [d1, d2, d3] => { results := [.lit (.bool false)], args := [d1, d2, d3] }
  | _ => none }
def RedoCrashWrongFalsely : Prop := redoCrashRow.holds Tryd.pinned (OpenSpec.ofChange redoCrashWrong)

/-- 'hayloftlaw09.RedoSpoilt': WHATEVER THE INPUT: true; the input reads as it did. -/
def redoSpoiltSpec : ChangeSpec := { name := "redoSpoilt", fn := fun _ => fun
  | [d1, d2] => { results := [.lit (.bool true)], args := [d1, d2] }
  | _ => none }
def redoSpoiltRow : OpenClaim := { program := "ytfpmolajpmljmaadoor", sum := "e207b794d3703bb2df02cb607a4fd80d12d98866108c4540885592da4e045be7", func := "hayloft/hayloftlaw09.RedoSpoilt", spec := "redoSpoilt", unfollowed := true, recurses := true, named := ["hayloft/codec.nibbleSums"], apart := false, laid := [("hayloft/codec.nibbleSums", laid_hayloft_codec_nibbleSums)] }
def RedoSpoiltSaid : Prop := redoSpoiltRow.holds Tryd.pinned (OpenSpec.ofChange redoSpoiltSpec)

/-- ITS FALSE NEIGHBOUR: 'it returns false'. Refute it at one input. -/
def redoSpoiltWrong : ChangeSpec := { name := "redoSpoilt", fn := fun _ => fun
  | [d1, d2] => { results := [.lit (.bool false)], args := [d1, d2] }
  | _ => none }
def RedoSpoiltWrongFalsely : Prop := redoSpoiltRow.holds Tryd.pinned (OpenSpec.ofChange redoSpoiltWrong)

/-- 'hayloftlaw09.RedoRange': WHATEVER THE INPUT: true; the input reads as it did. -/
def redoRangeSpec : ChangeSpec := { name := "redoRange", fn := fun _ => fun
  | [d] => { results := [.lit (.bool true)], args := [d] }
  | _ => none }
def redoRangeRow : OpenClaim := { program := "ytfpmolajpmljmaadoor", sum := "e207b794d3703bb2df02cb607a4fd80d12d98866108c4540885592da4e045be7", func := "hayloft/hayloftlaw09.RedoRange", spec := "redoRange", unfollowed := true, recurses := true, named := ["hayloft/codec.nibbleSums"], apart := false, laid := [("hayloft/codec.nibbleSums", laid_hayloft_codec_nibbleSums)] }
def RedoRangeSaid : Prop := redoRangeRow.holds Tryd.pinned (OpenSpec.ofChange redoRangeSpec)

/-- ITS FALSE NEIGHBOUR: 'it returns false'. Refute it at one input. -/
def redoRangeWrong : ChangeSpec := { name := "redoRange", fn := fun _ => fun
  | [d] => { results := [.lit (.bool false)], args := [d] }
  | _ => none }
def RedoRangeWrongFalsely : Prop := redoRangeRow.holds Tryd.pinned (OpenSpec.ofChange redoRangeWrong)

/- THE SECOND FORM. 'bulk': how many values and letters a reading holds, each counted each time it is reached (what is shared counts as often as it is met; a slice's spare places count too). A statement '..UptoSaid' is the law's where the arguments, and the package variables that the reading takes, are together of bulk at most 1048576: NARROWER than '..Said'. Prove '..Said' where nothing that the law and all that it calls make is longer than what came in: it says more and counts as full. Else prove '..UptoSaid'. A law counts once. -/
mutual
def uptoBulk {H : Type} : DataW H → Nat
  | .lit (.string bytes) => bytes.length + 1
  | .lit _ => 1
  | .nil => 1
  | .ptr d => uptoBulk d + 1
  | .slice elems spare => uptoBulkAll elems + uptoBulkAll spare + 1
  | .agg parts => uptoBulkAll parts + 1
  | .iface _ d => uptoBulk d + 1
  | .map entries => uptoBulkEntries entries + 1
  | .held _ => 1
def uptoBulkAll {H : Type} : List (DataW H) → Nat
  | [] => 0
  | d :: r => uptoBulk d + uptoBulkAll r
def uptoBulkEntries {H : Type} : List (Lit × DataW H) → Nat
  | [] => 0
  | x :: r => uptoBulkEntry x + uptoBulkEntries r
def uptoBulkEntry {H : Type} : Lit × DataW H → Nat
  | (.string bytes, d) => bytes.length + uptoBulk d + 1
  | (_, d) => uptoBulk d + 1
 end
def uptoSmall : (H : Type) → List (DataW H) → Bool := fun _ ds => decide (uptoBulkAll ds ≤ 1048576)
def OpenSpec.upto (s : _root_.Go.ChangeSpec) : _root_.Go.OpenSpec := { _root_.Go.OpenSpec.ofChange s with cond := some uptoSmall }

/-- 'hayloftlaw09.RedoReads', WHERE WHAT IT READS IS OF BULK AT MOST 1048576: true; the input reads as it did. -/
def redoReadsUptoRow : OpenClaim := { program := "ytfpmolajpmljmaadoor", sum := "e207b794d3703bb2df02cb607a4fd80d12d98866108c4540885592da4e045be7", func := "hayloft/hayloftlaw09.RedoReads", spec := "redoReads", unfollowed := true, recurses := true, named := ["hayloft/codec.nibbleSums"], apart := false, laid := [("hayloft/codec.nibbleSums", laid_hayloft_codec_nibbleSums)], narrowed := true }
def RedoReadsUptoSaid : Prop := redoReadsUptoRow.holds Tryd.pinned (OpenSpec.upto redoReadsSpec)

/-- 'hayloftlaw09.RedoTorn', WHERE WHAT IT READS IS OF BULK AT MOST 1048576: true; the input reads as it did. -/
def redoTornUptoRow : OpenClaim := { program := "ytfpmolajpmljmaadoor", sum := "e207b794d3703bb2df02cb607a4fd80d12d98866108c4540885592da4e045be7", func := "hayloft/hayloftlaw09.RedoTorn", spec := "redoTorn", unfollowed := true, recurses := true, named := ["hayloft/codec.nibbleSums"], apart := false, laid := [("hayloft/codec.nibbleSums", laid_hayloft_codec_nibbleSums)], narrowed := true }
def RedoTornUptoSaid : Prop := redoTornUptoRow.holds Tryd.pinned (OpenSpec.upto redoTornSpec)

/-- 'hayloftlaw09.RedoCrash', WHERE WHAT IT READS IS OF BULK AT MOST 1048576: true; the input reads as it did. -/
def redoCrashUptoRow : OpenClaim := { program := "ytfpmolajpmljmaadoor", sum := "e207b794d3703bb2df02cb607a4fd80d12d98866108c4540885592da4e045be7", func := "hayloft/hayloftlaw09.RedoCrash", spec := "redoCrash", unfollowed := true, recurses := true, named := ["hayloft/codec.nibbleSums"], apart := false, laid := [("hayloft/codec.nibbleSums", laid_hayloft_codec_nibbleSums)], narrowed := true }
def RedoCrashUptoSaid : Prop := redoCrashUptoRow.holds Tryd.pinned (OpenSpec.upto redoCrashSpec)

/-- 'hayloftlaw09.RedoSpoilt', WHERE WHAT IT READS IS OF BULK AT MOST 1048576: true; the input reads as it did. -/
def redoSpoiltUptoRow : OpenClaim := { program := "ytfpmolajpmljmaadoor", sum := "e207b794d3703bb2df02cb607a4fd80d12d98866108c4540885592da4e045be7", func := "hayloft/hayloftlaw09.RedoSpoilt", spec := "redoSpoilt", unfollowed := true, recurses := true, named := ["hayloft/codec.nibbleSums"], apart := false, laid := [("hayloft/codec.nibbleSums", laid_hayloft_codec_nibbleSums)], narrowed := true }
def RedoSpoiltUptoSaid : Prop := redoSpoiltUptoRow.holds Tryd.pinned (OpenSpec.upto redoSpoiltSpec)

/-- 'hayloftlaw09.RedoRange', WHERE WHAT IT READS IS OF BULK AT MOST 1048576: true; the input reads as it did. -/
def redoRangeUptoRow : OpenClaim := { program := "ytfpmolajpmljmaadoor", sum := "e207b794d3703bb2df02cb607a4fd80d12d98866108c4540885592da4e045be7", func := "hayloft/hayloftlaw09.RedoRange", spec := "redoRange", unfollowed := true, recurses := true, named := ["hayloft/codec.nibbleSums"], apart := false, laid := [("hayloft/codec.nibbleSums", laid_hayloft_codec_nibbleSums)], narrowed := true }
def RedoRangeUptoSaid : Prop := redoRangeUptoRow.holds Tryd.pinned (OpenSpec.upto redoRangeSpec)

end Rows
end Go.Proofs.YtfpmolajpmljmaaDoor
