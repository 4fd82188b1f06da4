/-
  NARROWER THAN 'FOR EVERY INPUT', by the rows' own cells (each row's printed sentence says how): CodecSums: laid · CodecFrames: laid · CodecUnframes: laid · CodecStream: laid.
  DERIVED. THE GIVEN ROWS OF THIS SEAT. 4 by the template 'for every input the law returns true; each argument reads behind the call as it read before'; 0 by the template 'total and deterministic' (their statements: YtamankgichaacabDoorTotals.lean).
  GIVEN WITH THE SEED: the statements are not yours to turn. If you find one false, say at which input.
  Laid BY PROGRAM, IN A SANDBOX (cutbox-rows.mjs): the forced cells as the released guide's own fill.sh prints them over the translation 44171bdeb7e0ef17… (all of the seat's roots in one cut). By AI agents, Wed Nov 11 2026. No macro, syntax, notation, axiom, sorry.
-/
import Derived.Test.YtamankgichaacabDoorChecked
import GoSem.Claim
import GoSem.ClaimJoined
import GoSem.ClaimMapViews
import Derived.JoinedTies
import Derived.KernelRfl
namespace Go.Proofs.YtamankgichaacabDoor
/- THE CELL 'sum', in the pinned program and in every row, IS THE sha256 OF THE DUMP (.gsa) THAT YtamankgichaacabDoorProg.lean LOADS. Nothing in Lean hashes anything: it is a label: what it is worth is what the hold of that sum in a sandbox is worth. -/
noncomputable def Tryd.pinned : Pinned := { name := "ytamankgichaacabdoor", sum := "44171bdeb7e0ef175de6b39559a2594b3399103b31e2e5b9fdb819d42295933f", checked := Tryd.checked }
namespace Rows
def none {H : Type} : Left H := { results := [], args := [] }

/- WHAT THE LISTED PACKAGE-LEVEL VARIABLES READ AS WHEN THE CALL BEGINS. Each datum BY PROGRAM (the guide's laid-datum.mjs) off the statement by which the dump's own 'gosem.cut.vars' lays the variable. In a bare row this is a premise. The card (YtamankgichaacabDoorCards.lean) ties it to the program's text. -/
def laid_hayloft_codec_nibbleSums {H : Type} : DataW H := .agg [.lit (.int .u32 0), .lit (.int .u32 498536548), .lit (.int .u32 997073096), .lit (.int .u32 651767980), .lit (.int .u32 1994146192), .lit (.int .u32 1802195444), .lit (.int .u32 1303535960), .lit (.int .u32 1342533948), .lit (.int .u32 3988292384), .lit (.int .u32 4027552580), .lit (.int .u32 3604390888), .lit (.int .u32 3412177804), .lit (.int .u32 2607071920), .lit (.int .u32 2262029012), .lit (.int .u32 2685067896), .lit (.int .u32 3183342108)]

/-- 'hayloftlaw01.CodecSums': WHATEVER THE INPUT: true; the input reads as it did. -/
def codecSumsSpec : ChangeSpec := { name := "codecSums", fn := fun _ => fun
  | [d1, d2] => { results := [.lit (.bool true)], args := [d1, d2] }
  | _ => none }
def codecSumsRow : OpenClaim := { program := "ytamankgichaacabdoor", sum := "44171bdeb7e0ef175de6b39559a2594b3399103b31e2e5b9fdb819d42295933f", func := "hayloft/hayloftlaw01.CodecSums", spec := "codecSums", named := ["hayloft/codec.nibbleSums"], apart := false, laid := [("hayloft/codec.nibbleSums", laid_hayloft_codec_nibbleSums)] }
def CodecSumsSaid : Prop := codecSumsRow.holds Tryd.pinned (OpenSpec.ofChange codecSumsSpec)

/-- ITS FALSE NEIGHBOUR: 'it returns false'. Refute it at one input. -/
def codecSumsWrong : ChangeSpec := { name := "codecSums", fn := fun _ => fun
  | [d1, d2] => { results := [.lit (.bool false)], args := [d1, d2] }
  | _ => none }
def CodecSumsWrongFalsely : Prop := codecSumsRow.holds Tryd.pinned (OpenSpec.ofChange codecSumsWrong)

/-- 'hayloftlaw01.CodecFrames': WHATEVER THE INPUT: true; the input reads as it did. -/
def codecFramesSpec : ChangeSpec := { name := "codecFrames", fn := fun _ => fun
  | [d1, d2] => { results := [.lit (.bool true)], args := [d1, d2] }
  | _ => none }
def codecFramesRow : OpenClaim := { program := "ytamankgichaacabdoor", sum := "44171bdeb7e0ef175de6b39559a2594b3399103b31e2e5b9fdb819d42295933f", func := "hayloft/hayloftlaw01.CodecFrames", spec := "codecFrames", named := ["hayloft/codec.nibbleSums"], apart := false, laid := [("hayloft/codec.nibbleSums", laid_hayloft_codec_nibbleSums)] }
def CodecFramesSaid : Prop := codecFramesRow.holds Tryd.pinned (OpenSpec.ofChange codecFramesSpec)

/-- ITS FALSE NEIGHBOUR: 'it returns false'. Refute it at one input. -/
def codecFramesWrong : ChangeSpec := { name := "codecFrames", fn := fun _ => fun
  | [d1, d2] => { results := [.lit (.bool false)], args := [d1, d2] }
  | _ => none }
def CodecFramesWrongFalsely : Prop := codecFramesRow.holds Tryd.pinned (OpenSpec.ofChange codecFramesWrong)

/-- 'hayloftlaw01.CodecUnframes': WHATEVER THE INPUT: true; the input reads as it did. -/
def codecUnframesSpec : ChangeSpec := { name := "codecUnframes", fn := fun _ => fun
  | [d1, d2, d3] => { results := [.lit (.bool true)], args := [d1, d2, d3] }
  | _ => none }
def codecUnframesRow : OpenClaim := { program := "ytamankgichaacabdoor", sum := "44171bdeb7e0ef175de6b39559a2594b3399103b31e2e5b9fdb819d42295933f", func := "hayloft/hayloftlaw01.CodecUnframes", spec := "codecUnframes", named := ["hayloft/codec.nibbleSums"], apart := false, laid := [("hayloft/codec.nibbleSums", laid_hayloft_codec_nibbleSums)] }
def CodecUnframesSaid : Prop := codecUnframesRow.holds Tryd.pinned (OpenSpec.ofChange codecUnframesSpec)

/-- ITS FALSE NEIGHBOUR: 'it returns false'. Refute it at one input. -/
def codecUnframesWrong : ChangeSpec := { name := "codecUnframes", fn := fun _ => fun
  | [d1, d2, d3] => { results := [.lit (.bool false)], args := [d1, d2, d3] }
  | _ => none }
def CodecUnframesWrongFalsely : Prop := codecUnframesRow.holds Tryd.pinned (OpenSpec.ofChange codecUnframesWrong)

/-- 'hayloftlaw01.CodecStream': WHATEVER THE INPUT: true; the input reads as it did. -/
def codecStreamSpec : ChangeSpec := { name := "codecStream", fn := fun _ => fun
  | [d1, d2] => { results := [.lit (.bool true)], args := [d1, d2] }
  | _ => none }
def codecStreamRow : OpenClaim := { program := "ytamankgichaacabdoor", sum := "44171bdeb7e0ef175de6b39559a2594b3399103b31e2e5b9fdb819d42295933f", func := "hayloft/hayloftlaw01.CodecStream", spec := "codecStream", named := ["hayloft/codec.nibbleSums"], apart := false, laid := [("hayloft/codec.nibbleSums", laid_hayloft_codec_nibbleSums)] }
def CodecStreamSaid : Prop := codecStreamRow.holds Tryd.pinned (OpenSpec.ofChange codecStreamSpec)

/-- ITS FALSE NEIGHBOUR: 'it returns false'. Refute it at one input. -/
def codecStreamWrong : ChangeSpec := { name := "codecStream", fn := fun _ => fun
  | [d1, d2] => { results := [.lit (.bool false)], args := [d1, d2] }
  | _ => none }
def CodecStreamWrongFalsely : Prop := codecStreamRow.holds Tryd.pinned (OpenSpec.ofChange codecStreamWrong)

/- THE SECOND FORM. 'bulk': how many values and letters a reading holds, each counted each time it is reached (what is shared counts as often as it is met; a slice's spare places count too). A statement '..UptoSaid' is the law's where the arguments, and the package variables that the reading takes, are together of bulk at most 1048576: NARROWER than '..Said'. Prove '..Said' where nothing that the law and all that it calls make is longer than what came in: it says more and counts as full. Else prove '..UptoSaid'. A law counts once. -/
mutual
def uptoBulk {H : Type} : DataW H → Nat
  | .lit (.string bytes) => bytes.length + 1
  | .lit _ => 1
  | .nil => 1
  | .ptr d => uptoBulk d + 1
  | .slice elems spare => uptoBulkAll elems + uptoBulkAll spare + 1
  | .agg parts => uptoBulkAll parts + 1
  | .iface _ d => uptoBulk d + 1
  | .map entries => uptoBulkEntries entries + 1
  | .held _ => 1
def uptoBulkAll {H : Type} : List (DataW H) → Nat
  | [] => 0
  | d :: r => uptoBulk d + uptoBulkAll r
def uptoBulkEntries {H : Type} : List (Lit × DataW H) → Nat
  | [] => 0
  | x :: r => uptoBulkEntry x + uptoBulkEntries r
def uptoBulkEntry {H : Type} : Lit × DataW H → Nat
  | (.string bytes, d) => bytes.length + uptoBulk d + 1
  | (_, d) => uptoBulk d + 1
 end
def uptoSmall : (H : Type) → List (DataW H) → Bool := fun _ ds => decide (uptoBulkAll ds ≤ 1048576)
def OpenSpec.upto (s : _root_.Go.ChangeSpec) : _root_.Go.OpenSpec := { _root_.Go.OpenSpec.ofChange s with cond := some uptoSmall }

/-- 'hayloftlaw01.CodecSums', WHERE WHAT IT READS IS OF BULK AT MOST 1048576: true; the input reads as it did. -/
def codecSumsUptoRow : OpenClaim := { program := "ytamankgichaacabdoor", sum := "44171bdeb7e0ef175de6b39559a2594b3399103b31e2e5b9fdb819d42295933f", func := "hayloft/hayloftlaw01.CodecSums", spec := "codecSums", named := ["hayloft/codec.nibbleSums"], apart := false, laid := [("hayloft/codec.nibbleSums", laid_hayloft_codec_nibbleSums)], narrowed := true }
def CodecSumsUptoSaid : Prop := codecSumsUptoRow.holds Tryd.pinned (OpenSpec.upto codecSumsSpec)

/-- 'hayloftlaw01.CodecFrames', WHERE WHAT IT READS IS OF BULK AT MOST 1048576: true; the input reads as it did. -/
def codecFramesUptoRow : OpenClaim := { program := "ytamankgichaacabdoor", sum := "44171bdeb7e0ef175de6b39559a2594b3399103b31e2e5b9fdb819d42295933f", func := "hayloft/hayloftlaw01.CodecFrames", spec := "codecFrames", named := ["hayloft/codec.nibbleSums"], apart := false, laid := [("hayloft/codec.nibbleSums", laid_hayloft_codec_nibbleSums)], narrowed := true }
def CodecFramesUptoSaid : Prop := codecFramesUptoRow.holds Tryd.pinned (OpenSpec.upto codecFramesSpec)

/-- 'hayloftlaw01.CodecUnframes', WHERE WHAT IT READS IS OF BULK AT MOST 1048576: true; the input reads as it did. -/
def codecUnframesUptoRow : OpenClaim := { program := "ytamankgichaacabdoor", sum := "44171bdeb7e0ef175de6b39559a2594b3399103b31e2e5b9fdb819d42295933f", func := "hayloft/hayloftlaw01.CodecUnframes", spec := "codecUnframes", named := ["hayloft/codec.nibbleSums"], apart := false, laid := [("hayloft/codec.nibbleSums", laid_hayloft_codec_nibbleSums)], narrowed := true }
def CodecUnframesUptoSaid : Prop := codecUnframesUptoRow.holds Tryd.pinned (OpenSpec.upto codecUnframesSpec)

/-- 'hayloftlaw01.CodecStream', WHERE WHAT IT READS IS OF BULK AT MOST 1048576: true; the input reads as it did. -/
def codecStreamUptoRow : OpenClaim := { program := "ytamankgichaacabdoor", sum := "44171bdeb7e0ef175de6b39559a2594b3399103b31e2e5b9fdb819d42295933f", func := "hayloft/hayloftlaw01.CodecStream", spec := "codecStream", named := ["hayloft/codec.nibbleSums"], apart := false, laid := [("hayloft/codec.nibbleSums", laid_hayloft_codec_nibbleSums)], narrowed := true }
def CodecStreamUptoSaid : Prop := codecStreamUptoRow.holds Tryd.pinned (OpenSpec.upto codecStreamSpec)

end Rows
end Go.Proofs.YtamankgichaacabDoor
