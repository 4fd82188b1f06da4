/-
  NARROWER THAN 'FOR EVERY INPUT', by the rows' own cells (each row's printed sentence says how): PlanChecks: laid · PlanChooses: laid · PlanFull: laid · PlanAnswers: laid · PlanWays: laid.
  DERIVED. THE GIVEN ROWS OF THIS SEAT. 5 by the template 'for every input the law returns true; each argument reads behind the call as it read before'; 0 by the template 'total and deterministic' (their statements: YtlgfekjoknbfdaaGreatDoorTotals.lean).
  GIVEN WITH THE SEED: the statements are not yours to turn. If you find one false, say at which input.
  Laid BY PROGRAM, IN A SANDBOX (cutbox-rows.mjs): the forced cells as the released guide's own fill.sh prints them over the translation e2aba54ee30fab15… (all of the seat's roots in one cut). By AI agents, Wed Nov 11 2026. No macro, syntax, notation, axiom, sorry.
-/
import Derived.Test.YtlgfekjoknbfdaaGreatDoorChecked
import GoSem.Claim
import GoSem.ClaimJoined
import GoSem.ClaimMapViews
import Derived.JoinedTies
import Derived.KernelRfl
namespace Go.Proofs.YtlgfekjoknbfdaaGreatDoor
/- THE CELL 'sum', in the pinned program and in every row, IS THE sha256 OF THE DUMP (.gsa) THAT YtlgfekjoknbfdaaGreatDoorProg.lean LOADS. Nothing in Lean hashes anything: it is a label: what it is worth is what the hold of that sum in a sandbox is worth. -/
noncomputable def Tryz.pinned : Pinned := { name := "ytlgfekjoknbfdaagreatdoor", sum := "e2aba54ee30fab15e0da90d51b097dc1495c8262536bfd1774f5182b3c0755b5", checked := Tryz.checked }
namespace Rows
def none {H : Type} : Left H := { results := [], args := [] }

/- WHAT THE LISTED PACKAGE-LEVEL VARIABLES READ AS WHEN THE CALL BEGINS. Each datum BY PROGRAM (the guide's laid-datum.mjs) off the statement by which the dump's own 'gosem.cut.vars' lays the variable. In a bare row this is a premise. The card (YtlgfekjoknbfdaaGreatDoorCards.lean) ties it to the program's text. -/
def laid_hayloft_expr_asks {H : Type} : DataW H := .agg [.agg [.lit (.bool false), .lit (.bool true), .lit (.bool false)], .agg [.lit (.bool true), .lit (.bool false), .lit (.bool true)], .agg [.lit (.bool true), .lit (.bool false), .lit (.bool false)], .agg [.lit (.bool true), .lit (.bool true), .lit (.bool false)], .agg [.lit (.bool false), .lit (.bool false), .lit (.bool true)], .agg [.lit (.bool false), .lit (.bool true), .lit (.bool true)]]

/-- 'hayloftlaw16.PlanChecks': WHATEVER THE INPUT: true; the input reads as it did. -/
def planChecksSpec : ChangeSpec := { name := "planChecks", fn := fun _ => fun
  | [d1, d2] => { results := [.lit (.bool true)], args := [d1, d2] }
  | _ => none }
def planChecksRow : OpenClaim := { program := "ytlgfekjoknbfdaagreatdoor", sum := "e2aba54ee30fab15e0da90d51b097dc1495c8262536bfd1774f5182b3c0755b5", func := "hayloft/hayloftlaw16.PlanChecks", spec := "planChecks", unfollowed := true, recurses := true, named := ["hayloft/expr.asks"], plainKeys := false, apart := false, laid := [("hayloft/expr.asks", laid_hayloft_expr_asks)] }
def PlanChecksSaid : Prop := planChecksRow.holds Tryz.pinned (OpenSpec.ofChange planChecksSpec)

/-- ITS FALSE NEIGHBOUR: 'it returns false'. Refute it at one input. -/
def planChecksWrong : ChangeSpec := { name := "planChecks", fn := fun _ => fun
  | [d1, d2] => { results := [.lit (.bool false)], args := [d1, d2] }
  | _ => none }
def PlanChecksWrongFalsely : Prop := planChecksRow.holds Tryz.pinned (OpenSpec.ofChange planChecksWrong)

/-- 'hayloftlaw16.PlanChooses': WHATEVER THE INPUT: true; the input reads as it did. -/
def planChoosesSpec : ChangeSpec := { name := "planChooses", fn := fun _ => fun
  | [d1, d2, d3] => { results := [.lit (.bool true)], args := [d1, d2, d3] }
  | _ => none }
def planChoosesRow : OpenClaim := { program := "ytlgfekjoknbfdaagreatdoor", sum := "e2aba54ee30fab15e0da90d51b097dc1495c8262536bfd1774f5182b3c0755b5", func := "hayloft/hayloftlaw16.PlanChooses", spec := "planChooses", unfollowed := true, recurses := true, named := ["hayloft/expr.asks"], plainKeys := false, apart := false, laid := [("hayloft/expr.asks", laid_hayloft_expr_asks)] }
def PlanChoosesSaid : Prop := planChoosesRow.holds Tryz.pinned (OpenSpec.ofChange planChoosesSpec)

/-- ITS FALSE NEIGHBOUR: 'it returns false'. Refute it at one input. -/
def planChoosesWrong : ChangeSpec := { name := "planChooses", fn := fun _ => fun
  | [d1, d2, d3] => { results := [.lit (.bool false)], args := [d1, d2, d3] }
  | _ => none }
def PlanChoosesWrongFalsely : Prop := planChoosesRow.holds Tryz.pinned (OpenSpec.ofChange planChoosesWrong)

/-- 'hayloftlaw16.PlanFull': WHATEVER THE INPUT: true; the input reads as it did. -/
def planFullSpec : ChangeSpec := { name := "planFull", fn := fun _ => fun
  | [d1, d2, d3] => { results := [.lit (.bool true)], args := [d1, d2, d3] }
  | _ => none }
def planFullRow : OpenClaim := { program := "ytlgfekjoknbfdaagreatdoor", sum := "e2aba54ee30fab15e0da90d51b097dc1495c8262536bfd1774f5182b3c0755b5", func := "hayloft/hayloftlaw16.PlanFull", spec := "planFull", unfollowed := true, recurses := true, named := ["hayloft/expr.asks"], plainKeys := false, apart := false, laid := [("hayloft/expr.asks", laid_hayloft_expr_asks)] }
def PlanFullSaid : Prop := planFullRow.holds Tryz.pinned (OpenSpec.ofChange planFullSpec)

/-- ITS FALSE NEIGHBOUR: 'it returns false'. Refute it at one input. -/
def planFullWrong : ChangeSpec := { name := "planFull", fn := fun _ => fun
  | [d1, d2, d3] => { results := [.lit (.bool false)], args := [d1, d2, d3] }
  | _ => none }
def PlanFullWrongFalsely : Prop := planFullRow.holds Tryz.pinned (OpenSpec.ofChange planFullWrong)

/-- 'hayloftlaw16.PlanAnswers': WHATEVER THE INPUT: true; the input reads as it did. -/
def planAnswersSpec : ChangeSpec := { name := "planAnswers", fn := fun _ => fun
  | [d1, d2, d3] => { results := [.lit (.bool true)], args := [d1, d2, d3] }
  | _ => none }
def planAnswersRow : OpenClaim := { program := "ytlgfekjoknbfdaagreatdoor", sum := "e2aba54ee30fab15e0da90d51b097dc1495c8262536bfd1774f5182b3c0755b5", func := "hayloft/hayloftlaw16.PlanAnswers", spec := "planAnswers", unfollowed := true, recurses := true, named := ["hayloft/expr.asks"], plainKeys := false, apart := false, laid := [("hayloft/expr.asks", laid_hayloft_expr_asks)] }
def PlanAnswersSaid : Prop := planAnswersRow.holds Tryz.pinned (OpenSpec.ofChange planAnswersSpec)

/-- ITS FALSE NEIGHBOUR: 'it returns false'. Refute it at one input. -/
def planAnswersWrong : ChangeSpec := { name := "planAnswers", fn := fun _ => fun
  | [d1, d2, d3] => { results := [.lit (.bool false)], args := [d1, d2, d3] }
  | _ => none }
def PlanAnswersWrongFalsely : Prop := planAnswersRow.holds Tryz.pinned (OpenSpec.ofChange planAnswersWrong)

/-- 'hayloftlaw16.PlanWays': WHATEVER THE INPUT: true; the input reads as it did. -/
def planWaysSpec : ChangeSpec := { name := "planWays", fn := fun _ => fun
  | [d1, d2, d3] => { results := [.lit (.bool true)], args := [d1, d2, d3] }
  | _ => none }
def planWaysRow : OpenClaim := { program := "ytlgfekjoknbfdaagreatdoor", sum := "e2aba54ee30fab15e0da90d51b097dc1495c8262536bfd1774f5182b3c0755b5", func := "hayloft/hayloftlaw16.PlanWays", spec := "planWays", unfollowed := true, recurses := true, named := ["hayloft/expr.asks"], plainKeys := false, apart := false, laid := [("hayloft/expr.asks", laid_hayloft_expr_asks)] }
def PlanWaysSaid : Prop := planWaysRow.holds Tryz.pinned (OpenSpec.ofChange planWaysSpec)

/-- ITS FALSE NEIGHBOUR: 'it returns false'. Refute it at one input. -/
def planWaysWrong : ChangeSpec := { name := "planWays", fn := fun _ => fun
  | [d1, d2, d3] => { results := [.lit (.bool false)], args := [d1, d2, d3] }
  | _ => none }
def PlanWaysWrongFalsely : Prop := planWaysRow.holds Tryz.pinned (OpenSpec.ofChange planWaysWrong)

/- THE SECOND FORM. 'bulk': how many values and letters a reading holds, each counted each time it is reached (what is shared counts as often as it is met; a slice's spare places count too). A statement '..UptoSaid' is the law's where the arguments, and the package variables that the reading takes, are together of bulk at most 1048576: NARROWER than '..Said'. Prove '..Said' where nothing that the law and all that it calls make is longer than what came in: it says more and counts as full. Else prove '..UptoSaid'. A law counts once. -/
mutual
def uptoBulk {H : Type} : DataW H → Nat
  | .lit (.string bytes) => bytes.length + 1
  | .lit _ => 1
  | .nil => 1
  | .ptr d => uptoBulk d + 1
  | .slice elems spare => uptoBulkAll elems + uptoBulkAll spare + 1
  | .agg parts => uptoBulkAll parts + 1
  | .iface _ d => uptoBulk d + 1
  | .map entries => uptoBulkEntries entries + 1
  | .held _ => 1
def uptoBulkAll {H : Type} : List (DataW H) → Nat
  | [] => 0
  | d :: r => uptoBulk d + uptoBulkAll r
def uptoBulkEntries {H : Type} : List (Lit × DataW H) → Nat
  | [] => 0
  | x :: r => uptoBulkEntry x + uptoBulkEntries r
def uptoBulkEntry {H : Type} : Lit × DataW H → Nat
  | (.string bytes, d) => bytes.length + uptoBulk d + 1
  | (_, d) => uptoBulk d + 1
 end
def uptoSmall : (H : Type) → List (DataW H) → Bool := fun _ ds => decide (uptoBulkAll ds ≤ 1048576)
def OpenSpec.upto (s : _root_.Go.ChangeSpec) : _root_.Go.OpenSpec := { _root_.Go.OpenSpec.ofChange s with cond := some uptoSmall }

/-- 'hayloftlaw16.PlanChecks', WHERE WHAT IT READS IS OF BULK AT MOST 1048576: true; the input reads as it did. -/
def planChecksUptoRow : OpenClaim := { program := "ytlgfekjoknbfdaagreatdoor", sum := "e2aba54ee30fab15e0da90d51b097dc1495c8262536bfd1774f5182b3c0755b5", func := "hayloft/hayloftlaw16.PlanChecks", spec := "planChecks", unfollowed := true, recurses := true, named := ["hayloft/expr.asks"], plainKeys := false, apart := false, laid := [("hayloft/expr.asks", laid_hayloft_expr_asks)], narrowed := true }
def PlanChecksUptoSaid : Prop := planChecksUptoRow.holds Tryz.pinned (OpenSpec.upto planChecksSpec)

/-- 'hayloftlaw16.PlanChooses', WHERE WHAT IT READS IS OF BULK AT MOST 1048576: true; the input reads as it did. -/
def planChoosesUptoRow : OpenClaim := { program := "ytlgfekjoknbfdaagreatdoor", sum := "e2aba54ee30fab15e0da90d51b097dc1495c8262536bfd1774f5182b3c0755b5", func := "hayloft/hayloftlaw16.PlanChooses", spec := "planChooses", unfollowed := true, recurses := true, named := ["hayloft/expr.asks"], plainKeys := false, apart := false, laid := [("hayloft/expr.asks", laid_hayloft_expr_asks)], narrowed := true }
def PlanChoosesUptoSaid : Prop := planChoosesUptoRow.holds Tryz.pinned (OpenSpec.upto planChoosesSpec)

/-- 'hayloftlaw16.PlanFull', WHERE WHAT IT READS IS OF BULK AT MOST 1048576: true; the input reads as it did. -/
def planFullUptoRow : OpenClaim := { program := "ytlgfekjoknbfdaagreatdoor", sum := "e2aba54ee30fab15e0da90d51b097dc1495c8262536bfd1774f5182b3c0755b5", func := "hayloft/hayloftlaw16.PlanFull", spec := "planFull", unfollowed := true, recurses := true, named := ["hayloft/expr.asks"], plainKeys := false, apart := false, laid := [("hayloft/expr.asks", laid_hayloft_expr_asks)], narrowed := true }
def PlanFullUptoSaid : Prop := planFullUptoRow.holds Tryz.pinned (OpenSpec.upto planFullSpec)

/-- 'hayloftlaw16.PlanAnswers', WHERE WHAT IT READS IS OF BULK AT MOST 1048576: true; the input reads as it did. -/
def planAnswersUptoRow : OpenClaim := { program := "ytlgfekjoknbfdaagreatdoor", sum := "e2aba54ee30fab15e0da90d51b097dc1495c8262536bfd1774f5182b3c0755b5", func := "hayloft/hayloftlaw16.PlanAnswers", spec := "planAnswers", unfollowed := true, recurses := true, named := ["hayloft/expr.asks"], plainKeys := false, apart := false, laid := [("hayloft/expr.asks", laid_hayloft_expr_asks)], narrowed := true }
def PlanAnswersUptoSaid : Prop := planAnswersUptoRow.holds Tryz.pinned (OpenSpec.upto planAnswersSpec)

/-- 'hayloftlaw16.PlanWays', WHERE WHAT IT READS IS OF BULK AT MOST 1048576: true; the input reads as it did. -/
def planWaysUptoRow : OpenClaim := { program := "ytlgfekjoknbfdaagreatdoor", sum := "e2aba54ee30fab15e0da90d51b097dc1495c8262536bfd1774f5182b3c0755b5", func := "hayloft/hayloftlaw16.PlanWays", spec := "planWays", unfollowed := true, recurses := true, named := ["hayloft/expr.asks"], plainKeys := false, apart := false, laid := [("hayloft/expr.asks", laid_hayloft_expr_asks)], narrowed := true }
def PlanWaysUptoSaid : Prop := planWaysUptoRow.holds Tryz.pinned (OpenSpec.upto planWaysSpec)

end Rows
end Go.Proofs.YtlgfekjoknbfdaaGreatDoor
