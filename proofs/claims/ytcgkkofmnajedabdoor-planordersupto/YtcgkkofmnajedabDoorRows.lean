/-
  NARROWER THAN 'FOR EVERY INPUT', by the rows' own cells (each row's printed sentence says how): PlanOrders: laid · HayloftSums: laid.
  DERIVED. THE GIVEN ROWS OF THIS SEAT. 2 by the template 'for every input the law returns true; each argument reads behind the call as it read before'; 0 by the template 'total and deterministic' (their statements: YtcgkkofmnajedabDoorTotals.lean).
  GIVEN WITH THE SEED: the statements are not yours to turn. If you find one false, say at which input.
  Laid BY PROGRAM, IN A SANDBOX (cutbox-rows.mjs): the forced cells as the released guide's own fill.sh prints them over the translation fc53562f7aa74a95… (all of the seat's roots in one cut). By AI agents, Wed Nov 11 2026. No macro, syntax, notation, axiom, sorry.
-/
import Derived.Test.YtcgkkofmnajedabDoorChecked
import GoSem.Claim
import GoSem.ClaimJoined
import GoSem.ClaimMapViews
import Derived.JoinedTies
import Derived.KernelRfl
namespace Go.Proofs.YtcgkkofmnajedabDoor
/- THE CELL 'sum', in the pinned program and in every row, IS THE sha256 OF THE DUMP (.gsa) THAT YtcgkkofmnajedabDoorProg.lean LOADS. Nothing in Lean hashes anything: it is a label: what it is worth is what the hold of that sum in a sandbox is worth. -/
noncomputable def Tryd.pinned : Pinned := { name := "ytcgkkofmnajedabdoor", sum := "fc53562f7aa74a95cf4dc0f30093730ff4e27116ed38d8d09a08d0224cfeda39", checked := Tryd.checked }
namespace Rows
def none {H : Type} : Left H := { results := [], args := [] }

/- WHAT THE LISTED PACKAGE-LEVEL VARIABLES READ AS WHEN THE CALL BEGINS. Each datum BY PROGRAM (the guide's laid-datum.mjs) off the statement by which the dump's own 'gosem.cut.vars' lays the variable. In a bare row this is a premise. The card (YtcgkkofmnajedabDoorCards.lean) ties it to the program's text. -/
def laid_hayloft_expr_asks {H : Type} : DataW H := .agg [.agg [.lit (.bool false), .lit (.bool true), .lit (.bool false)], .agg [.lit (.bool true), .lit (.bool false), .lit (.bool true)], .agg [.lit (.bool true), .lit (.bool false), .lit (.bool false)], .agg [.lit (.bool true), .lit (.bool true), .lit (.bool false)], .agg [.lit (.bool false), .lit (.bool false), .lit (.bool true)], .agg [.lit (.bool false), .lit (.bool true), .lit (.bool true)]]

/-- 'hayloftlaw16.PlanOrders': WHATEVER THE INPUT: true; the input reads as it did. -/
def planOrdersSpec : ChangeSpec := { name := "planOrders", fn := fun _ => fun
  | [d1, d2, d3] => { results := [.lit (.bool true)], args := [d1, d2, d3] }
  | _ => none }
def planOrdersRow : OpenClaim := { program := "ytcgkkofmnajedabdoor", sum := "fc53562f7aa74a95cf4dc0f30093730ff4e27116ed38d8d09a08d0224cfeda39", func := "hayloft/hayloftlaw16.PlanOrders", spec := "planOrders", unfollowed := true, recurses := true, named := ["hayloft/expr.asks"], apart := false, laid := [("hayloft/expr.asks", laid_hayloft_expr_asks)] }
def PlanOrdersSaid : Prop := planOrdersRow.holds Tryd.pinned (OpenSpec.ofChange planOrdersSpec)

/-- ITS FALSE NEIGHBOUR: 'it returns false'. Refute it at one input. -/
def planOrdersWrong : ChangeSpec := { name := "planOrders", fn := fun _ => fun
  | [d1, d2, d3] => { results := [.lit (.bool false)], args := [d1, d2, d3] }
  | _ => none }
def PlanOrdersWrongFalsely : Prop := planOrdersRow.holds Tryd.pinned (OpenSpec.ofChange planOrdersWrong)

/-- 'haylofttop.HayloftSums': WHATEVER THE INPUT: true; the input reads as it did. -/
def hayloftSumsSpec : ChangeSpec := { name := "hayloftSums", fn := fun _ => fun
  | [d1, d2, d3] => { results := [.lit (.bool true)], args := [d1, d2, d3] }
  | _ => none }
def hayloftSumsRow : OpenClaim := { program := "ytcgkkofmnajedabdoor", sum := "fc53562f7aa74a95cf4dc0f30093730ff4e27116ed38d8d09a08d0224cfeda39", func := "hayloft/haylofttop.HayloftSums", spec := "hayloftSums", unfollowed := true, recurses := true, named := ["hayloft/expr.asks"], apart := false, laid := [("hayloft/expr.asks", laid_hayloft_expr_asks)] }
def HayloftSumsSaid : Prop := hayloftSumsRow.holds Tryd.pinned (OpenSpec.ofChange hayloftSumsSpec)

/-- ITS FALSE NEIGHBOUR: 'it returns false'. Refute it at one input. -/
def hayloftSumsWrong : ChangeSpec := { name := "hayloftSums", fn := fun _ => fun
  | [d1, d2, d3] => { results := [.lit (.bool false)], args := [d1, d2, d3] }
  | _ => none }
def HayloftSumsWrongFalsely : Prop := hayloftSumsRow.holds Tryd.pinned (OpenSpec.ofChange hayloftSumsWrong)

/- THE SECOND FORM. 'bulk': how many values and letters a reading holds, each counted each time it is reached (what is shared counts as often as it is met; a slice's spare places count too). A statement '..UptoSaid' is the law's where the arguments, and the package variables that the reading takes, are together of bulk at most 1048576: NARROWER than '..Said'. Prove '..Said' where nothing that the law and all that it calls make is longer than what came in: it says more and counts as full. Else prove '..UptoSaid'. A law counts once. -/
mutual
def uptoBulk {H : Type} : DataW H → Nat
  | .lit (.string bytes) => bytes.length + 1
  | .lit _ => 1
  | .nil => 1
  | .ptr d => uptoBulk d + 1
  | .slice elems spare => uptoBulkAll elems + uptoBulkAll spare + 1
  | .agg parts => uptoBulkAll parts + 1
  | .iface _ d => uptoBulk d + 1
  | .map entries => uptoBulkEntries entries + 1
  | .held _ => 1
def uptoBulkAll {H : Type} : List (DataW H) → Nat
  | [] => 0
  | d :: r => uptoBulk d + uptoBulkAll r
def uptoBulkEntries {H : Type} : List (Lit × DataW H) → Nat
  | [] => 0
  | x :: r => uptoBulkEntry x + uptoBulkEntries r
def uptoBulkEntry {H : Type} : Lit × DataW H → Nat
  | (.string bytes, d) => bytes.length + uptoBulk d + 1
  | (_, d) => uptoBulk d + 1
 end
def uptoSmall : (H : Type) → List (DataW H) → Bool := fun _ ds => decide (uptoBulkAll ds ≤ 1048576)
def OpenSpec.upto (s : _root_.Go.ChangeSpec) : _root_.Go.OpenSpec := { _root_.Go.OpenSpec.ofChange s with cond := some uptoSmall }

/-- 'hayloftlaw16.PlanOrders', WHERE WHAT IT READS IS OF BULK AT MOST 1048576: true; the input reads as it did. -/
def planOrdersUptoRow : OpenClaim := { program := "ytcgkkofmnajedabdoor", sum := "fc53562f7aa74a95cf4dc0f30093730ff4e27116ed38d8d09a08d0224cfeda39", func := "hayloft/hayloftlaw16.PlanOrders", spec := "planOrders", unfollowed := true, recurses := true, named := ["hayloft/expr.asks"], apart := false, laid := [("hayloft/expr.asks", laid_hayloft_expr_asks)], narrowed := true }
def PlanOrdersUptoSaid : Prop := planOrdersUptoRow.holds Tryd.pinned (OpenSpec.upto planOrdersSpec)

/-- 'haylofttop.HayloftSums', WHERE WHAT IT READS IS OF BULK AT MOST 1048576: true; the input reads as it did. -/
def hayloftSumsUptoRow : OpenClaim := { program := "ytcgkkofmnajedabdoor", sum := "fc53562f7aa74a95cf4dc0f30093730ff4e27116ed38d8d09a08d0224cfeda39", func := "hayloft/haylofttop.HayloftSums", spec := "hayloftSums", unfollowed := true, recurses := true, named := ["hayloft/expr.asks"], apart := false, laid := [("hayloft/expr.asks", laid_hayloft_expr_asks)], narrowed := true }
def HayloftSumsUptoSaid : Prop := hayloftSumsUptoRow.holds Tryd.pinned (OpenSpec.upto hayloftSumsSpec)

end Rows
end Go.Proofs.YtcgkkofmnajedabDoor
