/- What the proof stands on: contracts of functions that the statement calls, and plain lemmas. No statement of the seat is proved here. -/
import Derived.Test.YtlgfekjoknbfdaaGreatDoorB7
set_option maxHeartbeats 64000000
set_option maxRecDepth 100000
set_option linter.unusedVariables false
set_option linter.unusedSimpArgs false
section
namespace Go.Proofs.YtlgfekjoknbfdaaGreatDoor
open Go.ChangeShapes Go.WideShapes Go.ChangeAt Go.RowKit Go.Hay
theorem table {W : World} (h : laidMetH Tryz.prog [("hayloft/expr.asks", Rows.laid_hayloft_expr_asks)] W) : Asks W := by
 obtain ⟨ps, ⟨g, t, cs, fuel, p, q, hg, ht, hv, hd, _, _⟩, _, _⟩ := (show laidMet Tryz.prog [("hayloft/expr.asks", Rows.laid_hayloft_expr_asks)] W from h);obtain rfl := Option.some.inj (gAsk.symm.trans hg)
 exact asksOf ⟨t, cs, fuel, p, ht, hv, hd⟩
def tabCells : Array Value := askCells
end Go.Proofs.YtlgfekjoknbfdaaGreatDoor
end
