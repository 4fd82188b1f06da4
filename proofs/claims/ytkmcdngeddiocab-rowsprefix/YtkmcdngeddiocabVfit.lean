/- Which values fit a column; and which are right, by the reference. -/
import Derived.Test.YtkmcdngeddiocabVrig
import Derived.Lib.Strings
namespace Go.Proofs.Ytkmcdngeddiocab
open Go.RowKit Go.Hay
set_option linter.unusedVariables false
set_option linter.unusedSimpArgs false

/-- Which values fit a column of that kind. -/
def fitsV (ck : Int) (cn : Bool) (x : Val) : Bool := x.right && (x.k == ck || (x.k == 0 && cn))

end Go.Proofs.Ytkmcdngeddiocab
