/- Contracts over texts in the reference: Check, Run; IsNumber. -/
import Derived.Test.YtlhbfgkcalalkaaDoorWc
import Derived.Test.YtlhbfgkcalalkaaDoorMa
set_option linter.unusedVariables false
set_option linter.unusedSimpArgs false
namespace Go.Proofs.YtlhbfgkcalalkaaDoor
open Go.RowKit

/-- The classes that Run passes over. -/
def runCls (letters : Bool) : List Nat := if letters then [2, 3] else [3]

end Go.Proofs.YtlhbfgkcalalkaaDoor
