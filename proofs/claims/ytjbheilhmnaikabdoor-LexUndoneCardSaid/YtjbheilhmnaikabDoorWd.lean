/- Contracts over texts in the reference: Check, Run; IsNumber. -/
import Derived.Test.YtjbheilhmnaikabDoorWc
import Derived.Test.YtjbheilhmnaikabDoorMa
namespace Go.Proofs.YtjbheilhmnaikabDoor
open Go.RowKit

/-- The classes that Run passes over. -/
def runCls (letters : Bool) : List Nat := if letters then [2, 3] else [3]

end Go.Proofs.YtjbheilhmnaikabDoor
