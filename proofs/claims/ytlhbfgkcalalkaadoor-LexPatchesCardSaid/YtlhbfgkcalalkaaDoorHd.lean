/- The contracts of Apply and Undo. -/
import Derived.Test.YtlhbfgkcalalkaaDoorHc
import Derived.Test.YtlhbfgkcalalkaaDoorEa
import Derived.StillTailTactics
set_option linter.unusedVariables false
set_option linter.unusedSimpArgs false
namespace Go.Proofs.YtlhbfgkcalalkaaDoor
open Go.RowKit Go.Shelf

/-- What Apply comes to. -/
def applyF (s : List UInt8) (x : Ed) : List UInt8 := if doE s x = 0 then splF s x else []
/-- What Undo comes to. -/
def undoF (s : List UInt8) (x : Ed) : Ed := if doE s x = 0 then (x.1, x.1 + (x.2.2.length : Int), (s.take x.2.1.toNat).drop x.1.toNat) else noEd

theorem doE_isEd {s : List UInt8} {x : Ed} (h : doE s x = 0) : isEd s x = true := by
  unfold doE at h
  split at h
  · omega
  · split at h
    · assumption
    · omega

end Go.Proofs.YtlhbfgkcalalkaaDoor
