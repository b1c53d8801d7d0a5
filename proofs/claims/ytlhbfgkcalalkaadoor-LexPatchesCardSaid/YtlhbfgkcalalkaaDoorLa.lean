/- The document's examples, reckoned. -/
import Derived.Test.YtlhbfgkcalalkaaDoorKb
set_option linter.unusedVariables false
set_option linter.unusedSimpArgs false
namespace Go.Proofs.YtlhbfgkcalalkaaDoor
open Go.RowKit Go.Shelf

theorem aw1 : scanF [112, 117, 116, 32, 120, 32, 123, 49, 125, 59, 37, 32, 111, 110, 101] = ([(3, [112, 117, 116], 0), (1, [120], 4), (4, [123], 6), (2, [49], 7), (4, [125], 8), (4, [59], 9)], 0, 0) := by kernel_rfl
theorem aw2 : joinF [(1, [97], 0), (1, [98], 0), (4, [60], 0), (4, [61], 0), (2, [49], 0), (2, [50], 0)] = ([97, 32, 98, 60, 32, 61, 49, 32, 50], 0) := by kernel_rfl
theorem aw3 : diffF [108, 101, 116, 32, 97, 32, 61, 32, 49, 59] [108, 101, 116, 32, 97, 98, 32, 61, 32, 49, 59] = ((5, 5, [98]), 0) := by kernel_rfl
theorem aw4 : rescF [97, 32, 98, 32, 99] (3, 3, [100]) = ((1, 1, [(1, [98, 100], 2)]), 0, 0) := by kernel_rfl
end Go.Proofs.YtlhbfgkcalalkaaDoor
