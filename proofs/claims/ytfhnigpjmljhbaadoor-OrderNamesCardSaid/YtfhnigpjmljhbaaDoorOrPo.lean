/- What OrderNames calls. -/
import Derived.Test.YtfhnigpjmljhbaaDoorOrPg
import Derived.Test.YtfhnigpjmljhbaaDoorOrPl
import Derived.Test.YtfhnigpjmljhbaaDoorOrPn
import Derived.Test.YtfhnigpjmljhbaaDoorOrBk
import Derived.Test.YtfhnigpjmljhbaaDoorOrAe
set_option linter.unusedVariables false
set_option linter.unusedSimpArgs false
namespace Go.Proofs.YtfhnigpjmljhbaaDoor.Or
open Go.RowKit Go.Shelf

def nmS1 : List UInt8 := [108, 97, 116, 116, 105, 99, 101, 32, 107, 32, 123, 32, 97, 59, 32, 98, 58, 32, 100, 59, 32, 99, 58, 32, 100, 59, 32, 100, 33, 32, 125]
def nmT1 : Tab := ⟨[107], [[97], [98], [99], [100]], [[], [3], [3], []], [false, false, false, true]⟩
def nmS2 : List UInt8 := [108, 97, 116, 116, 105, 99, 101, 32, 110, 32, 123, 32, 97, 58, 32, 98, 59, 32, 98, 58, 32, 97, 32, 125]
def nmT2 : Tab := ⟨[110], [[97], [98]], [[1], [0]], [false, false]⟩
def nmS3 : List UInt8 := [108, 97, 116, 116, 105, 99, 101, 32, 112, 32, 123, 32, 97, 58, 32, 98, 59, 32, 98, 33, 58, 32, 99, 59, 32, 99, 32, 125]
def nmT3 : Tab := ⟨[112], [[97], [98], [99]], [[1], [2], []], [false, true, false]⟩
def nmS4 : List UInt8 := [108, 97, 116, 116, 105, 99, 101, 32, 113, 32, 123, 32, 97, 58, 32, 98, 44, 32, 99, 59, 32, 98, 58, 32, 99, 59, 32, 99, 32, 125]
def nmT4 : Tab := ⟨[113], [[97], [98], [99]], [[1, 2], [2], []], [false, false, false]⟩
def nmT5 : Tab := ⟨[113], [[97], [98], [99]], [[1], [2], []], [false, false, false]⟩
def nmS5 : List UInt8 := [108, 97, 116, 116, 105, 99, 101, 32, 113, 32, 123, 32, 97, 58, 32, 98, 59, 32, 98, 58, 32, 99, 59, 32, 99, 32, 125]
def nmS6 : List UInt8 := [108, 97, 116, 116, 105, 99, 101, 32, 109, 97, 120, 32, 123, 32, 97, 32, 125]
def nmS7 : List UInt8 := [112, 97, 105, 114, 40, 102, 108, 97, 103, 44, 109, 97, 120, 41]
def nmS8 : List UInt8 := [109, 97, 112, 40, 109, 97, 112, 40, 109, 97, 112, 40, 109, 97, 112, 40, 102, 108, 97, 103, 41, 41, 41, 41]
theorem nm1 : parF nmS1 = nmT1 ∧ parE nmS1 = 0 := ⟨by kernel_rfl, by kernel_rfl⟩
theorem nm2 : parF nmS2 = nmT2 ∧ parE nmS2 = 0 := ⟨by kernel_rfl, by kernel_rfl⟩
theorem nm3 : parF nmS3 = nmT3 ∧ parE nmS3 = 0 := ⟨by kernel_rfl, by kernel_rfl⟩
theorem nm4 : parF nmS4 = nmT4 ∧ parE nmS4 = 0 := ⟨by kernel_rfl, by kernel_rfl⟩
theorem nm6 : parE nmS6 = 4 := by kernel_rfl
theorem nm7 : psE nmS7 = 4 := by kernel_rfl
theorem nm8 : psE nmS8 = 5 := by kernel_rfl
theorem nmP1 : proveF nmT1 = (2, 1, 0) ∧ latE nmT1 [] = 12 := ⟨by kernel_rfl, by kernel_rfl⟩
theorem nmP2 : proveF nmT2 = (1, 0, 0) ∧ latE nmT2 [] = 12 := ⟨by kernel_rfl, by kernel_rfl⟩
theorem nmP3 : proveF nmT3 = (5, 1, 2) ∧ latE nmT3 [] = 12 := ⟨by kernel_rfl, by kernel_rfl⟩
theorem nmL4 : latE nmT4 [] = 0 := by kernel_rfl
theorem nmL5 : slimF nmT4 = nmT5 := by kernel_rfl
theorem nmL6 : frmF nmT5 = true ∧ textF nmT5 = nmS5 := ⟨by kernel_rfl, by kernel_rfl⟩
theorem nmJ1 : latE manyT [0, 9] = 12 := by kernel_rfl
theorem nmJ2 : latE diamondT [0, 4] = 7 := by kernel_rfl
theorem nmJ3 : tabE manyT [-1] = 7 := by kernel_rfl
theorem nmJ4 : tabE zeroT [0, 0] = 4 := by kernel_rfl
theorem nmC1 : csE [diamondT, diamondT] 1 (.mk 1 [] []) = 6 := by kernel_rfl
theorem nmC2 : csE [diamondT, manyT] 1 (.mk 5 [108] []) = 12 := by kernel_rfl
theorem nmC3 : csE [diamondT] 1 (.mk 5 [109] []) = 7 := by kernel_rfl
end Go.Proofs.YtfhnigpjmljhbaaDoor.Or
