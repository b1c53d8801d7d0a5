/- Contracts of the tables of words and signs, and of the grammar that reads by them. -/
import Derived.Test.YtlhbfgkcalalkaaDoorWd
import Derived.Maps.OwnOps
import Derived.Maps.Views
import Derived.StringKeys
set_option linter.unusedVariables false
set_option linter.unusedSimpArgs false
namespace Go.Proofs.YtlhbfgkcalalkaaDoor
open Go.RowKit Go.WideMaps Go.Maps

/-- A text as a value. -/
def mkS (l : List UInt8) : ByteArray := ⟨l.toArray⟩
theorem mkS_size (l : List UInt8) : (mkS l).size = l.length := by simp [mkS, ByteArray.size]
theorem mkS_list (l : List UInt8) : (mkS l).data.toList = l := by simp [mkS]
theorem mkS_self (s : ByteArray) : mkS s.data.toList = s := by cases s; simp [mkS]

def wordsL : List (List UInt8) := [[97, 108, 108], [97, 115], [101, 97, 99, 104], [101, 108, 115, 101], [102, 97, 105, 108], [102, 108, 97, 103], [102, 114, 101, 101, 122, 101], [104, 97, 115], [105, 102], [105, 110, 116], [108, 97, 116, 116, 105, 99, 101], [108, 101, 116], [109, 97, 112], [109, 97, 120], [110, 101, 119], [111, 110], [111, 110, 99, 101], [111, 114], [112, 97, 105, 114], [112, 117, 116], [115, 101, 116], [115, 104, 97, 114, 101], [115, 105, 122, 101], [115, 112, 97, 119, 110], [116, 97, 115, 107], [117, 115, 101], [118, 97, 108, 117, 101], [119, 104, 101, 110]]
def signsL : List (List UInt8) := [[61, 61], [33, 61], [60, 61], [62, 61], [60], [62], [61], [43], [45], [42], [47], [33], [35], [40], [41], [91], [93], [123], [125], [44], [59], [58]]
def strCells (l : List (List UInt8)) : Array Value := (l.map fun x => Value.string (mkS x)).toArray
theorem strCells_get (l : List (List UInt8)) (k : Nat) (hk : k < l.length) : (strCells l)[k]? = some (.string (mkS (l.getD k []))) := by
  simp [strCells, List.getD_eq_getElem?_getD, hk]

set_option maxHeartbeats 400000 in
theorem signs_any (w : World) :
    Calls Tryd.prog 41 #[] w fun e w' => e = .returned (.slice (some ⟨w.heap.size, 0, none⟩) 22 22) ∧ w' = w.alloc (.cells (strCells signsL) 9) := by
  go_enter Tryd.func41, Tryd.ntmps41
  go_wp2
  go_ret
  exact ⟨rfl, rfl⟩

set_option maxHeartbeats 400000 in
theorem keywords_any (w : World) :
    Calls Tryd.prog 42 #[] w fun e w' => e = .returned (.slice (some ⟨w.heap.size, 0, none⟩) 28 28) ∧ w' = w.alloc (.cells (strCells wordsL) 9) := by
  go_enter Tryd.func42, Tryd.ntmps42
  go_wp2
  go_ret
  exact ⟨rfl, rfl⟩

theorem cell_strs (w : World) (l : List (List UInt8)) (t : TypeId) (k : Nat) (hk : k < l.length) : (w.alloc (.cells (strCells l) t)).cell? ⟨w.heap.size, k, none⟩ = some (.string (mkS (l.getD k []))) := by
  rw [cell_of_row _ _ k (strCells l) t (0, 0) (heap_alloc_new w _)]; exact strCells_get l k hk

/-- Is a text a keyword? -/
def isKey (l : List UInt8) : Bool := wordsL.contains l

end Go.Proofs.YtlhbfgkcalalkaaDoor
