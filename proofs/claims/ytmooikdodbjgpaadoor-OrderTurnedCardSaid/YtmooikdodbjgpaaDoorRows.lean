/-
  NARROWER THAN 'FOR EVERY INPUT', by the rows' own cells (each row's printed sentence says how): OrderProves: laid · OrderReaches: laid · OrderJoins: laid · OrderSlims: laid · OrderShapes: loops, laid · OrderNames: laid · OrderLaws: laid · OrderParted: laid · OrderHigh: laid · OrderSlim: laid · OrderTurned: laid · OrderLeast: laid.
  DERIVED. THE GIVEN ROWS OF THIS SEAT. 12 by the template 'for every input the law returns true; each argument reads behind the call as it read before'; 0 by the template 'total and deterministic' (their statements: YtmooikdodbjgpaaDoorTotals.lean).
  GIVEN WITH THE SEED: the statements are not yours to turn. If you find one false, say at which input.
  Laid BY PROGRAM, IN A SANDBOX (cutbox-rows.mjs): the forced cells as the released guide's own fill.sh prints them over the translation 33522ebd6f3d037d… (all of the seat's roots in one cut). By AI agents, Wed Nov 11 2026. No macro, syntax, notation, axiom, sorry.
-/
import Derived.Test.YtmooikdodbjgpaaDoorChecked
import GoSem.Claim
import GoSem.ClaimJoined
import GoSem.ClaimMapViews
import Derived.JoinedTies
import Derived.KernelRfl
namespace Go.Proofs.YtmooikdodbjgpaaDoor
/- THE CELL 'sum', in the pinned program and in every row, IS THE sha256 OF THE DUMP (.gsa) THAT YtmooikdodbjgpaaDoorProg.lean LOADS. Nothing in Lean hashes anything: it is a label: what it is worth is what the hold of that sum in a sandbox is worth. -/
noncomputable def Tryd.pinned : Pinned := { name := "ytmooikdodbjgpaadoor", sum := "33522ebd6f3d037d4871be889d832fde7c23461c986946cde5dea6071ee8cc24", checked := Tryd.checked }
namespace Rows
def none {H : Type} : Left H := { results := [], args := [] }

/- WHAT THE LISTED PACKAGE-LEVEL VARIABLES READ AS WHEN THE CALL BEGINS. Each datum BY PROGRAM (the guide's laid-datum.mjs) off the statement by which the dump's own 'gosem.cut.vars' lays the variable. In a bare row this is a premise. The card (YtmooikdodbjgpaaDoorCards.lean) ties it to the program's text. -/
def laid_math_bits_deBruijn32tab {H : Type} : DataW H := .agg [.lit (.int .u8 0), .lit (.int .u8 1), .lit (.int .u8 28), .lit (.int .u8 2), .lit (.int .u8 29), .lit (.int .u8 14), .lit (.int .u8 24), .lit (.int .u8 3), .lit (.int .u8 30), .lit (.int .u8 22), .lit (.int .u8 20), .lit (.int .u8 15), .lit (.int .u8 25), .lit (.int .u8 17), .lit (.int .u8 4), .lit (.int .u8 8), .lit (.int .u8 31), .lit (.int .u8 27), .lit (.int .u8 13), .lit (.int .u8 23), .lit (.int .u8 21), .lit (.int .u8 19), .lit (.int .u8 16), .lit (.int .u8 7), .lit (.int .u8 26), .lit (.int .u8 12), .lit (.int .u8 18), .lit (.int .u8 6), .lit (.int .u8 11), .lit (.int .u8 5), .lit (.int .u8 10), .lit (.int .u8 9)]
def laid_dripstone_order_shapeWords {H : Type} : DataW H := .agg [.lit (.string []), .lit (.string [102, 108, 97, 103]), .lit (.string [109, 97, 120]), .lit (.string [115, 101, 116]), .lit (.string [111, 110, 99, 101]), .lit (.string []), .lit (.string [109, 97, 112]), .lit (.string [112, 97, 105, 114])]

/-- 'dripstonelaw03.OrderProves': WHATEVER THE INPUT: true; the input reads as it did. -/
def orderProvesSpec : ChangeSpec := { name := "orderProves", fn := fun _ => fun
  | [d] => { results := [.lit (.bool true)], args := [d] }
  | _ => none }
def orderProvesRow : OpenClaim := { program := "ytmooikdodbjgpaadoor", sum := "33522ebd6f3d037d4871be889d832fde7c23461c986946cde5dea6071ee8cc24", func := "dripstone/dripstonelaw03.OrderProves", spec := "orderProves", inPlace := ["internal/abi.NoEscape", "internal/bytealg.MakeNoZero"], unfollowed := true, recurses := true, named := ["dripstone/order.shapeWords", "math/bits.deBruijn32tab"], apart := false, laid := [("math/bits.deBruijn32tab", laid_math_bits_deBruijn32tab), ("dripstone/order.shapeWords", laid_dripstone_order_shapeWords)] }
def OrderProvesSaid : Prop := orderProvesRow.holds Tryd.pinned (OpenSpec.ofChange orderProvesSpec)

/-- ITS FALSE NEIGHBOUR: 'it returns false'. Refute it at one input. -/
def orderProvesWrong : ChangeSpec := { name := "orderProves", fn := fun _ => fun
  | [d] => { results := [.lit (.bool false)], args := [d] }
  | _ => none }
def OrderProvesWrongFalsely : Prop := orderProvesRow.holds Tryd.pinned (OpenSpec.ofChange orderProvesWrong)

/-- 'dripstonelaw03.OrderReaches': WHATEVER THE INPUT: true; the input reads as it did. -/
def orderReachesSpec : ChangeSpec := { name := "orderReaches", fn := fun _ => fun
  | [d1, d2] => { results := [.lit (.bool true)], args := [d1, d2] }
  | _ => none }
def orderReachesRow : OpenClaim := { program := "ytmooikdodbjgpaadoor", sum := "33522ebd6f3d037d4871be889d832fde7c23461c986946cde5dea6071ee8cc24", func := "dripstone/dripstonelaw03.OrderReaches", spec := "orderReaches", inPlace := ["internal/abi.NoEscape", "internal/bytealg.MakeNoZero"], unfollowed := true, recurses := true, named := ["dripstone/order.shapeWords", "math/bits.deBruijn32tab"], apart := false, laid := [("math/bits.deBruijn32tab", laid_math_bits_deBruijn32tab), ("dripstone/order.shapeWords", laid_dripstone_order_shapeWords)] }
def OrderReachesSaid : Prop := orderReachesRow.holds Tryd.pinned (OpenSpec.ofChange orderReachesSpec)

/-- ITS FALSE NEIGHBOUR: 'it returns false'. Refute it at one input. -/
def orderReachesWrong : ChangeSpec := { name := "orderReaches", fn := fun _ => fun
  | [d1, d2] => { results := [.lit (.bool false)], args := [d1, d2] }
  | _ => none }
def OrderReachesWrongFalsely : Prop := orderReachesRow.holds Tryd.pinned (OpenSpec.ofChange orderReachesWrong)

/-- 'dripstonelaw03.OrderJoins': WHATEVER THE INPUT: true; the input reads as it did. -/
def orderJoinsSpec : ChangeSpec := { name := "orderJoins", fn := fun _ => fun
  | [d1, d2] => { results := [.lit (.bool true)], args := [d1, d2] }
  | _ => none }
def orderJoinsRow : OpenClaim := { program := "ytmooikdodbjgpaadoor", sum := "33522ebd6f3d037d4871be889d832fde7c23461c986946cde5dea6071ee8cc24", func := "dripstone/dripstonelaw03.OrderJoins", spec := "orderJoins", inPlace := ["internal/abi.NoEscape", "internal/bytealg.MakeNoZero"], unfollowed := true, recurses := true, named := ["dripstone/order.shapeWords", "math/bits.deBruijn32tab"], apart := false, laid := [("math/bits.deBruijn32tab", laid_math_bits_deBruijn32tab), ("dripstone/order.shapeWords", laid_dripstone_order_shapeWords)] }
def OrderJoinsSaid : Prop := orderJoinsRow.holds Tryd.pinned (OpenSpec.ofChange orderJoinsSpec)

/-- ITS FALSE NEIGHBOUR: 'it returns false'. Refute it at one input. -/
def orderJoinsWrong : ChangeSpec := { name := "orderJoins", fn := fun _ => fun
  | [d1, d2] => { results := [.lit (.bool false)], args := [d1, d2] }
  | _ => none }
def OrderJoinsWrongFalsely : Prop := orderJoinsRow.holds Tryd.pinned (OpenSpec.ofChange orderJoinsWrong)

/-- 'dripstonelaw03.OrderSlims': WHATEVER THE INPUT: true; the input reads as it did. -/
def orderSlimsSpec : ChangeSpec := { name := "orderSlims", fn := fun _ => fun
  | [d] => { results := [.lit (.bool true)], args := [d] }
  | _ => none }
def orderSlimsRow : OpenClaim := { program := "ytmooikdodbjgpaadoor", sum := "33522ebd6f3d037d4871be889d832fde7c23461c986946cde5dea6071ee8cc24", func := "dripstone/dripstonelaw03.OrderSlims", spec := "orderSlims", inPlace := ["internal/abi.NoEscape", "internal/bytealg.MakeNoZero"], unfollowed := true, recurses := true, named := ["dripstone/order.shapeWords", "math/bits.deBruijn32tab"], apart := false, laid := [("math/bits.deBruijn32tab", laid_math_bits_deBruijn32tab), ("dripstone/order.shapeWords", laid_dripstone_order_shapeWords)] }
def OrderSlimsSaid : Prop := orderSlimsRow.holds Tryd.pinned (OpenSpec.ofChange orderSlimsSpec)

/-- ITS FALSE NEIGHBOUR: 'it returns false'. Refute it at one input. -/
def orderSlimsWrong : ChangeSpec := { name := "orderSlims", fn := fun _ => fun
  | [d] => { results := [.lit (.bool false)], args := [d] }
  | _ => none }
def OrderSlimsWrongFalsely : Prop := orderSlimsRow.holds Tryd.pinned (OpenSpec.ofChange orderSlimsWrong)

/-- 'dripstonelaw03.OrderShapes': WHATEVER THE INPUT: true; the input reads as it did. -/
def orderShapesSpec : ChangeSpec := { name := "orderShapes", fn := fun _ => fun
  | [d1, d2] => { results := [.lit (.bool true)], args := [d1, d2] }
  | _ => none }
def orderShapesRow : OpenClaim := { program := "ytmooikdodbjgpaadoor", sum := "33522ebd6f3d037d4871be889d832fde7c23461c986946cde5dea6071ee8cc24", func := "dripstone/dripstonelaw03.OrderShapes", spec := "orderShapes", inPlace := ["internal/abi.NoEscape", "internal/bytealg.MakeNoZero"], unfollowed := true, recurses := true, named := ["dripstone/order.shapeWords", "math/bits.deBruijn32tab"], loops := true, apart := false, laid := [("math/bits.deBruijn32tab", laid_math_bits_deBruijn32tab), ("dripstone/order.shapeWords", laid_dripstone_order_shapeWords)] }
def OrderShapesSaid : Prop := orderShapesRow.holds Tryd.pinned (OpenSpec.ofChange orderShapesSpec)

/-- ITS FALSE NEIGHBOUR: 'it returns false'. Refute it at one input. -/
def orderShapesWrong : ChangeSpec := { name := "orderShapes", fn := fun _ => fun
  | [d1, d2] => { results := [.lit (.bool false)], args := [d1, d2] }
  | _ => none }
def OrderShapesWrongFalsely : Prop := orderShapesRow.holds Tryd.pinned (OpenSpec.ofChange orderShapesWrong)

/-- 'dripstonelaw03.OrderNames': WHATEVER THE INPUT: true; the input reads as it did. -/
def orderNamesSpec : ChangeSpec := { name := "orderNames", fn := fun _ => fun
  | [] => { results := [.lit (.bool true)], args := [] }
  | _ => none }
def orderNamesRow : OpenClaim := { program := "ytmooikdodbjgpaadoor", sum := "33522ebd6f3d037d4871be889d832fde7c23461c986946cde5dea6071ee8cc24", func := "dripstone/dripstonelaw03.OrderNames", spec := "orderNames", inPlace := ["internal/abi.NoEscape", "internal/bytealg.MakeNoZero"], unfollowed := true, recurses := true, named := ["dripstone/order.shapeWords", "math/bits.deBruijn32tab"], apart := false, laid := [("math/bits.deBruijn32tab", laid_math_bits_deBruijn32tab), ("dripstone/order.shapeWords", laid_dripstone_order_shapeWords)] }
def OrderNamesSaid : Prop := orderNamesRow.holds Tryd.pinned (OpenSpec.ofChange orderNamesSpec)

/-- ITS FALSE NEIGHBOUR: 'it returns false'. Refute it at one input. -/
def orderNamesWrong : ChangeSpec := { name := "orderNames", fn := fun _ => fun
  | [] => { results := [.lit (.bool false)], args := [] }
  | _ => none }
def OrderNamesWrongFalsely : Prop := orderNamesRow.holds Tryd.pinned (OpenSpec.ofChange orderNamesWrong)

/-- 'dripstonelaw03.OrderLaws': WHATEVER THE INPUT: true; the input reads as it did. -/
def orderLawsSpec : ChangeSpec := { name := "orderLaws", fn := fun _ => fun
  | [d] => { results := [.lit (.bool true)], args := [d] }
  | _ => none }
def orderLawsRow : OpenClaim := { program := "ytmooikdodbjgpaadoor", sum := "33522ebd6f3d037d4871be889d832fde7c23461c986946cde5dea6071ee8cc24", func := "dripstone/dripstonelaw03.OrderLaws", spec := "orderLaws", inPlace := ["internal/abi.NoEscape", "internal/bytealg.MakeNoZero"], unfollowed := true, recurses := true, named := ["dripstone/order.shapeWords", "math/bits.deBruijn32tab"], apart := false, laid := [("math/bits.deBruijn32tab", laid_math_bits_deBruijn32tab), ("dripstone/order.shapeWords", laid_dripstone_order_shapeWords)] }
def OrderLawsSaid : Prop := orderLawsRow.holds Tryd.pinned (OpenSpec.ofChange orderLawsSpec)

/-- ITS FALSE NEIGHBOUR: 'it returns false'. Refute it at one input. -/
def orderLawsWrong : ChangeSpec := { name := "orderLaws", fn := fun _ => fun
  | [d] => { results := [.lit (.bool false)], args := [d] }
  | _ => none }
def OrderLawsWrongFalsely : Prop := orderLawsRow.holds Tryd.pinned (OpenSpec.ofChange orderLawsWrong)

/-- 'dripstonelaw03.OrderParted': WHATEVER THE INPUT: true; the input reads as it did. -/
def orderPartedSpec : ChangeSpec := { name := "orderParted", fn := fun _ => fun
  | [d] => { results := [.lit (.bool true)], args := [d] }
  | _ => none }
def orderPartedRow : OpenClaim := { program := "ytmooikdodbjgpaadoor", sum := "33522ebd6f3d037d4871be889d832fde7c23461c986946cde5dea6071ee8cc24", func := "dripstone/dripstonelaw03.OrderParted", spec := "orderParted", inPlace := ["internal/abi.NoEscape", "internal/bytealg.MakeNoZero"], unfollowed := true, recurses := true, named := ["dripstone/order.shapeWords", "math/bits.deBruijn32tab"], apart := false, laid := [("math/bits.deBruijn32tab", laid_math_bits_deBruijn32tab), ("dripstone/order.shapeWords", laid_dripstone_order_shapeWords)] }
def OrderPartedSaid : Prop := orderPartedRow.holds Tryd.pinned (OpenSpec.ofChange orderPartedSpec)

/-- ITS FALSE NEIGHBOUR: 'it returns false'. Refute it at one input. -/
def orderPartedWrong : ChangeSpec := { name := "orderParted", fn := fun _ => fun
  | [d] => { results := [.lit (.bool false)], args := [d] }
  | _ => none }
def OrderPartedWrongFalsely : Prop := orderPartedRow.holds Tryd.pinned (OpenSpec.ofChange orderPartedWrong)

/-- 'dripstonelaw03.OrderHigh': WHATEVER THE INPUT: true; the input reads as it did. -/
def orderHighSpec : ChangeSpec := { name := "orderHigh", fn := fun _ => fun
  | [d1, d2] => { results := [.lit (.bool true)], args := [d1, d2] }
  | _ => none }
def orderHighRow : OpenClaim := { program := "ytmooikdodbjgpaadoor", sum := "33522ebd6f3d037d4871be889d832fde7c23461c986946cde5dea6071ee8cc24", func := "dripstone/dripstonelaw03.OrderHigh", spec := "orderHigh", inPlace := ["internal/abi.NoEscape", "internal/bytealg.MakeNoZero"], unfollowed := true, recurses := true, named := ["dripstone/order.shapeWords", "math/bits.deBruijn32tab"], apart := false, laid := [("math/bits.deBruijn32tab", laid_math_bits_deBruijn32tab), ("dripstone/order.shapeWords", laid_dripstone_order_shapeWords)] }
def OrderHighSaid : Prop := orderHighRow.holds Tryd.pinned (OpenSpec.ofChange orderHighSpec)

/-- ITS FALSE NEIGHBOUR: 'it returns false'. Refute it at one input. -/
def orderHighWrong : ChangeSpec := { name := "orderHigh", fn := fun _ => fun
  | [d1, d2] => { results := [.lit (.bool false)], args := [d1, d2] }
  | _ => none }
def OrderHighWrongFalsely : Prop := orderHighRow.holds Tryd.pinned (OpenSpec.ofChange orderHighWrong)

/-- 'dripstonelaw03.OrderSlim': WHATEVER THE INPUT: true; the input reads as it did. -/
def orderSlimSpec : ChangeSpec := { name := "orderSlim", fn := fun _ => fun
  | [d] => { results := [.lit (.bool true)], args := [d] }
  | _ => none }
def orderSlimRow : OpenClaim := { program := "ytmooikdodbjgpaadoor", sum := "33522ebd6f3d037d4871be889d832fde7c23461c986946cde5dea6071ee8cc24", func := "dripstone/dripstonelaw03.OrderSlim", spec := "orderSlim", inPlace := ["internal/abi.NoEscape", "internal/bytealg.MakeNoZero"], unfollowed := true, recurses := true, named := ["dripstone/order.shapeWords", "math/bits.deBruijn32tab"], apart := false, laid := [("math/bits.deBruijn32tab", laid_math_bits_deBruijn32tab), ("dripstone/order.shapeWords", laid_dripstone_order_shapeWords)] }
def OrderSlimSaid : Prop := orderSlimRow.holds Tryd.pinned (OpenSpec.ofChange orderSlimSpec)

/-- ITS FALSE NEIGHBOUR: 'it returns false'. Refute it at one input. -/
def orderSlimWrong : ChangeSpec := { name := "orderSlim", fn := fun _ => fun
  | [d] => { results := [.lit (.bool false)], args := [d] }
  | _ => none }
def OrderSlimWrongFalsely : Prop := orderSlimRow.holds Tryd.pinned (OpenSpec.ofChange orderSlimWrong)

/-- 'dripstonelaw03.OrderTurned': WHATEVER THE INPUT: true; the input reads as it did. -/
def orderTurnedSpec : ChangeSpec := { name := "orderTurned", fn := fun _ => fun
  | [d1, d2] => { results := [.lit (.bool true)], args := [d1, d2] }
  | _ => none }
def orderTurnedRow : OpenClaim := { program := "ytmooikdodbjgpaadoor", sum := "33522ebd6f3d037d4871be889d832fde7c23461c986946cde5dea6071ee8cc24", func := "dripstone/dripstonelaw03.OrderTurned", spec := "orderTurned", inPlace := ["internal/abi.NoEscape", "internal/bytealg.MakeNoZero"], unfollowed := true, recurses := true, named := ["dripstone/order.shapeWords", "math/bits.deBruijn32tab"], apart := false, laid := [("math/bits.deBruijn32tab", laid_math_bits_deBruijn32tab), ("dripstone/order.shapeWords", laid_dripstone_order_shapeWords)] }
def OrderTurnedSaid : Prop := orderTurnedRow.holds Tryd.pinned (OpenSpec.ofChange orderTurnedSpec)

/-- ITS FALSE NEIGHBOUR: 'it returns false'. Refute it at one input. -/
def orderTurnedWrong : ChangeSpec := { name := "orderTurned", fn := fun _ => fun
  | [d1, d2] => { results := [.lit (.bool false)], args := [d1, d2] }
  | _ => none }
def OrderTurnedWrongFalsely : Prop := orderTurnedRow.holds Tryd.pinned (OpenSpec.ofChange orderTurnedWrong)

/-- 'dripstonelaw03.OrderLeast': WHATEVER THE INPUT: true; the input reads as it did. -/
def orderLeastSpec : ChangeSpec := { name := "orderLeast", fn := fun _ => fun
  | [d] => { results := [.lit (.bool true)], args := [d] }
  | _ => none }
def orderLeastRow : OpenClaim := { program := "ytmooikdodbjgpaadoor", sum := "33522ebd6f3d037d4871be889d832fde7c23461c986946cde5dea6071ee8cc24", func := "dripstone/dripstonelaw03.OrderLeast", spec := "orderLeast", inPlace := ["internal/abi.NoEscape", "internal/bytealg.MakeNoZero"], unfollowed := true, recurses := true, named := ["dripstone/order.shapeWords", "math/bits.deBruijn32tab"], apart := false, laid := [("math/bits.deBruijn32tab", laid_math_bits_deBruijn32tab), ("dripstone/order.shapeWords", laid_dripstone_order_shapeWords)] }
def OrderLeastSaid : Prop := orderLeastRow.holds Tryd.pinned (OpenSpec.ofChange orderLeastSpec)

/-- ITS FALSE NEIGHBOUR: 'it returns false'. Refute it at one input. -/
def orderLeastWrong : ChangeSpec := { name := "orderLeast", fn := fun _ => fun
  | [d] => { results := [.lit (.bool false)], args := [d] }
  | _ => none }
def OrderLeastWrongFalsely : Prop := orderLeastRow.holds Tryd.pinned (OpenSpec.ofChange orderLeastWrong)

/- THE SECOND FORM. 'bulk': how many values and letters a reading holds, each counted each time it is reached (what is shared counts as often as it is met; a slice's spare places count too). A statement '..UptoSaid' is the law's where the arguments, and the package variables that the reading takes, are together of bulk at most 1048576: NARROWER than '..Said'. Prove '..Said' where nothing that the law and all that it calls make is longer than what came in: it says more and counts as full. Else prove '..UptoSaid'. A law counts once. -/
mutual
def uptoBulk {H : Type} : DataW H → Nat
  | .lit (.string bytes) => bytes.length + 1
  | .lit _ => 1
  | .nil => 1
  | .ptr d => uptoBulk d + 1
  | .slice elems spare => uptoBulkAll elems + uptoBulkAll spare + 1
  | .agg parts => uptoBulkAll parts + 1
  | .iface _ d => uptoBulk d + 1
  | .map entries => uptoBulkEntries entries + 1
  | .held _ => 1
def uptoBulkAll {H : Type} : List (DataW H) → Nat
  | [] => 0
  | d :: r => uptoBulk d + uptoBulkAll r
def uptoBulkEntries {H : Type} : List (Lit × DataW H) → Nat
  | [] => 0
  | x :: r => uptoBulkEntry x + uptoBulkEntries r
def uptoBulkEntry {H : Type} : Lit × DataW H → Nat
  | (.string bytes, d) => bytes.length + uptoBulk d + 1
  | (_, d) => uptoBulk d + 1
 end
def uptoSmall : (H : Type) → List (DataW H) → Bool := fun _ ds => decide (uptoBulkAll ds ≤ 1048576)
def OpenSpec.upto (s : _root_.Go.ChangeSpec) : _root_.Go.OpenSpec := { _root_.Go.OpenSpec.ofChange s with cond := some uptoSmall }

/-- 'dripstonelaw03.OrderProves', WHERE WHAT IT READS IS OF BULK AT MOST 1048576: true; the input reads as it did. -/
def orderProvesUptoRow : OpenClaim := { program := "ytmooikdodbjgpaadoor", sum := "33522ebd6f3d037d4871be889d832fde7c23461c986946cde5dea6071ee8cc24", func := "dripstone/dripstonelaw03.OrderProves", spec := "orderProves", inPlace := ["internal/abi.NoEscape", "internal/bytealg.MakeNoZero"], unfollowed := true, recurses := true, named := ["dripstone/order.shapeWords", "math/bits.deBruijn32tab"], apart := false, laid := [("math/bits.deBruijn32tab", laid_math_bits_deBruijn32tab), ("dripstone/order.shapeWords", laid_dripstone_order_shapeWords)], narrowed := true }
def OrderProvesUptoSaid : Prop := orderProvesUptoRow.holds Tryd.pinned (OpenSpec.upto orderProvesSpec)

/-- 'dripstonelaw03.OrderReaches', WHERE WHAT IT READS IS OF BULK AT MOST 1048576: true; the input reads as it did. -/
def orderReachesUptoRow : OpenClaim := { program := "ytmooikdodbjgpaadoor", sum := "33522ebd6f3d037d4871be889d832fde7c23461c986946cde5dea6071ee8cc24", func := "dripstone/dripstonelaw03.OrderReaches", spec := "orderReaches", inPlace := ["internal/abi.NoEscape", "internal/bytealg.MakeNoZero"], unfollowed := true, recurses := true, named := ["dripstone/order.shapeWords", "math/bits.deBruijn32tab"], apart := false, laid := [("math/bits.deBruijn32tab", laid_math_bits_deBruijn32tab), ("dripstone/order.shapeWords", laid_dripstone_order_shapeWords)], narrowed := true }
def OrderReachesUptoSaid : Prop := orderReachesUptoRow.holds Tryd.pinned (OpenSpec.upto orderReachesSpec)

/-- 'dripstonelaw03.OrderJoins', WHERE WHAT IT READS IS OF BULK AT MOST 1048576: true; the input reads as it did. -/
def orderJoinsUptoRow : OpenClaim := { program := "ytmooikdodbjgpaadoor", sum := "33522ebd6f3d037d4871be889d832fde7c23461c986946cde5dea6071ee8cc24", func := "dripstone/dripstonelaw03.OrderJoins", spec := "orderJoins", inPlace := ["internal/abi.NoEscape", "internal/bytealg.MakeNoZero"], unfollowed := true, recurses := true, named := ["dripstone/order.shapeWords", "math/bits.deBruijn32tab"], apart := false, laid := [("math/bits.deBruijn32tab", laid_math_bits_deBruijn32tab), ("dripstone/order.shapeWords", laid_dripstone_order_shapeWords)], narrowed := true }
def OrderJoinsUptoSaid : Prop := orderJoinsUptoRow.holds Tryd.pinned (OpenSpec.upto orderJoinsSpec)

/-- 'dripstonelaw03.OrderSlims', WHERE WHAT IT READS IS OF BULK AT MOST 1048576: true; the input reads as it did. -/
def orderSlimsUptoRow : OpenClaim := { program := "ytmooikdodbjgpaadoor", sum := "33522ebd6f3d037d4871be889d832fde7c23461c986946cde5dea6071ee8cc24", func := "dripstone/dripstonelaw03.OrderSlims", spec := "orderSlims", inPlace := ["internal/abi.NoEscape", "internal/bytealg.MakeNoZero"], unfollowed := true, recurses := true, named := ["dripstone/order.shapeWords", "math/bits.deBruijn32tab"], apart := false, laid := [("math/bits.deBruijn32tab", laid_math_bits_deBruijn32tab), ("dripstone/order.shapeWords", laid_dripstone_order_shapeWords)], narrowed := true }
def OrderSlimsUptoSaid : Prop := orderSlimsUptoRow.holds Tryd.pinned (OpenSpec.upto orderSlimsSpec)

/-- 'dripstonelaw03.OrderShapes', WHERE WHAT IT READS IS OF BULK AT MOST 1048576: true; the input reads as it did. -/
def orderShapesUptoRow : OpenClaim := { program := "ytmooikdodbjgpaadoor", sum := "33522ebd6f3d037d4871be889d832fde7c23461c986946cde5dea6071ee8cc24", func := "dripstone/dripstonelaw03.OrderShapes", spec := "orderShapes", inPlace := ["internal/abi.NoEscape", "internal/bytealg.MakeNoZero"], unfollowed := true, recurses := true, named := ["dripstone/order.shapeWords", "math/bits.deBruijn32tab"], loops := true, apart := false, laid := [("math/bits.deBruijn32tab", laid_math_bits_deBruijn32tab), ("dripstone/order.shapeWords", laid_dripstone_order_shapeWords)], narrowed := true }
def OrderShapesUptoSaid : Prop := orderShapesUptoRow.holds Tryd.pinned (OpenSpec.upto orderShapesSpec)

/-- 'dripstonelaw03.OrderNames', WHERE WHAT IT READS IS OF BULK AT MOST 1048576: true; the input reads as it did. -/
def orderNamesUptoRow : OpenClaim := { program := "ytmooikdodbjgpaadoor", sum := "33522ebd6f3d037d4871be889d832fde7c23461c986946cde5dea6071ee8cc24", func := "dripstone/dripstonelaw03.OrderNames", spec := "orderNames", inPlace := ["internal/abi.NoEscape", "internal/bytealg.MakeNoZero"], unfollowed := true, recurses := true, named := ["dripstone/order.shapeWords", "math/bits.deBruijn32tab"], apart := false, laid := [("math/bits.deBruijn32tab", laid_math_bits_deBruijn32tab), ("dripstone/order.shapeWords", laid_dripstone_order_shapeWords)], narrowed := true }
def OrderNamesUptoSaid : Prop := orderNamesUptoRow.holds Tryd.pinned (OpenSpec.upto orderNamesSpec)

/-- 'dripstonelaw03.OrderLaws', WHERE WHAT IT READS IS OF BULK AT MOST 1048576: true; the input reads as it did. -/
def orderLawsUptoRow : OpenClaim := { program := "ytmooikdodbjgpaadoor", sum := "33522ebd6f3d037d4871be889d832fde7c23461c986946cde5dea6071ee8cc24", func := "dripstone/dripstonelaw03.OrderLaws", spec := "orderLaws", inPlace := ["internal/abi.NoEscape", "internal/bytealg.MakeNoZero"], unfollowed := true, recurses := true, named := ["dripstone/order.shapeWords", "math/bits.deBruijn32tab"], apart := false, laid := [("math/bits.deBruijn32tab", laid_math_bits_deBruijn32tab), ("dripstone/order.shapeWords", laid_dripstone_order_shapeWords)], narrowed := true }
def OrderLawsUptoSaid : Prop := orderLawsUptoRow.holds Tryd.pinned (OpenSpec.upto orderLawsSpec)

/-- 'dripstonelaw03.OrderParted', WHERE WHAT IT READS IS OF BULK AT MOST 1048576: true; the input reads as it did. -/
def orderPartedUptoRow : OpenClaim := { program := "ytmooikdodbjgpaadoor", sum := "33522ebd6f3d037d4871be889d832fde7c23461c986946cde5dea6071ee8cc24", func := "dripstone/dripstonelaw03.OrderParted", spec := "orderParted", inPlace := ["internal/abi.NoEscape", "internal/bytealg.MakeNoZero"], unfollowed := true, recurses := true, named := ["dripstone/order.shapeWords", "math/bits.deBruijn32tab"], apart := false, laid := [("math/bits.deBruijn32tab", laid_math_bits_deBruijn32tab), ("dripstone/order.shapeWords", laid_dripstone_order_shapeWords)], narrowed := true }
def OrderPartedUptoSaid : Prop := orderPartedUptoRow.holds Tryd.pinned (OpenSpec.upto orderPartedSpec)

/-- 'dripstonelaw03.OrderHigh', WHERE WHAT IT READS IS OF BULK AT MOST 1048576: true; the input reads as it did. -/
def orderHighUptoRow : OpenClaim := { program := "ytmooikdodbjgpaadoor", sum := "33522ebd6f3d037d4871be889d832fde7c23461c986946cde5dea6071ee8cc24", func := "dripstone/dripstonelaw03.OrderHigh", spec := "orderHigh", inPlace := ["internal/abi.NoEscape", "internal/bytealg.MakeNoZero"], unfollowed := true, recurses := true, named := ["dripstone/order.shapeWords", "math/bits.deBruijn32tab"], apart := false, laid := [("math/bits.deBruijn32tab", laid_math_bits_deBruijn32tab), ("dripstone/order.shapeWords", laid_dripstone_order_shapeWords)], narrowed := true }
def OrderHighUptoSaid : Prop := orderHighUptoRow.holds Tryd.pinned (OpenSpec.upto orderHighSpec)

/-- 'dripstonelaw03.OrderSlim', WHERE WHAT IT READS IS OF BULK AT MOST 1048576: true; the input reads as it did. -/
def orderSlimUptoRow : OpenClaim := { program := "ytmooikdodbjgpaadoor", sum := "33522ebd6f3d037d4871be889d832fde7c23461c986946cde5dea6071ee8cc24", func := "dripstone/dripstonelaw03.OrderSlim", spec := "orderSlim", inPlace := ["internal/abi.NoEscape", "internal/bytealg.MakeNoZero"], unfollowed := true, recurses := true, named := ["dripstone/order.shapeWords", "math/bits.deBruijn32tab"], apart := false, laid := [("math/bits.deBruijn32tab", laid_math_bits_deBruijn32tab), ("dripstone/order.shapeWords", laid_dripstone_order_shapeWords)], narrowed := true }
def OrderSlimUptoSaid : Prop := orderSlimUptoRow.holds Tryd.pinned (OpenSpec.upto orderSlimSpec)

/-- 'dripstonelaw03.OrderTurned', WHERE WHAT IT READS IS OF BULK AT MOST 1048576: true; the input reads as it did. -/
def orderTurnedUptoRow : OpenClaim := { program := "ytmooikdodbjgpaadoor", sum := "33522ebd6f3d037d4871be889d832fde7c23461c986946cde5dea6071ee8cc24", func := "dripstone/dripstonelaw03.OrderTurned", spec := "orderTurned", inPlace := ["internal/abi.NoEscape", "internal/bytealg.MakeNoZero"], unfollowed := true, recurses := true, named := ["dripstone/order.shapeWords", "math/bits.deBruijn32tab"], apart := false, laid := [("math/bits.deBruijn32tab", laid_math_bits_deBruijn32tab), ("dripstone/order.shapeWords", laid_dripstone_order_shapeWords)], narrowed := true }
def OrderTurnedUptoSaid : Prop := orderTurnedUptoRow.holds Tryd.pinned (OpenSpec.upto orderTurnedSpec)

/-- 'dripstonelaw03.OrderLeast', WHERE WHAT IT READS IS OF BULK AT MOST 1048576: true; the input reads as it did. -/
def orderLeastUptoRow : OpenClaim := { program := "ytmooikdodbjgpaadoor", sum := "33522ebd6f3d037d4871be889d832fde7c23461c986946cde5dea6071ee8cc24", func := "dripstone/dripstonelaw03.OrderLeast", spec := "orderLeast", inPlace := ["internal/abi.NoEscape", "internal/bytealg.MakeNoZero"], unfollowed := true, recurses := true, named := ["dripstone/order.shapeWords", "math/bits.deBruijn32tab"], apart := false, laid := [("math/bits.deBruijn32tab", laid_math_bits_deBruijn32tab), ("dripstone/order.shapeWords", laid_dripstone_order_shapeWords)], narrowed := true }
def OrderLeastUptoSaid : Prop := orderLeastUptoRow.holds Tryd.pinned (OpenSpec.upto orderLeastSpec)

end Rows
end Go.Proofs.YtmooikdodbjgpaaDoor
