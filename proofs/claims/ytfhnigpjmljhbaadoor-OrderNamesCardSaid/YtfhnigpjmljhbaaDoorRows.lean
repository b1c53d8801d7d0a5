/-
  NARROWER THAN 'FOR EVERY INPUT', by the rows' own cells (each row's printed sentence says how): OrderSlim: laid · OrderShapes: loops, laid · OrderNames: laid · OrderParses: laid · OrderBack: loops, laid.
  DERIVED. THE GIVEN ROWS OF THIS SEAT. 5 by the template 'for every input the law returns true; each argument reads behind the call as it read before'; 0 by the template 'total and deterministic' (their statements: YtfhnigpjmljhbaaDoorTotals.lean).
  GIVEN WITH THE SEED: the statements are not yours to turn. If you find one false, say at which input.
  Laid BY PROGRAM, IN A SANDBOX (cutbox-rows.mjs): the forced cells as the released guide's own fill.sh prints them over the translation c1d59dda24512a9f… (all of the seat's roots in one cut). By AI agents, Wed Nov 11 2026. No macro, syntax, notation, axiom, sorry.
-/
import Derived.Test.YtfhnigpjmljhbaaDoorChecked
import GoSem.Claim
import GoSem.ClaimJoined
import GoSem.ClaimMapViews
import Derived.JoinedTies
import Derived.KernelRfl
namespace Go.Proofs.YtfhnigpjmljhbaaDoor
/- THE CELL 'sum', in the pinned program and in every row, IS THE sha256 OF THE DUMP (.gsa) THAT YtfhnigpjmljhbaaDoorProg.lean LOADS. Nothing in Lean hashes anything: it is a label: what it is worth is what the hold of that sum in a sandbox is worth. -/
noncomputable def Tryd.pinned : Pinned := { name := "ytfhnigpjmljhbaadoor", sum := "c1d59dda24512a9fd4d4fcfa347566be7750841a390b68327f8affe1360bcf9b", checked := Tryd.checked }
namespace Rows
def none {H : Type} : Left H := { results := [], args := [] }

/- WHAT THE LISTED PACKAGE-LEVEL VARIABLES READ AS WHEN THE CALL BEGINS. Each datum BY PROGRAM (the guide's laid-datum.mjs) off the statement by which the dump's own 'gosem.cut.vars' lays the variable. In a bare row this is a premise. The card (YtfhnigpjmljhbaaDoorCards.lean) ties it to the program's text. -/
def laid_math_bits_deBruijn32tab {H : Type} : DataW H := .agg [.lit (.int .u8 0), .lit (.int .u8 1), .lit (.int .u8 28), .lit (.int .u8 2), .lit (.int .u8 29), .lit (.int .u8 14), .lit (.int .u8 24), .lit (.int .u8 3), .lit (.int .u8 30), .lit (.int .u8 22), .lit (.int .u8 20), .lit (.int .u8 15), .lit (.int .u8 25), .lit (.int .u8 17), .lit (.int .u8 4), .lit (.int .u8 8), .lit (.int .u8 31), .lit (.int .u8 27), .lit (.int .u8 13), .lit (.int .u8 23), .lit (.int .u8 21), .lit (.int .u8 19), .lit (.int .u8 16), .lit (.int .u8 7), .lit (.int .u8 26), .lit (.int .u8 12), .lit (.int .u8 18), .lit (.int .u8 6), .lit (.int .u8 11), .lit (.int .u8 5), .lit (.int .u8 10), .lit (.int .u8 9)]
def laid_dripstone_order_shapeWords {H : Type} : DataW H := .agg [.lit (.string []), .lit (.string [102, 108, 97, 103]), .lit (.string [109, 97, 120]), .lit (.string [115, 101, 116]), .lit (.string [111, 110, 99, 101]), .lit (.string []), .lit (.string [109, 97, 112]), .lit (.string [112, 97, 105, 114])]

/-- 'dripstonelaw03.OrderSlim': WHATEVER THE INPUT: true; the input reads as it did. -/
def orderSlimSpec : ChangeSpec := { name := "orderSlim", fn := fun _ => fun
  | [d] => { results := [.lit (.bool true)], args := [d] }
  | _ => none }
def orderSlimRow : OpenClaim := { program := "ytfhnigpjmljhbaadoor", sum := "c1d59dda24512a9fd4d4fcfa347566be7750841a390b68327f8affe1360bcf9b", func := "dripstone/dripstonelaw03.OrderSlim", spec := "orderSlim", inPlace := ["internal/abi.NoEscape", "internal/bytealg.MakeNoZero"], unfollowed := true, recurses := true, named := ["dripstone/order.shapeWords", "math/bits.deBruijn32tab"], apart := false, laid := [("math/bits.deBruijn32tab", laid_math_bits_deBruijn32tab), ("dripstone/order.shapeWords", laid_dripstone_order_shapeWords)] }
def OrderSlimSaid : Prop := orderSlimRow.holds Tryd.pinned (OpenSpec.ofChange orderSlimSpec)

/-- ITS FALSE NEIGHBOUR: 'it returns false'. Refute it at one input. -/
def orderSlimWrong : ChangeSpec := { name := "orderSlim", fn := fun _ => fun
  | [d] => { results := [.lit (.bool false)], args := [d] }
  | _ => none }
def OrderSlimWrongFalsely : Prop := orderSlimRow.holds Tryd.pinned (OpenSpec.ofChange orderSlimWrong)

/-- 'dripstonelaw03.OrderShapes': WHATEVER THE INPUT: true; the input reads as it did. -/
def orderShapesSpec : ChangeSpec := { name := "orderShapes", fn := fun _ => fun
  | [d1, d2] => { results := [.lit (.bool true)], args := [d1, d2] }
  | _ => none }
def orderShapesRow : OpenClaim := { program := "ytfhnigpjmljhbaadoor", sum := "c1d59dda24512a9fd4d4fcfa347566be7750841a390b68327f8affe1360bcf9b", func := "dripstone/dripstonelaw03.OrderShapes", spec := "orderShapes", inPlace := ["internal/abi.NoEscape", "internal/bytealg.MakeNoZero"], unfollowed := true, recurses := true, named := ["dripstone/order.shapeWords", "math/bits.deBruijn32tab"], loops := true, apart := false, laid := [("math/bits.deBruijn32tab", laid_math_bits_deBruijn32tab), ("dripstone/order.shapeWords", laid_dripstone_order_shapeWords)] }
def OrderShapesSaid : Prop := orderShapesRow.holds Tryd.pinned (OpenSpec.ofChange orderShapesSpec)

/-- ITS FALSE NEIGHBOUR: 'it returns false'. Refute it at one input. -/
def orderShapesWrong : ChangeSpec := { name := "orderShapes", fn := fun _ => fun
  | [d1, d2] => { results := [.lit (.bool false)], args := [d1, d2] }
  | _ => none }
def OrderShapesWrongFalsely : Prop := orderShapesRow.holds Tryd.pinned (OpenSpec.ofChange orderShapesWrong)

/-- 'dripstonelaw03.OrderNames': WHATEVER THE INPUT: true; the input reads as it did. -/
def orderNamesSpec : ChangeSpec := { name := "orderNames", fn := fun _ => fun
  | [] => { results := [.lit (.bool true)], args := [] }
  | _ => none }
def orderNamesRow : OpenClaim := { program := "ytfhnigpjmljhbaadoor", sum := "c1d59dda24512a9fd4d4fcfa347566be7750841a390b68327f8affe1360bcf9b", func := "dripstone/dripstonelaw03.OrderNames", spec := "orderNames", inPlace := ["internal/abi.NoEscape", "internal/bytealg.MakeNoZero"], unfollowed := true, recurses := true, named := ["dripstone/order.shapeWords", "math/bits.deBruijn32tab"], apart := false, laid := [("math/bits.deBruijn32tab", laid_math_bits_deBruijn32tab), ("dripstone/order.shapeWords", laid_dripstone_order_shapeWords)] }
def OrderNamesSaid : Prop := orderNamesRow.holds Tryd.pinned (OpenSpec.ofChange orderNamesSpec)

/-- ITS FALSE NEIGHBOUR: 'it returns false'. Refute it at one input. -/
def orderNamesWrong : ChangeSpec := { name := "orderNames", fn := fun _ => fun
  | [] => { results := [.lit (.bool false)], args := [] }
  | _ => none }
def OrderNamesWrongFalsely : Prop := orderNamesRow.holds Tryd.pinned (OpenSpec.ofChange orderNamesWrong)

/-- 'dripstonelaw03.OrderParses': WHATEVER THE INPUT: true; the input reads as it did. -/
def orderParsesSpec : ChangeSpec := { name := "orderParses", fn := fun _ => fun
  | [d] => { results := [.lit (.bool true)], args := [d] }
  | _ => none }
def orderParsesRow : OpenClaim := { program := "ytfhnigpjmljhbaadoor", sum := "c1d59dda24512a9fd4d4fcfa347566be7750841a390b68327f8affe1360bcf9b", func := "dripstone/dripstonelaw03.OrderParses", spec := "orderParses", inPlace := ["internal/abi.NoEscape", "internal/bytealg.MakeNoZero"], unfollowed := true, recurses := true, named := ["dripstone/order.shapeWords", "math/bits.deBruijn32tab"], apart := false, laid := [("math/bits.deBruijn32tab", laid_math_bits_deBruijn32tab), ("dripstone/order.shapeWords", laid_dripstone_order_shapeWords)] }
def OrderParsesSaid : Prop := orderParsesRow.holds Tryd.pinned (OpenSpec.ofChange orderParsesSpec)

/-- ITS FALSE NEIGHBOUR: 'it returns false'. Refute it at one input. -/
def orderParsesWrong : ChangeSpec := { name := "orderParses", fn := fun _ => fun
  | [d] => { results := [.lit (.bool false)], args := [d] }
  | _ => none }
def OrderParsesWrongFalsely : Prop := orderParsesRow.holds Tryd.pinned (OpenSpec.ofChange orderParsesWrong)

/-- 'dripstonelaw03.OrderBack': WHATEVER THE INPUT: true; the input reads as it did. -/
def orderBackSpec : ChangeSpec := { name := "orderBack", fn := fun _ => fun
  | [d1, d2] => { results := [.lit (.bool true)], args := [d1, d2] }
  | _ => none }
def orderBackRow : OpenClaim := { program := "ytfhnigpjmljhbaadoor", sum := "c1d59dda24512a9fd4d4fcfa347566be7750841a390b68327f8affe1360bcf9b", func := "dripstone/dripstonelaw03.OrderBack", spec := "orderBack", inPlace := ["internal/abi.NoEscape", "internal/bytealg.MakeNoZero"], unfollowed := true, recurses := true, named := ["dripstone/order.shapeWords", "math/bits.deBruijn32tab"], loops := true, apart := false, laid := [("math/bits.deBruijn32tab", laid_math_bits_deBruijn32tab), ("dripstone/order.shapeWords", laid_dripstone_order_shapeWords)] }
def OrderBackSaid : Prop := orderBackRow.holds Tryd.pinned (OpenSpec.ofChange orderBackSpec)

/-- ITS FALSE NEIGHBOUR: 'it returns false'. Refute it at one input. -/
def orderBackWrong : ChangeSpec := { name := "orderBack", fn := fun _ => fun
  | [d1, d2] => { results := [.lit (.bool false)], args := [d1, d2] }
  | _ => none }
def OrderBackWrongFalsely : Prop := orderBackRow.holds Tryd.pinned (OpenSpec.ofChange orderBackWrong)

/- THE SECOND FORM. 'bulk': how many values and letters a reading holds, each counted each time it is reached (what is shared counts as often as it is met; a slice's spare places count too). A statement '..UptoSaid' is the law's where the arguments, and the package variables that the reading takes, are together of bulk at most 1048576: NARROWER than '..Said'. Prove '..Said' where nothing that the law and all that it calls make is longer than what came in: it says more and counts as full. Else prove '..UptoSaid'. A law counts once. -/
mutual
def uptoBulk {H : Type} : DataW H → Nat
  | .lit (.string bytes) => bytes.length + 1
  | .lit _ => 1
  | .nil => 1
  | .ptr d => uptoBulk d + 1
  | .slice elems spare => uptoBulkAll elems + uptoBulkAll spare + 1
  | .agg parts => uptoBulkAll parts + 1
  | .iface _ d => uptoBulk d + 1
  | .map entries => uptoBulkEntries entries + 1
  | .held _ => 1
def uptoBulkAll {H : Type} : List (DataW H) → Nat
  | [] => 0
  | d :: r => uptoBulk d + uptoBulkAll r
def uptoBulkEntries {H : Type} : List (Lit × DataW H) → Nat
  | [] => 0
  | x :: r => uptoBulkEntry x + uptoBulkEntries r
def uptoBulkEntry {H : Type} : Lit × DataW H → Nat
  | (.string bytes, d) => bytes.length + uptoBulk d + 1
  | (_, d) => uptoBulk d + 1
 end
def uptoSmall : (H : Type) → List (DataW H) → Bool := fun _ ds => decide (uptoBulkAll ds ≤ 1048576)
def OpenSpec.upto (s : _root_.Go.ChangeSpec) : _root_.Go.OpenSpec := { _root_.Go.OpenSpec.ofChange s with cond := some uptoSmall }

/-- 'dripstonelaw03.OrderSlim', WHERE WHAT IT READS IS OF BULK AT MOST 1048576: true; the input reads as it did. -/
def orderSlimUptoRow : OpenClaim := { program := "ytfhnigpjmljhbaadoor", sum := "c1d59dda24512a9fd4d4fcfa347566be7750841a390b68327f8affe1360bcf9b", func := "dripstone/dripstonelaw03.OrderSlim", spec := "orderSlim", inPlace := ["internal/abi.NoEscape", "internal/bytealg.MakeNoZero"], unfollowed := true, recurses := true, named := ["dripstone/order.shapeWords", "math/bits.deBruijn32tab"], apart := false, laid := [("math/bits.deBruijn32tab", laid_math_bits_deBruijn32tab), ("dripstone/order.shapeWords", laid_dripstone_order_shapeWords)], narrowed := true }
def OrderSlimUptoSaid : Prop := orderSlimUptoRow.holds Tryd.pinned (OpenSpec.upto orderSlimSpec)

/-- 'dripstonelaw03.OrderShapes', WHERE WHAT IT READS IS OF BULK AT MOST 1048576: true; the input reads as it did. -/
def orderShapesUptoRow : OpenClaim := { program := "ytfhnigpjmljhbaadoor", sum := "c1d59dda24512a9fd4d4fcfa347566be7750841a390b68327f8affe1360bcf9b", func := "dripstone/dripstonelaw03.OrderShapes", spec := "orderShapes", inPlace := ["internal/abi.NoEscape", "internal/bytealg.MakeNoZero"], unfollowed := true, recurses := true, named := ["dripstone/order.shapeWords", "math/bits.deBruijn32tab"], loops := true, apart := false, laid := [("math/bits.deBruijn32tab", laid_math_bits_deBruijn32tab), ("dripstone/order.shapeWords", laid_dripstone_order_shapeWords)], narrowed := true }
def OrderShapesUptoSaid : Prop := orderShapesUptoRow.holds Tryd.pinned (OpenSpec.upto orderShapesSpec)

/-- 'dripstonelaw03.OrderNames', WHERE WHAT IT READS IS OF BULK AT MOST 1048576: true; the input reads as it did. -/
def orderNamesUptoRow : OpenClaim := { program := "ytfhnigpjmljhbaadoor", sum := "c1d59dda24512a9fd4d4fcfa347566be7750841a390b68327f8affe1360bcf9b", func := "dripstone/dripstonelaw03.OrderNames", spec := "orderNames", inPlace := ["internal/abi.NoEscape", "internal/bytealg.MakeNoZero"], unfollowed := true, recurses := true, named := ["dripstone/order.shapeWords", "math/bits.deBruijn32tab"], apart := false, laid := [("math/bits.deBruijn32tab", laid_math_bits_deBruijn32tab), ("dripstone/order.shapeWords", laid_dripstone_order_shapeWords)], narrowed := true }
def OrderNamesUptoSaid : Prop := orderNamesUptoRow.holds Tryd.pinned (OpenSpec.upto orderNamesSpec)

/-- 'dripstonelaw03.OrderParses', WHERE WHAT IT READS IS OF BULK AT MOST 1048576: true; the input reads as it did. -/
def orderParsesUptoRow : OpenClaim := { program := "ytfhnigpjmljhbaadoor", sum := "c1d59dda24512a9fd4d4fcfa347566be7750841a390b68327f8affe1360bcf9b", func := "dripstone/dripstonelaw03.OrderParses", spec := "orderParses", inPlace := ["internal/abi.NoEscape", "internal/bytealg.MakeNoZero"], unfollowed := true, recurses := true, named := ["dripstone/order.shapeWords", "math/bits.deBruijn32tab"], apart := false, laid := [("math/bits.deBruijn32tab", laid_math_bits_deBruijn32tab), ("dripstone/order.shapeWords", laid_dripstone_order_shapeWords)], narrowed := true }
def OrderParsesUptoSaid : Prop := orderParsesUptoRow.holds Tryd.pinned (OpenSpec.upto orderParsesSpec)

/-- 'dripstonelaw03.OrderBack', WHERE WHAT IT READS IS OF BULK AT MOST 1048576: true; the input reads as it did. -/
def orderBackUptoRow : OpenClaim := { program := "ytfhnigpjmljhbaadoor", sum := "c1d59dda24512a9fd4d4fcfa347566be7750841a390b68327f8affe1360bcf9b", func := "dripstone/dripstonelaw03.OrderBack", spec := "orderBack", inPlace := ["internal/abi.NoEscape", "internal/bytealg.MakeNoZero"], unfollowed := true, recurses := true, named := ["dripstone/order.shapeWords", "math/bits.deBruijn32tab"], loops := true, apart := false, laid := [("math/bits.deBruijn32tab", laid_math_bits_deBruijn32tab), ("dripstone/order.shapeWords", laid_dripstone_order_shapeWords)], narrowed := true }
def OrderBackUptoSaid : Prop := orderBackUptoRow.holds Tryd.pinned (OpenSpec.upto orderBackSpec)

end Rows
end Go.Proofs.YtfhnigpjmljhbaaDoor
