/- Regions that draw their order, whose operations read, and whose callees make blocks alone. -/
import Derived.Test.YtfhnigpjmljhbaaDoorOrAe
import Derived.Deep.Quiet
set_option linter.unusedVariables false
set_option linter.unusedSimpArgs false
namespace Go.Proofs.YtfhnigpjmljhbaaDoor.Or
open Go.RowKit Go.Shelf

/-- A region that draws its order, whose operations read, and whose callees make blocks alone: one walk, in the text's order. -/
theorem reg_below {P : Program} {id : Nat} {Q : Exit → Act → World → Prop} {a : Act} {w : World} {l : List Oper} (B : Nat) (W0 : World) (hm : P.follows .mixedOrders = true) (hB : Region.lexB .any l.toArray = true) (hC : Below B W0 w)
    (h : wpQuiet P l.toArray (fun V => Below B W0 V) (fun a' => ∀ w', Below B W0 w' → Q .normal a' w') l a) : (Code.region id l.toArray true).wp P Q a w :=
  wp_region_quiet (C := fun V => Below B W0 V) hm hB hC.drew (by simpa using h)
theorem qy_yes {P : Program} {o : Oper} {ops : Array Oper} {a : Act} {C : World → Prop} {K : Act → Prop} (hw : Region.wanted o (yielded ops a.tmps) = true) (v : Value) (h : ∀ V, C V → o.quietAt P a C V v) (hK : K (a.put o.dst v)) : if Region.wanted o (yielded ops a.tmps) then o.quiet P a C K else K (a.put o.dst undef) := by
  rw [if_pos hw]; exact ⟨v, h, hK⟩
theorem qy_no {P : Program} {o : Oper} {ops : Array Oper} {a : Act} {C : World → Prop} {K : Act → Prop} (hw : Region.wanted o (yielded ops a.tmps) = false) (hK : K (a.put o.dst undef)) : if Region.wanted o (yielded ops a.tmps) then o.quiet P a C K else K (a.put o.dst undef) := by
  rw [hw]; exact hK
end Go.Proofs.YtfhnigpjmljhbaaDoor.Or
