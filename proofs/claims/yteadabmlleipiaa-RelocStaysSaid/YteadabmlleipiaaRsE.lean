/-
  RelocStays' walk, by what came in.
-/
import Derived.Test.YteadabmlleipiaaRsC
import Derived.Test.YteadabmlleipiaaLawA
import Derived.Test.YteadabmlleipiaaGpX
import Derived.Test.YteadabmlleipiaaLmN
namespace Go.Proofs.Yteadabmlleipiaa
open Go Go.ChangeShapes Go.WideShapes Go.ChangeAt Go.RowKit

theorem rstays_card (a0 : Option Addr) (c0 : Nat) (L0 : List ObjV) (aP1 : Option Addr) (P1 : List Place) (cP1 : Nat) (aY1 : Option Addr) (Y1 : List Named) (cY1 : Nat) (i2 i3 : Int) (W : World) (w0 : ObjsIn W W.heap.size a0 L0) (w1 : Row 3 Place.cells W W.heap.size aP1 P1) (x1 : Row 2 Named.cells W W.heap.size aY1 Y1) (y1 : ∀ p ∈ P1, p.Nums) (z1 : ∀ s ∈ Y1, s.Nums)
    (w2 : (Lit.int .i64 i2).wf = true) (_ : (Lit.int .i64 i3).wf = true) :
    Calls Try.prog 3 #[.slice a0 L0.length c0, .agg #[.slice aP1 P1.length cP1, .slice aY1 Y1.length cY1], .int .i64 i2, .int .i64 i3] W fun r w' => r = .returned (.bool true) ∧ Below W.heap.size W w' :=
  rstays_walk a0 aP1 aY1 c0 cP1 cY1 P1 Y1 L0 i2 i3 W w1 x1 y1 z1 w0 (i64_of w2)

end Go.Proofs.Yteadabmlleipiaa
