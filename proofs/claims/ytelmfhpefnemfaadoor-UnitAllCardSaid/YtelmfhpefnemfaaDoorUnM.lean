/-
  Package unit: the document's Put and Size.
-/
import Derived.Test.YtelmfhpefnemfaaDoorUnL
import Derived.Test.YtelmfhpefnemfaaDoorUnG
import Derived.Test.YtelmfhpefnemfaaDoorPutR
namespace Go.Proofs.YtelmfhpefnemfaaDoor
open Go Go.RowKit

/-- The bytes so far, the head's box. -/
structure DpU (w0 W : World) (X : Nat) (cs : Array Value) (v : Value) (l : List UInt8) : Prop where
  x : Box W X 79 cs
  o : Own W w0.heap.size v l
  b : Below w0.heap.size w0 W
section
variable {w0 W W' : World} {X : Nat} {cs : Array Value} {v v' : Value} {l l' : List UInt8}
theorem DpU.below (h : DpU w0 W X cs v l) (hb : Below W.heap.size W W') : DpU w0 W' X cs v l :=
  ⟨h.x.below hb h.x.lt, own_below h.o hb, h.b.trans (hb.mono h.b.size)⟩
theorem DpU.put (h : DpU w0 W X cs v l) (ho : Own W' w0.heap.size v' l') (hg : W.grownBy W' v.ownBlock) : DpU w0 W' X cs v' l' :=
  ⟨un_box h.x h.o (by decide) hg, ho, h.b.grown hg h.b.size (fun y hy => (h.o.lt y hy).1)⟩
end
end Go.Proofs.YtelmfhpefnemfaaDoor
