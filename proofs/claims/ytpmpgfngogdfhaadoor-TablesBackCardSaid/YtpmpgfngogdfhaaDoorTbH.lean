/-
  The document's Put of a table.
-/
import Derived.Test.YtpmpgfngogdfhaaDoorTbG
import Derived.Test.YtpmpgfngogdfhaaDoorPutR
namespace Go.Proofs.YtpmpgfngogdfhaaDoor
open Go Go.RowKit

/-- The bytes so far. -/
structure DpT (w0 : World) (base : Nat) (W : World) (v : Value) (l : List UInt8) : Prop where
  o : Own W base v l
  b : Below base w0 W
section
variable {w0 W W' : World} {base : Nat} {v v' : Value} {l l' : List UInt8}
theorem DpT.below (h : DpT w0 base W v l) (hB : base ≤ W.heap.size) (hb : Below W.heap.size W W') : DpT w0 base W' v l := ⟨own_below h.o hb, h.b.trans (hb.mono hB)⟩
theorem DpT.put (h : DpT w0 base W v l) (hB : base ≤ W.heap.size) (ho : Own W' base v' l') (hG : W.grownBy W' v.ownBlock) : DpT w0 base W' v' l' := ⟨ho, h.b.grown hG hB (fun y hy => (h.o.lt y hy).1)⟩
end

end Go.Proofs.YtpmpgfngogdfhaaDoor
