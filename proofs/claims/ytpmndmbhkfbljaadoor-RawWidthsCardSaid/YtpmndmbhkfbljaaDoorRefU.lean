/-
  The document's own parts, U and S of layer 2.
-/
import Derived.Test.YtpmndmbhkfbljaaDoorRefR
import Derived.Test.YtpmndmbhkfbljaaDoorLebT
import Derived.Test.YtpmndmbhkfbljaaDoorLebU
import Derived.Test.YtpmndmbhkfbljaaDoorLebC
namespace Go.Proofs.YtpmndmbhkfbljaaDoor
open Go Go.RowKit

/-- The seven-bit parts as the cells that hold them. -/
def digs (l : List UInt8) : List Value := l.map fun b => Value.int .u64 ((b.toNat % 128 : Nat) : Int)
@[simp] theorem digs_length (l : List UInt8) : (digs l).length = l.length := by simp [digs]

end Go.Proofs.YtpmndmbhkfbljaaDoor
