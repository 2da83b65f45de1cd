/-
  The document's own parts, U and S of layer 2.
-/
import Derived.Test.YtejicboemkpeoaaGreatDoorRefR
import Derived.Test.YtejicboemkpeoaaGreatDoorLebT
import Derived.Test.YtejicboemkpeoaaGreatDoorLebU
import Derived.Test.YtejicboemkpeoaaGreatDoorLebC
namespace Go.Proofs.YtejicboemkpeoaaGreatDoor
open Go Go.RowKit

/-- The seven-bit parts as the cells that hold them. -/
def digs (l : List UInt8) : List Value := l.map fun b => Value.int .u64 ((b.toNat % 128 : Nat) : Int)
@[simp] theorem digs_length (l : List UInt8) : (digs l).length = l.length := by simp [digs]

end Go.Proofs.YtejicboemkpeoaaGreatDoor
