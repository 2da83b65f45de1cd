/-
  The document's number of some bytes at a place; the table of a header's first bytes as it lies in the package's variable.
-/
import Derived.Test.YtejicboemkpeoaaDoorCsL
namespace Go.Proofs.YtejicboemkpeoaaDoor
open Go Go.RowKit

/-- Some bytes of a list, from a place on. -/
def cutT (l : List UInt8) (f n : Nat) : List UInt8 := (l.drop f).take n
/-- The number of some bytes at a place. -/
def numT (l : List UInt8) (f n : Nat) : Nat := leNat (cutT l f n)

section
variable {w w' : World}
end

end Go.Proofs.YtejicboemkpeoaaDoor
