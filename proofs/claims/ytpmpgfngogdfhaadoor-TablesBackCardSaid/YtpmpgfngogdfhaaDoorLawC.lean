/-
  The walk of CursorPuts: what any number is put as, behind any bytes, is as the document has it.
-/
import Derived.Test.YtpmpgfngogdfhaaDoorPutR
import Derived.Test.YtpmpgfngogdfhaaDoorLawA
import Derived.Deep.RegionHeldLaw
import Derived.Deep.DrawnRows
import Derived.Handy
namespace Go.Proofs.YtpmpgfngogdfhaaDoor
open Go Go.RowKit

theorem own_below {w w' : World} {base : Nat} {v : Value} {l : List UInt8} (h : Own w base v l) (hb : Below w.heap.size w w') : Own w' base v l :=
  h.kept (only_below hb none) (by rcases v.ownBlock with _ | k <;> simp)
end Go.Proofs.YtpmpgfngogdfhaaDoor
