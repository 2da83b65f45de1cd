/-
  The contracts of layer 3's first and At.
-/
import Derived.Test.YtpmndmbhkfbljaaDoorCsL
import Derived.Test.YtpmndmbhkfbljaaDoorCsJ
namespace Go.Proofs.YtpmndmbhkfbljaaDoor
open Go Go.RowKit

/-- What At tells. -/
def atT (l : List UInt8) (off : Nat) : List UInt8 × Int := if off < l.length then ((readT (l.drop off)).1, (readT (l.drop off)).2.2) else ([], 10)

end Go.Proofs.YtpmndmbhkfbljaaDoor
