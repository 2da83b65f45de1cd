/-
  The contracts of layer 3's first and At.
-/
import Derived.Test.YtidegcibmdincaaPoM
import Derived.Test.YtidegcibmdincaaPut
import Derived.Test.YtidegcibmdincaaLawA
import Derived.Test.YtidegcibmdincaaCsL
import Derived.WalkMore
import Derived.Test.YtidegcibmdincaaCsI
namespace Go.Proofs.Ytidegcibmdincaa
open Go Go.RowKit

/-- What At tells. -/
def atT (l : List UInt8) (off : Nat) : List UInt8 × Int := if off < l.length then ((readT (l.drop off)).1, (readT (l.drop off)).2.2) else ([], 10)

end Go.Proofs.Ytidegcibmdincaa
