/-
  The contracts of layer 3's first and At.
-/
import Derived.Test.YtbpemehhbeejcaaCsM
import Derived.Test.YtbpemehhbeejcaaCurN
import Derived.Laws.IdiomStrings
import Derived.Laws.BytesArg
import Derived.Test.YtbpemehhbeejcaaParts
import Derived.WalkMore
import Derived.Lib.BytesEntry
import Derived.Lib.AppendStr
import Derived.Laws.Externs
import Derived.Deep.Slices
namespace Go.Proofs.Ytbpemehhbeejcaa
open Go Go.RowKit

/-- What At tells. -/
def atT (l : List UInt8) (off : Nat) : List UInt8 × Int := if off < l.length then ((readT (l.drop off)).1, (readT (l.drop off)).2.2) else ([], 10)

end Go.Proofs.Ytbpemehhbeejcaa
