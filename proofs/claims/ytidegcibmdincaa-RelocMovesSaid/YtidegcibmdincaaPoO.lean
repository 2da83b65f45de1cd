/-
  Once: the program's, by a set of texts; and the document's, text by text.
-/
import Derived.Test.YtidegcibmdincaaPoA
import Derived.Test.YtidegcibmdincaaCsA
import Derived.Test.YtidegcibmdincaaCsP
import Derived.Test.YtidegcibmdincaaRefR
import Derived.Test.YtidegcibmdincaaCsL
import Derived.Lib.SlBytesConst
namespace Go.Proofs.Ytidegcibmdincaa
open Go Go.RowKit Go.Maps

/-- The set of the texts. -/
def setT (ls : List (List UInt8)) : DataW Unit := setOf (.agg []) (ls.map keyT)

end Go.Proofs.Ytidegcibmdincaa
