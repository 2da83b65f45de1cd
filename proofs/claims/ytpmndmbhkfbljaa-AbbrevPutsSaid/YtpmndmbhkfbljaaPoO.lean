/-
  Once: the program's, by a set of texts; and the document's, text by text.
-/
import Derived.Test.YtpmndmbhkfbljaaPoA
import Derived.Test.YtpmndmbhkfbljaaCsA
import Derived.Test.YtpmndmbhkfbljaaCsM
import Derived.Test.YtpmndmbhkfbljaaPut
import Derived.Lib.BytesEntry
import Derived.Lib.AppendStr
import Derived.Laws.Externs
import Derived.Deep.Slices
import Derived.Test.YtpmndmbhkfbljaaPutR
import Derived.Test.YtpmndmbhkfbljaaRefR
import Derived.Test.YtpmndmbhkfbljaaCsL
import Derived.Lib.SlBytesConst
namespace Go.Proofs.Ytpmndmbhkfbljaa
open Go Go.RowKit Go.Maps

/-- The set of the texts. -/
def setT (ls : List (List UInt8)) : DataW Unit := setOf (.agg []) (ls.map keyT)

end Go.Proofs.Ytpmndmbhkfbljaa
