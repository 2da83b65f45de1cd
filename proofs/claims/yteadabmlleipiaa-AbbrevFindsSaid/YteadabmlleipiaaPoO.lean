/-
  Once: the program's, by a set of texts; and the document's, text by text.
-/
import Derived.Test.YteadabmlleipiaaPoA
import Derived.Test.YteadabmlleipiaaCsA
import Derived.Test.YteadabmlleipiaaCsM
import Derived.Test.YteadabmlleipiaaPut
import Derived.Lib.BytesEntry
import Derived.Lib.AppendStr
import Derived.Laws.Externs
import Derived.Deep.Slices
import Derived.Test.YteadabmlleipiaaPutR
import Derived.Test.YteadabmlleipiaaRefR
import Derived.Test.YteadabmlleipiaaCsL
import Derived.Lib.SlBytesConst
namespace Go.Proofs.Yteadabmlleipiaa
open Go Go.RowKit Go.Maps

/-- The set of the texts. -/
def setT (ls : List (List UInt8)) : DataW Unit := setOf (.agg []) (ls.map keyT)

end Go.Proofs.Yteadabmlleipiaa
