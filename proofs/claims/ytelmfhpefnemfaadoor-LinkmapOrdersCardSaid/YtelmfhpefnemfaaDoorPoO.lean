/-
  Once: the program's, by a set of texts; and the document's, text by text.
-/
import Derived.Test.YtelmfhpefnemfaaDoorCsP
import Derived.Test.YtelmfhpefnemfaaDoorRefR
import Derived.Test.YtelmfhpefnemfaaDoorCsL
import Derived.Lib.SlBytesConst
namespace Go.Proofs.YtelmfhpefnemfaaDoor
open Go Go.RowKit Go.Maps

/-- The set of the texts. -/
def setT (ls : List (List UInt8)) : DataW Unit := setOf (.agg []) (ls.map keyT)

end Go.Proofs.YtelmfhpefnemfaaDoor
