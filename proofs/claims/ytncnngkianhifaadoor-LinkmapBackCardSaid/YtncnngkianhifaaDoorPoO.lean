/-
  Once: the program's, by a set of texts; and the document's, text by text.
-/
import Derived.Test.YtncnngkianhifaaDoorCsA
import Derived.Test.YtncnngkianhifaaDoorCsP
import Derived.Test.YtncnngkianhifaaDoorRefR
import Derived.Test.YtncnngkianhifaaDoorCsL
import Derived.Lib.SlBytesConst
namespace Go.Proofs.YtncnngkianhifaaDoor
open Go Go.RowKit Go.Maps

/-- The set of the texts. -/
def setT (ls : List (List UInt8)) : DataW Unit := setOf (.agg []) (ls.map keyT)

end Go.Proofs.YtncnngkianhifaaDoor
