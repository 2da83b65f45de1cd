/-
  Package sects: an entry's numbers (numbers).
-/
import Derived.Test.YtbpemehhbeejcaaPoO
import Derived.Test.YtbpemehhbeejcaaEhC
import Derived.Test.YtbpemehhbeejcaaCurN
import Derived.Laws.IdiomStrings
import Derived.Laws.BytesArg
import Derived.Test.YtbpemehhbeejcaaKeep
import Derived.Lib.AppendZerosOnto
import Derived.Test.YtbpemehhbeejcaaParts
import Derived.Laws.ResultCell
import Derived.Stop.BytesEq
import Derived.Laws.Cover3
import Derived.Test.YtbpemehhbeejcaaCsM
import Derived.Lib.BytesEntry
import Derived.Lib.AppendStr
import Derived.Laws.Externs
import Derived.Deep.Slices
import Derived.Shelf.Bytes.SlCountOne
import Derived.Laws.Rows
import Derived.Test.YtbpemehhbeejcaaPoX
namespace Go.Proofs.Ytbpemehhbeejcaa
open Go Go.RowKit

/-! ### An entry's numbers -/
def sizesN : List Nat := [4, 4, 8, 8, 8, 8, 4, 4, 8, 8]
end Go.Proofs.Ytbpemehhbeejcaa
