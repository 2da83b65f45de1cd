/-
  SymsPuts' walk.
-/
import Derived.Test.YtbpemehhbeejcaaSyT
import Derived.Test.YtbpemehhbeejcaaPoA
import Derived.Test.YtbpemehhbeejcaaPoK
import Derived.Deep.RegionHeldLaw
import Derived.Test.YtbpemehhbeejcaaObA
import Derived.Test.YtbpemehhbeejcaaCsM
import Derived.Test.YtbpemehhbeejcaaCurN
import Derived.Lib.BytesEntry
import Derived.Lib.AppendStr
import Derived.Laws.Externs
import Derived.Deep.Slices
import Derived.Laws.IdiomStrings
import Derived.Laws.BytesArg
import Derived.Test.YtbpemehhbeejcaaPoO
import Derived.Test.YtbpemehhbeejcaaEhC
import Derived.Test.YtbpemehhbeejcaaKeep
import Derived.Lib.AppendZerosOnto
import Derived.Test.YtbpemehhbeejcaaParts
import Derived.Laws.ResultCell
import Derived.Stop.BytesEq
import Derived.Laws.Cover3
import Derived.Shelf.Bytes.SlCountOne
import Derived.Laws.Rows
import Derived.Test.YtbpemehhbeejcaaSyDa
import Derived.Test.YtbpemehhbeejcaaSeM
import Derived.Test.YtbpemehhbeejcaaSyF
namespace Go.Proofs.Ytbpemehhbeejcaa
open Go Go.RowKit

/-- A symbol's, a relocation's numbers are what their types may be. -/
structure Sym.Nums (s : Sym) : Prop where
  bind : InI s.bind
  kind : InI s.kind
  sect : InI s.sect
  value : s.value < two64
  size : s.size < two64
structure Rel.Nums (s : Rel) : Prop where
  off : s.off < two64
  sym : InI s.sym
  kind : InI s.kind
  add : InI s.add
end Go.Proofs.Ytbpemehhbeejcaa
