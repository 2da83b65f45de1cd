/-
  Plain facts on a pool of texts, each once, in one table: no program is named here.
-/
import Derived.Test.YtbpemehhbeejcaaCsM
import Derived.Maps.OwnSet
namespace Go.Proofs.Ytbpemehhbeejcaa
open Go Go.Maps

/-- A text as a map's key. -/
abbrev keyT (t : List UInt8) : Lit := .string t

theorem keyT_lit (t : List UInt8) : WideAt.IsKeyLit (keyT t) := trivial

end Go.Proofs.Ytbpemehhbeejcaa
