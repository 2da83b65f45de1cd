/-
  Plain facts on a pool of texts, each once, in one table: no program is named here.
-/
import Derived.Test.YtpmndmbhkfbljaaDoorCsM
import Derived.Maps.OwnSet
namespace Go.Proofs.YtpmndmbhkfbljaaDoor
open Go Go.Maps

/-- A text as a map's key. -/
abbrev keyT (t : List UInt8) : Lit := .string t

end Go.Proofs.YtpmndmbhkfbljaaDoor
