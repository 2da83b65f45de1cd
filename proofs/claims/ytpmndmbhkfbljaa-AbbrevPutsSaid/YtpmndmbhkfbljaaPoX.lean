/-
  Places that a pool told: plain facts; rows of numbers and of texts, with one item more.
-/
import Derived.Test.YtpmndmbhkfbljaaPoA
import Derived.Test.YtpmndmbhkfbljaaCsA
import Derived.Test.YtpmndmbhkfbljaaCsM
import Derived.Test.YtpmndmbhkfbljaaPut
import Derived.Lib.BytesEntry
import Derived.Lib.AppendStr
import Derived.Laws.Externs
import Derived.Deep.Slices
import Derived.Test.YtpmndmbhkfbljaaPutR
import Derived.Test.YtpmndmbhkfbljaaRefR
import Derived.Test.YtpmndmbhkfbljaaCsL
import Derived.Lib.SlBytesConst
import Derived.Test.YtpmndmbhkfbljaaPoO
import Derived.Test.YtpmndmbhkfbljaaPoK
import Derived.Deep.RegionHeldLaw
import Derived.Test.YtpmndmbhkfbljaaParts
import Derived.Deep.AppendLies
namespace Go.Proofs.Ytpmndmbhkfbljaa
open Go Go.RowKit

theorem row_only {w w' : World} {base base' : Nat} {bad : Obj → Prop} {e : TypeId} {size n : Nat} {v : Value} {xs : List Value} (h : w.ownsRow base e size v n xs) (hb : Only base' bad w w') (hn : ∀ cs f, ¬ bad (.cells cs e f)) : w'.ownsRow base e size v n xs :=
  ⟨h.1, h.2.imp id fun ⟨g, cap, cur, p, q, hg, r⟩ => ⟨g, cap, cur, p, q, hb.2 _ _ hg (hn _ _), r⟩⟩

end Go.Proofs.Ytpmndmbhkfbljaa
