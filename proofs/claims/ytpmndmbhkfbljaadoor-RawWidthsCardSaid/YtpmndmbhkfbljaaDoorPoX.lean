/-
  Places that a pool told: plain facts; rows of numbers and of texts, with one item more.
-/
import Derived.Test.YtpmndmbhkfbljaaDoorPoO
import Derived.Test.YtpmndmbhkfbljaaDoorPoA
import Derived.Test.YtpmndmbhkfbljaaDoorPoK
import Derived.Deep.RegionHeldLaw
import Derived.Test.YtpmndmbhkfbljaaDoorCsA
import Derived.Test.YtpmndmbhkfbljaaDoorCsP
import Derived.Test.YtpmndmbhkfbljaaDoorRefR
import Derived.Test.YtpmndmbhkfbljaaDoorCsL
import Derived.Lib.SlBytesConst
import Derived.Test.YtpmndmbhkfbljaaDoorRwA
import Derived.Deep.AppendLies
namespace Go.Proofs.YtpmndmbhkfbljaaDoor
open Go Go.RowKit

theorem row_only {w w' : World} {base base' : Nat} {bad : Obj → Prop} {e : TypeId} {size n : Nat} {v : Value} {xs : List Value} (h : w.ownsRow base e size v n xs) (hb : Only base' bad w w') (hn : ∀ cs f, ¬ bad (.cells cs e f)) : w'.ownsRow base e size v n xs :=
  ⟨h.1, h.2.imp id fun ⟨g, cap, cur, p, q, hg, r⟩ => ⟨g, cap, cur, p, q, hb.2 _ _ hg (hn _ _), r⟩⟩

end Go.Proofs.YtpmndmbhkfbljaaDoor
