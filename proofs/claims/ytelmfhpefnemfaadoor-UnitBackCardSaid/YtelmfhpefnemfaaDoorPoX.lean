/-
  Places that a pool told: plain facts; rows of numbers and of texts, with one item more.
-/
import Derived.Test.YtelmfhpefnemfaaDoorPoA
import Derived.Test.YtelmfhpefnemfaaDoorCsM
import Derived.Test.YtelmfhpefnemfaaDoorCurN
import Derived.Test.YtelmfhpefnemfaaDoorPutR
import Derived.Test.YtelmfhpefnemfaaDoorParts
import Derived.WalkMore
import Derived.Test.YtelmfhpefnemfaaDoorPut
import Derived.Lib.BytesEntry
import Derived.Lib.AppendStr
import Derived.Laws.Externs
import Derived.Deep.Slices
import Derived.Test.YtelmfhpefnemfaaDoorRefR
import Derived.Test.YtelmfhpefnemfaaDoorCsL
import Derived.Lib.SlBytesConst
import Derived.Test.YtelmfhpefnemfaaDoorPoK
import Derived.Deep.RegionHeldLaw
import Derived.Test.YtelmfhpefnemfaaDoorLawC
import Derived.Deep.AppendLies
namespace Go.Proofs.YtelmfhpefnemfaaDoor
open Go Go.RowKit

theorem row_only {w w' : World} {base base' : Nat} {bad : Obj → Prop} {e : TypeId} {size n : Nat} {v : Value} {xs : List Value} (h : w.ownsRow base e size v n xs) (hb : Only base' bad w w') (hn : ∀ cs f, ¬ bad (.cells cs e f)) : w'.ownsRow base e size v n xs :=
  ⟨h.1, h.2.imp id fun ⟨g, cap, cur, p, q, hg, r⟩ => ⟨g, cap, cur, p, q, hb.2 _ _ hg (hn _ _), r⟩⟩

end Go.Proofs.YtelmfhpefnemfaaDoor
