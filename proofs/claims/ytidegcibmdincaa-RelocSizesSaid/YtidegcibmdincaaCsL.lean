/-
  The contract of layer 3's All: the texts of a table in a row of the call's own.
-/
import Derived.Test.YtidegcibmdincaaPutR
import Derived.Test.YtidegcibmdincaaPut
import Derived.OpenShut
import Derived.Deep.RegionHeldLaw
import Derived.Deep.DrawnRows
import Derived.Handy
import Derived.Test.YtidegcibmdincaaPoM
import Derived.WalkMore
import Derived.Maps.AppendAt
namespace Go.Proofs.Ytidegcibmdincaa
open Go Go.RowKit

theorem own_below {w w' : World} {base : Nat} {v : Value} {l : List UInt8} (h : Own w base v l) (hb : Below w.heap.size w w') : Own w' base v l :=
  h.kept (only_below hb none) (by rcases v.ownBlock with _ | k <;> simp)
end Go.Proofs.Ytidegcibmdincaa

namespace Go.Proofs.Ytidegcibmdincaa
open Go Go.RowKit

/-- Texts as the cells that hold them. -/
def strV (ts : List (List UInt8)) : List Value := ts.map fun t => Value.string ⟨t.toArray⟩
@[simp] theorem strV_length (ts : List (List UInt8)) : (strV ts).length = ts.length := by simp [strV]
theorem strV_append (ts us : List (List UInt8)) : strV (ts ++ us) = strV ts ++ strV us := by simp [strV]

/-- A row of texts of the call's own. -/
abbrev OwnS (w : World) (base : Nat) (u : Value) (ts : List (List UInt8)) : Prop := w.ownsRow base 9 1 u ts.length (strV ts)

end Go.Proofs.Ytidegcibmdincaa
