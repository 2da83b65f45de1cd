/-
  The contract of layer 3's All: the texts of a table in a row of the call's own.
-/
import Derived.Test.YtbpemehhbeejcaaCsM
import Derived.Test.YtbpemehhbeejcaaCurN
import Derived.Laws.IdiomStrings
import Derived.Laws.BytesArg
import Derived.Test.YtbpemehhbeejcaaParts
import Derived.WalkMore
import Derived.Maps.AppendAt
namespace Go.Proofs.Ytbpemehhbeejcaa
open Go Go.RowKit

/-- Texts as the cells that hold them. -/
def strV (ts : List (List UInt8)) : List Value := ts.map fun t => Value.string ⟨t.toArray⟩
@[simp] theorem strV_length (ts : List (List UInt8)) : (strV ts).length = ts.length := by simp [strV]
theorem strV_append (ts us : List (List UInt8)) : strV (ts ++ us) = strV ts ++ strV us := by simp [strV]

/-- A row of texts of the call's own. -/
abbrev OwnS (w : World) (base : Nat) (u : Value) (ts : List (List UInt8)) : Prop := w.ownsRow base 9 1 u ts.length (strV ts)

end Go.Proofs.Ytbpemehhbeejcaa
