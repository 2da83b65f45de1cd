/-
  The contract of layer 3's All: the texts of a table in a row of the call's own.
-/
import Derived.Test.YtpmpgfngogdfhaaDoorCsM
import Derived.Test.YtpmpgfngogdfhaaDoorCurN
import Derived.Test.YtpmpgfngogdfhaaDoorPutR
import Derived.Test.YtpmpgfngogdfhaaDoorParts
import Derived.WalkMore
import Derived.Maps.AppendAt
namespace Go.Proofs.YtpmpgfngogdfhaaDoor
open Go Go.RowKit

/-- Texts as the cells that hold them. -/
def strV (ts : List (List UInt8)) : List Value := ts.map fun t => Value.string ⟨t.toArray⟩
@[simp] theorem strV_length (ts : List (List UInt8)) : (strV ts).length = ts.length := by simp [strV]
end Go.Proofs.YtpmpgfngogdfhaaDoor
