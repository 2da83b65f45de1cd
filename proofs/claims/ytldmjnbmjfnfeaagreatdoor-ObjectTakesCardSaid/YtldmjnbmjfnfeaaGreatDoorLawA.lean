/-
  The walks of CursorSums and CursorNobody: whatever the numbers are, the Go text of the statement returns true.
-/
import Derived.Test.YtldmjnbmjfnfeaaGreatDoorPut
import Derived.OpenShut
namespace Go.Proofs.YtldmjnbmjfnfeaaGreatDoor
open Go Go.RowKit

/-- A slice of bytes that came in: nil, or a row of cells in memory (the first 'len' are its bytes, the rest its spare room). -/
def IsRow (k : IntKind) (w : World) (a : Option Addr) (len cap : Nat) (zs : List Int) : Prop :=
  (a = none ∧ len = 0 ∧ cap = 0 ∧ zs = []) ∨
  ∃ x, a = some x ∧ len ≤ cap ∧ cap ≤ maxLen ∧ zs.length = cap ∧ (∀ i, i < zs.length → w.cell? (x.add i) = some (.int k (zs.getD i 0))) ∧ ∀ n ∈ zs, (Lit.int k n).wf = true

end Go.Proofs.YtldmjnbmjfnfeaaGreatDoor
