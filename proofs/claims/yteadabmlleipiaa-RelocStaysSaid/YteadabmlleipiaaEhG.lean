/-
  Put of package elfhead: a header's bytes.
-/
import Derived.Test.YteadabmlleipiaaEhC
import Derived.Test.YteadabmlleipiaaEhA
import Derived.Test.YteadabmlleipiaaKeep
import Derived.Lib.AppendZerosOnto
import Derived.Test.YteadabmlleipiaaCsL
namespace Go.Proofs.Yteadabmlleipiaa
open Go Go.RowKit

/-- A number of type int as one without a sign. -/
def wrapN (t : Int) : Nat := (IntKind.u64.wrap t).toNat
theorem wrapN_eq (t : Int) : IntKind.u64.wrap t = (wrapN t : Int) := by unfold wrapN; rw [IntKind.wrap_u64]; omega

end Go.Proofs.Yteadabmlleipiaa
