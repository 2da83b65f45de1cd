/-
  The contract of layer 3's All: the texts of a table in a row of the call's own.
-/
import Derived.Test.YteadabmlleipiaaCsM
import Derived.Test.YteadabmlleipiaaCurN
import Derived.Test.YteadabmlleipiaaPutR
import Derived.Test.YteadabmlleipiaaParts
import Derived.WalkMore
import Derived.Maps.AppendAt
namespace Go.Proofs.Yteadabmlleipiaa
open Go Go.RowKit

theorem fail_nil (f : Int) (w : World) : Calls Try.prog 49 #[.pointer none, .int .i64 f] w fun r w' => r = .returned (.tuple #[]) ∧ w = w' := by
  have hE := fun W => err_nob (p := none) (w := W) (.inl rfl)
  go_enter Try.func49, Try.ntmps49
  go_wp2_with (go_at_call 20; refine (hE _).mono ?_; rintro r w' ⟨rfl, rfl⟩)
  go_end0
  exact ⟨rfl, rfl⟩

end Go.Proofs.Yteadabmlleipiaa

namespace Go.Proofs.Yteadabmlleipiaa
open Go Go.RowKit

/-- Texts as the cells that hold them. -/
def strV (ts : List (List UInt8)) : List Value := ts.map fun t => Value.string ⟨t.toArray⟩
@[simp] theorem strV_length (ts : List (List UInt8)) : (strV ts).length = ts.length := by simp [strV]
end Go.Proofs.Yteadabmlleipiaa
