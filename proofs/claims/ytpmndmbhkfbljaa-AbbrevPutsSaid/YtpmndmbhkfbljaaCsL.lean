/-
  The contract of layer 3's All: the texts of a table in a row of the call's own.
-/
import Derived.Test.YtpmndmbhkfbljaaCsM
import Derived.Test.YtpmndmbhkfbljaaCurN
import Derived.Test.YtpmndmbhkfbljaaPutR
import Derived.Test.YtpmndmbhkfbljaaParts
import Derived.WalkMore
import Derived.Maps.AppendAt
namespace Go.Proofs.Ytpmndmbhkfbljaa
open Go Go.RowKit

theorem fail_nil (f : Int) (w : World) : Calls Try.prog 24 #[.pointer none, .int .i64 f] w fun r w' => r = .returned (.tuple #[]) ∧ w = w' := by
  have hE := fun W => err_nob (p := none) (w := W) (.inl rfl)
  go_enter Try.func24, Try.ntmps24
  go_wp2_with (go_at_call 10; refine (hE _).mono ?_; rintro r w' ⟨rfl, rfl⟩)
  go_end0
  exact ⟨rfl, rfl⟩

end Go.Proofs.Ytpmndmbhkfbljaa

namespace Go.Proofs.Ytpmndmbhkfbljaa
open Go Go.RowKit

/-- Texts as the cells that hold them. -/
def strV (ts : List (List UInt8)) : List Value := ts.map fun t => Value.string ⟨t.toArray⟩
@[simp] theorem strV_length (ts : List (List UInt8)) : (strV ts).length = ts.length := by simp [strV]
end Go.Proofs.Ytpmndmbhkfbljaa
