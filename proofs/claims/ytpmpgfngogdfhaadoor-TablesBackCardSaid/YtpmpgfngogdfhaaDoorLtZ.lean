/-
  What every row of package length has in common: the table of sizes out of the row's list, a world for the witness, and an argument's bytes opened to their cells.
-/
import Derived.Test.YtpmpgfngogdfhaaDoorCards
import Derived.Test.YtpmpgfngogdfhaaDoorTie
import Derived.Test.YtpmpgfngogdfhaaDoorLtA
import Derived.Test.YtpmpgfngogdfhaaDoorLawA
import Derived.WalkKit
import Derived.ProofKit
import Derived.OpenShut
import Derived.Lib.LaidTab
import Derived.Deep.DeepHandedRow
namespace Go.Proofs.YtpmpgfngogdfhaaDoor
open Go Go.ChangeShapes Go.WideShapes Go.ChangeAt Go.RowKit

theorem lt_own : ownKnob Tryd.prog.godebug = none := by kernel_rfl
theorem lt_laidOut : laidOutB Tryd.prog = true := by kernel_rfl
theorem lt_global : Tryd.prog.globalNamed "sindri/length.sizes" = some 0 := by kernel_rfl
theorem lt_type : (Tryd.prog.globals[0]?).map (·.type) = some 163 := by kernel_rfl

/-- What each of these rows lists. -/
abbrev ltLaid : List (String × DataW Unit) := [("sindri/length.sizes", Rows.laid_sindri_length_sizes)]

theorem sz_of_laid {W : World} (h : laidMetH Tryd.prog ltLaid W) : Sz W :=
  have ht : Lib.TabIs Tryd.prog W "sindri/length.sizes" .i64 [4, 8] := Lib.tabIs_of_head (rest := []) lt_global lt_type Tryd.underlying163 Tryd.underlying3 (by kernel_rfl) (by kernel_rfl) h
  ⟨ht.cell lt_global 0 (by decide), ht.cell lt_global 1 (by decide)⟩

/-- A world in which the table holds what its initialiser lays. -/
noncomputable def ltWorld (os : Os) : World :=
  let w := World.holding Tryd.prog os ⟨#[], #[], []⟩
  { w with heap := w.heap.modify 0 fun
      | .cells _ t f => .cells #[.int .i64 4, .int .i64 8] t f
      | o => o }

end Go.Proofs.YtpmpgfngogdfhaaDoor
