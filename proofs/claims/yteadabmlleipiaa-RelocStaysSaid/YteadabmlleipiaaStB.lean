/-
  The document's section of an entry.
-/
import Derived.Test.YteadabmlleipiaaSeV
import Derived.Test.YteadabmlleipiaaRefR
import Derived.Test.YteadabmlleipiaaPoX
import Derived.Test.YteadabmlleipiaaLawA
namespace Go.Proofs.Yteadabmlleipiaa
open Go Go.RowKit

/-- An entry's section, without its name. -/
def sectZ (l : List UInt8) (ns : List Nat) : Sect :=
  ⟨[], (kindN ns : Int), ns.getD 2 0, ns.getD 3 0, dataT l ns, (ns.getD 6 0 : Int), (ns.getD 7 0 : Int), (ns.getD 8 0 : Int), (ns.getD 9 0 : Int)⟩
theorem nine_cells {W : World} {H : Nat} {T : TypeId} {c0 c1 c2 c3 c4 c5 c6 c7 c8 : Value} (h : Box W H T #[c0, c1, c2, c3, c4, c5, c6, c7, c8]) : W.cell? ⟨H, 0, none⟩ = some c0 ∧ W.cell? ⟨H, 1, none⟩ = some c1 ∧ W.cell? ⟨H, 2, none⟩ = some c2 ∧ W.cell? ⟨H, 3, none⟩ = some c3 ∧ W.cell? ⟨H, 4, none⟩ = some c4 ∧ W.cell? ⟨H, 5, none⟩ = some c5 ∧ W.cell? ⟨H, 6, none⟩ = some c6 ∧ W.cell? ⟨H, 7, none⟩ = some c7 ∧ W.cell? ⟨H, 8, none⟩ = some c8 := by
  refine ⟨?_, ?_, ?_, ?_, ?_, ?_, ?_, ?_, ?_⟩ <;> (rw [h.cell]; rfl)
end Go.Proofs.Yteadabmlleipiaa
