/-
  Package sects: what an entry is refused with (refusal), and its bytes (data).
-/
import Derived.Test.YteadabmlleipiaaSyDa
import Derived.Test.YteadabmlleipiaaEhC
namespace Go.Proofs.Yteadabmlleipiaa
open Go Go.RowKit

/-- An entry in memory. -/
def EntAt (w : World) (g o : Nat) (ns : List Nat) : Prop := ns.length = 10 ∧ ∀ (j x : Nat), ns[j]? = some x → w.cell? ⟨g, o + j, none⟩ = some (.int .u64 (x : Int))
theorem EntAt.below {w w' : World} {g o B : Nat} {ns : List Nat} (h : EntAt w g o ns) (hb : Below B w w') (hg : g < B) : EntAt w' g o ns :=
  ⟨h.1, fun j x hx => by rw [hb.cell (p := ⟨g, o + j, none⟩) hg]; exact h.2 j x hx⟩
theorem EntAt.lt {w : World} {g o : Nat} {ns : List Nat} (h : EntAt w g o ns) : g < w.heap.size := by
  have h0 : ns[0]? = some (ns[0]'(by rw [h.1]; decide)) := List.getElem?_eq_getElem _
  exact World.block_lt_of_cell? w _ (h.2 0 _ h0)

end Go.Proofs.Yteadabmlleipiaa
