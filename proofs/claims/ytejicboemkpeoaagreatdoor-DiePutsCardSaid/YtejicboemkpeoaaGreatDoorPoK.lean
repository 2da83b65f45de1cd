/-
  The contract of layer 3's Put once more: the row behind which it puts is still there.
-/
import Derived.Test.YtejicboemkpeoaaGreatDoorCsQ
import Derived.Test.YtejicboemkpeoaaGreatDoorKeep
namespace Go.Proofs.YtejicboemkpeoaaGreatDoor
open Go Go.RowKit

section
variable {P : Program}
end

/-- The first step behind a row. -/
theorem Onto.first {w w2 : World} {base : Nat} {v v2 : Value} {l m : List UInt8} (hown : Own w base v l) (ho : Own w2 base v2 (l ++ m)) (hg : w.grownBy w2 v.ownBlock) (ha : v2.ownBlock = v.ownBlock ∨ ∀ x, v2.ownBlock = some x → w.heap.size ≤ x)
    (hD : After w w2 v v2 l.length (l ++ m).length) : Onto w w2 base v v2 l (l ++ m) := by
  refine ⟨⟨ho, hg, ha⟩, ?_, List.prefix_append _ _, ?_⟩
  · rcases hD with ⟨g, c, rfl, rfl⟩ | ⟨hn, _⟩
    · exact own_front ho (List.prefix_append _ _)
    · exact hown.kept hn (by rcases v.ownBlock with _ | k <;> simp)
  · rcases hD with ⟨g, c, e1, e2⟩ | ⟨_, hf⟩
    · exact .inl ⟨g, c, e1, e2⟩
    · exact .inr hf

end Go.Proofs.YtejicboemkpeoaaGreatDoor
