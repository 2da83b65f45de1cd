/-
  Package elfhead: whether a header may be, of a file of some size: Right, and the document's.
-/
import Derived.Test.YtejicboemkpeoaaDoorCsL
namespace Go.Proofs.YtejicboemkpeoaaDoor
open Go Go.RowKit

theorem three {t a b : Int} : t = a ∨ t = b ∨ (¬ (t = a ∨ t = b) ∧ (t != a) = true ∧ (t != b) = true) := by
  by_cases h : t = a
  · exact .inl h
  · by_cases h' : t = b
    · exact .inr (.inl h')
    · exact .inr (.inr ⟨by simp [h, h'], by simp [h], by simp [h']⟩)

end Go.Proofs.YtejicboemkpeoaaDoor
