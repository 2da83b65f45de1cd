/-
  Package sects: lay.
-/

import Derived.Test.YtkadjejjillmmaaSeG
import Derived.Test.YtkadjejjillmmaaEhG
import Derived.Test.YtkadjejjillmmaaCopyB
import Derived.Laws.MakeOwn
namespace Go.Proofs.Ytkadjejjillmmaa
open Go Go.RowKit

theorem gat_good (ns : List (List UInt8)) : GoodT (gat ns).1 := by
  have key : ∀ k, k ≤ ns.length → GoodT (gat (ns.take k)).1 := by
    intro k
    induction k with
    | zero => intro _; exact goodT_nil
    | succ k ih =>
      intro hk
      have h : ns[k]? = some (ns[k]'(by omega)) := List.getElem?_eq_getElem _
      rw [gat_take h]
      exact goodT_add (ih (by omega)) _
  have := key ns.length (Nat.le_refl _)
  rwa [List.take_length] at this
section
variable {base : Nat} {bad : Obj → Prop} {a b : World}
theorem Only.drew (h : Only base bad a b) : Only base bad a b.drew := ⟨h.1.drew, h.2⟩
theorem Only.alloc (h : Only base bad a b) (hs : base ≤ b.heap.size) (o : Obj) : Only base bad a (b.alloc o) := h.trans (Only.below ((Below.refl _ _).alloc (Nat.le_refl _) o) hs)
end

end Go.Proofs.Ytkadjejjillmmaa
