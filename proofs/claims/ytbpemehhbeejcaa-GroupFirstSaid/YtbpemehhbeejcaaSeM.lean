/-
  Package sects: lay.
-/
import Derived.Test.YtbpemehhbeejcaaSyDa
import Derived.Test.YtbpemehhbeejcaaEhC
import Derived.Test.YtbpemehhbeejcaaCurN
import Derived.Laws.IdiomStrings
import Derived.Laws.BytesArg
import Derived.Test.YtbpemehhbeejcaaKeep
import Derived.Lib.AppendZerosOnto
import Derived.Test.YtbpemehhbeejcaaParts
import Derived.Test.YtbpemehhbeejcaaCopyB
import Derived.Laws.MakeOwn
namespace Go.Proofs.Ytbpemehhbeejcaa
open Go Go.RowKit

section
variable {base : Nat} {bad : Obj → Prop} {a b : World}
theorem Only.drew (h : Only base bad a b) : Only base bad a b.drew := ⟨h.1.drew, h.2⟩
theorem Only.alloc (h : Only base bad a b) (hs : base ≤ b.heap.size) (o : Obj) : Only base bad a (b.alloc o) := h.trans (Only.below ((Below.refl _ _).alloc (Nat.le_refl _) o) hs)
end

end Go.Proofs.Ytbpemehhbeejcaa
