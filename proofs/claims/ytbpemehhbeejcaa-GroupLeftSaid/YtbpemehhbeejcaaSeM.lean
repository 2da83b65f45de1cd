/-
  Package sects: lay.
-/
import Derived.Test.YtbpemehhbeejcaaSyDa
import Derived.Test.YtbpemehhbeejcaaEhC
import Derived.Test.YtbpemehhbeejcaaPutR
import Derived.Test.YtbpemehhbeejcaaKeep
import Derived.Lib.AppendZerosOnto
import Derived.Test.YtbpemehhbeejcaaParts
import Derived.Test.YtbpemehhbeejcaaCopyB
import Derived.Laws.MakeOwn
namespace Go.Proofs.Ytbpemehhbeejcaa
open Go Go.RowKit

section
variable {base : Nat} {bad : Obj → Prop} {a b : World}
theorem Only.alloc (h : Only base bad a b) (hs : base ≤ b.heap.size) (o : Obj) : Only base bad a (b.alloc o) := h.trans (Only.below ((Below.refl _ _).alloc (Nat.le_refl _) o) hs)
end

end Go.Proofs.Ytbpemehhbeejcaa
