/-
  The document's Take of symbols.
-/
import Derived.Test.YtejicboemkpeoaaDoorSeR
import Derived.Test.YtejicboemkpeoaaDoorRefR
import Derived.Test.YtejicboemkpeoaaDoorCsQ
import Derived.Test.YtejicboemkpeoaaDoorCsL
import Derived.Test.YtejicboemkpeoaaDoorSeV
import Derived.Test.YtejicboemkpeoaaDoorPoX
namespace Go.Proofs.YtejicboemkpeoaaDoor
open Go Go.RowKit

section
variable {T : TypeId} {B : Nat} {w0 w w' : World} {g : Nat} {v : Value} {l : List UInt8} {a b H : Nat} {cs : Array Value}
end

/-- An item that was just laid. -/
theorem cells_new (w : World) (cs : List Value) (t : TypeId) : ∀ j u, cs[j]? = some u → (w.alloc (.cells cs.toArray t)).cell? ((⟨w.heap.size, 0, none⟩ : Addr).add j) = some u := by
  intro j u hj
  rw [addr_add, Nat.zero_add, (Box.new w t cs.toArray).cell]
  simpa using hj
end Go.Proofs.YtejicboemkpeoaaDoor
