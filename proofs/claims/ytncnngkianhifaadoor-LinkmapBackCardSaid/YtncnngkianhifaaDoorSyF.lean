/-
  The document's Take of symbols.
-/
import Derived.Test.YtncnngkianhifaaDoorSeR
import Derived.Test.YtncnngkianhifaaDoorRefR
import Derived.Test.YtncnngkianhifaaDoorCsA
import Derived.Test.YtncnngkianhifaaDoorCsP
import Derived.Test.YtncnngkianhifaaDoorCsL
import Derived.Test.YtncnngkianhifaaDoorSeV
import Derived.Test.YtncnngkianhifaaDoorPoX
namespace Go.Proofs.YtncnngkianhifaaDoor
open Go Go.RowKit

section
variable {T : TypeId} {B : Nat} {w0 w w' : World} {g : Nat} {v : Value} {l : List UInt8} {a b H : Nat} {cs : Array Value}
end

/-- An item that was just laid. -/
theorem cells_new (w : World) (cs : List Value) (t : TypeId) : ∀ j u, cs[j]? = some u → (w.alloc (.cells cs.toArray t)).cell? ((⟨w.heap.size, 0, none⟩ : Addr).add j) = some u := by
  intro j u hj
  rw [addr_add, Nat.zero_add, (Box.new w t cs.toArray).cell]
  simpa using hj
end Go.Proofs.YtncnngkianhifaaDoor
