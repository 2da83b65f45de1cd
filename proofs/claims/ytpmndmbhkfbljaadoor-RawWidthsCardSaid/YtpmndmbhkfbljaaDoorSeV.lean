/-
  Package sects: tell.
-/
import Derived.Test.YtpmndmbhkfbljaaDoorSeR
import Derived.Test.YtpmndmbhkfbljaaDoorEhC
import Derived.Test.YtpmndmbhkfbljaaDoorPutR
import Derived.Test.YtpmndmbhkfbljaaDoorKeep
import Derived.Lib.AppendZerosOnto
import Derived.Test.YtpmndmbhkfbljaaDoorRwA
import Derived.Test.YtpmndmbhkfbljaaDoorCopyB
import Derived.Laws.MakeOwn
import Derived.Test.YtpmndmbhkfbljaaDoorSyA
import Derived.Test.YtpmndmbhkfbljaaDoorPoX
import Derived.Test.YtpmndmbhkfbljaaDoorPut
import Derived.Laws.ResultCell
import Derived.Stop.BytesEq
import Derived.Laws.Cover3
import Derived.Test.YtpmndmbhkfbljaaDoorCsA
namespace Go.Proofs.YtpmndmbhkfbljaaDoor
open Go Go.RowKit

section
variable {base : Nat} {bad : Obj → Prop} {a b : World}
theorem Only.drew (h : Only base bad a b) : Only base bad a b.drew := ⟨h.1.drew, h.2⟩
theorem Only.alloc (h : Only base bad a b) (hs : base ≤ b.heap.size) (o : Obj) : Only base bad a (b.alloc o) := h.trans (Only.below ((Below.refl _ _).alloc (Nat.le_refl _) o) hs)
end

end Go.Proofs.YtpmndmbhkfbljaaDoor

namespace Go.Proofs.YtpmndmbhkfbljaaDoor
open Go Go.RowKit

/-! ### An entry's numbers -/
def sizesN : List Nat := [4, 4, 8, 8, 8, 8, 4, 4, 8, 8]
end Go.Proofs.YtpmndmbhkfbljaaDoor

namespace Go.Proofs.YtpmndmbhkfbljaaDoor
open Go Go.RowKit

def offsN : List Nat := [0, 4, 8, 16, 24, 32, 40, 44, 48, 56]
/-- The numbers of an entry that stands at a place. -/
def entN (l : List UInt8) (o : Nat) : List Nat := (offsN.zip sizesN).map fun p => numT l (o + p.1) p.2
end Go.Proofs.YtpmndmbhkfbljaaDoor

namespace Go.Proofs.YtpmndmbhkfbljaaDoor
open Go Go.RowKit

def nameN (ns : List Nat) : Nat := ns.getD 0 0
/-- Whether the first k names can be read. -/
def namesOk (l tbl : List UInt8) (off k : Nat) : Prop := ∀ i, i < k → (atT tbl (nameN (entN l (off + 64 * i)))).2 = 0
instance (l tbl : List UInt8) (off k : Nat) : Decidable (namesOk l tbl off k) := Nat.decidableBallLT k fun i _ => (atT tbl (nameN (entN l (off + 64 * i)))).2 = 0
end Go.Proofs.YtpmndmbhkfbljaaDoor
