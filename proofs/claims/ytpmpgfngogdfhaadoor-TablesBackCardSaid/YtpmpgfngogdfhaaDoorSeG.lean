/-
  Package sects: the table of names, and where each section's stands in it (gather).
-/
import Derived.Test.YtpmpgfngogdfhaaDoorSeB
import Derived.Test.YtpmpgfngogdfhaaDoorKeep
import Derived.Lib.AppendZerosOnto
import Derived.Test.YtpmpgfngogdfhaaDoorPoX
import Derived.Laws.Cover3
namespace Go.Proofs.YtpmpgfngogdfhaaDoor
open Go Go.RowKit

theorem row_below {w w' : World} {base : Nat} {e : TypeId} {size n : Nat} {v : Value} {xs : List Value} (h : w.ownsRow base e size v n xs) (hb : Below w.heap.size w w') : w'.ownsRow base e size v n xs :=
  row_only h (Only.below (base := 0) (bad := fun _ => False) hb (Nat.zero_le _)) (fun _ _ x => x)
theorem row_base {w : World} {base base' : Nat} {e : TypeId} {size n : Nat} {v : Value} {xs : List Value} (h : w.ownsRow base e size v n xs) (hb : base' ≤ base) : w.ownsRow base' e size v n xs :=
  ⟨h.1, h.2.imp id fun ⟨g, cap, cur, p, q, r⟩ => ⟨g, cap, cur, p, Nat.le_trans hb q, r⟩⟩

end Go.Proofs.YtpmpgfngogdfhaaDoor
