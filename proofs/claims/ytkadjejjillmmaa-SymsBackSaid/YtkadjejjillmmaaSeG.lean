/-
  Package sects: the table of names, and where each section's stands in it (gather).
-/

import Derived.Test.YtkadjejjillmmaaSeB
import Derived.Test.YtkadjejjillmmaaKeep
import Derived.Lib.AppendZerosOnto
import Derived.Test.YtkadjejjillmmaaPoX
import Derived.Laws.Cover3
namespace Go.Proofs.Ytkadjejjillmmaa
open Go Go.RowKit

/-- The texts of the table and the places, name by name. -/
def gat (ns : List (List UInt8)) : List (List UInt8) × List Nat := ns.foldl (fun p t => ((addT p.1 t).1, p.2 ++ [(addT p.1 t).2.1])) ([], [])
theorem gat_next (ns : List (List UInt8)) (t : List UInt8) : gat (ns ++ [t]) = ((addT (gat ns).1 t).1, (gat ns).2 ++ [(addT (gat ns).1 t).2.1]) := by
  unfold gat
  rw [List.foldl_append]
  rfl
theorem gat_take {ns : List (List UInt8)} {k : Nat} {t : List UInt8} (h : ns[k]? = some t) : gat (ns.take (k + 1)) = ((addT (gat (ns.take k)).1 t).1, (gat (ns.take k)).2 ++ [(addT (gat (ns.take k)).1 t).2.1]) := by
  rw [List.take_add_one, h]
  exact gat_next _ _
theorem row_base {w : World} {base base' : Nat} {e : TypeId} {size n : Nat} {v : Value} {xs : List Value} (h : w.ownsRow base e size v n xs) (hb : base' ≤ base) : w.ownsRow base' e size v n xs :=
  ⟨h.1, h.2.imp id fun ⟨g, cap, cur, p, q, r⟩ => ⟨g, cap, cur, p, Nat.le_trans hb q, r⟩⟩

end Go.Proofs.Ytkadjejjillmmaa
