/-
  Places that a pool told: plain facts; rows of numbers and of texts, with one item more.
-/
import Derived.Test.YtejicboemkpeoaaGreatDoorPoO
import Derived.Test.YtejicboemkpeoaaGreatDoorCsA
import Derived.Test.YtejicboemkpeoaaGreatDoorPoK
import Derived.Deep.RegionHeldLaw
import Derived.Test.YtejicboemkpeoaaGreatDoorCsQ
import Derived.Test.YtejicboemkpeoaaGreatDoorRefR
import Derived.Test.YtejicboemkpeoaaGreatDoorCsL
import Derived.Lib.SlBytesConst
import Derived.Deep.AppendLies
namespace Go.Proofs.YtejicboemkpeoaaGreatDoor
open Go Go.RowKit

/-! Rows of the call's own. -/
/-- Cells of one kind. -/
def CellsOf (e : TypeId) : Obj → Prop
  | .cells _ t _ => t = e
  | _ => False

theorem row_only {w w' : World} {base base' : Nat} {bad : Obj → Prop} {e : TypeId} {size n : Nat} {v : Value} {xs : List Value} (h : w.ownsRow base e size v n xs) (hb : Only base' bad w w') (hn : ∀ cs f, ¬ bad (.cells cs e f)) : w'.ownsRow base e size v n xs :=
  ⟨h.1, h.2.imp id fun ⟨g, cap, cur, p, q, hg, r⟩ => ⟨g, cap, cur, p, q, hb.2 _ _ hg (hn _ _), r⟩⟩

theorem row_turns {w w' : World} {base : Nat} {e : TypeId} {size n : Nat} {v : Value} {xs : List Value} (h : w.ownsRow base e size v n xs) (hg : w.grownBy w' v.ownBlock) (hb : base ≤ w.heap.size) : Only base (CellsOf e) w w' := by
  rcases h.2 with ⟨rfl, _⟩ | ⟨g', cap, cur, rfl, hgb, hh, _⟩
  · exact Only.below (below_of_only hg (Nat.le_refl _) (by simp [Value.ownBlock])) hb
  · exact Only.row (g := g') hg hh rfl hgb

end Go.Proofs.YtejicboemkpeoaaGreatDoor
