/-
  Places that a pool told: plain facts; rows of numbers and of texts, with one item more.
-/
import Derived.Test.YtejicboemkpeoaaDoorCsQ
import Derived.Test.YtejicboemkpeoaaDoorKeep
import Derived.Test.YtejicboemkpeoaaDoorPoO
import Derived.Deep.RegionHeldLaw
import Derived.Test.YtejicboemkpeoaaDoorRefR
import Derived.Test.YtejicboemkpeoaaDoorCsL
import Derived.Lib.SlBytesConst
import Derived.Deep.AppendLies
namespace Go.Proofs.YtejicboemkpeoaaDoor
open Go Go.RowKit

section
variable {P : Program}
end

/-- The first step behind a row. -/
theorem Onto.first {w w2 : World} {base : Nat} {v v2 : Value} {l m : List UInt8} (hown : Own w base v l) (ho : Own w2 base v2 (l ++ m)) (hg : w.grownBy w2 v.ownBlock) (ha : v2.ownBlock = v.ownBlock ∨ ∀ x, v2.ownBlock = some x → w.heap.size ≤ x)
    (hD : After w w2 v v2 l.length (l ++ m).length) : Onto w w2 base v v2 l (l ++ m) := by
  refine ⟨⟨ho, hg, ha⟩, ?_, List.prefix_append _ _, ?_⟩
  · rcases hD with ⟨g, c, rfl, rfl⟩ | ⟨hn, _⟩
    · exact own_front ho (List.prefix_append _ _)
    · exact hown.kept hn (by rcases v.ownBlock with _ | k <;> simp)
  · rcases hD with ⟨g, c, e1, e2⟩ | ⟨_, hf⟩
    · exact .inl ⟨g, c, e1, e2⟩
    · exact .inr hf

end Go.Proofs.YtejicboemkpeoaaDoor

namespace Go.Proofs.YtejicboemkpeoaaDoor
open Go Go.RowKit

/-! Rows of the call's own. -/
/-- Cells of one kind. -/
def CellsOf (e : TypeId) : Obj → Prop
  | .cells _ t _ => t = e
  | _ => False

theorem row_only {w w' : World} {base base' : Nat} {bad : Obj → Prop} {e : TypeId} {size n : Nat} {v : Value} {xs : List Value} (h : w.ownsRow base e size v n xs) (hb : Only base' bad w w') (hn : ∀ cs f, ¬ bad (.cells cs e f)) : w'.ownsRow base e size v n xs :=
  ⟨h.1, h.2.imp id fun ⟨g, cap, cur, p, q, hg, r⟩ => ⟨g, cap, cur, p, q, hb.2 _ _ hg (hn _ _), r⟩⟩

theorem row_turns {w w' : World} {base : Nat} {e : TypeId} {size n : Nat} {v : Value} {xs : List Value} (h : w.ownsRow base e size v n xs) (hg : w.grownBy w' v.ownBlock) (hb : base ≤ w.heap.size) : Only base (CellsOf e) w w' := by
  rcases h.2 with ⟨rfl, _⟩ | ⟨g', cap, cur, rfl, hgb, hh, _⟩
  · exact Only.below (below_of_only hg (Nat.le_refl _) (by simp [Value.ownBlock])) hb
  · exact Only.row (g := g') hg hh rfl hgb

theorem u64_info : (Tryd.prog.info? 41).map (fun i => (i.zero, i.size, i.bytes)) = some (some (.int .u64 0), 1, 8) := by kernel_rfl

end Go.Proofs.YtejicboemkpeoaaDoor
