/-
  The document's Same, Relas and Bulk: the same symbols, the same relocations; how many symbols and bytes of names there are.
-/
import Derived.Test.YtelmfhpefnemfaaDoorSyA
import Derived.Test.YtelmfhpefnemfaaDoorSeB
import Derived.Test.YtelmfhpefnemfaaDoorCsM
import Derived.Test.YtelmfhpefnemfaaDoorCurN
import Derived.Test.YtelmfhpefnemfaaDoorPutR
import Derived.Test.YtelmfhpefnemfaaDoorParts
import Derived.WalkMore
import Derived.Test.YtelmfhpefnemfaaDoorPut
import Derived.Lib.BytesEntry
import Derived.Lib.AppendStr
import Derived.Laws.Externs
import Derived.Deep.Slices
import Derived.Test.YtelmfhpefnemfaaDoorRefR
import Derived.Test.YtelmfhpefnemfaaDoorCsL
import Derived.Lib.SlBytesConst
import Derived.Test.YtelmfhpefnemfaaDoorLawC
import Derived.Laws.StructEq
namespace Go.Proofs.YtelmfhpefnemfaaDoor
open Go Go.RowKit

/-- All alike, one by one. -/
def alikeL {α : Type} (p : α → α → Bool) (l m : List α) : Bool := decide (l.length = m.length) && (l.zip m).all fun q => p q.1 q.2
theorem alikeL_refl {α : Type} {p : α → α → Bool} (hp : ∀ x, p x x = true) (l : List α) : alikeL p l l = true := by
  unfold alikeL
  rw [Bool.and_eq_true, decide_eq_true_eq, List.all_eq_true]
  refine ⟨rfl, fun q hq => ?_⟩
  have : q.1 = q.2 := by
    obtain ⟨i, hi, e⟩ := List.getElem_of_mem hq
    rw [← e, List.getElem_zip]
  rw [this]
  exact hp _
theorem zip_get {α : Type} {l m : List α} {k : Nat} {x y : α} (hx : l[k]? = some x) (hy : m[k]? = some y) : (l.zip m)[k]? = some (x, y) := by rw [List.getElem?_zip_eq_some]; exact ⟨hx, hy⟩

section
theorem part_int (xs : Array Value) (k : Nat) (u : Value) (hx : xs[k]? = some u) (W : World) : (part 3 xs k).run Tryd.prog W = .ok u W := by
  simp only [part, Sem.run_bind, isAgg, run_underlying Tryd.underlying3, Result.andThen_ok, Sem.run_pure]
  simp [hx]
theorem part_u64 (xs : Array Value) (k : Nat) (u : Value) (hx : xs[k]? = some u) (W : World) : (part 41 xs k).run Tryd.prog W = .ok u W := by
  simp only [part, Sem.run_bind, isAgg, run_underlying Tryd.underlying41, Result.andThen_ok, Sem.run_pure]
  simp [hx]
theorem eq_fields {d : Nat} {xs ys : Array Value} {f : Field} {fs : List Field} {W : World} {u v : Value} {b r : Bool} (hn : f.name ≠ "_") (hu : (part f.type xs f.offset).run Tryd.prog W = .ok u W) (hv : (part f.type ys f.offset).run Tryd.prog W = .ok v W)
    (he : (Op.equalIn (d + 1) f.type u v).run Tryd.prog W = .ok b W) (hr : (Op.eqFields (d + 1) xs ys fs).run Tryd.prog W = .ok r W) : (Op.eqFields (d + 1) xs ys (f :: fs)).run Tryd.prog W = .ok (b && r) W := by
  simp only [Op.eqFields, if_pos hn, Sem.run_bind, hu, hv, he, Result.andThen_ok]
  cases b
  · simp
  · simp [hr]
theorem beq_int (a b : Int) : (a == b) = decide (a = b) := by rw [Bool.eq_iff_iff, beq_iff_eq, decide_eq_true_eq]
theorem beq_nat (a b : Nat) : ((a : Int) == (b : Int)) = decide (a = b) := by rw [beq_int]; exact decide_eq_decide.2 (by omega)

end

end Go.Proofs.YtelmfhpefnemfaaDoor
