/-
  Link maps: places, symbols, ranges, as values and side by side in memory; what a map tells, as functions over lists. No program is named here.
-/
import Derived.Test.YtpmndmbhkfbljaaDoorSyA
import Derived.Test.YtpmndmbhkfbljaaDoorCsA
import Derived.Test.YtpmndmbhkfbljaaDoorCsQ
import Derived.Test.YtpmndmbhkfbljaaDoorRefR
import Derived.Test.YtpmndmbhkfbljaaDoorCsL
import Derived.Lib.SlBytesConst
import Derived.Test.YtpmndmbhkfbljaaDoorRwB
import Derived.Laws.StructEq
namespace Go.Proofs.YtpmndmbhkfbljaaDoor
open Go Go.RowKit

/-! ### Values -/
/-- A place. -/
structure Place where
  obj : Int
  sect : Int
  addr : Nat
/-- A symbol of a map. -/
structure Named where
  name : List UInt8
  addr : Nat
/-- A range of addresses. -/
structure Span where
  lo : Nat
  hi : Nat
def Place.cells (p : Place) : List Value := [.int .i64 p.obj, .int .i64 p.sect, .int .u64 (p.addr : Int)]
def Named.cells (s : Named) : List Value := [.string ⟨s.name.toArray⟩, .int .u64 (s.addr : Int)]
def Span.cells (r : Span) : List Value := [.int .u64 (r.lo : Int), .int .u64 (r.hi : Int)]
theorem Place.one (p : Place) : ∀ u ∈ p.cells, u.oneCell' = true := fun u hu => by
  simp only [Place.cells, List.mem_cons, List.not_mem_nil, or_false] at hu
  rcases hu with rfl | rfl | rfl <;> rfl
theorem Named.one (s : Named) : ∀ u ∈ s.cells, u.oneCell' = true := fun u hu => by
  simp only [Named.cells, List.mem_cons, List.not_mem_nil, or_false] at hu
  rcases hu with rfl | rfl <;> rfl
theorem Span.one (r : Span) : ∀ u ∈ r.cells, u.oneCell' = true := fun u hu => by
  simp only [Span.cells, List.mem_cons, List.not_mem_nil, or_false] at hu
  rcases hu with rfl | rfl <;> rfl
section
variable {w : World} {B : Nat} {a : Option Addr} {i : Nat}
end

/-! ### What a map tells -/
/-- The first place from number i on of which p holds. -/
def firstK {α : Type} (p : α → Bool) : Nat → List α → Option Nat
  | _, [] => none
  | i, x :: l => if p x then some i else firstK p (i + 1) l
section
variable {α : Type} {p : α → Bool}
end
/-- The symbol of a name. -/
def nameK (Y : List Named) (n : List UInt8) : Option Nat := firstK (fun s => decide (s.name = n)) 0 Y

end Go.Proofs.YtpmndmbhkfbljaaDoor
