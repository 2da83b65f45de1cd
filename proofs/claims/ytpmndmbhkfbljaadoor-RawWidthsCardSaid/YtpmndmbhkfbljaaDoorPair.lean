/-
  A cursor and the document's cursor over the same bytes, side by side, as the laws walk them.
-/
import Derived.Test.YtpmndmbhkfbljaaDoorRefR
import Derived.Test.YtpmndmbhkfbljaaDoorRwA
namespace Go.Proofs.YtpmndmbhkfbljaaDoor
open Go Go.RowKit

/-- The two cursors of the law, behind a step of each. -/
structure Pair (B : Nat) (w W : World) (g : Nat) (v : Value) (gr : Nat) (u : Value) (l : List UInt8) (a : Nat) (e : Int) (a' : Nat) (e' : Int) : Prop where
  c : Cur W g v l a e
  r : RR B W gr u l a' e'
  below : Below B w W
  hg : B ≤ g
  hw : B ≤ w.heap.size

section
variable {B : Nat} {w W W' : World} {g : Nat} {v : Value} {gr : Nat} {u : Value} {l : List UInt8} {a a' b : Nat} {e e' f : Int}
theorem Pair.drew (h : Pair B w W g v gr u l a e a' e') : Pair B w W.drew g v gr u l a e a' e' := ⟨h.c, h.r, h.below.drew, h.hg, h.hw⟩
end

end Go.Proofs.YtpmndmbhkfbljaaDoor
