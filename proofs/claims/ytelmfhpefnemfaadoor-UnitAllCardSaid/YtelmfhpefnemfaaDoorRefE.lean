/-
  The document's own cursor: Bytes and Sub.
-/
import Derived.Test.YtelmfhpefnemfaaDoorRefD
import Derived.Test.YtelmfhpefnemfaaDoorLawE
namespace Go.Proofs.YtelmfhpefnemfaaDoor
open Go Go.RowKit

/-- A cursor of the document's that was made just now. -/
def RMade (B : Nat) (w' : World) (g : Nat) (v : Value) (l : List UInt8) (e : Int) : Prop :=
  RC w' g v l 0 e ∧ B ≤ g ∧ ∀ k, v.ownBlock = some k → B ≤ k

theorem rmade_new {B : Nat} {w1 : World} {v : Value} {l : List UInt8} (hown : Own w1 B v l) (hB : B ≤ w1.heap.size) (e : Int) :
    RMade B (w1.alloc (.cells #[v, .int .i64 0, .int .i64 e] 128)) w1.heap.size v l e :=
  ⟨⟨Box.new _ _ _, (own_zero hown).alloc _, Nat.zero_le _⟩, hB, fun k hk => (own_ge hown k hk).1⟩

end Go.Proofs.YtelmfhpefnemfaaDoor
