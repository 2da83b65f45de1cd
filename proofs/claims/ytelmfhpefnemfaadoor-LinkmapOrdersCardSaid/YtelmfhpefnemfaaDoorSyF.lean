/-
  The document's Take of symbols.
-/
import Derived.Test.YtelmfhpefnemfaaDoorSeR
import Derived.Test.YtelmfhpefnemfaaDoorRefR
import Derived.Test.YtelmfhpefnemfaaDoorCsP
import Derived.Test.YtelmfhpefnemfaaDoorCsL
import Derived.Test.YtelmfhpefnemfaaDoorSeV
import Derived.Test.YtelmfhpefnemfaaDoorPoX
namespace Go.Proofs.YtelmfhpefnemfaaDoor
open Go Go.RowKit

/-- The document's cursor, a struct in memory beside it, and what has not turned since w0. -/
def StQ (T : TypeId) (B : Nat) (w0 w : World) (g : Nat) (v : Value) (l : List UInt8) (a : Nat) (H : Nat) (cs : Array Value) : Prop :=
  RR B w g v l a 0 ∧ Box w H T cs ∧ w0.grownBy w (some g)
section
variable {T : TypeId} {B : Nat} {w0 w w' : World} {g : Nat} {v : Value} {l : List UInt8} {a b H : Nat} {cs : Array Value}
theorem StQ.call (h : StQ T B w0 w g v l a H cs) (hne : g ≠ H) (hC : RR B w' g v l b 0) (hG : w.grownBy w' (some g)) : StQ T B w0 w' g v l b H cs :=
  ⟨hC, h.2.1.grown hG (by simpa using fun e => hne e.symm), h.2.2.trans hG⟩
theorem StQ.set (h : StQ T B w0 w g v l a H cs) (hne : g ≠ H) (hB : B ≤ H) (hH : w0.heap.size ≤ H) (i : Nat) (u : Value) : StQ T B w0 (w.setCell ⟨H, i, none⟩ u) g v l a H (cs.setIfInBounds i u) :=
  have G : w.grownBy (w.setCell ⟨H, i, none⟩ u) (some H) := only_set (only_refl w (some H)) i u
  ⟨h.1.grown G (by simpa using hne) (fun x hx => by injection hx with hx; omega), h.2.1.set i u, only_trans h.2.2 G (.inr fun x hx => by injection hx with hx; omega)⟩
end

/-- An item that was just laid. -/
theorem cells_new (w : World) (cs : List Value) (t : TypeId) : ∀ j u, cs[j]? = some u → (w.alloc (.cells cs.toArray t)).cell? ((⟨w.heap.size, 0, none⟩ : Addr).add j) = some u := by
  intro j u hj
  rw [addr_add, Nat.zero_add, (Box.new w t cs.toArray).cell]
  simpa using hj
end Go.Proofs.YtelmfhpefnemfaaDoor
