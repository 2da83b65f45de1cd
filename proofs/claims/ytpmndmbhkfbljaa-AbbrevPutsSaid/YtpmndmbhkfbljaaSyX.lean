/-
  SymsPuts' walk.
-/
import Derived.Test.YtpmndmbhkfbljaaSyDa
import Derived.Test.YtpmndmbhkfbljaaRefR
import Derived.Test.YtpmndmbhkfbljaaCsA
import Derived.Test.YtpmndmbhkfbljaaCsM
import Derived.Test.YtpmndmbhkfbljaaPut
import Derived.Lib.BytesEntry
import Derived.Lib.AppendStr
import Derived.Laws.Externs
import Derived.Deep.Slices
import Derived.Test.YtpmndmbhkfbljaaPutR
import Derived.Test.YtpmndmbhkfbljaaCsL
import Derived.Test.YtpmndmbhkfbljaaSeV
import Derived.Test.YtpmndmbhkfbljaaPoX
import Derived.Test.YtpmndmbhkfbljaaSyT
import Derived.Test.YtpmndmbhkfbljaaPoA
import Derived.Test.YtpmndmbhkfbljaaPoK
import Derived.Deep.RegionHeldLaw
import Derived.Test.YtpmndmbhkfbljaaLmA
import Derived.Test.YtpmndmbhkfbljaaSyA
import Derived.Test.YtpmndmbhkfbljaaEhC
import Derived.Test.YtpmndmbhkfbljaaKeep
import Derived.Lib.AppendZerosOnto
import Derived.Test.YtpmndmbhkfbljaaParts
import Derived.Lib.SlBytesConst
namespace Go.Proofs.Ytpmndmbhkfbljaa
open Go Go.RowKit

/-- The document's cursor, a struct in memory beside it, and what has not turned since w0. -/
def StQ (T : TypeId) (B : Nat) (w0 w : World) (g : Nat) (v : Value) (l : List UInt8) (a : Nat) (H : Nat) (cs : Array Value) : Prop :=
  RR B w g v l a 0 ∧ Box w H T cs ∧ w0.grownBy w (some g)
section
variable {T : TypeId} {B : Nat} {w0 w w' : World} {g : Nat} {v : Value} {l : List UInt8} {a b H : Nat} {cs : Array Value}
theorem StQ.call (h : StQ T B w0 w g v l a H cs) (hne : g ≠ H) (hC : RR B w' g v l b 0) (hG : w.grownBy w' (some g)) : StQ T B w0 w' g v l b H cs :=
  ⟨hC, h.2.1.grown hG (by simpa using fun e => hne e.symm), h.2.2.trans hG⟩
theorem StQ.set (h : StQ T B w0 w g v l a H cs) (hne : g ≠ H) (hB : B ≤ H) (hH : w0.heap.size ≤ H) (i : Nat) (u : Value) : StQ T B w0 (w.setCell ⟨H, i, none⟩ u) g v l a H (cs.setIfInBounds i u) :=
  have G : w.grownBy (w.setCell ⟨H, i, none⟩ u) (some H) := only_set (only_refl w (some H)) i u
  ⟨h.1.grown G (by simpa using hne) (fun x hx => by injection hx with hx; omega), h.2.1.set i u, only_trans h.2.2 G (.inr fun x hx => by injection hx with hx; omega)⟩
end

end Go.Proofs.Ytpmndmbhkfbljaa

namespace Go.Proofs.Ytpmndmbhkfbljaa
open Go Go.RowKit

/-- A symbol's, a relocation's numbers are what their types may be. -/
structure Sym.Nums (s : Sym) : Prop where
  bind : InI s.bind
  kind : InI s.kind
  sect : InI s.sect
  value : s.value < two64
  size : s.size < two64
structure Rel.Nums (s : Rel) : Prop where
  off : s.off < two64
  sym : InI s.sym
  kind : InI s.kind
  add : InI s.add
end Go.Proofs.Ytpmndmbhkfbljaa
