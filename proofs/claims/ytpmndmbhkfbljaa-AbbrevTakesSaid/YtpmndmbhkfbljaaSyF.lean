/-
  The document's Take of symbols.
-/
import Derived.Test.YtpmndmbhkfbljaaSyA
import Derived.Test.YtpmndmbhkfbljaaEhC
import Derived.Test.YtpmndmbhkfbljaaPutR
import Derived.Test.YtpmndmbhkfbljaaKeep
import Derived.Lib.AppendZerosOnto
import Derived.Test.YtpmndmbhkfbljaaParts
import Derived.Test.YtpmndmbhkfbljaaPut
import Derived.Test.YtpmndmbhkfbljaaSyDa
import Derived.Test.YtpmndmbhkfbljaaPoA
import Derived.Test.YtpmndmbhkfbljaaPoK
import Derived.Deep.RegionHeldLaw
import Derived.Test.YtpmndmbhkfbljaaLmA
import Derived.Test.YtpmndmbhkfbljaaPoM
import Derived.Lib.BytesEntry
import Derived.Lib.AppendStr
import Derived.Laws.Externs
import Derived.Deep.Slices
import Derived.Test.YtpmndmbhkfbljaaSeV
import Derived.Test.YtpmndmbhkfbljaaRefR
import Derived.Test.YtpmndmbhkfbljaaCsA
import Derived.Test.YtpmndmbhkfbljaaCsL
import Derived.Test.YtpmndmbhkfbljaaPoX
namespace Go.Proofs.Ytpmndmbhkfbljaa
open Go Go.RowKit

/-- A row of bytes, and relocations that lie further down. -/
structure RelSt (w wr : World) (u : Value) (T : List UInt8) : Prop where
  row : Own wr w.heap.size u T
  below : Below w.heap.size w wr
theorem RelSt.laid {w wr w' : World} {u u' : Value} {T T' : List UInt8} (h : RelSt w wr u T) (hL : Laid wr w' w.heap.size u u' T') : RelSt w w' u' T' :=
  ⟨hL.1, h.below.grown hL.2.1 h.below.size (fun x hx => (own_ge h.row x hx).1)⟩
theorem RelSt.alloc {w wr : World} {u : Value} {T : List UInt8} (h : RelSt w wr u T) (o : Obj) : RelSt w (wr.alloc o) u T :=
  have hA : Below wr.heap.size wr (wr.alloc o) := (Below.refl _ _).alloc (Nat.le_refl _) _
  ⟨own_below h.row hA, h.below.trans (hA.mono h.below.size)⟩
end Go.Proofs.Ytpmndmbhkfbljaa

namespace Go.Proofs.Ytpmndmbhkfbljaa
open Go Go.RowKit

/-- Bytes behind the row. -/
theorem RelSt.more {w wr w2 w3 : World} {u u' : Value} {T T' : List UInt8} (h : RelSt w wr u T) (hb : Below wr.heap.size wr w2) (ho : Own w3 w.heap.size u' T') (hg : w2.grownBy w3 u.ownBlock) : RelSt w w3 u' T' :=
  ⟨ho, (h.below.trans (hb.mono h.below.size)).grown hg (Nat.le_trans h.below.size hb.size) (fun x hx => (own_ge h.row x hx).1)⟩
end Go.Proofs.Ytpmndmbhkfbljaa

namespace Go.Proofs.Ytpmndmbhkfbljaa
open Go Go.RowKit

/-- The document's cursor, a struct in memory beside it, and what has not turned since w0. -/
def StQ (T : TypeId) (B : Nat) (w0 w : World) (g : Nat) (v : Value) (l : List UInt8) (a : Nat) (H : Nat) (cs : Array Value) : Prop :=
  RR B w g v l a 0 ∧ Box w H T cs ∧ w0.grownBy w (some g)
section
variable {T : TypeId} {B : Nat} {w0 w w' : World} {g : Nat} {v : Value} {l : List UInt8} {a b H : Nat} {cs : Array Value}
theorem StQ.call (h : StQ T B w0 w g v l a H cs) (hne : g ≠ H) (hC : RR B w' g v l b 0) (hG : w.grownBy w' (some g)) : StQ T B w0 w' g v l b H cs :=
  ⟨hC, h.2.1.grown hG (by simpa using fun e => hne e.symm), h.2.2.trans hG⟩
theorem StQ.set (h : StQ T B w0 w g v l a H cs) (hne : g ≠ H) (hB : B ≤ H) (hH : w0.heap.size ≤ H) (i : Nat) (u : Value) : StQ T B w0 (w.setCell ⟨H, i, none⟩ u) g v l a H (cs.setIfInBounds i u) :=
  have G : w.grownBy (w.setCell ⟨H, i, none⟩ u) (some H) := only_set (only_refl w (some H)) i u
  ⟨h.1.grown G (by simpa using hne) (fun x hx => by injection hx with hx; omega), h.2.1.set i u, only_trans h.2.2 G (.inr fun x hx => by injection hx with hx; omega)⟩
end

end Go.Proofs.Ytpmndmbhkfbljaa
