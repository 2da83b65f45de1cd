/-
  The document's PutRelas.
-/
import Derived.Test.YtejicboemkpeoaaGreatDoorSyA
import Derived.Test.YtejicboemkpeoaaGreatDoorEhC
import Derived.Test.YtejicboemkpeoaaGreatDoorLawA
import Derived.Test.YtejicboemkpeoaaGreatDoorZeros
import Derived.Test.YtejicboemkpeoaaGreatDoorCsL
import Derived.Test.YtejicboemkpeoaaGreatDoorPut
import Derived.Test.YtejicboemkpeoaaGreatDoorSeR
import Derived.Test.YtejicboemkpeoaaGreatDoorCsA
import Derived.Test.YtejicboemkpeoaaGreatDoorPoK
import Derived.Deep.RegionHeldLaw
import Derived.Test.YtejicboemkpeoaaGreatDoorCsQ
import Derived.Test.YtejicboemkpeoaaGreatDoorRefR
import Derived.Lib.SlBytesConst
import Derived.Laws.StructEq
import Derived.Test.YtejicboemkpeoaaGreatDoorSeV
namespace Go.Proofs.YtejicboemkpeoaaGreatDoor
open Go Go.RowKit

/-- A row of bytes, and relocations that lie further down. -/
structure RelSt (w wr : World) (u : Value) (T : List UInt8) : Prop where
  row : Own wr w.heap.size u T
  below : Below w.heap.size w wr
theorem RelSt.laid {w wr w' : World} {u u' : Value} {T T' : List UInt8} (h : RelSt w wr u T) (hL : Laid wr w' w.heap.size u u' T') : RelSt w w' u' T' :=
  ⟨hL.1, h.below.grown hL.2.1 h.below.size (fun x hx => (own_ge h.row x hx).1)⟩
theorem RelSt.alloc {w wr : World} {u : Value} {T : List UInt8} (h : RelSt w wr u T) (o : Obj) : RelSt w (wr.alloc o) u T :=
  have hA : Below wr.heap.size wr (wr.alloc o) := (Below.refl _ _).alloc (Nat.le_refl _) _
  ⟨own_below h.row hA, h.below.trans (hA.mono h.below.size)⟩
end Go.Proofs.YtejicboemkpeoaaGreatDoor

namespace Go.Proofs.YtejicboemkpeoaaGreatDoor
open Go Go.RowKit

/-- Bytes behind the row. -/
theorem RelSt.more {w wr w2 w3 : World} {u u' : Value} {T T' : List UInt8} (h : RelSt w wr u T) (hb : Below wr.heap.size wr w2) (ho : Own w3 w.heap.size u' T') (hg : w2.grownBy w3 u.ownBlock) : RelSt w w3 u' T' :=
  ⟨ho, (h.below.trans (hb.mono h.below.size)).grown hg (Nat.le_trans h.below.size hb.size) (fun x hx => (own_ge h.row x hx).1)⟩
end Go.Proofs.YtejicboemkpeoaaGreatDoor
