/-
  Package abbrev: which abbreviations may not be (wrong), whether a code stands twice; Right.
-/
import Derived.Test.YtpmndmbhkfbljaaDoorAbA
import Derived.Test.YtpmndmbhkfbljaaDoorPoO
import Derived.Test.YtpmndmbhkfbljaaDoorLnF
import Derived.Test.YtpmndmbhkfbljaaDoorSyA
import Derived.Test.YtpmndmbhkfbljaaDoorCsA
import Derived.Test.YtpmndmbhkfbljaaDoorCsP
import Derived.Test.YtpmndmbhkfbljaaDoorRefR
import Derived.Test.YtpmndmbhkfbljaaDoorCsL
import Derived.Lib.SlBytesConst
import Derived.Test.YtpmndmbhkfbljaaDoorRwA
import Derived.Laws.StructEq
namespace Go.Proofs.YtpmndmbhkfbljaaDoor
open Go Go.RowKit Go.Maps

abbrev Spcs (w : World) (B : Nat) (a : Option Addr) (L : List Spc) : Prop := Row 3 Spc.cells w B a L
/-- A pair's numbers are numbers of 64 bits. -/
def Spc.In (x : Spc) : Prop := InI x.at_ ∧ InI x.form ∧ InI x.imp
end Go.Proofs.YtpmndmbhkfbljaaDoor

namespace Go.Proofs.YtpmndmbhkfbljaaDoor
open Go Go.RowKit Go.Maps

/-- Abbreviations that lie side by side, and their pairs. -/
structure Abbs (w : World) (B : Nat) (a : Option Addr) (L : List ALay) : Prop where
  row : Row 4 ALay.cells w B a L
  spcs : ∀ y ∈ L, Spcs w B y.a y.x.l
theorem Abbs.below {w w' : World} {B : Nat} {a : Option Addr} {L : List ALay} (h : Abbs w B a L) (hb : Below B w w') : Abbs w' B a L := ⟨Row.below h.row hb, fun y hy => Row.below (h.spcs y hy) hb⟩
theorem Abbs.more {w : World} {B B' : Nat} {a : Option Addr} {L : List ALay} (h : Abbs w B a L) (hB : B ≤ B') : Abbs w B' a L := ⟨Row.more h.row hB, fun y hy => Row.more (h.spcs y hy) hB⟩
theorem Abbs.up {w w' : World} {a : Option Addr} {L : List ALay} (h : Abbs w w.heap.size a L) (hb : Below w.heap.size w w') : Abbs w' w'.heap.size a L := (h.below hb).more hb.size
/-- Their numbers are numbers of 64 bits, and they are not too many. -/
structure ALay.In (y : ALay) : Prop where
  code : y.x.code < two64
  tag : InI y.x.tag
  len : y.x.l.length ≤ 100000
  spcs : ∀ x ∈ y.x.l, x.In
end Go.Proofs.YtpmndmbhkfbljaaDoor
