/-
  Numbers and tables to be put that came in, opened to their cells.
-/
import Derived.Test.YtpmpgfngogdfhaaDoorUnE
import Derived.Test.YtpmpgfngogdfhaaDoorRefE
import Derived.Deep.RegionHeldLaw
import Derived.Test.YtpmpgfngogdfhaaDoorLtZ
import Derived.Deep.Slices
import Derived.Test.YtpmpgfngogdfhaaDoorTbA
namespace Go.Proofs.YtpmpgfngogdfhaaDoor
open Go Go.RowKit Go.ChangeShapes Go.WideShapes Go.ChangeAt Go.Deep

section
variable {H : Type} {enc : TypeId × Value → H} {w : World}
end

/-- A unit to be put: its head, its entries' bytes and where they are. -/
structure UBody where
  h : UHd
  b : List UInt8
  a : Option Addr
  c : Nat
def UBody.cells (y : UBody) : List Value := y.h.cells ++ [.slice y.a y.b.length y.c]
section
variable {H : Type} {enc : TypeId × Value → H} {w : World}
end

end Go.Proofs.YtpmpgfngogdfhaaDoor

namespace Go.Proofs.YtpmpgfngogdfhaaDoor
open Go Go.RowKit Go.ChangeShapes Go.WideShapes Go.ChangeAt Go.Deep

/-- A table to be put: its form, its items and where they are. -/
structure TItm where
  wide : Bool
  l : List Nat
  a : Option Addr
  c : Nat
def TItm.cells (y : TItm) : List Value := [.bool y.wide, .slice y.a y.l.length y.c]
section
variable {H : Type} {enc : TypeId × Value → H} {w : World}
end

end Go.Proofs.YtpmpgfngogdfhaaDoor
