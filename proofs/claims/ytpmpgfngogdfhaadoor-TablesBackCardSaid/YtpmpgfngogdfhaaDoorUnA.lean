/-
  Package unit: heads as values and in memory; what is read of a unit's bytes, as functions.
-/
import Derived.Test.YtpmpgfngogdfhaaDoorLtC
import Derived.Test.YtpmpgfngogdfhaaDoorSyA
namespace Go.Proofs.YtpmpgfngogdfhaaDoor
open Go Go.RowKit

/-- A unit's head. -/
structure UHd where
  kind : Int
  wide : Bool
  ab : Nat
  sig : Nat
  ty : Nat
  off : Nat
  first : Nat
  stop : Nat
def UHd.cells (h : UHd) : List Value := [.int .i64 h.kind, .bool h.wide, .int .u64 (h.ab : Int), .int .u64 (h.sig : Int), .int .u64 (h.ty : Int), .int .u64 (h.off : Int), .int .u64 (h.first : Int), .int .u64 (h.stop : Int)]
/-! ### A struct of eight cells -/
section
variable {W : World} {H : Nat} {T : TypeId}
end

/-! ### What is read -/
/-- How many bytes an offset has. -/
def offN (wide : Bool) : Nat := match wide with | true => 8 | false => 4
abbrev UCt := Nat × Int
def vU (l : List UInt8) (s : UCt) (n : Nat) : Nat := leNat (nextGot l s.1 s.2 n)
def nU (l : List UInt8) (s : UCt) (n : Nat) : UCt := (nextAt l s.1 s.2 n, nextErr l s.1 s.2 n)
def fU (b : Bool) (s : UCt) : UCt := match b with | true => (s.1, failOf s.2 42) | false => s
end Go.Proofs.YtpmpgfngogdfhaaDoor
