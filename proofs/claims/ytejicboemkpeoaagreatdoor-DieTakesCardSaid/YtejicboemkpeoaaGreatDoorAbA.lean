/-
  Abbreviations: what bytes are told as, what may be, what is put. No walk.
-/
import Derived.Test.YtejicboemkpeoaaGreatDoorLebC
import Derived.Test.YtejicboemkpeoaaGreatDoorLebQ
import Derived.Test.YtejicboemkpeoaaGreatDoorSyA
namespace Go.Proofs.YtejicboemkpeoaaGreatDoor
open Go Go.RowKit

/-! ### Pairs, abbreviations -/
/-- A pair: its attribute, its form, its constant. -/
structure Spc where
  at_ : Int
  form : Int
  imp : Int
def Spc.cells (x : Spc) : List Value := [.int .i64 x.at_, .int .i64 x.form, .int .i64 x.imp]
def Spc.val (x : Spc) : Value := .agg x.cells.toArray
theorem spc_three (x : Spc) : x.cells.length = 3 := rfl
/-- An abbreviation, as it is told. -/
structure Abb where
  code : Nat
  tag : Int
  kids : Bool
  l : List Spc
/-- An abbreviation in memory: with where its pairs are. -/
structure ALay where
  x : Abb
  a : Option Addr
  c : Nat
def ALay.cells (y : ALay) : List Value := [.int .u64 (y.x.code : Int), .int .i64 y.x.tag, .bool y.x.kids, .slice y.a y.x.l.length y.c]
def ALay.val (y : ALay) : Value := .agg y.cells.toArray
theorem abb_four (x : ALay) : x.cells.length = 4 := rfl
/-- The abbreviations of what lies. -/
def absOf (L : List ALay) : List Abb := L.map ALay.x
@[simp] theorem absOf_length (L : List ALay) : (absOf L).length = L.length := by simp [absOf]
/-! ### What is read -/
/-- A cursor over bytes: where it stands, why it refused. -/
abbrev CSt := Nat × Int
def tU (l : List UInt8) (s : CSt) : Nat := (uOf (l.drop s.1) s.2).1
def sU (l : List UInt8) (s : CSt) : CSt := (s.1 + (uOf (l.drop s.1) s.2).2.1, (uOf (l.drop s.1) s.2).2.2)
def tS (l : List UInt8) (s : CSt) : Int := (sOf (l.drop s.1) s.2).1
def sS (l : List UInt8) (s : CSt) : CSt := (s.1 + (sOf (l.drop s.1) s.2).2.1, (sOf (l.drop s.1) s.2).2.2)
def tB (l : List UInt8) (s : CSt) : Nat := leNat (nextGot l s.1 s.2 1)
def sB (l : List UInt8) (s : CSt) : CSt := (nextAt l s.1 s.2 1, nextErr l s.1 s.2 1)
def sF (s : CSt) (f : Int) : CSt := (s.1, failOf s.2 f)
section
variable {l : List UInt8} {n : Nat} {s : CSt}
end
section
variable {l : List UInt8} {n : Nat} {s : CSt}
end

end Go.Proofs.YtejicboemkpeoaaGreatDoor
