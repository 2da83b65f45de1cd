/-
  Plain facts on numbers and bytes, the lowest byte first: no program is named here.
-/
import Derived.Lib.EndianBits
import Derived.Laws.BitsAllLaws
namespace Go.Proofs.YtejicboemkpeoaaDoor
open Go

/-- The number of bytes, the lowest first. -/
def leNat : List UInt8 → Nat
  | [] => 0
  | b :: r => b.toNat + 256 * leNat r

/-- A number as so many bytes, the lowest first. -/
def leBytes : Nat → Nat → List UInt8
  | _, 0 => []
  | n, s + 1 => UInt8.ofNat (n % 256) :: leBytes (n / 256) s

@[simp] theorem leBytes_length (n s : Nat) : (leBytes n s).length = s := by
  induction s generalizing n with
  | zero => rfl
  | succ s ih => simp [leBytes, ih]

end Go.Proofs.YtejicboemkpeoaaDoor
