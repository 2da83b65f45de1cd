/-
  Plain facts on numbers and bytes, the lowest byte first: no program is named here.
-/
import Derived.Lib.EndianBits
import Derived.Laws.BitsAllLaws
namespace Go.Proofs.Ytidegcibmdincaa
open Go

/-- The number of bytes, the lowest first. -/
def leNat : List UInt8 → Nat
  | [] => 0
  | b :: r => b.toNat + 256 * leNat r

/-- A number as so many bytes, the lowest first. -/
def leBytes : Nat → Nat → List UInt8
  | _, 0 => []
  | n, s + 1 => UInt8.ofNat (n % 256) :: leBytes (n / 256) s

@[simp] theorem leBytes_length (n s : Nat) : (leBytes n s).length = s := by
  induction s generalizing n with
  | zero => rfl
  | succ s ih => simp [leBytes, ih]

theorem leBytes_succ (n s : Nat) : leBytes n (s + 1) = leBytes n s ++ [UInt8.ofNat (n / 256 ^ s % 256)] := by
  induction s generalizing n with
  | zero => simp [leBytes]
  | succ s ih =>
    rw [leBytes, ih]
    simp only [leBytes, List.cons_append]
    rw [Nat.div_div_eq_div_mul, Nat.pow_succ, Nat.mul_comm 256]

end Go.Proofs.Ytidegcibmdincaa
