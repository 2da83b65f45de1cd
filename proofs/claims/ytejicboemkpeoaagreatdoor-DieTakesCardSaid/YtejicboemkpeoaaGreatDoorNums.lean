/-
  Plain facts on numbers and bytes, the lowest byte first: no program is named here.
-/
import Derived.Lib.EndianBits
import Derived.Laws.BitsAllLaws
namespace Go.Proofs.YtejicboemkpeoaaGreatDoor
open Go

/-- The number of bytes, the lowest first. -/
def leNat : List UInt8 → Nat
  | [] => 0
  | b :: r => b.toNat + 256 * leNat r

theorem leNat_lt (l : List UInt8) : leNat l < 256 ^ l.length := by
  induction l with
  | nil => simp [leNat]
  | cons b r ih =>
    have hb : b.toNat < 256 := b.toNat_lt
    simp only [leNat, List.length_cons, Nat.pow_succ]
    omega

theorem leNat_append (l m : List UInt8) : leNat (l ++ m) = leNat l + 256 ^ l.length * leNat m := by
  induction l with
  | nil => simp [leNat]
  | cons b r ih =>
    have e : 256 ^ (r.length + 1) * leNat m = 256 * (256 ^ r.length * leNat m) := by rw [Nat.pow_succ, Nat.mul_comm (256 ^ r.length) 256, Nat.mul_assoc]
    simp only [List.cons_append, leNat, ih, List.length_cons, e]
    omega

theorem leNat_take_succ (l : List UInt8) (k : Nat) (h : k < l.length) : leNat (l.take (k + 1)) = leNat (l.take k) + 256 ^ k * l[k].toNat := by
  rw [List.take_succ_eq_append_getElem h, leNat_append, List.length_take, Nat.min_eq_left (Nat.le_of_lt h)]
  simp [leNat]

theorem leNat_take_lt (l : List UInt8) (k : Nat) : leNat (l.take k) < 256 ^ k := by
  refine Nat.lt_of_lt_of_le (leNat_lt _) (Nat.pow_le_pow_right (by decide) ?_)
  rw [List.length_take]; omega

theorem leNat_64 (l : List UInt8) (h : l.length ≤ 8) : leNat l < 18446744073709551616 :=
  Nat.lt_of_lt_of_le (leNat_lt l) (Nat.le_trans (Nat.pow_le_pow_right (by decide) h) (by decide))

/-- One round of the reader: a byte is laid above the bytes below it. -/
theorem or_shift (k x b : Nat) (hk : k < 8) (hx : x < 256 ^ k) (hb : b < 256) :
    bits .or .u64 (x : Int) (IntKind.u64.wrap (IntKind.u64.wrap (b : Int) * 2 ^ (8 * k))) = ((x + 256 ^ k * b : Nat) : Int) := by
  rw [wraps_u64 (b : Int) (by omega) (by omega)]
  have cases8 : k = 0 ∨ k = 1 ∨ k = 2 ∨ k = 3 ∨ k = 4 ∨ k = 5 ∨ k = 6 ∨ k = 7 := by omega
  rcases cases8 with rfl | rfl | rfl | rfl | rfl | rfl | rfl | rfl
  · have hx0 : x = 0 := by simpa using hx
    subst hx0
    have h := u64_or_nat 0 b (by omega) (by omega)
    rw [show ((b : Int) * 2 ^ (8 * 0)) = ((b : Nat) : Int) by simp, wraps_u64 (b : Int) (by omega) (by omega), h]
    simp
  all_goals
    simp only [Nat.reduceMul, Nat.reducePow] at hx ⊢
    simp only [show ((2 : Int) ^ 8) = 256 by rfl, show ((2 : Int) ^ 16) = 65536 by rfl, show ((2 : Int) ^ 24) = 16777216 by rfl, show ((2 : Int) ^ 32) = 4294967296 by rfl, show ((2 : Int) ^ 40) = 1099511627776 by rfl, show ((2 : Int) ^ 48) = 281474976710656 by rfl, show ((2 : Int) ^ 56) = 72057594037927936 by rfl]
    refine (congrArg (bits BinOp.or IntKind.u64 (x : Int)) (wraps_u64 _ (by omega) (by omega))).trans ?_
    first
      | (refine (u64_or8 _ _ ?_ ?_ ?_ ?_ ?_).trans ?_ <;> omega)
      | (refine (u64_or16 _ _ ?_ ?_ ?_ ?_ ?_).trans ?_ <;> omega)
      | (refine (u64_or24 _ _ ?_ ?_ ?_ ?_ ?_).trans ?_ <;> omega)
      | (refine (u64_or32 _ _ ?_ ?_ ?_ ?_ ?_).trans ?_ <;> omega)
      | (refine (u64_or40 _ _ ?_ ?_ ?_ ?_ ?_).trans ?_ <;> omega)
      | (refine (u64_or48 _ _ ?_ ?_ ?_ ?_ ?_).trans ?_ <;> omega)
      | (refine (u64_or56 _ _ ?_ ?_ ?_ ?_ ?_).trans ?_ <;> omega)

/-- A number as so many bytes, the lowest first. -/
def leBytes : Nat → Nat → List UInt8
  | _, 0 => []
  | n, s + 1 => UInt8.ofNat (n % 256) :: leBytes (n / 256) s

@[simp] theorem leBytes_length (n s : Nat) : (leBytes n s).length = s := by
  induction s generalizing n with
  | zero => rfl
  | succ s ih => simp [leBytes, ih]

theorem leBytes_succ (n s : Nat) : leBytes n (s + 1) = leBytes n s ++ [UInt8.ofNat (n / 256 ^ s % 256)] := by
  induction s generalizing n with
  | zero => simp [leBytes]
  | succ s ih =>
    rw [leBytes, ih]
    simp only [leBytes, List.cons_append]
    rw [Nat.div_div_eq_div_mul, Nat.pow_succ, Nat.mul_comm 256]

end Go.Proofs.YtejicboemkpeoaaGreatDoor
