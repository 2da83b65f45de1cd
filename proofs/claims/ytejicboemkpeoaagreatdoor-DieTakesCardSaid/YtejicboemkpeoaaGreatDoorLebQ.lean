/-
  A number as bytes of seven bits: plain facts; no program is named here.
-/
import Derived.Test.YtejicboemkpeoaaGreatDoorLebT
import Derived.Lib.BitFns
namespace Go.Proofs.YtejicboemkpeoaaGreatDoor
open Go Go.RowKit

/-- So many bytes that others follow. -/
def lebMore : Nat → Int → List UInt8
  | 0, _ => []
  | k + 1, n => UInt8.ofNat ((n % 128).toNat + 128) :: lebMore k (n / 128)

/-- A number in so many bytes (at least one). -/
def lebPut (s : Nat) (n : Int) : List UInt8 := lebMore (s - 1) n ++ [UInt8.ofNat (n / 128 ^ (s - 1) % 128).toNat]

@[simp] theorem lebMore_length (k : Nat) (n : Int) : (lebMore k n).length = k := by
  induction k generalizing n with
  | zero => rfl
  | succ k ih => simp [lebMore, ih]
theorem lebPut_length (s : Nat) (n : Int) (h : 1 ≤ s) : (lebPut s n).length = s := by simp [lebPut]; omega
theorem int_div_pow (n : Int) (k : Nat) : n / 128 / 128 ^ k = n / 128 ^ (k + 1) := by
  rw [Int.ediv_ediv_of_nonneg (by decide), Int.pow_succ, Int.mul_comm]

theorem int_div_pow' (n : Int) (k : Nat) : n / 128 ^ k / 128 = n / 128 ^ (k + 1) := by
  rw [Int.ediv_ediv_of_nonneg (Int.pow_nonneg (by decide)), Int.pow_succ]

theorem lebMore_succ (k : Nat) (n : Int) : lebMore (k + 1) n = lebMore k n ++ [UInt8.ofNat ((n / 128 ^ k % 128).toNat + 128)] := by
  induction k generalizing n with
  | zero => simp [lebMore]
  | succ k ih =>
    rw [lebMore, ih]
    simp only [lebMore, List.cons_append, int_div_pow]

theorem byte_more (y : Int) : bits .or .u8 (y % 256) 128 = ((UInt8.ofNat ((y % 128).toNat + 128)).toNat : Int) := by
  have h : (UInt8.ofNat ((y % 128).toNat + 128)).toNat = (y % 128).toNat + 128 := by
    rw [UInt8.toNat_ofNat']; omega
  rw [h]
  have h2 := u8_or_nat (y % 256).toNat 128 (by omega) (by decide)
  rw [show ((y % 256).toNat : Int) = y % 256 by omega] at h2
  rw [show (128 : Int) = ((128 : Nat) : Int) from rfl, h2]
  have hsplit : (y % 256).toNat ||| 128 = (y % 128).toNat + 128 := by
    by_cases hb : (y % 256).toNat < 128
    · rw [Nat.or_comm, nat_join 7 _ _ (by decide) (by omega)]; omega
    · have e : (y % 256).toNat = 128 + ((y % 256).toNat - 128) := by omega
      have e2 : 128 + ((y % 256).toNat - 128) = 128 ||| ((y % 256).toNat - 128) := (nat_join 7 _ _ (by decide) (by omega)).symm
      have e3 : (y % 256).toNat - 128 = (y % 128).toNat := by omega
      rw [e, e2, e3, Nat.or_comm, ← Nat.or_assoc, Nat.or_self, nat_join 7 _ _ (by decide) (by omega)]
      omega
  rw [hsplit]
  omega

theorem byte_last (y : Int) : bits .andNot .u8 (y % 256) 128 = ((UInt8.ofNat (y % 128).toNat).toNat : Int) := by
  have h : (UInt8.ofNat (y % 128).toNat).toNat = (y % 128).toNat := by
    rw [UInt8.toNat_ofNat']; omega
  rw [h]
  have h2 := u8_andNot_nat (y % 256).toNat 128 (by omega) (by decide)
  rw [show ((y % 256).toNat : Int) = y % 256 by omega] at h2
  rw [show (128 : Int) = ((128 : Nat) : Int) from rfl, h2, show 255 - 128 = 127 from rfl, nat_mask7]
  omega

/-- How many bytes so many bits need. -/
def sizeBits (b : Nat) : Nat := (b + 6) / 7
def sizeU (n : Nat) : Nat := sizeBits (max (Lib.bitLen n) 1)
def sizeS (n : Int) : Nat := sizeBits (Lib.bitLen (if 0 ≤ n then n.toNat else (-1 - n).toNat) + 1)

theorem bitLen_le_iff (x k : Nat) (hx : x < 2 ^ 64) (hk : k ≤ 64) : Lib.bitLen x ≤ k ↔ x < 2 ^ k := by
  constructor
  · intro h
    rcases Nat.lt_or_ge x (2 ^ k) with h1 | h1
    · exact h1
    · exfalso
      have h2 := Lib.bitLen_shift k x h1 hx
      have h3 : Lib.bitLen (x / 2 ^ k) = 0 := by omega
      have h4 : x / 2 ^ k ≠ 0 := by
        have := Nat.div_pos h1 (Nat.two_pow_pos k)
        omega
      have h5 := Lib.bitLen_half (x / 2 ^ k) h4 (Nat.lt_of_le_of_lt (Nat.div_le_self _ _) hx)
      omega
  · intro h
    exact Lib.bitLen_le x k hk h

theorem sizeU_range (n : Nat) (h : n < 2 ^ 64) : 1 ≤ sizeU n ∧ sizeU n ≤ 10 := by
  have := (bitLen_le_iff n 64 h (by omega)).2 h
  unfold sizeU sizeBits
  omega

theorem sizeS_range (n : Int) (h : -9223372036854775808 ≤ n ∧ n ≤ 9223372036854775807) : 1 ≤ sizeS n ∧ sizeS n ≤ 10 := by
  have hx : (if 0 ≤ n then n.toNat else (-1 - n).toNat) < 2 ^ 63 := by split <;> omega
  have := (bitLen_le_iff _ 63 (Nat.lt_trans hx (by decide)) (by omega)).2 hx
  unfold sizeS sizeBits
  omega

end Go.Proofs.YtejicboemkpeoaaGreatDoor
