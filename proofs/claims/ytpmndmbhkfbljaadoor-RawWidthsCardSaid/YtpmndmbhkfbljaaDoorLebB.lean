/-
  What is put is read: plain facts; no program is named here.
-/
import Derived.Test.YtpmndmbhkfbljaaDoorLebT
import Derived.Lib.BitFns
namespace Go.Proofs.YtpmndmbhkfbljaaDoor
open Go Go.RowKit

/-- So many bytes that others follow. -/
def lebMore : Nat → Int → List UInt8
  | 0, _ => []
  | k + 1, n => UInt8.ofNat ((n % 128).toNat + 128) :: lebMore k (n / 128)

/-- A number in so many bytes (at least one). -/
def lebPut (s : Nat) (n : Int) : List UInt8 := lebMore (s - 1) n ++ [UInt8.ofNat (n / 128 ^ (s - 1) % 128).toNat]

@[simp] theorem lebMore_length (k : Nat) (n : Int) : (lebMore k n).length = k := by
  induction k generalizing n with
  | zero => rfl
  | succ k ih => simp [lebMore, ih]
theorem lebPut_length (s : Nat) (n : Int) (h : 1 ≤ s) : (lebPut s n).length = s := by simp [lebPut]; omega
theorem int_div_pow (n : Int) (k : Nat) : n / 128 / 128 ^ k = n / 128 ^ (k + 1) := by
  rw [Int.ediv_ediv_of_nonneg (by decide), Int.pow_succ, Int.mul_comm]

theorem int_div_pow' (n : Int) (k : Nat) : n / 128 ^ k / 128 = n / 128 ^ (k + 1) := by
  rw [Int.ediv_ediv_of_nonneg (Int.pow_nonneg (by decide)), Int.pow_succ]

theorem lebMore_succ (k : Nat) (n : Int) : lebMore (k + 1) n = lebMore k n ++ [UInt8.ofNat ((n / 128 ^ k % 128).toNat + 128)] := by
  induction k generalizing n with
  | zero => simp [lebMore]
  | succ k ih =>
    rw [lebMore, ih]
    simp only [lebMore, List.cons_append, int_div_pow]

theorem byte_more (y : Int) : bits .or .u8 (y % 256) 128 = ((UInt8.ofNat ((y % 128).toNat + 128)).toNat : Int) := by
  have h : (UInt8.ofNat ((y % 128).toNat + 128)).toNat = (y % 128).toNat + 128 := by
    rw [UInt8.toNat_ofNat']; omega
  rw [h]
  have h2 := u8_or_nat (y % 256).toNat 128 (by omega) (by decide)
  rw [show ((y % 256).toNat : Int) = y % 256 by omega] at h2
  rw [show (128 : Int) = ((128 : Nat) : Int) from rfl, h2]
  have hsplit : (y % 256).toNat ||| 128 = (y % 128).toNat + 128 := by
    by_cases hb : (y % 256).toNat < 128
    · rw [Nat.or_comm, nat_join 7 _ _ (by decide) (by omega)]; omega
    · have e : (y % 256).toNat = 128 + ((y % 256).toNat - 128) := by omega
      have e2 : 128 + ((y % 256).toNat - 128) = 128 ||| ((y % 256).toNat - 128) := (nat_join 7 _ _ (by decide) (by omega)).symm
      have e3 : (y % 256).toNat - 128 = (y % 128).toNat := by omega
      rw [e, e2, e3, Nat.or_comm, ← Nat.or_assoc, Nat.or_self, nat_join 7 _ _ (by decide) (by omega)]
      omega
  rw [hsplit]
  omega

theorem byte_last (y : Int) : bits .andNot .u8 (y % 256) 128 = ((UInt8.ofNat (y % 128).toNat).toNat : Int) := by
  have h : (UInt8.ofNat (y % 128).toNat).toNat = (y % 128).toNat := by
    rw [UInt8.toNat_ofNat']; omega
  rw [h]
  have h2 := u8_andNot_nat (y % 256).toNat 128 (by omega) (by decide)
  rw [show ((y % 256).toNat : Int) = y % 256 by omega] at h2
  rw [show (128 : Int) = ((128 : Nat) : Int) from rfl, h2, show 255 - 128 = 127 from rfl, nat_mask7]
  omega

/-- How many bytes so many bits need. -/
def sizeBits (b : Nat) : Nat := (b + 6) / 7
def sizeU (n : Nat) : Nat := sizeBits (max (Lib.bitLen n) 1)
def sizeS (n : Int) : Nat := sizeBits (Lib.bitLen (if 0 ≤ n then n.toNat else (-1 - n).toNat) + 1)

theorem bitLen_le_iff (x k : Nat) (hx : x < 2 ^ 64) (hk : k ≤ 64) : Lib.bitLen x ≤ k ↔ x < 2 ^ k := by
  constructor
  · intro h
    rcases Nat.lt_or_ge x (2 ^ k) with h1 | h1
    · exact h1
    · exfalso
      have h2 := Lib.bitLen_shift k x h1 hx
      have h3 : Lib.bitLen (x / 2 ^ k) = 0 := by omega
      have h4 : x / 2 ^ k ≠ 0 := by
        have := Nat.div_pos h1 (Nat.two_pow_pos k)
        omega
      have h5 := Lib.bitLen_half (x / 2 ^ k) h4 (Nat.lt_of_le_of_lt (Nat.div_le_self _ _) hx)
      omega
  · intro h
    exact Lib.bitLen_le x k hk h

theorem sizeU_range (n : Nat) (h : n < 2 ^ 64) : 1 ≤ sizeU n ∧ sizeU n ≤ 10 := by
  have := (bitLen_le_iff n 64 h (by omega)).2 h
  unfold sizeU sizeBits
  omega

/-- So many bytes are enough just where the number is that small. -/
theorem sizeU_le (n s : Nat) (h : n < 2 ^ 64) (h1 : 1 ≤ s) (h9 : s ≤ 9) : sizeU n ≤ s ↔ n < 128 ^ s := by
  have e : (128 : Nat) ^ s = 2 ^ (7 * s) := by rw [Nat.pow_mul]
  rw [e, ← bitLen_le_iff n (7 * s) h (by omega)]
  unfold sizeU sizeBits
  omega

theorem sizeS_range (n : Int) (h : -9223372036854775808 ≤ n ∧ n ≤ 9223372036854775807) : 1 ≤ sizeS n ∧ sizeS n ≤ 10 := by
  have hx : (if 0 ≤ n then n.toNat else (-1 - n).toNat) < 2 ^ 63 := by split <;> omega
  have := (bitLen_le_iff _ 63 (Nat.lt_trans hx (by decide)) (by omega)).2 hx
  unfold sizeS sizeBits
  omega

theorem sizeS_le (n : Int) (s : Nat) (h : -9223372036854775808 ≤ n ∧ n ≤ 9223372036854775807) (h1 : 1 ≤ s) (h9 : s ≤ 9) : sizeS n ≤ s ↔ -((64 * 128 ^ (s - 1) : Nat) : Int) ≤ n ∧ n < ((64 * 128 ^ (s - 1) : Nat) : Int) := by
  obtain ⟨k, rfl⟩ : ∃ k, s = k + 1 := ⟨s - 1, by omega⟩
  have e : 64 * (128 : Nat) ^ k = 2 ^ (7 * k + 6) := by rw [Nat.pow_add, Nat.pow_mul, show (2 : Nat) ^ 7 = 128 from rfl, Nat.mul_comm]
  have hx : (if 0 ≤ n then n.toNat else (-1 - n).toNat) < 2 ^ 63 := by split <;> omega
  have hi := bitLen_le_iff _ (7 * k + 6) (Nat.lt_trans hx (by decide)) (by omega)
  rw [Nat.add_sub_cancel, e]
  unfold sizeS sizeBits
  generalize 2 ^ (7 * k + 6) = K at *
  split at hi
  · rw [if_pos (by assumption)]; omega
  · rw [if_neg (by assumption)]; omega

end Go.Proofs.YtpmndmbhkfbljaaDoor

namespace Go.Proofs.YtpmndmbhkfbljaaDoor
open Go Go.RowKit

theorem byte_more_nat (y : Int) : (UInt8.ofNat ((y % 128).toNat + 128)).toNat = (y % 128).toNat + 128 := by
  rw [UInt8.toNat_ofNat']; omega
theorem byte_last_nat (y : Int) : (UInt8.ofNat (y % 128).toNat).toNat = (y % 128).toNat := by
  rw [UInt8.toNat_ofNat']; omega

theorem lebVal_more (k : Nat) (n : Int) : (lebVal (lebMore k n) : Int) = n % 128 ^ k := by
  induction k with
  | zero => simp [lebMore, lebVal]
  | succ k ih =>
    rw [lebMore_succ, lebVal_append, lebMore_length]
    simp only [lebVal, byte_more_nat, Int.natCast_add, Int.natCast_mul, Int.natCast_pow, Nat.mul_zero, Nat.add_zero]
    rw [ih]
    have e : (((n / 128 ^ k % 128).toNat + 128) % 128 : Nat) = (n / 128 ^ k % 128).toNat := by omega
    rw [e, show (((n / 128 ^ k % 128).toNat : Nat) : Int) = n / 128 ^ k % 128 by omega, show ((128 : Nat) : Int) = 128 from rfl, Int.pow_succ]
    have hp : (0 : Int) < 128 ^ k := Int.pow_pos (by decide)
    have h1 := Int.emod_add_mul_ediv n (128 ^ k)
    have h2 := Int.emod_add_mul_ediv (n / 128 ^ k) 128
    have h3 := Int.emod_add_mul_ediv n (128 ^ k * 128)
    have h4 : n / (128 ^ k * 128) = n / 128 ^ k / 128 := (Int.ediv_ediv_of_nonneg (by omega)).symm
    rw [h4, Int.mul_assoc] at h3
    have h5 : 128 ^ k * (n / 128 ^ k) = 128 ^ k * (n / 128 ^ k % 128) + 128 ^ k * (128 * (n / 128 ^ k / 128)) := by rw [← Int.mul_add, h2]
    omega

theorem lebVal_put (s : Nat) (n : Int) (h : 1 ≤ s) : (lebVal (lebPut s n) : Int) = n % 128 ^ s := by
  obtain ⟨k, rfl⟩ : ∃ k, s = k + 1 := ⟨s - 1, by omega⟩
  have h1 := lebVal_more (k + 1) n
  rw [← h1]
  unfold lebPut
  rw [Nat.add_sub_cancel, lebMore_succ, lebVal_append, lebVal_append]
  simp only [lebVal, byte_more_nat, byte_last_nat]
  have e : ((n / 128 ^ k % 128).toNat + 128) % 128 = (n / 128 ^ k % 128).toNat % 128 := by omega
  rw [e]

theorem more_up (k : Nat) (n : Int) (j : Nat) (h : j < (lebMore k n).length) : 128 ≤ ((lebMore k n)[j]).toNat := by
  induction k generalizing n j with
  | zero => simp [lebMore] at h
  | succ k ih =>
    cases j with
    | zero =>
      simp only [lebMore, List.getElem_cons_zero, byte_more_nat]
      omega
    | succ j =>
      simp only [lebMore, List.getElem_cons_succ]
      exact ih _ _ _

theorem lebRun_put (s : Nat) (n : Int) (t : List UInt8) (h : 1 ≤ s) (h10 : s ≤ 10) : lebRun 10 (lebPut s n ++ t) = s - 1 := by
  have hl : (lebPut s n ++ t).length = s + t.length := by rw [List.length_append, lebPut_length s n h]
  refine lebRun_eq 10 _ (s - 1) (by omega) (by omega) (fun j hj hjs => ?_) (.inr (.inr ⟨by omega, ?_⟩))
  · have e : (lebPut s n ++ t)[j] = (lebMore (s - 1) n)[j]'(by simp; omega) := by
      simp only [lebPut, List.append_assoc]
      rw [List.getElem_append_left]
    rw [e]
    exact more_up _ _ _ _
  · have e : (lebPut s n ++ t)[s - 1]'(by omega) = UInt8.ofNat (n / 128 ^ (s - 1) % 128).toNat := by
      simp only [lebPut, List.append_assoc]
      rw [List.getElem_append_right (by simp)]
      simp
    rw [e, byte_last_nat]
    omega

theorem take_put (s : Nat) (n : Int) (t : List UInt8) (h : 1 ≤ s) : (lebPut s n ++ t).take (s - 1 + 1) = lebPut s n := by
  rw [show s - 1 + 1 = (lebPut s n).length by rw [lebPut_length s n h]; omega, List.take_left]

/-- A number that is put in as many bytes as it needs, or more, is read as it was, whatever stands behind it. -/
theorem readU_put (s n : Nat) (t : List UInt8) (hn : n < 2 ^ 64) (h : sizeU n ≤ s) (h10 : s ≤ 10) : readU (lebPut s (n : Int) ++ t) = (n, s, 0) := by
  have h1 := (sizeU_range n hn).1
  have hv : lebVal (lebPut s (n : Int)) = n := by
    have h2 := lebVal_put s (n : Int) (by omega)
    have h3 : n < 128 ^ s := by
      by_cases h9 : s ≤ 9
      · exact (sizeU_le n s hn (by omega) h9).1 h
      · have : s = 10 := by omega
        subst this
        exact Nat.lt_trans hn (by decide)
    rw [show (128 : Int) ^ s = ((128 ^ s : Nat) : Int) by simp, ← Int.natCast_emod, Nat.mod_eq_of_lt h3] at h2
    omega
  have hl : (lebPut s (n : Int) ++ t).length = s + t.length := by rw [List.length_append, lebPut_length s _ (by omega)]
  unfold readU
  rw [lebRun_put s _ t (by omega) h10, take_put s _ t (by omega), hv, if_neg (by omega), if_pos (by omega), if_pos (by omega)]
  simp; omega

theorem readS_put (s : Nat) (n : Int) (t : List UInt8) (hn : -9223372036854775808 ≤ n ∧ n ≤ 9223372036854775807) (h : sizeS n ≤ s) (h10 : s ≤ 10) : readS (lebPut s n ++ t) = (n, s, 0) := by
  have h1 := (sizeS_range n hn).1
  have hv : lebInt (lebPut s n) = n := by
    have h2 := lebVal_put s n (by omega)
    have h3 : -((64 * 128 ^ (s - 1) : Nat) : Int) ≤ n ∧ n < ((64 * 128 ^ (s - 1) : Nat) : Int) := by
      by_cases h9 : s ≤ 9
      · exact (sizeS_le n s hn (by omega) h9).1 h
      · have : s = 10 := by omega
        subst this
        simp; omega
    obtain ⟨k, rfl⟩ : ∃ k, s = k + 1 := ⟨s - 1, by omega⟩
    unfold lebInt
    rw [lebPut_length (k + 1) n (by omega)]
    rw [Nat.add_sub_cancel] at h3 ⊢
    rw [Int.pow_succ] at h2 ⊢
    rw [show (128 : Int) ^ k = ((128 ^ k : Nat) : Int) by simp] at h2 ⊢
    generalize lebVal (lebPut (k + 1) n) = v at *
    generalize 128 ^ k = K at *
    have h5 := Int.emod_add_mul_ediv n ((K : Int) * 128)
    by_cases h0 : 0 ≤ n
    · rw [Int.emod_eq_of_lt h0 (by omega)] at h2
      rw [if_neg (by omega)]
      omega
    · have h6 : n % ((K : Int) * 128) = n + (K : Int) * 128 := by
        rw [← Int.add_mul_emod_self_left n ((K : Int) * 128) 1, Int.mul_one]
        exact Int.emod_eq_of_lt (by omega) (by omega)
      rw [h6] at h2
      rw [if_pos (by omega)]
      omega
  have hl : (lebPut s n ++ t).length = s + t.length := by rw [List.length_append, lebPut_length s _ (by omega)]
  unfold readS
  rw [lebRun_put s _ t (by omega) h10, take_put s _ t (by omega), hv, if_neg (by omega), if_pos (by omega), if_pos ⟨hn.1, hn.2⟩]
  simp; omega

end Go.Proofs.YtpmndmbhkfbljaaDoor
