/-
  The arithmetic of one round of S, as the program spells it: no program is named here.
-/
import Derived.Test.YtejicboemkpeoaaGreatDoorLebM
import Derived.Laws.Bits128
import Derived.RowKit
namespace Go.Proofs.YtejicboemkpeoaaGreatDoor
open Go Go.RowKit

/-- A last byte's seven bits in two's complement. -/
def sdig (b : UInt8) : Int := if b.toNat % 128 < 64 then (b.toNat % 128 : Nat) else ((b.toNat % 128 : Nat) : Int) - 128

theorem sdig_range (b : UInt8) : -64 ≤ sdig b ∧ sdig b < 64 := by
  unfold sdig; split <;> omega

theorem i8_wrap (n : Int) : IntKind.i8.wrap n = (n + 128) % 256 - 128 := by
  simp only [IntKind.wrap, IntKind.bits, IntKind.signed]
  have h : (2 : Int) ^ 8 = 256 := rfl
  have h7 : (2 : Int) ^ (8 - 1) = 128 := rfl
  simp [h, h7]
  omega

theorem sdig_eq (b : UInt8) : wrap64 (IntKind.i8.wrap ((b.toNat : Int) * 2 % 256) / 2) = sdig b := by
  have hb : b.toNat < 256 := b.toNat_lt
  rw [i8_wrap]
  unfold wrap64 sdig
  split <;> omega

theorem shl_s (d : Int) (y : Nat) (hd : -64 ≤ d ∧ d < 64) (hy : y < 10) :
    (wrap64 (d * 2 ^ (7 * y)) / 2 ^ (7 * y) != d) = (decide (y = 9) && decide (d ≠ 0) && decide (d ≠ -1)) := by
  rw [Bool.eq_iff_iff]
  simp only [wrap64, bne_iff_ne, ne_eq, Bool.and_eq_true, decide_eq_true_eq]
  rcases ten_cases hy with rfl | rfl | rfl | rfl | rfl | rfl | rfl | rfl | rfl | rfl <;> simp <;> omega

theorem mask_s (y : Nat) (hy : y < 10) (a : Int) : bits .and .i64 a (wrap64 (wrap64 (2 ^ (7 * y)) - 1)) = a % ((128 ^ y : Nat) : Int) := by
  have hm : wrap64 (wrap64 (2 ^ (7 * y)) - 1) = ((2 ^ (7 * y) - 1 : Nat) : Int) := by
    unfold wrap64
    rcases ten_cases hy with rfl | rfl | rfl | rfl | rfl | rfl | rfl | rfl | rfl | rfl <;> simp
  have h2 : (2 : Nat) ^ (7 * y) = 128 ^ y := by rw [Nat.pow_mul]
  have hlt : 2 ^ (7 * y) - 1 < 2 ^ 64 := by
    have := Nat.pow_le_pow_right (show 0 < 2 by decide) (show 7 * y ≤ 64 by omega)
    omega
  have hmask : (BitVec.ofInt 64 ((2 ^ (7 * y) - 1 : Nat) : Int)).toNat = 2 ^ (7 * y) - 1 := by
    rw [BitVec.ofInt_natCast, BitVec.toNat_ofNat]
    exact Nat.mod_eq_of_lt hlt
  have key : (BitVec.ofInt 64 a &&& BitVec.ofInt 64 ((2 ^ (7 * y) - 1 : Nat) : Int)).toNat = (a % ((2 ^ 64 : Nat) : Int)).toNat % 2 ^ (7 * y) := by
    rw [BitVec.toNat_and, BitVec.toNat_ofInt, hmask, Nat.and_two_pow_sub_one_eq_mod]
  rw [hm]
  show IntKind.i64.wrap ((BitVec.ofInt 64 a &&& BitVec.ofInt 64 ((2 ^ (7 * y) - 1 : Nat) : Int)).toNat : Nat) = _
  rw [key, IntKind.wrap_i64, h2]
  clear key hmask hlt hm h2
  rcases ten_cases hy with rfl | rfl | rfl | rfl | rfl | rfl | rfl | rfl | rfl | rfl <;> simp <;> omega

theorem or_s (y v : Nat) (d : Int) (hv : v < 128 ^ y) (hy : y < 10) :
    bits .or .i64 (v : Int) (wrap64 (d * 2 ^ (7 * y))) = wrap64 ((v : Int) + ((128 ^ y : Nat) : Int) * d) := by
  show IntKind.i64.wrap ((BitVec.ofInt 64 (v : Int) ||| BitVec.ofInt 64 (wrap64 (d * 2 ^ (7 * y)))).toNat : Nat) = _
  rw [BitVec.toNat_or, BitVec.toNat_ofInt, BitVec.toNat_ofInt, Nat.or_comm, IntKind.wrap_i64]
  unfold wrap64
  rcases ten_cases hy with rfl | rfl | rfl | rfl | rfl | rfl | rfl | rfl | rfl | rfl
  · rw [nat_join 0 _ _ (by omega) (by simp at hv ⊢; omega)]; simp at hv ⊢; omega
  · rw [nat_join 7 _ _ (by simp; omega) (by simp at hv ⊢; omega)]; simp at hv ⊢; omega
  · rw [nat_join 14 _ _ (by simp; omega) (by simp at hv ⊢; omega)]; simp at hv ⊢; omega
  · rw [nat_join 21 _ _ (by simp; omega) (by simp at hv ⊢; omega)]; simp at hv ⊢; omega
  · rw [nat_join 28 _ _ (by simp; omega) (by simp at hv ⊢; omega)]; simp at hv ⊢; omega
  · rw [nat_join 35 _ _ (by simp; omega) (by simp at hv ⊢; omega)]; simp at hv ⊢; omega
  · rw [nat_join 42 _ _ (by simp; omega) (by simp at hv ⊢; omega)]; simp at hv ⊢; omega
  · rw [nat_join 49 _ _ (by simp; omega) (by simp at hv ⊢; omega)]; simp at hv ⊢; omega
  · rw [nat_join 56 _ _ (by simp; omega) (by simp at hv ⊢; omega)]; simp at hv ⊢; omega
  · rw [nat_join 63 _ _ (by simp; omega) (by simp at hv ⊢; omega)]; simp at hv ⊢; omega

theorem lebInt_take_succ (l : List UInt8) (y : Nat) (h : y < l.length) : lebInt (l.take (y + 1)) = (lebVal (l.take y) : Int) + ((128 ^ y : Nat) : Int) * sdig l[y] := by
  have hlen : (l.take (y + 1)).length = y + 1 := by simp; omega
  have hv := lebVal_take_lt l y
  unfold lebInt
  rw [hlen, lebVal_take_succ l y h, Nat.add_sub_cancel]
  have hd : l[y].toNat % 128 < 128 := Nat.mod_lt _ (by decide)
  unfold sdig
  generalize l[y].toNat % 128 = d at *
  generalize lebVal (l.take y) = v at *
  have hp : (128 : Nat) ^ (y + 1) = 128 ^ y * 128 := Nat.pow_succ ..
  have hpi : (128 : Int) ^ (y + 1) = ((128 ^ y : Nat) : Int) * 128 := by rw [Int.pow_succ]; simp
  rw [hpi]
  have hpos : 0 < 128 ^ y := Nat.pow_pos (by decide)
  generalize 128 ^ y = K at *
  by_cases h64 : d < 64
  · have hk : K * d ≤ K * 63 := Nat.mul_le_mul_left K (by omega)
    rw [if_neg (by omega), if_pos h64]
    simp
  · have hk : K * 64 ≤ K * d := Nat.mul_le_mul_left K (by omega)
    rw [if_pos (by omega), if_neg h64]
    simp [Int.mul_sub]
    omega

theorem lebInt_mod (l : List UInt8) (y : Nat) (h : y ≤ l.length) (hy : y < 10) : (wrap64 (lebInt (l.take y))) % ((128 ^ y : Nat) : Int) = (lebVal (l.take y) : Int) := by
  have hv := lebVal_take_lt l y
  have hl : (l.take y).length = y := by simp; omega
  unfold lebInt wrap64
  rw [hl]
  generalize lebVal (l.take y) = v at *
  clear hl h
  split <;> (rcases ten_cases hy with rfl | rfl | rfl | rfl | rfl | rfl | rfl | rfl | rfl | rfl <;> simp at hv ⊢ <;> omega)

/-- What a body of S makes of a byte: is the number too great, or too small? -/
def badS (y : Nat) (b : UInt8) : Bool := decide (y = 9) && decide (sdig b ≠ 0) && decide (sdig b ≠ -1)

theorem bad_s (l : List UInt8) (y : Nat) (h : y < l.length) (hy : y < 10) : badS y l[y] = true ↔ ¬ (-9223372036854775808 ≤ lebInt (l.take (y + 1)) ∧ lebInt (l.take (y + 1)) ≤ 9223372036854775807) := by
  have hv := lebVal_take_lt l y
  have hd := sdig_range l[y]
  rw [lebInt_take_succ l y h]
  unfold badS
  generalize sdig l[y] = d at *
  generalize lebVal (l.take y) = v at *
  simp only [Bool.and_eq_true, decide_eq_true_eq]
  clear h
  rcases ten_cases hy with rfl | rfl | rfl | rfl | rfl | rfl | rfl | rfl | rfl | rfl <;> simp at hv ⊢ <;> omega

theorem wrap64_in {n : Int} (h : -9223372036854775808 ≤ n ∧ n ≤ 9223372036854775807) : wrap64 n = n := by unfold wrap64; omega

end Go.Proofs.YtejicboemkpeoaaGreatDoor
