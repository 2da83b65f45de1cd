/-
  The arithmetic of one round of U and of S, as the program spells it: no program is named here.
-/
import Derived.Test.YtejicboemkpeoaaGreatDoorLebN
namespace Go.Proofs.YtejicboemkpeoaaGreatDoor
open Go

theorem ten_cases {y : Nat} (h : y < 10) : y = 0 ∨ y = 1 ∨ y = 2 ∨ y = 3 ∨ y = 4 ∨ y = 5 ∨ y = 6 ∨ y = 7 ∨ y = 8 ∨ y = 9 := by omega

theorem andnot_u8 (b : UInt8) : bits .andNot .u8 (b.toNat : Int) 128 = ((b.toNat % 128 : Nat) : Int) := by
  have h := u8_andNot_nat b.toNat 128 b.toNat_lt (by decide)
  rw [show (128 : Int) = ((128 : Nat) : Int) from rfl, h, show 255 - 128 = 127 from rfl, nat_mask7]

theorem shl_u (d y : Nat) (hd : d < 128) (hy : y < 10) :
    (IntKind.u64.wrap (IntKind.u64.wrap (d : Int) * 2 ^ (7 * y)) / 2 ^ (7 * y) != IntKind.u64.wrap (d : Int)) = (decide (18446744073709551616 ≤ d * 128 ^ y) && decide (y = 9)) := by
  rw [Bool.eq_iff_iff]
  simp only [IntKind.wrap_u64, bne_iff_ne, ne_eq, Bool.and_eq_true, decide_eq_true_eq]
  rcases ten_cases hy with rfl | rfl | rfl | rfl | rfl | rfl | rfl | rfl | rfl | rfl <;> simp <;> omega

theorem or_u (y v d : Nat) (hv : v < 128 ^ y) (hd : d < 128) (hy : y < 10) :
    bits .or .u64 ((v % 18446744073709551616 : Nat) : Int) (IntKind.u64.wrap (IntKind.u64.wrap (d : Int) * 2 ^ (7 * y))) = (((v + 128 ^ y * d) % 18446744073709551616 : Nat) : Int) := by
  have e : IntKind.u64.wrap (IntKind.u64.wrap (d : Int) * 2 ^ (7 * y)) = ((d * 128 ^ y % 18446744073709551616 : Nat) : Int) := by
    have h1 : IntKind.u64.wrap (d : Int) = (d : Int) := by rw [IntKind.wrap_u64]; omega
    rw [h1, IntKind.wrap_u64, Int.natCast_emod, Int.natCast_mul, Int.natCast_pow]
    rw [show ((128 : Nat) : Int) = 2 ^ 7 by rfl, ← Int.pow_mul]
    rfl
  rw [e, u64_or_nat _ _ (Nat.mod_lt _ (by decide)) (Nat.mod_lt _ (by decide)), Nat.or_comm]
  congr 1
  rcases ten_cases hy with rfl | rfl | rfl | rfl | rfl | rfl | rfl | rfl | rfl | rfl
  · rw [nat_join 0 _ _ (by omega) (by simp at hv ⊢; omega)]; simp at hv ⊢; omega
  · rw [nat_join 7 _ _ (by omega) (by omega)]; omega
  · rw [nat_join 14 _ _ (by omega) (by omega)]; omega
  · rw [nat_join 21 _ _ (by omega) (by omega)]; omega
  · rw [nat_join 28 _ _ (by omega) (by omega)]; omega
  · rw [nat_join 35 _ _ (by omega) (by omega)]; omega
  · rw [nat_join 42 _ _ (by omega) (by omega)]; omega
  · rw [nat_join 49 _ _ (by omega) (by omega)]; omega
  · rw [nat_join 56 _ _ (by omega) (by omega)]; omega
  · rw [nat_join 63 _ _ (by omega) (by omega)]; omega

/-- What a body of U makes of a byte: is it too great? -/
def badU (y : Nat) (b : UInt8) : Bool := decide (18446744073709551616 ≤ b.toNat % 128 * 128 ^ y) && decide (y = 9)

theorem bad_u (l : List UInt8) (y : Nat) (h : y < l.length) (hy : y < 10) : badU y l[y] = true ↔ 18446744073709551616 ≤ lebVal (l.take (y + 1)) := by
  have hv := lebVal_take_lt l y
  rw [lebVal_take_succ l y h]
  generalize lebVal (l.take y) = v at *
  have hd : l[y].toNat % 128 < 128 := Nat.mod_lt _ (by decide)
  unfold badU
  generalize l[y].toNat % 128 = d at *
  simp only [Bool.and_eq_true, decide_eq_true_eq]
  clear h
  rcases ten_cases hy with rfl | rfl | rfl | rfl | rfl | rfl | rfl | rfl | rfl | rfl <;> simp at hv ⊢ <;> omega

end Go.Proofs.YtejicboemkpeoaaGreatDoor
