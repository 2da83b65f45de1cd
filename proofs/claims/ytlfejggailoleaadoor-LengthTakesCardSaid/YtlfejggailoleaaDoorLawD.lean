/-
  The walk of CursorBack: a number that is put is read again, with what stands behind it left.
-/
import Derived.Test.YtlfejggailoleaaDoorLawC
namespace Go.Proofs.YtlfejggailoleaaDoor
open Go Go.RowKit

/-- What the law makes of a size. -/
def sizeOf9 (s : Int) : Nat := (s % 18446744073709551616 % 9).toNat

theorem new_own {w : World} {base : Nat} {v : Value} {l : List UInt8} (h : Own w base v l) (hlen : l.length ≤ 140737488355328) :
    Calls Tryd.prog 8 #[v] w fun r w' => ∃ g v', r = .returned (.pointer (some ⟨g, 0, none⟩)) ∧ Made w.heap.size w' g v' l 0 ∧ Below w.heap.size w w' := by
  obtain ⟨A, c, rfl, _, _, hr⟩ := own_slice h
  exact new_any c hr (Nat.le_refl _) hlen

theorem wrap_pow (k : Nat) (h : k < 8) : IntKind.u64.wrap (2 ^ (8 * k)) = ((256 ^ k : Nat) : Int) := by
  rw [IntKind.wrap_u64]
  have cases8 : k = 0 ∨ k = 1 ∨ k = 2 ∨ k = 3 ∨ k = 4 ∨ k = 5 ∨ k = 6 ∨ k = 7 := by omega
  rcases cases8 with rfl | rfl | rfl | rfl | rfl | rfl | rfl | rfl <;> rfl

theorem uint_back {w : World} {g : Nat} {v : Value} {x k : Nat} {l : List UInt8} (h : Cur w g v (leBytes x k ++ l) 0 0) (hk : k ≤ 8) (hlen : l.length ≤ 140737488355000) :
    Calls Tryd.prog 26 #[.pointer (some ⟨g, 0, none⟩), .int .i64 (k : Int)] w fun r w' =>
      r = .returned (.int .u64 ((x % 256 ^ k : Nat) : Int)) ∧ Cur w' g v (leBytes x k ++ l) k 0 ∧ w.grownBy w' (some g) := by
  have hu := uint_cur h (k : Int) (by omega) (by simp; omega)
  have hck : clampOf (k : Int) = k := by unfold clampOf; omega
  have hg : nextGot (leBytes x k ++ l) 0 0 k = leBytes x k := by
    unfold nextGot
    rw [if_pos ⟨rfl, by simp⟩, List.drop_zero, List.take_append_of_le_length (by simp), List.take_of_length_le (by simp)]
  have ha : nextAt (leBytes x k ++ l) 0 0 k = k := by
    unfold nextAt
    rw [if_pos ⟨rfl, by simp⟩, Nat.zero_add]
  have he : nextErr (leBytes x k ++ l) 0 0 k = 0 := by
    unfold nextErr
    rw [if_pos rfl, if_pos (by simp)]
  rw [hck, hg, ha, he, leNat_leBytes] at hu
  exact hu

theorem left_back {w : World} {g : Nat} {v : Value} {x k : Nat} {l : List UInt8} (h : Cur w g v (leBytes x k ++ l) k 0) :
    Calls Tryd.prog 15 #[.pointer (some ⟨g, 0, none⟩)] w fun r w' => r = .returned (.int .i64 (l.length : Int)) ∧ ∃ n, w' = w.drewN n := by
  have hl := left_cur h
  have e : leftOf (leBytes x k ++ l) k 0 = l.length := by unfold leftOf; rw [if_pos rfl]; simp
  rwa [e] at hl

end Go.Proofs.YtlfejggailoleaaDoor
