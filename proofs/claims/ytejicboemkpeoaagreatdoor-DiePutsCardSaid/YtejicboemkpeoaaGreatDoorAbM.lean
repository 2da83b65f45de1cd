/-
  The document's numbers of a cursor that has refused, or not; its pair.
-/
import Derived.Test.YtejicboemkpeoaaGreatDoorAbK
import Derived.Test.YtejicboemkpeoaaGreatDoorLebP
import Derived.Test.YtejicboemkpeoaaGreatDoorCsL
import Derived.Test.YtejicboemkpeoaaGreatDoorCurN
import Derived.Test.YtejicboemkpeoaaGreatDoorRefU
namespace Go.Proofs.YtejicboemkpeoaaGreatDoor
open Go Go.RowKit Go.Maps

section
variable {w W W1 : World} {base g : Nat} {v u u1 : Value} {l L L1 : List UInt8} {T : TypeId} {cs : Array Value}
end
theorem putU_len {n : Nat} (hn : n < 2 ^ 64) : (lebPut (sizeU n) (n : Int)).length ≤ 10 := by
  have h := sizeU_range n hn
  rw [lebPut_length _ _ h.1]
  exact h.2
theorem putS_len {n : Int} (hn : InI n) : (lebPut (sizeS n) n).length ≤ 10 := by
  have h := sizeS_range n hn
  rw [lebPut_length _ _ h.1]
  exact h.2
end Go.Proofs.YtejicboemkpeoaaGreatDoor

namespace Go.Proofs.YtejicboemkpeoaaGreatDoor
open Go Go.RowKit Go.Maps

/-! ### Of a state -/
section
variable {l : List UInt8} {s : CSt}
theorem sU_ref (h : s.2 ≠ 0) : tU l s = 0 ∧ sU l s = s := by
  unfold tU sU uOf
  rw [if_neg h]
  exact ⟨rfl, rfl⟩
theorem sS_ref (h : s.2 ≠ 0) : tS l s = 0 ∧ sS l s = s := by
  unfold tS sS sOf
  rw [if_neg h]
  exact ⟨rfl, rfl⟩
theorem sF_ref (h : s.2 ≠ 0) (f : Int) : sF s f = s := by
  unfold sF
  rw [failOf_no h]
theorem sU_bad (h : (sU l s).2 ≠ 0) : tU l s = 0 := by
  by_cases he : s.2 = 0
  · unfold sU uOf at h
    unfold tU uOf
    rw [if_pos he] at h ⊢
    unfold readU at h ⊢
    split
    · rfl
    · rename_i h1
      rw [if_neg h1] at h
      split
      · rename_i h2
        rw [if_pos h2] at h
        split
        · rename_i h3
          rw [if_pos h3] at h
          exact absurd rfl h
        · rfl
      · rfl
  · exact (sU_ref he).1
end

section
variable {B : Nat} {w : World} {g : Nat} {v : Value} {l : List UInt8}
end

end Go.Proofs.YtejicboemkpeoaaGreatDoor
