/-
  Package abbrev: what a table is put as (truth, put, Put).
-/
import Derived.Test.YtejicboemkpeoaaGreatDoorAbK
import Derived.Test.YtejicboemkpeoaaGreatDoorLebP
import Derived.Test.YtejicboemkpeoaaGreatDoorCsL
import Derived.Test.YtejicboemkpeoaaGreatDoorCurN
namespace Go.Proofs.YtejicboemkpeoaaGreatDoor
open Go Go.RowKit Go.Maps

section
variable {w W W1 : World} {base g : Nat} {v u u1 : Value} {l L L1 : List UInt8} {T : TypeId} {cs : Array Value}
end
theorem putU_len {n : Nat} (hn : n < 2 ^ 64) : (lebPut (sizeU n) (n : Int)).length ≤ 10 := by
  have h := sizeU_range n hn
  rw [lebPut_length _ _ h.1]
  exact h.2
theorem putS_len {n : Int} (hn : InI n) : (lebPut (sizeS n) n).length ≤ 10 := by
  have h := sizeS_range n hn
  rw [lebPut_length _ _ h.1]
  exact h.2
end Go.Proofs.YtejicboemkpeoaaGreatDoor
