/-
  Sections that are put are taken as they were (plain facts): the theorem.
-/
import Derived.Test.YtldmjnbmjfnfeaaGreatDoorSpB
namespace Go.Proofs.YtldmjnbmjfnfeaaGreatDoor
open Go Go.RowKit

theorem zeros_enc : Enc (List.replicate 10 0) := ⟨rfl, fun j x s hx hs => by
  have h0 : x = 0 := by
    have := List.mem_of_getElem? hx
    simpa using this
  subst h0
  exact Nat.pos_of_ne_zero (by simp)⟩
theorem layK_all {ss : List Sect} {ps : List Nat} {n : Nat} (hl : n < ss.length) (hl' : n < ps.length) : (layK ss ps n).2.length = n + 1 := layK_count ss ps n hl hl'

end Go.Proofs.YtldmjnbmjfnfeaaGreatDoor
