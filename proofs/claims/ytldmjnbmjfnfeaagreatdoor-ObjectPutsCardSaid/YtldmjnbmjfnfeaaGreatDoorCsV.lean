/-
  The document's Same of layer 3, at two rows of the same texts; and the chapter's example.
-/
import Derived.Test.YtldmjnbmjfnfeaaGreatDoorCsA
import Derived.Test.YtldmjnbmjfnfeaaGreatDoorCsQ
import Derived.Test.YtldmjnbmjfnfeaaGreatDoorRefR
import Derived.Test.YtldmjnbmjfnfeaaGreatDoorCsL
import Derived.Lib.SlBytesConst
namespace Go.Proofs.YtldmjnbmjfnfeaaGreatDoor
open Go Go.RowKit

theorem owns_cell {w : World} {base : Nat} {u : Value} {ts : List (List UInt8)} (h : OwnS w base u ts) (h0 : 0 < ts.length) :
    ∃ g cap, u = .slice (some ⟨g, 0, none⟩) ts.length cap ∧ ts.length ≤ cap ∧ cap ≤ maxLen ∧ ∀ (j : Nat) (t : List UInt8), ts[j]? = some t → w.cell? ⟨g, j, none⟩ = some (.string ⟨t.toArray⟩) := by
  rcases h.2 with ⟨rfl, h1⟩ | ⟨g, cap, cur, rfl, hb, hg, hnc, hcm, hcs, htake⟩
  · omega
  · refine ⟨g, cap, rfl, hnc, hcm, fun j t hj => ?_⟩
    have hjl : j < ts.length := (List.getElem?_eq_some_iff.1 hj).1
    have h1 := World.ownsRow.cellAt (g := g) (cap := cap) h j (by omega)
    rw [h1]
    simp [strV, hj]

theorem owns_slice {w : World} {base : Nat} {u : Value} {ts : List (List UInt8)} (h : OwnS w base u ts) : ∃ A cap, u = .slice A ts.length cap := by
  rcases h.2 with ⟨rfl, h1⟩ | ⟨g, cap, cur, rfl, _⟩
  · rw [h1]; exact ⟨_, _, rfl⟩
  · exact ⟨_, _, rfl⟩

end Go.Proofs.YtldmjnbmjfnfeaaGreatDoor
