/-
  Where the section of symbols stands: the program's search, by a function of its own, and the document's.
-/
import Derived.Test.YtelmfhpefnemfaaDoorGpA
import Derived.Test.YtelmfhpefnemfaaDoorSeR
namespace Go.Proofs.YtelmfhpefnemfaaDoor
open Go Go.RowKit

/-- No section of the first k is one of symbols. -/
def NoTab (S : List Sect) (k : Nat) : Prop := ∀ (j : Nat) (t : Sect), j < k → S[j]? = some t → t.kind ≠ 2
theorem NoTab.next {S : List Sect} {k : Nat} {s : Sect} (h : NoTab S k) (hs : S[k]? = some s) (hk : s.kind ≠ 2) : NoTab S (k + 1) := fun j t hj ht => by
  rcases Nat.lt_or_ge j k with h1 | h1
  · exact h j t h1 ht
  · rw [show j = k by omega, hs] at ht
    injection ht with ht
    exact ht ▸ hk
theorem NoTab.all {S : List Sect} (h : NoTab S S.length) : tabG S = -1 := tabG_none fun j t ht => h j t (List.getElem?_eq_some_iff.1 ht).1 ht

end Go.Proofs.YtelmfhpefnemfaaDoor
