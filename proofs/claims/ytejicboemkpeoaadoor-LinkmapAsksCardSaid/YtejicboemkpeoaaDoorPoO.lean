/-
  Once: the program's, by a set of texts; and the document's, text by text.
-/
import Derived.Test.YtejicboemkpeoaaDoorCsQ
import Derived.Test.YtejicboemkpeoaaDoorRefR
import Derived.Test.YtejicboemkpeoaaDoorCsL
import Derived.Lib.SlBytesConst
namespace Go.Proofs.YtejicboemkpeoaaDoor
open Go Go.RowKit

section
variable {w w' : World} {base g : Nat} {u : Value} {ls : List (List UInt8)}
end

theorem str_eq (s t : List UInt8) : ((ByteArray.mk s.toArray).toList == (ByteArray.mk t.toArray).toList) = decide (s = t) := by
  rw [Lib.toList_data, Lib.toList_data]
  by_cases h : s = t
  · subst h; simp
  · simp [h]

end Go.Proofs.YtejicboemkpeoaaDoor

namespace Go.Proofs.YtejicboemkpeoaaDoor
open Go Go.RowKit Go.Maps

/-- The set of the texts. -/
def setT (ls : List (List UInt8)) : DataW Unit := setOf (.agg []) (ls.map keyT)

end Go.Proofs.YtejicboemkpeoaaDoor
