/-
  What a cursor that is nil, or that no call made, answers: one contract a method. It stands as it stood, and tells nothing but why.
-/
import Derived.Test.YtpmpgfngogdfhaaDoorCurE
namespace Go.Proofs.YtpmpgfngogdfhaaDoor
open Go Go.RowKit

/-- A cursor that is nil, or that no call made. -/
def Nob (w : World) (p : Option Addr) : Prop :=
  p = none ∨ ∃ g, p = some ⟨g, 0, none⟩ ∧ Box w g 139 #[.slice none 0 0, .int .i64 0, .int .i64 0, .bool false]

theorem Nob.below {w w' : World} {p : Option Addr} (h : Nob w p) (hb : Below w.heap.size w w') : Nob w' p :=
  h.imp id fun ⟨g, e, hg⟩ => ⟨g, e, hg.below hb hg.lt⟩

end Go.Proofs.YtpmpgfngogdfhaaDoor
