/-
  A header's numbers, read by a cursor's methods that are handed on as values.
-/

import Derived.Test.YtkadjejjillmmaaPut
import Derived.Test.YtkadjejjillmmaaEhC
import Derived.Test.YtkadjejjillmmaaEhA
import Derived.Laws.ResultCell
namespace Go.Proofs.Ytkadjejjillmmaa
open Go Go.RowKit

/-- A cursor's method over a cursor, as a value. -/
abbrev methV (f g : Nat) : Value := .func (.func f) #[.pointer (some ⟨g, 0, none⟩)] #[]

section
variable {w0 w w' : World} {g : Nat} {v : Value} {l : List UInt8} {a b H : Nat} {cs : Array Value}
end

end Go.Proofs.Ytkadjejjillmmaa
