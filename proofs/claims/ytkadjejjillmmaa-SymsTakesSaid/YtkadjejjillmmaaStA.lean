/-
  The document's entry of sections: ten numbers by its own cursor.
-/

import Derived.Test.YtkadjejjillmmaaSeR
import Derived.Test.YtkadjejjillmmaaEhG
import Derived.Test.YtkadjejjillmmaaCopyB
import Derived.Laws.MakeOwn
import Derived.Test.YtkadjejjillmmaaSeM
import Derived.Test.YtkadjejjillmmaaSeB
import Derived.Test.YtkadjejjillmmaaKeep
import Derived.Lib.AppendZerosOnto
import Derived.Test.YtkadjejjillmmaaPoX
import Derived.Test.YtkadjejjillmmaaEhD
import Derived.Stop.BytesEq
import Derived.Laws.Cover3
import Derived.Test.YtkadjejjillmmaaEhA
import Derived.Test.YtkadjejjillmmaaParts
import Derived.Test.YtkadjejjillmmaaRefR
namespace Go.Proofs.Ytkadjejjillmmaa
open Go Go.RowKit

theorem block_not {u : Value} {n g : Nat} (h : ∀ y, u.ownBlock = some y → n ≤ y) (hg : g < n) : u.ownBlock = none ∨ u.ownBlock ≠ some g := by
  rcases hu : u.ownBlock with _ | y
  · exact .inl rfl
  · refine .inr fun e => ?_
    have h1 := h y hu
    injection e with e
    omega

end Go.Proofs.Ytkadjejjillmmaa
