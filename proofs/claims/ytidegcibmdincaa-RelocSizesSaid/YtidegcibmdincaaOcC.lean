/-
  The chapter's example: works.
-/
import Derived.Test.YtidegcibmdincaaObT
import Derived.Test.YtidegcibmdincaaLmC
import Derived.Test.YtidegcibmdincaaPoA
import Derived.Test.YtidegcibmdincaaPoK
import Derived.Deep.RegionHeldLaw
import Derived.Test.YtidegcibmdincaaSeR
import Derived.Test.YtidegcibmdincaaCsP
import Derived.Test.YtidegcibmdincaaSyA
import Derived.Test.YtidegcibmdincaaSeV
import Derived.Test.YtidegcibmdincaaEhG
import Derived.Test.YtidegcibmdincaaSyX
import Derived.Test.YtidegcibmdincaaEhL
import Derived.Test.YtidegcibmdincaaCopyB
import Derived.Test.YtidegcibmdincaaSyF
import Derived.Deep.DeepCutAuto
import Derived.Deep.LoopGhost
import Derived.Deep.AppendLies
import Derived.Test.YtidegcibmdincaaObX
import Derived.Test.YtidegcibmdincaaCsL
import Derived.Test.YtidegcibmdincaaCsA
import Derived.Test.YtidegcibmdincaaRefR
import Derived.Lib.SlBytesConst
namespace Go.Proofs.Ytidegcibmdincaa
open Go Go.RowKit

theorem fits_small (s : Sect) (h : InI s.kind ∧ InI s.link ∧ InI s.inf ∧ InI s.algn ∧ InI s.ent ∧ s.flags < two64 ∧ s.addr < two64 ∧ s.data.length ≤ 100000 ∧ s.name.length ≤ 100000) : s.Fits := ⟨h.1, h.2.1, h.2.2.1, h.2.2.2.1, h.2.2.2.2.1, h.2.2.2.2.2.1, h.2.2.2.2.2.2.1, h.2.2.2.2.2.2.2.1, h.2.2.2.2.2.2.2.2⟩

end Go.Proofs.Ytidegcibmdincaa
