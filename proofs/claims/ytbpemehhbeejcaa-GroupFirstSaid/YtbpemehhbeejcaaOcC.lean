/-
  The chapter's example: works.
-/
import Derived.Test.YtbpemehhbeejcaaObT
import Derived.Test.YtbpemehhbeejcaaGpF
import Derived.Test.YtbpemehhbeejcaaPoA
import Derived.Test.YtbpemehhbeejcaaPoK
import Derived.Deep.RegionHeldLaw
import Derived.Test.YtbpemehhbeejcaaObA
import Derived.Test.YtbpemehhbeejcaaCsM
import Derived.Test.YtbpemehhbeejcaaCurN
import Derived.Lib.BytesEntry
import Derived.Lib.AppendStr
import Derived.Laws.Externs
import Derived.Deep.Slices
import Derived.Laws.IdiomStrings
import Derived.Laws.BytesArg
import Derived.Test.YtbpemehhbeejcaaPoO
import Derived.Test.YtbpemehhbeejcaaEhC
import Derived.Test.YtbpemehhbeejcaaKeep
import Derived.Lib.AppendZerosOnto
import Derived.Test.YtbpemehhbeejcaaParts
import Derived.Laws.ResultCell
import Derived.Stop.BytesEq
import Derived.Laws.Cover3
import Derived.Shelf.Bytes.SlCountOne
import Derived.Laws.Rows
import Derived.Test.YtbpemehhbeejcaaSyDa
import Derived.Test.YtbpemehhbeejcaaSeM
import Derived.Test.YtbpemehhbeejcaaSyT
import Derived.Test.YtbpemehhbeejcaaSyX
import Derived.Test.YtbpemehhbeejcaaSeV
import Derived.Test.YtbpemehhbeejcaaEhL
import Derived.Test.YtbpemehhbeejcaaSeN
import Derived.Test.YtbpemehhbeejcaaCopyB
import Derived.Test.YtbpemehhbeejcaaSyF
import Derived.Deep.DeepCutAuto
import Derived.Deep.LoopGhost
import Derived.Deep.AppendLies
namespace Go.Proofs.Ytbpemehhbeejcaa
open Go Go.RowKit

theorem secs_lit {w : World} {L : List Lay} (h : ∀ x ∈ L, x.Ok w w.heap.size) : Secs (w.alloc (.cells (cellsL L).toArray 61)) (w.heap.size + 1) (some ⟨w.heap.size, 0, none⟩) L :=
  ⟨fun _ => ⟨w.heap.size, 0, rfl, by omega, fun i y hy j v hv => by
    rw [(Box.new w 61 (cellsL L).toArray).cell, Nat.zero_add]
    simpa using cellsL_at L i y j v hy hv⟩, fun y hy => ((h y hy).below ((Below.refl _ _).alloc (Nat.le_refl _) _)).more (by omega)⟩
end Go.Proofs.Ytbpemehhbeejcaa
