/-
  SectsBack.
-/
import Derived.Test.YtbpemehhbeejcaaSeV
import Derived.Test.YtbpemehhbeejcaaEhL
import Derived.Test.YtbpemehhbeejcaaSeM
import Derived.Test.YtbpemehhbeejcaaSeN
import Derived.Test.YtbpemehhbeejcaaCopyB
import Derived.Test.YtbpemehhbeejcaaSeY
import Derived.Test.YtbpemehhbeejcaaPoO
import Derived.Test.YtbpemehhbeejcaaEhC
import Derived.Test.YtbpemehhbeejcaaCurN
import Derived.Laws.IdiomStrings
import Derived.Laws.BytesArg
import Derived.Test.YtbpemehhbeejcaaKeep
import Derived.Lib.AppendZerosOnto
import Derived.Test.YtbpemehhbeejcaaParts
import Derived.Laws.ResultCell
import Derived.Stop.BytesEq
import Derived.Laws.Cover3
import Derived.Test.YtbpemehhbeejcaaCsM
import Derived.Lib.BytesEntry
import Derived.Lib.AppendStr
import Derived.Laws.Externs
import Derived.Deep.Slices
import Derived.Shelf.Bytes.SlCountOne
import Derived.Laws.Rows
namespace Go.Proofs.Ytbpemehhbeejcaa
open Go Go.RowKit

theorem SecsIn.below {w w' : World} {B : Nat} {a : Option Addr} {L : List Lay} (h : SecsIn w B a L) (hb : Below B w w') : SecsIn w' B a L :=
  ⟨fun hl => by
    obtain ⟨b, o, e, hlt, hc⟩ := h.row hl
    exact ⟨b, o, e, hlt, fun i x hx j v hv => by rw [hb.cell (p := ⟨b, o + i * 9 + j, none⟩) hlt]; exact hc i x hx j v hv⟩, fun x hx => by
    obtain ⟨h1, h2⟩ := h.rd x hx
    exact ⟨h1.below hb, h2⟩⟩
end Go.Proofs.Ytbpemehhbeejcaa
